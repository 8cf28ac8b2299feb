/-
  The model's RenumberGraph: what it returns.
-/
import Derived.Test.YtigelbilfddhgabRenT
import Derived.Test.YtigelbilfddhgabPjAh
import Derived.Test.YtigelbilfddhgabSpecE
import Derived.Test.YtigelbilfddhgabPlIn
import Derived.Test.YtigelbilfddhgabPjAb
import Derived.Deep.LoopGhost
import Derived.Deep.RegionLaw
import Derived.Deep.RegionHeld3
namespace Go.Proofs.Ytigelbilfddhgab
open Go.RowKit Go.Maps
set_option linter.unusedVariables false

theorem ren_zero {w wz : World} {ns : List Nd} {r : Int} {os : List Int} (lz : Lies wz (w.heap.size + 1) #[.slice none 0 0, .int .i64 0] 25) (hb : Below w.heap.size w wz) (hno : ¬ (ValidG ns r ∧ IsOrd os ns.length)) :
    wz.cell? ⟨w.heap.size + 1, 0, none⟩ = some (.slice none 0 0) ∧ wz.cell? ⟨w.heap.size + 1, 1, none⟩ = some (.int .i64 0) ∧ wz.frozen? ⟨w.heap.size + 1, 0, none⟩ = false ∧ wz.frozen? ⟨w.heap.size + 1, 1, none⟩ = false ∧
        ((wz.setCell ⟨w.heap.size + 1, 0, none⟩ (.slice none 0 0)).setCell ⟨w.heap.size + 1, 1, none⟩ (.int .i64 0)).cell? ⟨w.heap.size + 1, 0, none⟩ = some (.slice none 0 0) ∧ ((wz.setCell ⟨w.heap.size + 1, 0, none⟩ (.slice none 0 0)).setCell ⟨w.heap.size + 1, 1, none⟩ (.int .i64 0)).cell? ⟨w.heap.size + 1, 1, none⟩ = some (.int .i64 0) ∧
        GivesG w (renNs ns r os) (renR ns r os) (.returned (.agg #[.slice none 0 0, .int .i64 0])) ((wz.setCell ⟨w.heap.size + 1, 0, none⟩ (.slice none 0 0)).setCell ⟨w.heap.size + 1, 1, none⟩ (.int .i64 0)) := by
  have l5 := (lz.set 0 (.slice none 0 0)).set 1 (.int .i64 0)
  simp only [List.setIfInBounds_toArray, List.set_cons_succ, List.set_cons_zero] at l5
  have s0 := l5.cell 0
  have s1 := l5.cell 1
  have b0 := lz.cell 0
  have b1 := lz.cell 1
  simp only [List.getElem?_toArray, List.getElem?_cons_zero, List.getElem?_cons_succ] at s0 s1 b0 b1
  refine ⟨b0, b1, lz.frozen 0, lz.frozen 1, s0, s1, ?_⟩
  have e1 : renNs ns r os = [] := by unfold renNs; rw [if_neg hno]
  have e2 : renR ns r os = 0 := by unfold renR; rw [if_neg hno]
  rw [e1, e2]
  exact GivesG.zero _ _ ((hb.setCell (p := ⟨w.heap.size + 1, 0, none⟩) (by show w.heap.size ≤ w.heap.size + 1; omega) _).setCell (p := ⟨w.heap.size + 1, 1, none⟩) (by show w.heap.size ≤ w.heap.size + 1; omega) _)

/-- the memory while nodes are written: the row lies in gR, the graph's variable in bO -/
structure RsA (W3 wr : World) (ns : List Nd) (os : List Int) (s : Int) (gR bO k : Nat) : Prop where
  bel : Below W3.heap.size W3 wr
  lO : Lies wr bO #[.slice (some ⟨gR, 0, none⟩) os.length os.length, .int .i64 s] 25
  row : OwnRow wr W3.heap.size wr.heap.size gR os.length (renTo ns os os.length k)
  nd : (os.take k).Nodup
  ge : W3.heap.size ≤ bO
  ne : bO ≠ gR

theorem RsA.startA (W3 : World) (ns : List Nd) (os : List Int) (s : Int) :
    RsA W3 ((W3.alloc (.cells (madeCells #[.int .i64 0, .int .i64 0, .slice none 0 0] (os.length * 3)) 44)).alloc (.cells #[.slice (some ⟨W3.heap.size, 0, none⟩) os.length os.length, .int .i64 s] 25)).drew ns os s W3.heap.size (W3.heap.size + 1) 0 := by
  have l1 := (Lies.new W3 (madeCells #[.int .i64 0, .int .i64 0, .slice none 0 0] (os.length * 3)) 44).alloc (.cells #[.slice (some ⟨W3.heap.size, 0, none⟩) os.length os.length, .int .i64 s] 25)
  have l2 := Lies.new (W3.alloc (.cells (madeCells #[.int .i64 0, .int .i64 0, .slice none 0 0] (os.length * 3)) 44)) #[.slice (some ⟨W3.heap.size, 0, none⟩) os.length os.length, .int .i64 s] 25
  simp only [World.size_alloc] at l2
  have hrow := (OwnRow.zeros l1).high (hi2 := ((W3.alloc (.cells (madeCells #[.int .i64 0, .int .i64 0, .slice none 0 0] (os.length * 3)) 44)).alloc (.cells #[.slice (some ⟨W3.heap.size, 0, none⟩) os.length os.length, .int .i64 s] 25)).heap.size) (by simp)
  exact ⟨(((Below.refl _ _).alloc (Nat.le_refl _) _).alloc (by simp) _).drew, l2, hrow.kept (fun b _ _ => rfl), by simp, by omega, by omega⟩

theorem RsA.startB (W3 : World) (ns : List Nd) (os : List Int) (s : Int) :
    RsA W3 ((W3.alloc (.cells #[.slice (some ⟨W3.heap.size + 1, 0, none⟩) os.length os.length, .int .i64 s] 25)).alloc (.cells (madeCells #[.int .i64 0, .int .i64 0, .slice none 0 0] (os.length * 3)) 44)).drew ns os s (W3.heap.size + 1) W3.heap.size 0 := by
  have l2 := (Lies.new W3 #[.slice (some ⟨W3.heap.size + 1, 0, none⟩) os.length os.length, .int .i64 s] 25).alloc (.cells (madeCells #[.int .i64 0, .int .i64 0, .slice none 0 0] (os.length * 3)) 44)
  have l1 := Lies.new (W3.alloc (.cells #[.slice (some ⟨W3.heap.size + 1, 0, none⟩) os.length os.length, .int .i64 s] 25)) (madeCells #[.int .i64 0, .int .i64 0, .slice none 0 0] (os.length * 3)) 44
  simp only [World.size_alloc] at l1
  have hrow := ((OwnRow.zeros l1).high (hi2 := ((W3.alloc (.cells #[.slice (some ⟨W3.heap.size + 1, 0, none⟩) os.length os.length, .int .i64 s] 25)).alloc (.cells (madeCells #[.int .i64 0, .int .i64 0, .slice none 0 0] (os.length * 3)) 44)).heap.size) (by simp)).low (lo2 := W3.heap.size) (by omega)
  exact ⟨(((Below.refl _ _).alloc (Nat.le_refl _) _).alloc (by simp) _).drew, l2, hrow.kept (fun b _ _ => rfl), by simp, by omega, by omega⟩

theorem RsA.drewN {W3 wr : World} {ns : List Nd} {os : List Int} {s : Int} {gR bO k : Nat} (h : RsA W3 wr ns os s gR bO k) (n : Nat) : RsA W3 (wr.drewN n) ns os s gR bO k :=
  ⟨below_drewN h.bel n, h.lO, h.row.kept (fun b _ _ => rfl), h.nd, h.ge, h.ne⟩

/-- one node more is written -/
theorem RsA.step {W3 W5 wi : World} {ns : List Nd} {os : List Int} {s : Int} {gR bO k c p : Nat} {n : Nd} {Ak : Option Addr} {ks : List Int} (h : RsA W3 W5 ns os s gR bO k) (hk : os[k]? = some (p : Int)) (hp : p < os.length) (hn : ns[k]? = some n) (hno : (p : Int) ∉ os.take k)
    (hb : Below W5.heap.size W5 wi) (hown : OwnI wi (W5.heap.size + 1) Ak c ks) (hks : ks = n.kids.map fun y => os.getD y.toNat 0) :
    RsA W3 (setN wi gR p (.int .i64 n.kind) (.int .i64 n.value) (.slice Ak ks.length c)) ns os s gR bO (k + 1) := by
  have hgl := h.row.hlo
  have hbl := h.lO.lt
  have hbs := hb.size
  have hr : OwnRow wi W3.heap.size W5.heap.size gR os.length (renTo ns os os.length k) := h.row.kept (fun b _ hb' => hb.block b hb')
  have hput := hr.put (p := p) (n := ⟨n.kind, n.value, ks⟩) (hi2 := wi.heap.size) (c := c) (A := Ak) (by rw [renTo_len]; exact hp) (hown.lowB (by omega)) hbs (fun b hb' => (hown.blocks b hb').2)
  have hset : (renTo ns os os.length k).set p ⟨n.kind, n.value, ks⟩ = renTo ns os os.length (k + 1) := by
    rw [renTo, getD_at hk, Int.toNat_natCast]
    unfold renN
    rw [hn, hks]
  rw [hset] at hput
  refine ⟨setN_below (h.bel.trans (hb.mono h.bel.size)) hgl, ?_, by rw [setN_size]; exact hput, ?_, h.ge, h.ne⟩
  · exact (setN_block h.ne).trans (h.lO.below hb hbl)
  · have e : os.take (k + 1) = os.take k ++ [(p : Int)] := by rw [List.take_add_one, hk]; rfl
    rw [e, List.nodup_append]
    exact ⟨h.nd, by simp, fun a ha b hb => by simp at hb; subst hb; intro e; subst e; exact hno ha⟩

theorem IntsAt.takeR {w : World} {B : Nat} {A : Option Addr} {xs : List Int} (h : IntsAt w B A xs) (k : Nat) : IntsAt w B A (xs.take k) := by
  refine ⟨fun hx => ?_, fun x hx => h.wf x (List.mem_of_mem_take hx), Nat.le_trans (by simp; omega) h.len⟩
  obtain ⟨b, off, e, hlt, hc⟩ := h.row (by intro e; subst e; simp at hx)
  refine ⟨b, off, e, hlt, fun j x hj => hc j x ?_⟩
  rw [List.getElem?_take] at hj
  split at hj
  · exact hj
  · cases hj

theorem placeIn_q (A : Option Addr) (xs : List Int) (len c : Nat) (n v : Int) (w : World) (hlen : len = xs.length) (hv : place xs n = v) (h : IntsAt w w.heap.size A xs) :
    Calls Try.prog 20 #[.slice A len c, .int .i64 n] w fun e w' => e = .returned (.int .i64 v) ∧ w' = w := by
  subst hlen hv
  exact (placeIn_any A xs c n w h).mono fun e w' ⟨a, b⟩ => ⟨a, b.symm⟩

/-- the memory while one node's kids are told -/
structure RsM (W2 wi : World) (bM : Nat) (n : Nd) (os : List Int) (j : Nat) (Ak : Option Addr) (ck : Nat) (ks : List Int) : Prop where
  bel : Below bM W2 wi
  lM : Lies wi bM #[.int .i64 n.kind, .int .i64 n.value, .slice Ak ks.length ck] 44
  own : OwnI wi (bM + 1) Ak ck ks
  eq : ks = (n.kids.take j).map fun y => os.getD y.toNat 0
  size : bM + 1 ≤ wi.heap.size
  le : ks.length ≤ 1000

theorem RsM.start {W7 : World} {bM : Nat} {n : Nd} (os : List Int) (l : Lies W7 bM #[.int .i64 n.kind, .int .i64 n.value, .slice none 0 0] 44) : RsM W7 W7 bM n os 0 none 0 [] :=
  ⟨Below.refl _ _, l, OwnI.empty _ _, by simp, l.lt, by simp⟩

theorem RsM.step {W7 wi w9 : World} {bM : Nat} {n : Nd} {os : List Int} {j : Nat} {Ak A' : Option Addr} {ck c' : Nat} {ks zs : List Int} {y : Int} {ob : Obj} (h : RsM W7 wi bM n os j Ak ck ks) (hy : n.kids[j]? = some y) (hk : n.kids.length ≤ 1000) (hz : zs = ks ++ [os.getD y.toNat 0]) (hown : OwnI w9 (bM + 1) A' c' zs) (hg : (wi.alloc ob).drew.grownBy w9 (blockOf Ak)) :
    RsM W7 (w9.setCell ⟨bM, 2, none⟩ (.slice A' zs.length c')) bM n os (j + 1) A' c' zs := by
  have hs := h.size
  have hgs := hg.size
  have hgs2 : wi.heap.size + 1 ≤ w9.heap.size := by
    have : (wi.alloc ob).heap.size ≤ w9.heap.size := hgs
    simpa using this
  have hbM : ∀ b, blockOf Ak = some b → bM + 1 ≤ b := fun b hb => (h.own.blocks b hb).1
  have l9 : Lies w9 bM #[.int .i64 n.kind, .int .i64 n.value, .slice Ak ks.length ck] 44 := by
    have h1 := hg.block bM (by show bM < (wi.alloc ob).heap.size; simp; omega) (fun e => by have := hbM bM e.symm; omega)
    have h2 : Lies (wi.alloc ob).drew bM #[.int .i64 n.kind, .int .i64 n.value, .slice Ak ks.length ck] 44 := h.lM.alloc _
    exact h1.trans h2
  have l10 := l9.set 2 (.slice A' zs.length c')
  simp only [List.setIfInBounds_toArray, List.set_cons_succ, List.set_cons_zero] at l10
  have hd : Below bM W7 (wi.alloc ob).drew := (h.bel.alloc (by omega) _).drew
  have hjl := (List.getElem?_eq_some_iff.1 hy).1
  have heq : zs = (n.kids.take (j + 1)).map fun y => os.getD y.toNat 0 := by rw [hz, h.eq, List.take_add_one, hy]; simp
  refine ⟨(below_grown hd hg (by show bM ≤ (wi.alloc ob).heap.size; simp; omega) (fun b hb => by have := hbM b hb; omega)).setCell (p := ⟨bM, 2, none⟩) (Nat.le_refl _) _, l10, hown.of_blk (fun b hb => Below.heap_setCell _ _ _ _ (by show b ≠ bM; have := (hown.blocks b hb).1; omega)), heq, by simp; omega, by rw [heq]; simp; omega⟩

set_option maxRecDepth 100000 in
set_option maxHeartbeats 2000000 in
theorem specRenumber_any (A : Option Addr) (ns : List Nd) (c : Nat) (r : Int) (A2 : Option Addr) (os : List Int) (c2 : Nat) (w : World) (hr : NdsAt w w.heap.size A ns) (ho : IntsAt w w.heap.size A2 os) (hcap : os.length ≤ c2) :
    Calls Try.prog 7 #[.agg #[.slice A ns.length c, .int .i64 r], .slice A2 os.length c2] w (GivesG w (renNs ns r os) (renR ns r os)) := by
  have hB2 : Below w.heap.size w ((w.alloc (.cells #[.slice A ns.length c, .int .i64 r] 25)).alloc (.cells #[.slice none 0 0, .int .i64 0] 25)) := ((Below.refl _ _).alloc (Nat.le_refl _) _).alloc (by simp) _
  have lG := (Lies.new w #[.slice A ns.length c, .int .i64 r] 25).alloc (.cells #[.slice none 0 0, .int .i64 0] 25)
  have lR := Lies.new (w.alloc (.cells #[.slice A ns.length c, .int .i64 r] 25)) #[.slice none 0 0, .int .i64 0] 25
  simp only [World.size_alloc] at lR
  have hr2 := hr.later hB2 (Nat.le_refl _)
  have ho2 := ho.later hB2 (Nat.le_refl _)
  clear hr ho
  go_enter Try.func7, Try.ntmps7
  go_wp2_with fail
  generalize (w.alloc (.cells #[.slice A ns.length c, .int .i64 r] 25)).alloc (.cells #[.slice none 0 0, .int .i64 0] 25) = W at hB2 lG lR hr2 ho2 ⊢
  refine (specValidGraph_any A ns c r W hr2).mono ?_
  rintro e w1 ⟨rfl, hb1⟩
  have lG1 := lG.below hb1 lG.lt
  have lR1 := lR.below hb1 lR.lt
  have hr3 := hr2.later hb1 (Nat.le_refl _)
  have ho3 := ho2.later hb1 (Nat.le_refl _)
  have hB3 := hB2.trans (hb1.mono hB2.size)
  have e0 := lG1.cell 0
  have e1 := lG1.cell 1
  simp at e0 e1
  have hol := ho3.len
  clear lG lR hr2 ho2 hB2 hb1
  by_cases hv : ValidG ns r
  · rw [tf_true hv]
    have HV := hide hv
    have hfew := hv.few
    have hroot0 := hv.root0
    have hroot := hv.root
    clear hv
    by_cases hlen : os.length = ns.length
    · have hb0 : ((os.length : Int) != (ns.length : Int)) = false := by simp [hlen]
      have HLen := hide hlen
      clear hlen
      go_wp2_with fail
      refine (allIn_any A2 os c2 0 ((os.length : Int) - 1) w1 ho3).mono ?_
      rintro e w' ⟨rfl, rfl⟩
      by_cases hall : AllIn os 0 ((os.length : Int) - 1)
      · rw [tf_true hall]
        have HAll := hide hall
        obtain ⟨ri, rfl⟩ := Int.eq_ofNat_of_zero_le hroot0
        have hri : ri < os.length := by have := HLen.out; omega
        obtain ⟨b, off, s, rfl, hbo, hs, _, hcs⟩ := ho3.at_ hri
        have HSr := hide hs
        have HG := hide lG1
        have HR := hide lR1
        have HN := hide hr3
        have HOS := hide ho3
        have HB := hide hB3
        have hq1 : (0 : Int) ≤ (ri : Int) := by omega
        have hq2 : (ri : Int) < (os.length : Int) := by omega
        have hos : os.length ≤ 1000 := by have := HLen.out; omega
        have hmk : ∀ w : World, (Instr.makeSlice 23 (.int .i64 (os.length : Int)) (.int .i64 (os.length : Int))).run Try.prog w = .ok (.slice (some ⟨w.heap.size, 0, none⟩) os.length os.length) (w.alloc (.cells (madeCells (Value.agg #[.int .i64 0, .int .i64 0, .slice none 0 0]).cells (os.length * 3)) 44)) := makeNodesP os.length (by omega)
        clear hall hs lG1 lR1 hr3 ho3 hB3 hroot0
        have u1 := World.new_ne _ _ e1
        have u2 := World.new_ne _ _ hcs
        go_wp2_with fail
        go_region_held3 (fun wz => wz.cell? ⟨w.heap.size, 1, none⟩ = some (.int .i64 (ri : Int)) ∧ wz.cell? ⟨b, off + ri, none⟩ = some (.int .i64 s))
          (first
            | (go_split_ands; refine ⟨?_, ?_⟩ <;> assumption)
            | go_keep)
          (fail)
        · have hS0 := RsA.startA w1 ns os s
          generalize ((w1.alloc (.cells (madeCells #[.int .i64 0, .int .i64 0, .slice none 0 0] (os.length * 3)) 44)).alloc (.cells #[.slice (some ⟨w1.heap.size, 0, none⟩) os.length os.length, .int .i64 s] 25)).drew = W4 at hS0 ⊢
          generalize w1.heap.size + 1 = bO at hS0 ⊢
          generalize hgr : w1.heap.size = gR at hS0 ⊢
          clear hgr
          have HS0 := hide hS0
          clear hS0 hmk u1 u2 e0 e1 hcs
          go_wp2_with fail
          go_loopg [6] os.length (fun gk iv wr => ∃ k : Nat, k ≤ os.length ∧ gk = os.length - k ∧ iv = .int .i64 (k : Int) ∧ RsA w1 wr ns os s gR bO k)
          case atStart => exact ⟨0, Nat.zero_le _, rfl, rfl, HS0.out⟩
          case round =>
            clear HS0
            obtain ⟨k, hk, rfl, rfl, hS⟩ := hrel
            have HS := hide hS
            by_cases hlt : k < os.length
            · obtain ⟨b2, off2, x, e, _, hx, hm, hcx⟩ := (HOS.out.below hS.bel).at_ hlt
              injection e with e
              injection e with e1 e2
              subst e1 e2
              have HX := hide hx
              have HM := hide hm
              have hi1 : (0 : Int) ≤ (k : Int) := by omega
              have hi2 : (k : Int) < (os.length : Int) := by omega
              have hi3 : (k : Int) ≤ (c2 : Int) := by omega
              have hi4 : (k : Int) ≤ (os.length : Int) := by omega
              have HL : Hid (k = (os.take k).length) := hide (by simp; omega)
              have HIt : Hid (IntsAt wr wr.heap.size (some ⟨b, off, none⟩) (os.take k)) := hide ((HOS.out.later hS.bel (Nat.le_refl _)).takeR k)
              obtain ⟨v, hv⟩ : ∃ v, place (os.take k) x = v := ⟨_, rfl⟩
              have HVv := hide hv
              by_cases hin : x ∈ os.take k
              · have hv0 : 0 ≤ v := by rw [← hv]; exact (place_lt hin).1
                have d0 : decide (0 ≤ v) = true := decide_eq_true hv0
                have hno2 : ¬ (ValidG ns (ri : Int) ∧ IsOrd os ns.length) := fun h => by
                  obtain ⟨j, hj, e⟩ := List.getElem_of_mem hin
                  have hj2 : j < k ∧ j < os.length := by simp at hj; omega
                  rw [List.getElem_take] at e
                  obtain ⟨hk2, e2⟩ := List.getElem?_eq_some_iff.1 hx
                  have := (List.getElem_inj h.2.nd).1 (e.trans e2.symm)
                  omega
                have HNo := hide hno2
                clear hx hm hv hin hv0 hno2 hS
                go_wp2_with fail
                go_quiet ((go_at_call 20; exact Calls.quiet_of_same (placeIn_q _ (os.take k) _ _ _ v _ HL.out HVv.out (HIt.out.later (below_drewN (Below.refl _ _) _) (Nat.le_refl _)))))
                have HQ := hide (ren_zero (ns := ns) (r := (ri : Int)) (os := os) (HR.out.below (HS.out.drewN nq).bel HR.out.lt) (HB.out.trans ((HS.out.drewN nq).bel.mono HB.out.size)) HNo.out)
                obtain ⟨y0, y1, y2, y3, s0, s1, _⟩ := HQ.out
                go_wp2
                refine bodyPost_ret (v := .agg #[.slice none 0 0, .int .i64 0]) (by simp [results, Try.results7, go_sem, s0, s1]) rfl ?_
                exact HQ.out.2.2.2.2.2.2
              · have HNin := hide hin
                have hv1 : v = -1 := by rw [← hv]; exact place_neg hin
                subst hv1
                clear hx hm hv hin hS
                go_wp2_with fail
                go_quiet ((go_at_call 20; exact Calls.quiet_of_same (placeIn_q _ (os.take k) _ _ _ (-1) _ HL.out HVv.out (HIt.out.later (below_drewN (Below.refl _ _) _) (Nat.le_refl _)))))
                have HS5 := hide (HS.out.drewN nq)
                clear hcx HIt HVv
                go_wp2_with fail
                generalize wr.drewN nq = W5 at HS5 ⊢
                have hB5 := HS5.out.bel
                have hkn : k < ns.length := by have := HLen.out; omega
                obtain ⟨b', off', n, hAe, hbl', hn, hnm, hnd⟩ := (HN.out.below hB5).at_ hkn
                subst hAe
                obtain ⟨A1, c1, k2, hki, _⟩ := hnd.kids
                have k0 := hnd.kind
                have k1 := hnd.value
                have lG5 := HG.out.below hB5 HG.out.lt
                have g0 := lG5.cell 0
                simp at g0
                have HNk := hide hn
                have hk1000 : n.kids.length ≤ 1000 := by have := (HV.out.nodes n hnm).few; omega
                have hkin := hide (HV.out.nodes n hnm).inn
                have hi5 : (k : Int) < (ns.length : Int) := by omega
                have HKI := hide (hki.more (by exact hB5.size : w1.heap.size ≤ W5.heap.size))
                have HOI : Hid (IntsAt W5 w1.heap.size (some ⟨b, off, none⟩) os) := hide (HOS.out.below hB5)
                have u0 := World.new_ne W5 _ g0
                have u1 := World.new_ne W5 _ k0
                have hb5s := hB5.size
                have hgw : w.heap.size < w1.heap.size := HG.out.lt
                clear hn hnm hnd hki lG5 hB5
                go_region_held3 (fun w' => w'.cell? ⟨w.heap.size, 0, none⟩ = some (.slice (some ⟨b', off', none⟩) ns.length c) ∧ w'.cell? ⟨b', off' + k * 3, none⟩ = some (.int .i64 n.kind) ∧ w'.cell? ⟨b', off' + k * 3 + 1, none⟩ = some (.int .i64 n.value))
                  (first
                    | (go_split_ands; refine ⟨?_, ?_, ?_⟩ <;> assumption)
                    | go_keep)
                  (fail)
                have hb7 : Below W5.heap.size W5 (W5.alloc (.cells #[.int .i64 n.kind, .int .i64 n.value, .slice none 0 0] 44)).drew := ((Below.refl _ _).alloc (Nat.le_refl _) _).drew
                have lM7 : Lies (W5.alloc (.cells #[.int .i64 n.kind, .int .i64 n.value, .slice none 0 0] 44)).drew W5.heap.size #[.int .i64 n.kind, .int .i64 n.value, .slice none 0 0] 44 := Lies.new W5 _ _
                go_wp2_with fail
                generalize (W5.alloc (.cells #[.int .i64 n.kind, .int .i64 n.value, .slice none 0 0] 44)).drew = W7 at hb7 lM7 ⊢
                have HM0 := hide (RsM.start os lM7)
                have HB7 := hide hb7
                clear hb7 lM7 k0 k1 k2 g0 u0 u1
                go_loopg [8] n.kids.length (fun gk jv wi => ∃ (j : Nat) (Ak : Option Addr) (ck : Nat) (ks : List Int), j ≤ n.kids.length ∧ gk = n.kids.length - j ∧ jv = .int .i64 (j : Int) ∧ RsM W7 wi W5.heap.size n os j Ak ck ks)
                case atStart => exact ⟨0, none, 0, [], Nat.zero_le _, rfl, rfl, HM0.out⟩
                case round =>
                  clear HM0
                  obtain ⟨j, Ak, ck, ks, hj, rfl, rfl, hM⟩ := hrel
                  have HMm := hide hM
                  have hsM := hM.size
                  have hBW := hide (HB7.out.trans (hM.bel.mono (Nat.le_refl _)))
                  have lG6 := (HG.out.below HS5.out.bel HG.out.lt).below hBW.out (by omega)
                  have g0 := lG6.cell 0
                  obtain ⟨b', off3, n', e, hbl3, hn', _, hnd⟩ := ((HN.out.below HS5.out.bel).below (hBW.out.mono hb5s)).at_ hkn
                  injection e with e
                  injection e with e1 e2
                  subst e1 e2
                  obtain rfl := Option.some.inj (HNk.out.symm.trans hn')
                  obtain ⟨A1, c1, k2, hki, _⟩ := hnd.kids
                  have m2 := hM.lM.cell 2
                  have f2 := hM.lM.frozen 2
                  simp at g0 m2
                  have hkl := hM.le
                  clear hn' hnd lG6
                  by_cases hlj : j < n.kids.length
                  · obtain ⟨bk, ok, y, hAe, hbk, hy, hym, hcy⟩ := hki.at_ hlj
                    subst hAe
                    obtain ⟨hy0, hy1⟩ := hkin.out y hym
                    obtain ⟨q, rfl⟩ := Int.eq_ofNat_of_zero_le hy0
                    have hql : q < os.length := by have := HLen.out; omega
                    obtain ⟨b3, off3, z, e, _, hz, hzm, hcz⟩ := (HOI.out.below (hBW.out.mono hb5s)).at_ hql
                    injection e with e
                    injection e with e1 e2
                    subst e1 e2
                    have hz64 := hide (HOI.out.wf z hzm)
                    have HY := hide hy
                    have HZ : Hid (os.getD ((q : Nat) : Int).toNat 0 = z) := hide (by rw [Int.toNat_natCast]; exact getD_at hz)
                    have hj1 : (0 : Int) ≤ (j : Int) := by omega
                    have hj2 : (j : Int) < (n.kids.length : Int) := by omega
                    have hj3 : (0 : Int) ≤ (q : Int) := by omega
                    have hj4 : (q : Int) < (os.length : Int) := by omega
                    have hne : Hid (some W5.heap.size ≠ blockOf Ak) := hide (fun e => by have := (HMm.out.own.blocks _ e.symm).1; omega)
                    have hbw : W5.heap.size ≤ wr.heap.size := hBW.out.size
                    have hl1 : bk < wr.heap.size := by omega
                    have hl2 : b < wr.heap.size := by omega
                    have hl3 : b' < wr.heap.size := by omega
                    have hl4 : w.heap.size < wr.heap.size := by omega
                    have hl5 : W5.heap.size < wr.heap.size := by omega
                    clear hy hym hM hki hz hzm hy0 hy1
                    go_wp2_with fail
                    go_region_law (first
                      | (refine step_append_ints (by rfl) _ _ (by rfl) (W5.heap.size + 1) Ak ck ks (by rfl) (HMm.out.own.alloc _).drew ⟨wr.heap.size, 0, none⟩ 1 [z] (by simp) (by rfl) (by have h0 := (IntsAt.lit wr [z] (by intro z2 hz2; simp at hz2; rw [hz2]; exact hz64.out) (by simp)).below (Below.refl _ _).drew; simpa using h0) (by simp; omega) (by simp; omega) ?_; intro zs A' c' w9 hz9 hown9 hg9 hat9
                         have t2 : w9.cell? ⟨W5.heap.size, 2, none⟩ = some (.slice Ak ks.length ck) := (hg9.cell_far _ (by simp; omega) hne.out).trans ((World.cell?_alloc_lt _ _ _ (by show W5.heap.size < wr.heap.size; omega)).trans m2)
                         have t3 : w9.frozen? ⟨W5.heap.size, 2, none⟩ = false := (hg9.frozen_far _ (by simp; omega) hne.out).trans ((HMm.out.lM.alloc _).frozen 2)))
                    all_goals
                      have HM1 := hide (HMm.out.step HY.out hk1000 (by rw [HZ.out]; exact hz9.out) hown9 hg9)
                      clear t2 t3 hown9 hg9 hat9 m2 f2 hcy hcz k2 g0
                      go_wp2
                      go_roundg (n.kids.length - (j + 1))
                      case measure => omega
                      case rel => exact ⟨j + 1, A', c', zs, by omega, rfl, by go_num, HM1.out⟩
                  · obtain rfl : j = n.kids.length := by omega
                    have hks : ks = n.kids.map fun y => os.getD y.toNat 0 := by rw [hM.eq, List.take_length]
                    have Hks := hide hks
                    obtain ⟨b3, off3, x', e, _, hx', _, hcx⟩ := (HOI.out.below (hBW.out.mono hb5s)).at_ hlt
                    injection e with e
                    injection e with e1 e2
                    subst e1 e2
                    obtain rfl := Option.some.inj (HX.out.symm.trans hx')
                    have hxr := HAll.out x HM.out
                    obtain ⟨p, rfl⟩ := Int.eq_ofNat_of_zero_le hxr.1
                    have hp : p < os.length := by omega
                    have hlO := HS5.out.lO.below hBW.out HS5.out.lO.lt
                    have o0 := hlO.cell 0
                    have o1 := hlO.lt
                    have m0 := hM.lM.cell 0
                    have m1 := hM.lM.cell 1
                    simp at o0 m0 m1
                    have hrow : OwnRow wr w1.heap.size W5.heap.size gR os.length (renTo ns os os.length k) := HS5.out.row.kept (fun b _ hb' => hBW.out.block b hb')
                    obtain ⟨f, hf⟩ := hrow.row
                    have a0 := World.rowIs.cell hf (i := p * 3) (by omega)
                    have a1 := World.rowIs.cell hf (i := p * 3 + 1) (by omega)
                    have a2 := World.rowIs.cell hf (i := p * 3 + 2) (by omega)
                    have z0 := World.rowIs.frozen hf (p * 3)
                    have z1 := World.rowIs.frozen hf (p * 3 + 1)
                    have z2 := World.rowIs.frozen hf (p * 3 + 2)
                    have HN2 := hide (HS5.out.step HX.out hp HNk.out HNin.out hBW.out.drew hM.own.drew Hks.out)
                    have hp1 : (0 : Int) ≤ (p : Int) := by omega
                    have hp2 : (p : Int) < (os.length : Int) := by omega
                    unfold setN at HN2
                    have hgl := HS5.out.row.hlo
                    have hgh := HS5.out.row.hhi
                    have n1 : bO ≠ gR := HS5.out.ne
                    have n2 : gR ≠ bO := fun e => n1 e.symm
                    have n3 : b ≠ gR := by omega
                    have n4 : gR ≠ b := by omega
                    have n5 : W5.heap.size ≠ gR := by omega
                    have n6 : gR ≠ W5.heap.size := by omega
                    clear hks hx' hxr hlO hrow hf hM hki f2 hlj
                    go_wp2_with fail
                    go_region_held3 (fun w' => w'.cell? ⟨bO, 0, none⟩ = some (.slice (some ⟨gR, 0, none⟩) os.length os.length) ∧ w'.cell? ⟨b, off + k, none⟩ = some (.int .i64 (p : Int)) ∧ w'.cell? ⟨W5.heap.size, 0, none⟩ = some (.int .i64 n.kind) ∧ w'.cell? ⟨W5.heap.size, 1, none⟩ = some (.int .i64 n.value) ∧ w'.cell? ⟨W5.heap.size, 2, none⟩ = some (.slice Ak ks.length ck))
                      (first
                        | (go_split_ands; refine ⟨?_, ?_, ?_, ?_, ?_⟩ <;> assumption)
                        | go_keep)
                      (fail)
                    clear a0 a1 a2 z0 z1 z2 o0 m0 m1 m2 hcx g0 k2
                    go_wp2
                    go_roundg (os.length - (k + 1))
                    case measure => omega
                    case rel => exact ⟨k + 1, by omega, rfl, by go_num, HN2.out⟩
            · obtain rfl : k = os.length := by omega
              have hO := hS.lO
              have o0 := hO.cell 0
              have o1 := hO.cell 1
              have lRw := HR.out.below hS.bel HR.out.lt
              have b0 := lRw.cell 0
              have b1 := lRw.cell 1
              have f0 := lRw.frozen 0
              have f1 := lRw.frozen 1
              have l5 := (lRw.set 0 (.slice (some ⟨gR, 0, none⟩) os.length os.length)).set 1 (.int .i64 s)
              simp only [List.setIfInBounds_toArray, List.set_cons_succ, List.set_cons_zero] at l5
              have s0 := l5.cell 0
              have s1 := l5.cell 1
              simp only [List.getElem?_toArray, List.getElem?_cons_zero, List.getElem?_cons_succ] at s0 s1 b0 b1 o0 o1
              have hgw : w.heap.size + 1 < w1.heap.size := HR.out.lt
              have hord : IsOrd os ns.length := ⟨HLen.out, fun x hx => by have := HAll.out x hx; have := HLen.out; omega, by have := hS.nd; rwa [List.take_length] at this⟩
              have e1 : renNs ns (ri : Int) os = renTo ns os os.length os.length := by
                unfold renNs
                rw [if_pos ⟨HV.out, hord⟩, ← renTo_all HV.out hord, HLen.out]
              have e2 : renR ns (ri : Int) os = s := by
                unfold renR
                rw [if_pos ⟨HV.out, hord⟩]
                exact hord.place HSr.out
              have hlen2 : (renTo ns os os.length os.length).length = os.length := renTo_len _ _ _ _
              have hbel := (HB.out.trans (hS.bel.mono HB.out.size))
              have hrow2 : OwnRow ((wr.setCell ⟨w.heap.size + 1, 0, none⟩ (.slice (some ⟨gR, 0, none⟩) os.length os.length)).setCell ⟨w.heap.size + 1, 1, none⟩ (.int .i64 s)) w1.heap.size wr.heap.size gR os.length (renTo ns os os.length os.length) :=
                hS.row.kept (fun b hb _ => (Below.heap_setCell _ _ _ _ (by show b ≠ w.heap.size + 1; omega)).trans (Below.heap_setCell _ _ _ _ (by show b ≠ w.heap.size + 1; omega)))
              have hfin : GivesG w (renNs ns (ri : Int) os) (renR ns (ri : Int) os) (.returned (.agg #[.slice (some ⟨gR, 0, none⟩) os.length os.length, .int .i64 s])) ((wr.setCell ⟨w.heap.size + 1, 0, none⟩ (.slice (some ⟨gR, 0, none⟩) os.length os.length)).setCell ⟨w.heap.size + 1, 1, none⟩ (.int .i64 s)) := by
                rw [e1, e2]
                refine ⟨some ⟨gR, 0, none⟩, os.length, by rw [hlen2], .inr ⟨gR, rfl, ?_⟩, (hbel.setCell (p := ⟨w.heap.size + 1, 0, none⟩) (by show w.heap.size ≤ w.heap.size + 1; omega) _).setCell (p := ⟨w.heap.size + 1, 1, none⟩) (by show w.heap.size ≤ w.heap.size + 1; omega) _⟩
                have := hrow2.low (lo2 := w.heap.size) (by omega)
                simpa using this
              have HF := hide hfin
              clear hfin hrow2 hbel hlen2 e1 e2 hord l5 lRw hO hS hlt
              go_wp2
              refine bodyPost_ret (v := .agg #[.slice (some ⟨gR, 0, none⟩) os.length os.length, .int .i64 s]) (by simp [results, Try.results7, go_sem, s0, s1]) rfl ?_
              exact HF.out
        · have hS0 := RsA.startB w1 ns os s
          generalize ((w1.alloc (.cells #[.slice (some ⟨w1.heap.size + 1, 0, none⟩) os.length os.length, .int .i64 s] 25)).alloc (.cells (madeCells #[.int .i64 0, .int .i64 0, .slice none 0 0] (os.length * 3)) 44)).drew = W4 at hS0 ⊢
          generalize w1.heap.size + 1 = gR at hS0 ⊢
          generalize hgr : w1.heap.size = bO at hS0 ⊢
          clear hgr
          have HS0 := hide hS0
          clear hS0 hmk u1 u2 e0 e1 hcs
          go_wp2_with fail
          go_loopg [6] os.length (fun gk iv wr => ∃ k : Nat, k ≤ os.length ∧ gk = os.length - k ∧ iv = .int .i64 (k : Int) ∧ RsA w1 wr ns os s gR bO k)
          case atStart => exact ⟨0, Nat.zero_le _, rfl, rfl, HS0.out⟩
          case round =>
            clear HS0
            obtain ⟨k, hk, rfl, rfl, hS⟩ := hrel
            have HS := hide hS
            by_cases hlt : k < os.length
            · obtain ⟨b2, off2, x, e, _, hx, hm, hcx⟩ := (HOS.out.below hS.bel).at_ hlt
              injection e with e
              injection e with e1 e2
              subst e1 e2
              have HX := hide hx
              have HM := hide hm
              have hi1 : (0 : Int) ≤ (k : Int) := by omega
              have hi2 : (k : Int) < (os.length : Int) := by omega
              have hi3 : (k : Int) ≤ (c2 : Int) := by omega
              have hi4 : (k : Int) ≤ (os.length : Int) := by omega
              have HL : Hid (k = (os.take k).length) := hide (by simp; omega)
              have HIt : Hid (IntsAt wr wr.heap.size (some ⟨b, off, none⟩) (os.take k)) := hide ((HOS.out.later hS.bel (Nat.le_refl _)).takeR k)
              obtain ⟨v, hv⟩ : ∃ v, place (os.take k) x = v := ⟨_, rfl⟩
              have HVv := hide hv
              by_cases hin : x ∈ os.take k
              · have hv0 : 0 ≤ v := by rw [← hv]; exact (place_lt hin).1
                have d0 : decide (0 ≤ v) = true := decide_eq_true hv0
                have hno2 : ¬ (ValidG ns (ri : Int) ∧ IsOrd os ns.length) := fun h => by
                  obtain ⟨j, hj, e⟩ := List.getElem_of_mem hin
                  have hj2 : j < k ∧ j < os.length := by simp at hj; omega
                  rw [List.getElem_take] at e
                  obtain ⟨hk2, e2⟩ := List.getElem?_eq_some_iff.1 hx
                  have := (List.getElem_inj h.2.nd).1 (e.trans e2.symm)
                  omega
                have HNo := hide hno2
                clear hx hm hv hin hv0 hno2 hS
                go_wp2_with fail
                go_quiet ((go_at_call 20; exact Calls.quiet_of_same (placeIn_q _ (os.take k) _ _ _ v _ HL.out HVv.out (HIt.out.later (below_drewN (Below.refl _ _) _) (Nat.le_refl _)))))
                have HQ := hide (ren_zero (ns := ns) (r := (ri : Int)) (os := os) (HR.out.below (HS.out.drewN nq).bel HR.out.lt) (HB.out.trans ((HS.out.drewN nq).bel.mono HB.out.size)) HNo.out)
                obtain ⟨y0, y1, y2, y3, s0, s1, _⟩ := HQ.out
                go_wp2
                refine bodyPost_ret (v := .agg #[.slice none 0 0, .int .i64 0]) (by simp [results, Try.results7, go_sem, s0, s1]) rfl ?_
                exact HQ.out.2.2.2.2.2.2
              · have HNin := hide hin
                have hv1 : v = -1 := by rw [← hv]; exact place_neg hin
                subst hv1
                clear hx hm hv hin hS
                go_wp2_with fail
                go_quiet ((go_at_call 20; exact Calls.quiet_of_same (placeIn_q _ (os.take k) _ _ _ (-1) _ HL.out HVv.out (HIt.out.later (below_drewN (Below.refl _ _) _) (Nat.le_refl _)))))
                have HS5 := hide (HS.out.drewN nq)
                clear hcx HIt HVv
                go_wp2_with fail
                generalize wr.drewN nq = W5 at HS5 ⊢
                have hB5 := HS5.out.bel
                have hkn : k < ns.length := by have := HLen.out; omega
                obtain ⟨b', off', n, hAe, hbl', hn, hnm, hnd⟩ := (HN.out.below hB5).at_ hkn
                subst hAe
                obtain ⟨A1, c1, k2, hki, _⟩ := hnd.kids
                have k0 := hnd.kind
                have k1 := hnd.value
                have lG5 := HG.out.below hB5 HG.out.lt
                have g0 := lG5.cell 0
                simp at g0
                have HNk := hide hn
                have hk1000 : n.kids.length ≤ 1000 := by have := (HV.out.nodes n hnm).few; omega
                have hkin := hide (HV.out.nodes n hnm).inn
                have hi5 : (k : Int) < (ns.length : Int) := by omega
                have HKI := hide (hki.more (by exact hB5.size : w1.heap.size ≤ W5.heap.size))
                have HOI : Hid (IntsAt W5 w1.heap.size (some ⟨b, off, none⟩) os) := hide (HOS.out.below hB5)
                have u0 := World.new_ne W5 _ g0
                have u1 := World.new_ne W5 _ k0
                have hb5s := hB5.size
                have hgw : w.heap.size < w1.heap.size := HG.out.lt
                clear hn hnm hnd hki lG5 hB5
                go_region_held3 (fun w' => w'.cell? ⟨w.heap.size, 0, none⟩ = some (.slice (some ⟨b', off', none⟩) ns.length c) ∧ w'.cell? ⟨b', off' + k * 3, none⟩ = some (.int .i64 n.kind) ∧ w'.cell? ⟨b', off' + k * 3 + 1, none⟩ = some (.int .i64 n.value))
                  (first
                    | (go_split_ands; refine ⟨?_, ?_, ?_⟩ <;> assumption)
                    | go_keep)
                  (fail)
                have hb7 : Below W5.heap.size W5 (W5.alloc (.cells #[.int .i64 n.kind, .int .i64 n.value, .slice none 0 0] 44)).drew := ((Below.refl _ _).alloc (Nat.le_refl _) _).drew
                have lM7 : Lies (W5.alloc (.cells #[.int .i64 n.kind, .int .i64 n.value, .slice none 0 0] 44)).drew W5.heap.size #[.int .i64 n.kind, .int .i64 n.value, .slice none 0 0] 44 := Lies.new W5 _ _
                go_wp2_with fail
                generalize (W5.alloc (.cells #[.int .i64 n.kind, .int .i64 n.value, .slice none 0 0] 44)).drew = W7 at hb7 lM7 ⊢
                have HM0 := hide (RsM.start os lM7)
                have HB7 := hide hb7
                clear hb7 lM7 k0 k1 k2 g0 u0 u1
                go_loopg [8] n.kids.length (fun gk jv wi => ∃ (j : Nat) (Ak : Option Addr) (ck : Nat) (ks : List Int), j ≤ n.kids.length ∧ gk = n.kids.length - j ∧ jv = .int .i64 (j : Int) ∧ RsM W7 wi W5.heap.size n os j Ak ck ks)
                case atStart => exact ⟨0, none, 0, [], Nat.zero_le _, rfl, rfl, HM0.out⟩
                case round =>
                  clear HM0
                  obtain ⟨j, Ak, ck, ks, hj, rfl, rfl, hM⟩ := hrel
                  have HMm := hide hM
                  have hsM := hM.size
                  have hBW := hide (HB7.out.trans (hM.bel.mono (Nat.le_refl _)))
                  have lG6 := (HG.out.below HS5.out.bel HG.out.lt).below hBW.out (by omega)
                  have g0 := lG6.cell 0
                  obtain ⟨b', off3, n', e, hbl3, hn', _, hnd⟩ := ((HN.out.below HS5.out.bel).below (hBW.out.mono hb5s)).at_ hkn
                  injection e with e
                  injection e with e1 e2
                  subst e1 e2
                  obtain rfl := Option.some.inj (HNk.out.symm.trans hn')
                  obtain ⟨A1, c1, k2, hki, _⟩ := hnd.kids
                  have m2 := hM.lM.cell 2
                  have f2 := hM.lM.frozen 2
                  simp at g0 m2
                  have hkl := hM.le
                  clear hn' hnd lG6
                  by_cases hlj : j < n.kids.length
                  · obtain ⟨bk, ok, y, hAe, hbk, hy, hym, hcy⟩ := hki.at_ hlj
                    subst hAe
                    obtain ⟨hy0, hy1⟩ := hkin.out y hym
                    obtain ⟨q, rfl⟩ := Int.eq_ofNat_of_zero_le hy0
                    have hql : q < os.length := by have := HLen.out; omega
                    obtain ⟨b3, off3, z, e, _, hz, hzm, hcz⟩ := (HOI.out.below (hBW.out.mono hb5s)).at_ hql
                    injection e with e
                    injection e with e1 e2
                    subst e1 e2
                    have hz64 := hide (HOI.out.wf z hzm)
                    have HY := hide hy
                    have HZ : Hid (os.getD ((q : Nat) : Int).toNat 0 = z) := hide (by rw [Int.toNat_natCast]; exact getD_at hz)
                    have hj1 : (0 : Int) ≤ (j : Int) := by omega
                    have hj2 : (j : Int) < (n.kids.length : Int) := by omega
                    have hj3 : (0 : Int) ≤ (q : Int) := by omega
                    have hj4 : (q : Int) < (os.length : Int) := by omega
                    have hne : Hid (some W5.heap.size ≠ blockOf Ak) := hide (fun e => by have := (HMm.out.own.blocks _ e.symm).1; omega)
                    have hbw : W5.heap.size ≤ wr.heap.size := hBW.out.size
                    have hl1 : bk < wr.heap.size := by omega
                    have hl2 : b < wr.heap.size := by omega
                    have hl3 : b' < wr.heap.size := by omega
                    have hl4 : w.heap.size < wr.heap.size := by omega
                    have hl5 : W5.heap.size < wr.heap.size := by omega
                    clear hy hym hM hki hz hzm hy0 hy1
                    go_wp2_with fail
                    go_region_law (first
                      | (refine step_append_ints (by rfl) _ _ (by rfl) (W5.heap.size + 1) Ak ck ks (by rfl) (HMm.out.own.alloc _).drew ⟨wr.heap.size, 0, none⟩ 1 [z] (by simp) (by rfl) (by have h0 := (IntsAt.lit wr [z] (by intro z2 hz2; simp at hz2; rw [hz2]; exact hz64.out) (by simp)).below (Below.refl _ _).drew; simpa using h0) (by simp; omega) (by simp; omega) ?_; intro zs A' c' w9 hz9 hown9 hg9 hat9
                         have t2 : w9.cell? ⟨W5.heap.size, 2, none⟩ = some (.slice Ak ks.length ck) := (hg9.cell_far _ (by simp; omega) hne.out).trans ((World.cell?_alloc_lt _ _ _ (by show W5.heap.size < wr.heap.size; omega)).trans m2)
                         have t3 : w9.frozen? ⟨W5.heap.size, 2, none⟩ = false := (hg9.frozen_far _ (by simp; omega) hne.out).trans ((HMm.out.lM.alloc _).frozen 2)))
                    all_goals
                      have HM1 := hide (HMm.out.step HY.out hk1000 (by rw [HZ.out]; exact hz9.out) hown9 hg9)
                      clear t2 t3 hown9 hg9 hat9 m2 f2 hcy hcz k2 g0
                      go_wp2
                      go_roundg (n.kids.length - (j + 1))
                      case measure => omega
                      case rel => exact ⟨j + 1, A', c', zs, by omega, rfl, by go_num, HM1.out⟩
                  · obtain rfl : j = n.kids.length := by omega
                    have hks : ks = n.kids.map fun y => os.getD y.toNat 0 := by rw [hM.eq, List.take_length]
                    have Hks := hide hks
                    obtain ⟨b3, off3, x', e, _, hx', _, hcx⟩ := (HOI.out.below (hBW.out.mono hb5s)).at_ hlt
                    injection e with e
                    injection e with e1 e2
                    subst e1 e2
                    obtain rfl := Option.some.inj (HX.out.symm.trans hx')
                    have hxr := HAll.out x HM.out
                    obtain ⟨p, rfl⟩ := Int.eq_ofNat_of_zero_le hxr.1
                    have hp : p < os.length := by omega
                    have hlO := HS5.out.lO.below hBW.out HS5.out.lO.lt
                    have o0 := hlO.cell 0
                    have o1 := hlO.lt
                    have m0 := hM.lM.cell 0
                    have m1 := hM.lM.cell 1
                    simp at o0 m0 m1
                    have hrow : OwnRow wr w1.heap.size W5.heap.size gR os.length (renTo ns os os.length k) := HS5.out.row.kept (fun b _ hb' => hBW.out.block b hb')
                    obtain ⟨f, hf⟩ := hrow.row
                    have a0 := World.rowIs.cell hf (i := p * 3) (by omega)
                    have a1 := World.rowIs.cell hf (i := p * 3 + 1) (by omega)
                    have a2 := World.rowIs.cell hf (i := p * 3 + 2) (by omega)
                    have z0 := World.rowIs.frozen hf (p * 3)
                    have z1 := World.rowIs.frozen hf (p * 3 + 1)
                    have z2 := World.rowIs.frozen hf (p * 3 + 2)
                    have HN2 := hide (HS5.out.step HX.out hp HNk.out HNin.out hBW.out.drew hM.own.drew Hks.out)
                    have hp1 : (0 : Int) ≤ (p : Int) := by omega
                    have hp2 : (p : Int) < (os.length : Int) := by omega
                    unfold setN at HN2
                    have hgl := HS5.out.row.hlo
                    have hgh := HS5.out.row.hhi
                    have n1 : bO ≠ gR := HS5.out.ne
                    have n2 : gR ≠ bO := fun e => n1 e.symm
                    have n3 : b ≠ gR := by omega
                    have n4 : gR ≠ b := by omega
                    have n5 : W5.heap.size ≠ gR := by omega
                    have n6 : gR ≠ W5.heap.size := by omega
                    clear hks hx' hxr hlO hrow hf hM hki f2 hlj
                    go_wp2_with fail
                    go_region_held3 (fun w' => w'.cell? ⟨bO, 0, none⟩ = some (.slice (some ⟨gR, 0, none⟩) os.length os.length) ∧ w'.cell? ⟨b, off + k, none⟩ = some (.int .i64 (p : Int)) ∧ w'.cell? ⟨W5.heap.size, 0, none⟩ = some (.int .i64 n.kind) ∧ w'.cell? ⟨W5.heap.size, 1, none⟩ = some (.int .i64 n.value) ∧ w'.cell? ⟨W5.heap.size, 2, none⟩ = some (.slice Ak ks.length ck))
                      (first
                        | (go_split_ands; refine ⟨?_, ?_, ?_, ?_, ?_⟩ <;> assumption)
                        | go_keep)
                      (fail)
                    clear a0 a1 a2 z0 z1 z2 o0 m0 m1 m2 hcx g0 k2
                    go_wp2
                    go_roundg (os.length - (k + 1))
                    case measure => omega
                    case rel => exact ⟨k + 1, by omega, rfl, by go_num, HN2.out⟩
            · obtain rfl : k = os.length := by omega
              have hO := hS.lO
              have o0 := hO.cell 0
              have o1 := hO.cell 1
              have lRw := HR.out.below hS.bel HR.out.lt
              have b0 := lRw.cell 0
              have b1 := lRw.cell 1
              have f0 := lRw.frozen 0
              have f1 := lRw.frozen 1
              have l5 := (lRw.set 0 (.slice (some ⟨gR, 0, none⟩) os.length os.length)).set 1 (.int .i64 s)
              simp only [List.setIfInBounds_toArray, List.set_cons_succ, List.set_cons_zero] at l5
              have s0 := l5.cell 0
              have s1 := l5.cell 1
              simp only [List.getElem?_toArray, List.getElem?_cons_zero, List.getElem?_cons_succ] at s0 s1 b0 b1 o0 o1
              have hgw : w.heap.size + 1 < w1.heap.size := HR.out.lt
              have hord : IsOrd os ns.length := ⟨HLen.out, fun x hx => by have := HAll.out x hx; have := HLen.out; omega, by have := hS.nd; rwa [List.take_length] at this⟩
              have e1 : renNs ns (ri : Int) os = renTo ns os os.length os.length := by
                unfold renNs
                rw [if_pos ⟨HV.out, hord⟩, ← renTo_all HV.out hord, HLen.out]
              have e2 : renR ns (ri : Int) os = s := by
                unfold renR
                rw [if_pos ⟨HV.out, hord⟩]
                exact hord.place HSr.out
              have hlen2 : (renTo ns os os.length os.length).length = os.length := renTo_len _ _ _ _
              have hbel := (HB.out.trans (hS.bel.mono HB.out.size))
              have hrow2 : OwnRow ((wr.setCell ⟨w.heap.size + 1, 0, none⟩ (.slice (some ⟨gR, 0, none⟩) os.length os.length)).setCell ⟨w.heap.size + 1, 1, none⟩ (.int .i64 s)) w1.heap.size wr.heap.size gR os.length (renTo ns os os.length os.length) :=
                hS.row.kept (fun b hb _ => (Below.heap_setCell _ _ _ _ (by show b ≠ w.heap.size + 1; omega)).trans (Below.heap_setCell _ _ _ _ (by show b ≠ w.heap.size + 1; omega)))
              have hfin : GivesG w (renNs ns (ri : Int) os) (renR ns (ri : Int) os) (.returned (.agg #[.slice (some ⟨gR, 0, none⟩) os.length os.length, .int .i64 s])) ((wr.setCell ⟨w.heap.size + 1, 0, none⟩ (.slice (some ⟨gR, 0, none⟩) os.length os.length)).setCell ⟨w.heap.size + 1, 1, none⟩ (.int .i64 s)) := by
                rw [e1, e2]
                refine ⟨some ⟨gR, 0, none⟩, os.length, by rw [hlen2], .inr ⟨gR, rfl, ?_⟩, (hbel.setCell (p := ⟨w.heap.size + 1, 0, none⟩) (by show w.heap.size ≤ w.heap.size + 1; omega) _).setCell (p := ⟨w.heap.size + 1, 1, none⟩) (by show w.heap.size ≤ w.heap.size + 1; omega) _⟩
                have := hrow2.low (lo2 := w.heap.size) (by omega)
                simpa using this
              have HF := hide hfin
              clear hfin hrow2 hbel hlen2 e1 e2 hord l5 lRw hO hS hlt
              go_wp2
              refine bodyPost_ret (v := .agg #[.slice (some ⟨gR, 0, none⟩) os.length os.length, .int .i64 s]) (by simp [results, Try.results7, go_sem, s0, s1]) rfl ?_
              exact HF.out
      · rw [tf_false hall]
        have HQ := hide (ren_zero (ns := ns) (r := r) (os := os) lR1 hB3 (fun h => hall (fun x hx => by have := h.2.rng x hx; have := h.2.len; omega)))
        obtain ⟨b0, b1, f0, f1, s0, s1, _⟩ := HQ.out
        clear hall lG1 lR1 hr3 ho3 hB3 e0 e1
        go_wp2
        refine bodyPost_ret (v := .agg #[.slice none 0 0, .int .i64 0]) (by simp [results, Try.results7, go_sem, s0, s1]) rfl ?_
        exact HQ.out.2.2.2.2.2.2
    · have hb0 : ((os.length : Int) != (ns.length : Int)) = true := by simp; omega
      have HQ := hide (ren_zero (ns := ns) (r := r) (os := os) lR1 hB3 (fun h => hlen h.2.len))
      obtain ⟨b0, b1, f0, f1, s0, s1, _⟩ := HQ.out
      clear hlen lG1 lR1 hr3 ho3 hB3 e1
      go_wp2
      refine bodyPost_ret (v := .agg #[.slice none 0 0, .int .i64 0]) (by simp [results, Try.results7, go_sem, s0, s1]) rfl ?_
      exact HQ.out.2.2.2.2.2.2
  · rw [tf_false hv]
    have HQ := hide (ren_zero (ns := ns) (r := r) (os := os) lR1 hB3 (fun h => hv h.1))
    obtain ⟨b0, b1, f0, f1, s0, s1, _⟩ := HQ.out
    clear hv lG1 lR1 hr3 ho3 hB3 e0 e1
    go_wp2
    refine bodyPost_ret (v := .agg #[.slice none 0 0, .int .i64 0]) (by simp [results, Try.results7, go_sem, s0, s1]) rfl ?_
    exact HQ.out.2.2.2.2.2.2

end Go.Proofs.Ytigelbilfddhgab
