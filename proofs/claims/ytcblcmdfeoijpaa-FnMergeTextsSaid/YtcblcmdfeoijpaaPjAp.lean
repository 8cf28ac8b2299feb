/-
  Lemmas, several texts in one: RplI, ImplC.
-/
import Derived.Test.YtcblcmdfeoijpaaPjAj
import Derived.Test.YtcblcmdfeoijpaaPjAi
import Derived.Test.YtcblcmdfeoijpaaWalkT
import Derived.Test.YtcblcmdfeoijpaaImplB
import Derived.Test.YtcblcmdfeoijpaaSpecE
namespace Go.Proofs.Ytcblcmdfeoijpaa
open Go.RowKit Go.Maps
set_option linter.unusedVariables false
set_option linter.unusedSimpArgs false

set_option maxHeartbeats 400000 in
theorem replaced1_any (k : Int) (q B : Nat) (C : Option Addr) (cl : List Int) (cc : Nat) (w : World) (h : w.cell? ⟨q, 0, none⟩ = some (.slice C cl.length cc)) (hC : IntsAt w B C cl) (h0 : 0 ≤ k) (h1 : k < cl.length) :
    Calls Try.prog 33 #[.int .i64 k, .pointer (some ⟨q, 0, none⟩)] w fun e w' => e = .returned (.int .i64 (look cl k)) ∧ w = w' := by
  have hcl := hC.len
  obtain ⟨i, rfl⟩ := Int.eq_ofNat_of_zero_le h0
  obtain ⟨b, off, x, rfl, hbl, hx, _, cx⟩ := hC.at_ (k := i) (by omega)
  have HX := hide (look_at hx)
  clear hx hC
  go_enter Try.func33, Try.ntmps33
  go_wp2
  go_ret
  exact ⟨ret_int HX.out.symm, rfl⟩

set_option maxHeartbeats 2000000 in
theorem replacedGraph_any (A : Option Addr) (ns : List Nd) (c : Nat) (r : Int) (C : Option Addr) (cl : List Int) (cc : Nat) (w : World) (hr : NdsAt w w.heap.size A ns) (hC : IntsAt w w.heap.size C cl) (hl : cl.length = ns.length) (hK : KidsIn ns) (hkl : ∀ n ∈ ns, n.kids.length ≤ 1000) (hn : ns.length ≤ 1000) (hr0 : 0 ≤ r) (hr1 : r < ns.length) :
    Calls Try.prog 14 #[.agg #[.slice A ns.length c, .int .i64 r], .slice C cl.length cc] w (GivesG w (replNs ns cl) (look cl r)) := by
  have hB3 : Below w.heap.size w (((w.alloc (.cells #[.slice A ns.length c, .int .i64 r] 25)).alloc (.cells #[.slice C cl.length cc] 29)).alloc (.cells #[.slice none 0 0, .int .i64 0] 25)) := (((Below.refl _ _).alloc (Nat.le_refl _) _).alloc (by simp) _).alloc (by simp; omega) _
  have lG := ((Lies.new w #[.slice A ns.length c, .int .i64 r] 25).alloc (.cells #[.slice C cl.length cc] 29)).alloc (.cells #[.slice none 0 0, .int .i64 0] 25)
  have lC := (Lies.new (w.alloc (.cells #[.slice A ns.length c, .int .i64 r] 25)) #[.slice C cl.length cc] 29).alloc (.cells #[.slice none 0 0, .int .i64 0] 25)
  have lR := Lies.new ((w.alloc (.cells #[.slice A ns.length c, .int .i64 r] 25)).alloc (.cells #[.slice C cl.length cc] 29)) #[.slice none 0 0, .int .i64 0] 25
  simp only [World.size_alloc] at lC lR
  have hmk := makeNodesC ns.length hn
  have HR := hide hr
  have HC := hide hC
  have HK := hide hK
  have HKL := hide hkl
  have HL := hide hl
  have hri : r < (cl.length : Int) := by omega
  obtain ⟨ri, rfl⟩ := Int.eq_ofNat_of_zero_le hr0
  obtain ⟨bc, oc, x, rfl, hbc, hx, _, cx⟩ := hC.at_ (k := ri) (by omega)
  have HX := hide (look_at hx)
  have hcl9 := hC.len
  clear hr hC hK hkl hl hx
  go_enter Try.func14, Try.ntmps14
  go_upto_region 1 with fail
  generalize (((w.alloc (.cells #[.slice A ns.length c, .int .i64 (ri : Int)] 25)).alloc (.cells #[.slice (some ⟨bc, oc, none⟩) cl.length cc] 29)).alloc (.cells #[.slice none 0 0, .int .i64 0] 25)) = W at hB3 lG lC lR ⊢
  have hW := lR.lt
  have e0 := lG.cell 0
  simp only [List.getElem?_toArray, List.getElem?_cons_zero, List.getElem?_cons_succ] at e0
  have HB3 := hide hB3
  have HLG := hide lG
  have HLC := hide lC
  have HLR := hide lR
  have cxW := hide ((hB3.cell (p := ⟨bc, oc + ri, none⟩) hbc).trans cx)
  have hS0 := ClA.start W (replNs ns cl)
  rw [replNs_len] at hS0
  have HS0 := hide hS0
  clear hS0 hB3 lG lC lR cx
  go_upto_region 2 with fail
  clear hmk
  generalize hX1 : W.alloc (.cells (madeCells #[.int .i64 0, .int .i64 0, .slice none 0 0] (ns.length * 3)) 32) = X1 at HS0 ⊢
  clear hX1 e0
  have e0 := (HLG.out.below HS0.out.bel HLG.out.lt).cell 0
  simp only [List.getElem?_toArray, List.getElem?_cons_zero, List.getElem?_cons_succ] at e0
  go_wp2_with fail
  clear e0
  go_loopg [15] ns.length (fun gk iv wr => ∃ k : Nat, k ≤ ns.length ∧ gk = ns.length - k ∧ iv = .int .i64 (k : Int) ∧ ClA W wr (replNs ns cl) k)
  case atStart => exact ⟨0, Nat.zero_le _, rfl, rfl, HS0.out⟩
  case round =>
    clear HS0
    obtain ⟨k, hk, rfl, rfl, hS⟩ := hrel
    have hwW := HB3.out.size
    have hSs := hS.bel.size
    by_cases hlt : k < ns.length
    · have hBk := HB3.out.trans (hS.bel.mono hwW)
      obtain ⟨b, off, n, rfl, hbl, hn2, hm, hnd⟩ := (HR.out.below hBk).at_ hlt
      obtain ⟨A1, c1, k2, hki, hnil⟩ := hnd.kids
      have k0 := hnd.kind
      have k1 := hnd.value
      have HN := hide (replNs_at (cl := cl) hn2)
      have HKn := hide (HK.out n hm)
      have hkn := HKL.out n hm
      have HS := hide hS
      have HKI := hide hki
      have hBk2 := hide hBk
      clear hn2 hm hnd hS hki hbl hBk
      go_upto_region 5 with fail
      have hB2 : Below wr.heap.size wr (wr.alloc (.cells #[.int .i64 n.kind, .int .i64 n.value, .slice A1 n.kids.length c1] 32)) := (Below.refl _ _).alloc (Nat.le_refl _) _
      have l1 := Lies.new wr #[.int .i64 n.kind, .int .i64 n.value, .slice A1 n.kids.length c1] 32
      generalize wr.alloc (.cells #[.int .i64 n.kind, .int .i64 n.value, .slice A1 n.kids.length c1] 32) = W2 at hB2 l1 ⊢
      have e0 := l1.cell 0
      have e1 := l1.cell 1
      have e2 := l1.cell 2
      simp only [List.getElem?_toArray, List.getElem?_cons_zero, List.getElem?_cons_succ] at e0 e1 e2
      have hs2 := hB2.size
      have HBW2 := hide (HS.out.bel.trans (hB2.mono hSs))
      have HRW := hide (rewired_any 33 #[] #[.pointer (some ⟨w.heap.size + 1, 0, none⟩)] (look cl) n A1 c1 W2 ((HKI.out.more (by omega)).later hB2 (Nat.le_refl _)) hkn (fun y hy => HC.out.wf _ (look_mem (HKn.out y hy).1 (by have := (HKn.out y hy).2; have := HL.out; omega))) (fun _ _ => by kernel_rfl)
        (fun y W' hb hy => by
          have hbx := HBW2.out.trans (hb.mono (by omega))
          have q0 := (HLC.out.below hbx HLC.out.lt).cell 0
          simp only [List.getElem?_toArray, List.getElem?_cons_zero] at q0
          have h3 := HKn.out y hy
          exact replaced1_any y (w.heap.size + 1) w.heap.size _ cl cc W' q0 (HC.out.below (HB3.out.trans (hbx.mono hwW))) h3.1 (by have := h3.2; have := HL.out; omega)))
      have HB2 := hide hB2
      clear k0 k1 k2 hB2 l1 HKI hnil
      go_wp2_with fail
      refine HRW.out.mono ?_
      clear HRW
      rintro e wi ⟨Ak, ck, rfl, hown, hbi⟩
      obtain ⟨f, hf⟩ := HS.out.row.row
      have hfw : wi.rowIs W.heap.size 32 (ns.length * 3) f := by
        have := hf.of_block (w' := wi) ((HB2.out.trans (hbi.mono HB2.out.size)).block _ hf.lt)
        rwa [replNs_len] at this
      have q0 := World.rowIs.cell hfw (i := k * 3) (by omega)
      have q1 := World.rowIs.cell hfw (i := k * 3 + 1) (by omega)
      have q2 := World.rowIs.cell hfw (i := k * 3 + 2) (by omega)
      have p0 := World.rowIs.frozen hfw (k * 3)
      have p1 := World.rowIs.frozen hfw (k * 3 + 1)
      have p2 := World.rowIs.frozen hfw (k * 3 + 2)
      have hBs := HS.out.step HN.out HB2.out hbi (c := ck) (Ak := Ak) hown
      simp only [replNd, List.length_map] at hBs
      have HB := hide hBs
      have hk1 : (k : Int) < (ns.length : Int) := by omega
      clear hBs hown hbi hf hfw e0 e1 e2 HB2 HN HS
      go_wp2_with fail
      go_roundg (ns.length - (k + 1))
      case measure => omega
      case rel => exact ⟨k + 1, by omega, rfl, by go_num, HB.out⟩
    · obtain rfl : k = ns.length := by omega
      have lG1 := HLG.out.below hS.bel HLG.out.lt
      have lC1 := HLC.out.below hS.bel HLC.out.lt
      have lR1 := HLR.out.below hS.bel HLR.out.lt
      have g1 := lG1.cell 1
      have g2 := lC1.cell 0
      have cx2 := (hS.bel.cell (p := ⟨bc, oc + ri, none⟩) (by show bc < W.heap.size; omega)).trans cxW.out
      have l5 := (lR1.set 0 (.slice (some ⟨W.heap.size, 0, none⟩) ns.length ns.length)).set 1 (.int .i64 x)
      simp only [List.setIfInBounds_toArray, List.set_cons_succ, List.set_cons_zero] at l5
      have s0 := l5.cell 0
      have s1 := l5.cell 1
      have b0 := lR1.cell 0
      have b1 := lR1.cell 1
      have f0 := lR1.frozen 0
      have f1 := lR1.frozen 1
      simp only [List.getElem?_toArray, List.getElem?_cons_zero, List.getElem?_cons_succ] at s0 s1 b0 b1 g1 g2
      have hrow := hS.row
      rw [List.take_of_length_le (by rw [replNs_len]; exact Nat.le_refl _), replNs_len] at hrow
      have hG := GivesG.putQ (q := w.heap.size + 1 + 1) (r := x) (by omega) (by omega) HB3.out (Below.refl _ _) hS.bel (.inr ⟨_, rfl, hrow⟩ : OwnNs wr W.heap.size wr.heap.size (some ⟨W.heap.size, 0, none⟩) ns.length (replNs ns cl))
      rw [replNs_len] at hG
      have HG := hide hG
      have hr3 : (0 : Int) ≤ (ri : Int) := by omega
      clear lG1 lC1 lR1 l5 hrow hG hS hlt
      go_wp2_with fail
      go_wp2
      refine bodyPost_ret (v := .agg #[.slice (some ⟨W.heap.size, 0, none⟩) ns.length ns.length, .int .i64 x]) (by simp [results, Try.results14, go_sem, s0, s1]) rfl ?_
      rw [HX.out]
      exact HG.out

end Go.Proofs.Ytcblcmdfeoijpaa

namespace Go.Proofs.Ytcblcmdfeoijpaa
open Go.RowKit Go.Maps
set_option linter.unusedVariables false

set_option maxHeartbeats 400000 in
theorem enters_tup (ns : List Nd) : WalkT.Enters ns (isTup ns) := by
  intro k n A c w hat
  have hk := kindOf_at hat
  by_cases h2 : n.kind = 2
  · have t : (n.kind == 2) = true := by rw [beq_iff_eq]; exact h2
    have HF := hide (show isTup ns (k : Int) = true by unfold isTup; rw [hk]; exact t)
    clear h2 hk hat
    go_enter Try.func45, Try.ntmps45
    go_wp2
    go_ret
    exact ⟨ret_bool HF.out.symm, (Below.refl _ _).alloc (Nat.le_refl _) _⟩
  · have t : (n.kind == 2) = false := by rw [beq_eq_false_iff_ne]; exact h2
    have HF := hide (show isTup ns (k : Int) = false by unfold isTup; rw [hk]; exact t)
    clear h2 hk hat
    go_enter Try.func45, Try.ntmps45
    go_wp2
    go_ret
    exact ⟨ret_bool HF.out.symm, (Below.refl _ _).alloc (Nat.le_refl _) _⟩

set_option maxHeartbeats 1000000 in
theorem index_any (A : Option Addr) (xs : List Int) (c : Nat) (n : Int) (w : World) (h : IntsAt w w.heap.size A xs) :
    Calls Try.prog 65 #[.slice A xs.length c, .int .i64 n] w fun e w' => e = .returned (.int .i64 (place xs n)) ∧ w = w' := by
  have hl := h.len
  go_enter Try.func65, Try.ntmps65
  go_wp2_with fail
  go_loop [8] (fun i => ∃ k : Nat, k ≤ xs.length ∧ i = .int .i64 k ∧ ∀ j, j < k → xs[j]? ≠ some n) (fun i => xs.length - (intOf i).toNat)
  case atStart => exact ⟨0, Nat.zero_le _, rfl, fun j hj => absurd hj (by omega)⟩
  case round =>
    obtain ⟨k, hk, rfl, he0⟩ := hrel
    have he := hide he0
    clear he0
    by_cases hlt : k < xs.length
    · obtain ⟨b, off, x, rfl, hbl, hx, _, hc⟩ := h.at_ hlt
      have Hx := hide hx
      clear hx
      by_cases hxn : n = x
      · subst hxn
        have HF := hide (place_at Hx.out he.out)
        go_wp2
        go_ret
        exact ⟨ret_int HF.out.symm, rfl⟩
      · have t : (n == x) = false := by simpa using hxn
        have he2 : ∀ j, j < k + 1 → xs[j]? ≠ some n := by
          intro j hj
          by_cases e : j = k
          · subst e; rw [Hx.out]; intro e; injection e with e; exact hxn e.symm
          · exact he.out j (by omega)
        have He := hide he2
        clear he2 he hxn
        go_wp2
        go_round
        case rel => exact ⟨k + 1, by omega, by go_num, He.out⟩
        case measure => simp [intOf]; omega
    · obtain rfl : k = xs.length := by omega
      have HF := hide (place_none he.out)
      clear hlt
      go_wp2
      go_ret
      exact ⟨ret_int HF.out.symm, rfl⟩

set_option maxHeartbeats 400000 in
theorem contains_any (A : Option Addr) (xs : List Int) (c : Nat) (n : Int) (w : World) (h : IntsAt w w.heap.size A xs) :
    Calls Try.prog 58 #[.slice A xs.length c, .int .i64 n] w fun e w' => e = .returned (.bool (tf (n ∈ xs))) ∧ w = w' := by
  go_enter Try.func58, Try.ntmps58
  go_wp2_with fail
  refine (index_any A xs c n w h).mono ?_
  rintro e w' ⟨rfl, rfl⟩
  by_cases hin : n ∈ xs
  · have hp := place_lt hin
    have HF := hide (tf_true hin)
    have hd : decide (0 ≤ place xs n) = true := by simp; omega
    generalize place xs n = pl at hp hd ⊢
    clear hin
    go_wp2
    go_ret
    exact ⟨ret_bool HF.out.symm, rfl⟩
  · have HF := hide (tf_false hin)
    rw [place_neg hin]
    clear hin
    go_wp2
    go_ret
    exact ⟨ret_bool HF.out.symm, rfl⟩

set_option maxHeartbeats 1000000 in
theorem leadsBackT_any (A : Option Addr) (ns : List Nd) (c : Nat) (i : Nat) (w : World) (hr : NdsAt w w.heap.size A ns) (hk : KidsIn ns) (hsm : ns.length ≤ 1048576) (hi : i < ns.length) :
    Calls Try.prog 46 #[.slice A ns.length c, .int .i64 (i : Int), .func (.func 45) #[] #[]] w fun e w' =>
      e = .returned (.bool (tf ((i : Int) ∈ dfsL ns (isTup ns) (ns.length + 1) (kidsOf ns i) []))) ∧ Below w.heap.size w w' := by
  have hr2 := hr
  obtain ⟨b, off, n, rfl, hbl, hat, hmem, hN⟩ := hr.at_ hi
  obtain ⟨hn_k, hn_v, ⟨A1, c1, hn_s, hI1, _⟩, _, _⟩ := hN
  have hi1 : (0 : Int) ≤ (i : Int) := by omega
  have hi2 : (i : Int) < (ns.length : Int) := by omega
  have hkids := kidsOf_at hat
  have Hkids := hide hkids
  have hin : ∀ x ∈ n.kids, 0 ≤ x ∧ x < (ns.length : Int) := fun x hx => hk n hmem x hx
  have hw := walkedAll ns (isTup ns) hk n.kids [] (ns.length + 1) (Met.nil ns) hin (by simp)
  have Hin := hide hin
  have Hw := hide hw.met
  have hwl := hw.met.len
  clear hat hmem hkids hin hw
  go_enter Try.func46, Try.ntmps46
  go_wp2_with fail
  refine (WalkT.walkFrom_any ns (isTup ns) (enters_tup ns) hk hsm _ c A1 n.kids c1 w hr2 hI1 Hin.out).mono ?_
  rintro e w2 ⟨A2, c2, rfl, hown, hb⟩
  have hio := hown.ints (fun x hx => by have := Hw.out.range x hx; constructor <;> omega) (by omega)
  clear hown
  generalize hR : dfsL ns (isTup ns) (ns.length + 1) n.kids [] = R at hio ⊢
  have HR := hide hR
  clear hR hwl Hw
  go_wp2_with fail
  refine (contains_any A2 R c2 i w2 hio).mono ?_
  rintro e w3 ⟨rfl, rfl⟩
  generalize hx : tf ((i : Int) ∈ R) = x
  have HF := hide (show tf ((i : Int) ∈ dfsL ns (isTup ns) (ns.length + 1) (kidsOf ns i) []) = x by rw [Hkids.out, HR.out, hx])
  clear hx
  go_wp2
  go_ret
  exact ⟨ret_bool HF.out.symm, hb⟩

/-- a tuple from which a way over tuples leads back to it -/
def TupleCycle (ns : List Nd) : Prop := ∃ (i : Nat) (n : Nd), ns[i]? = some n ∧ n.kind = 2 ∧ TReach ns i i

set_option maxHeartbeats 2000000 in
theorem hasTupleCycle_any (A : Option Addr) (ns : List Nd) (c : Nat) (w : World) (hr : NdsAt w w.heap.size A ns) (hk : KidsIn ns) (hsm : ns.length ≤ 1048576) :
    Calls Try.prog 23 #[.slice A ns.length c] w fun e w' => e = .returned (.bool (tf (TupleCycle ns))) ∧ Below w.heap.size w w' := by
  go_enter Try.func23, Try.ntmps23
  go_wp2_with fail
  go_loopw [8] (fun i wr => ∃ k : Nat, k ≤ ns.length ∧ i = .int .i64 k ∧ Below w.heap.size w wr ∧ (∀ (j : Nat) (n : Nd), j < k → ns[j]? = some n → n.kind = 2 → ¬ TReach ns j j)) (fun i _ => ns.length - (intOf i).toNat)
  case atStart => exact ⟨0, Nat.zero_le _, rfl, Below.refl _ _, fun j n hj => absurd hj (by omega)⟩
  case round =>
    obtain ⟨k, hkl, rfl, hb, hok0⟩ := hrel
    have hok := hide hok0
    clear hok0
    by_cases hlt : k < ns.length
    · obtain ⟨b, off, n, rfl, hbl, hat, hmem, hN⟩ := (hr.below hb).at_ hlt
      obtain ⟨hn_k, hn_v, ⟨A1, c1, hn_s, hI1, _⟩, _, _⟩ := hN
      have Hat := hide hat
      have hbA : Below w.heap.size w (wr.alloc (.cells #[.int .i64 n.kind, .int .i64 n.value, .slice A1 n.kids.length c1] 32)) := hb.alloc hb.size _
      have htup := enters_tup ns k n A1 c1 (wr.alloc (.cells #[.int .i64 n.kind, .int .i64 n.value, .slice A1 n.kids.length c1] 32)) hat
      have Htup := hide htup
      have hkd := kindOf_at hat
      clear hat hmem hI1 htup
      go_wp2_with fail
      refine Htup.out.mono ?_
      rintro e w2 ⟨rfl, hb2⟩
      have hb3 := hbA.trans (hb2.mono (by have := hb.size; simp; omega))
      clear hb2 hbA
      by_cases h2 : n.kind = 2
      · have ht : isTup ns (k : Int) = true := by unfold isTup; rw [hkd, h2]; rfl
        rw [ht]
        have hr2 := hr.later hb3 (Nat.le_refl _)
        have H2 := hide h2
        have Hkd := hide (hkd.trans h2)
        clear ht hkd h2
        go_wp2_with fail
        refine (leadsBackT_any _ ns c k w2 hr2 hk hsm hlt).mono ?_
        rintro e w4 ⟨rfl, hb4⟩
        have hb5 := hb3.trans (hb4.mono hb3.size)
        rw [tf_congr (tuple_back ns hk k Hkd.out (ns.length + 1) (by omega))]
        clear hb4 hb3 hr2
        by_cases ht : TReach ns k k
        · rw [tf_true ht]
          have HF := hide (show tf (TupleCycle ns) = true from tf_true ⟨k, n, Hat.out, H2.out, ht⟩)
          clear ht
          go_wp2
          go_ret
          exact ⟨ret_bool HF.out.symm, hb5⟩
        · rw [tf_false ht]
          have Ht := hide ht
          clear ht
          go_wp2
          go_roundw
          case rel => exact ⟨k + 1, by omega, by go_num, hb5, fun j m hj hm hm2 => by
              by_cases e : j = k
              · subst e; exact Ht.out
              · exact hok.out j m (by omega) hm hm2⟩
          case measure => simp [intOf]; omega
      · have ht : isTup ns (k : Int) = false := by unfold isTup; rw [hkd, beq_eq_false_iff_ne]; exact h2
        rw [ht]
        have H2 := hide h2
        clear ht hkd h2
        go_wp2
        go_roundw
        case rel => exact ⟨k + 1, by omega, by go_num, hb3, fun j m hj hm hm2 => by
            by_cases e : j = k
            · subst e
              obtain rfl := Option.some.inj (Hat.out.symm.trans hm)
              exact absurd hm2 H2.out
            · exact hok.out j m (by omega) hm hm2⟩
        case measure => simp [intOf]; omega
    · obtain rfl : k = ns.length := by omega
      have HF := hide (show tf (TupleCycle ns) = false from tf_false fun ⟨i, n, h1, h2, h3⟩ => hok.out i n (List.getElem?_eq_some_iff.1 h1).1 h1 h2 h3)
      clear hlt
      go_wp2
      go_ret
      exact ⟨ret_bool HF.out.symm, hb⟩

end Go.Proofs.Ytcblcmdfeoijpaa
