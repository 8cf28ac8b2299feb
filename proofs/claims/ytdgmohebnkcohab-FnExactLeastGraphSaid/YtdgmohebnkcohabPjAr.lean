/-
  Lemmas, several texts in one: InpM, RplI.
-/
import Derived.Test.YtdgmohebnkcohabPjAl
import Derived.Test.YtdgmohebnkcohabPjAe
import Derived.Test.YtdgmohebnkcohabPjAb
import Derived.Test.YtdgmohebnkcohabPjAq
import Derived.Test.YtdgmohebnkcohabPjAf
namespace Go.Proofs.Ytdgmohebnkcohab
open Go.RowKit Go.Maps
set_option linter.unusedVariables false

/-- a node of which the first k kids are written -/
def halfK (cl : List Int) (ks : List Int) (k : Nat) : List Int := (ks.take k).map (look cl) ++ ks.drop k
theorem halfK_len (cl ks : List Int) (k : Nat) : (halfK cl ks k).length = ks.length := by
  unfold halfK
  simp
  omega
theorem halfK_zero (cl ks : List Int) : halfK cl ks 0 = ks := by simp [halfK]
theorem halfK_all (cl ks : List Int) : halfK cl ks ks.length = ks.map (look cl) := by simp [halfK]
theorem halfK_at {cl ks : List Int} {k : Nat} {x : Int} (h : ks[k]? = some x) : (halfK cl ks k)[k]? = some x := by
  have hk := (List.getElem?_eq_some_iff.1 h).1
  unfold halfK
  rw [List.getElem?_append_right (by simp; omega)]
  simp only [List.length_map, List.length_take]
  rw [Nat.min_eq_left (by omega), Nat.sub_self, List.getElem?_drop, Nat.add_zero, h]
theorem halfK_set {cl ks : List Int} {k : Nat} {x : Int} (h : ks[k]? = some x) : (halfK cl ks k).set k (look cl x) = halfK cl ks (k + 1) := by
  have hk := (List.getElem?_eq_some_iff.1 h).1
  have hd : ks.drop k = x :: ks.drop (k + 1) := drop_at h
  have hl : ((ks.take k).map (look cl)).length = k := by simp; omega
  unfold halfK
  rw [List.set_append, if_neg (by omega), hl, Nat.sub_self, hd, List.set_cons_zero, List.take_add_one, h]
  simp

/-- the nodes when those before i are written, and the first k kids of i -/
def stNd (cl : List Int) (i k j : Nat) (n : Nd) : Nd := if j < i then replNd cl n else if j = i then ⟨n.kind, n.value, halfK cl n.kids k⟩ else n
def stN (ns : List Nd) (cl : List Int) (i k : Nat) : List Nd := ns.mapIdx (stNd cl i k)
theorem stN_len (ns : List Nd) (cl : List Int) (i k : Nat) : (stN ns cl i k).length = ns.length := by simp [stN]
theorem stN_get (ns : List Nd) (cl : List Int) (i k j : Nat) : (stN ns cl i k)[j]? = (ns[j]?).map (stNd cl i k j) := by
  unfold stN
  rw [List.getElem?_mapIdx]
theorem stN_at {ns : List Nd} {cl : List Int} {i k : Nat} {n : Nd} (h : ns[i]? = some n) : (stN ns cl i k)[i]? = some ⟨n.kind, n.value, halfK cl n.kids k⟩ := by
  rw [stN_get, h]
  simp [stNd]
theorem stN_zero (ns : List Nd) (cl : List Int) : stN ns cl 0 0 = ns := by
  apply List.ext_getElem?
  intro j
  rw [stN_get]
  cases h : ns[j]? with
  | none => rfl
  | some n =>
    simp only [Option.map_some, stNd, Nat.not_lt_zero, if_false, halfK_zero]
    split <;> rfl
theorem stN_all (ns : List Nd) (cl : List Int) (k : Nat) : stN ns cl ns.length k = replNs ns cl := by
  apply List.ext_getElem?
  intro j
  rw [stN_get]
  unfold replNs
  rw [List.getElem?_map]
  cases h : ns[j]? with
  | none => rfl
  | some n =>
    have := (List.getElem?_eq_some_iff.1 h).1
    simp only [Option.map_some, stNd, if_pos this]
theorem stN_next {ns : List Nd} {cl : List Int} {i : Nat} {n : Nd} (h : ns[i]? = some n) : stN ns cl i n.kids.length = stN ns cl (i + 1) 0 := by
  apply List.ext_getElem?
  intro j
  rw [stN_get, stN_get]
  cases hj : ns[j]? with
  | none => rfl
  | some m =>
    simp only [Option.map_some, stNd, halfK_zero]
    by_cases h1 : j < i
    · rw [if_pos h1, if_pos (by omega)]
    · by_cases h2 : j = i
      · subst h2
        rw [h] at hj
        injection hj with hj
        subst hj
        rw [if_neg h1, if_pos rfl, if_pos (by omega), halfK_all]
        rfl
      · rw [if_neg h1, if_neg h2, if_neg (by omega)]
        split <;> rfl
theorem stN_set {ns : List Nd} {cl : List Int} {i k : Nat} {n : Nd} {x : Int} (h : ns[i]? = some n) (hx : n.kids[k]? = some x) : (stN ns cl i k).set i ⟨n.kind, n.value, (halfK cl n.kids k).set k (look cl x)⟩ = stN ns cl i (k + 1) := by
  apply List.ext_getElem?
  intro j
  have hi := (List.getElem?_eq_some_iff.1 h).1
  rw [List.getElem?_set, stN_get, stN_get]
  by_cases e : i = j
  · subst e
    rw [if_pos rfl, if_pos (by rw [stN_len]; exact hi), h, halfK_set hx]
    simp [stNd]
  · rw [if_neg e]
    cases hj : ns[j]? with
    | none => rfl
    | some m =>
      simp only [Option.map_some, stNd]
      by_cases h1 : j < i
      · rw [if_pos h1, if_pos h1]
      · rw [if_neg h1, if_neg h1, if_neg (by omega), if_neg (by omega)]

/-- the memory: old memory stays; the graph's box; its row -/
structure InpA (w wr : World) (hi gr cap q : Nat) (ns : List Nd) (cl : List Int) (r : Int) (i k : Nat) : Prop where
  bel : Below w.heap.size w wr
  box : Lies wr q #[.slice (some ⟨gr, 0, none⟩) ns.length cap, .int .i64 r] 28
  row : OwnRow wr w.heap.size hi gr cap (stN ns cl i k)
  hq : hi ≤ q

theorem InpA.below {w wr w' : World} {hi gr cap q i k : Nat} {ns : List Nd} {cl : List Int} {r : Int} (h : InpA w wr hi gr cap q ns cl r i k) (hb : Below wr.heap.size wr w') : InpA w w' hi gr cap q ns cl r i k :=
  ⟨h.bel.trans (hb.mono h.bel.size), h.box.below hb h.box.lt, h.row.kept (fun b _ hb2 => hb.block b (by have := h.box.lt; have := h.hq; omega)), h.hq⟩

theorem InpA.next {w wr : World} {hi gr cap q i : Nat} {ns : List Nd} {cl : List Int} {r : Int} {n : Nd} (hn : ns[i]? = some n) (h : InpA w wr hi gr cap q ns cl r i n.kids.length) : InpA w wr hi gr cap q ns cl r (i + 1) 0 :=
  ⟨h.bel, h.box, by rw [← stN_next hn]; exact h.row, h.hq⟩

/-- the kids of the node i -/
theorem InpA.kids {w wr : World} {hi gr cap q i k : Nat} {ns : List Nd} {cl : List Int} {r : Int} {n : Nd} (hn : ns[i]? = some n) (h : InpA w wr hi gr cap q ns cl r i k) :
    ∃ (A : Option Addr) (c : Nat), wr.cell? ⟨gr, i * 3 + 2, none⟩ = some (.slice A n.kids.length c) ∧ OwnI wr w.heap.size A c (halfK cl n.kids k) ∧ ∀ b, blockOf A = some b → b < hi ∧ b ≠ gr := by
  obtain ⟨A, c, h1, h2, h3⟩ := (h.row.nd i _ (stN_at hn)).kids
  simp only [halfK_len] at h1
  exact ⟨A, c, h1, h2, h3⟩

/-- a kid is written -/
theorem InpA.store {w wr : World} {hi gr cap q i k b c : Nat} {ns : List Nd} {cl : List Int} {r : Int} {n : Nd} {x : Int} (h : InpA w wr hi gr cap q ns cl r i k) (hn : ns[i]? = some n) (hx : n.kids[k]? = some x)
    (hc : wr.cell? ⟨gr, i * 3 + 2, none⟩ = some (.slice (some ⟨b, 0, none⟩) n.kids.length c)) (ho : OwnI wr w.heap.size (some ⟨b, 0, none⟩) c (halfK cl n.kids k)) (hb : b < hi) :
    InpA w (wr.setCell ⟨b, k, none⟩ (.int .i64 (look cl x))) hi gr cap q ns cl r i (k + 1) := by
  have hbl := (ho.blocks b rfl).1
  refine ⟨h.bel.setCell (p := ⟨b, k, none⟩) hbl _, h.box.far (p := ⟨b, k, none⟩) (by have := h.hq; show q ≠ b; omega) _, ?_, h.hq⟩
  have hs := ho.setAt k (look cl x)
  have h2 := h.row.setKids (w' := wr.setCell ⟨b, k, none⟩ (.int .i64 (look cl x))) (stN_at hn) (cj := c) (Aj := some ⟨b, 0, none⟩) (ks := (halfK cl n.kids k).set k (look cl x)) (by simp only [halfK_len]; exact hc) (by simp) hs (fun q hq => Below.heap_setCell _ _ _ _ (by intro e; exact hq (by rw [e]; rfl)))
  simp only at h2
  rw [stN_set hn hx] at h2
  exact h2

theorem OwnNs.rowI {w : World} {lo hi : Nat} {A : Option Addr} {c : Nat} {ns : List Nd} (h : OwnNs w lo hi A c ns) (hne : 0 < ns.length) : ∃ g, A = some ⟨g, 0, none⟩ ∧ OwnRow w lo hi g c ns := by
  rcases h with ⟨_, _, h⟩ | h
  · subst h; simp at hne
  · exact h

end Go.Proofs.Ytdgmohebnkcohab

namespace Go.Proofs.Ytdgmohebnkcohab
open Go.RowKit Go.Maps
set_option linter.unusedVariables false
set_option linter.unusedSimpArgs false

set_option maxHeartbeats 400000 in
theorem replaced1_any (k : Int) (q B : Nat) (C : Option Addr) (cl : List Int) (cc : Nat) (w : World) (h : w.cell? ⟨q, 0, none⟩ = some (.slice C cl.length cc)) (hC : IntsAt w B C cl) (h0 : 0 ≤ k) (h1 : k < cl.length) :
    Calls Try.prog 38 #[.int .i64 k, .pointer (some ⟨q, 0, none⟩)] w fun e w' => e = .returned (.int .i64 (look cl k)) ∧ w = w' := by
  have hcl := hC.len
  obtain ⟨i, rfl⟩ := Int.eq_ofNat_of_zero_le h0
  obtain ⟨b, off, x, rfl, hbl, hx, _, cx⟩ := hC.at_ (k := i) (by omega)
  have HX := hide (look_at hx)
  clear hx hC
  go_enter Try.func38, Try.ntmps38
  go_wp2
  go_ret
  exact ⟨ret_int HX.out.symm, rfl⟩

set_option maxHeartbeats 2000000 in
theorem replacedGraph_any (A : Option Addr) (ns : List Nd) (c : Nat) (r : Int) (C : Option Addr) (cl : List Int) (cc : Nat) (w : World) (hr : NdsAt w w.heap.size A ns) (hC : IntsAt w w.heap.size C cl) (hl : cl.length = ns.length) (hK : KidsIn ns) (hkl : ∀ n ∈ ns, n.kids.length ≤ 1000) (hn : ns.length ≤ 1000) (hr0 : 0 ≤ r) (hr1 : r < ns.length) :
    Calls Try.prog 17 #[.agg #[.slice A ns.length c, .int .i64 r], .slice C cl.length cc] w (GivesG w (replNs ns cl) (look cl r)) := by
  have hB3 : Below w.heap.size w (((w.alloc (.cells #[.slice A ns.length c, .int .i64 r] 28)).alloc (.cells #[.slice C cl.length cc] 38)).alloc (.cells #[.slice none 0 0, .int .i64 0] 28)) := (((Below.refl _ _).alloc (Nat.le_refl _) _).alloc (by simp) _).alloc (by simp; omega) _
  have lG := ((Lies.new w #[.slice A ns.length c, .int .i64 r] 28).alloc (.cells #[.slice C cl.length cc] 38)).alloc (.cells #[.slice none 0 0, .int .i64 0] 28)
  have lC := (Lies.new (w.alloc (.cells #[.slice A ns.length c, .int .i64 r] 28)) #[.slice C cl.length cc] 38).alloc (.cells #[.slice none 0 0, .int .i64 0] 28)
  have lR := Lies.new ((w.alloc (.cells #[.slice A ns.length c, .int .i64 r] 28)).alloc (.cells #[.slice C cl.length cc] 38)) #[.slice none 0 0, .int .i64 0] 28
  simp only [World.size_alloc] at lC lR
  have hmk := makeNodesC ns.length hn
  have HR := hide hr
  have HC := hide hC
  have HK := hide hK
  have HKL := hide hkl
  have HL := hide hl
  have hri : r < (cl.length : Int) := by omega
  obtain ⟨ri, rfl⟩ := Int.eq_ofNat_of_zero_le hr0
  obtain ⟨bc, oc, x, rfl, hbc, hx, _, cx⟩ := hC.at_ (k := ri) (by omega)
  have HX := hide (look_at hx)
  have hcl9 := hC.len
  clear hr hC hK hkl hl hx
  go_enter Try.func17, Try.ntmps17
  go_upto_region 1 with fail
  generalize (((w.alloc (.cells #[.slice A ns.length c, .int .i64 (ri : Int)] 28)).alloc (.cells #[.slice (some ⟨bc, oc, none⟩) cl.length cc] 38)).alloc (.cells #[.slice none 0 0, .int .i64 0] 28)) = W at hB3 lG lC lR ⊢
  have hW := lR.lt
  have e0 := lG.cell 0
  simp only [List.getElem?_toArray, List.getElem?_cons_zero, List.getElem?_cons_succ] at e0
  have HB3 := hide hB3
  have HLG := hide lG
  have HLC := hide lC
  have HLR := hide lR
  have cxW := hide ((hB3.cell (p := ⟨bc, oc + ri, none⟩) hbc).trans cx)
  have hS0 := ClA.start W (replNs ns cl)
  rw [replNs_len] at hS0
  have HS0 := hide hS0
  clear hS0 hB3 lG lC lR cx
  go_upto_region 2 with fail
  clear hmk
  generalize hX1 : W.alloc (.cells (madeCells #[.int .i64 0, .int .i64 0, .slice none 0 0] (ns.length * 3)) 47) = X1 at HS0 ⊢
  clear hX1 e0
  have e0 := (HLG.out.below HS0.out.bel HLG.out.lt).cell 0
  simp only [List.getElem?_toArray, List.getElem?_cons_zero, List.getElem?_cons_succ] at e0
  go_wp2_with fail
  clear e0
  go_loopg [15] ns.length (fun gk iv wr => ∃ k : Nat, k ≤ ns.length ∧ gk = ns.length - k ∧ iv = .int .i64 (k : Int) ∧ ClA W wr (replNs ns cl) k)
  case atStart => exact ⟨0, Nat.zero_le _, rfl, rfl, HS0.out⟩
  case round =>
    clear HS0
    obtain ⟨k, hk, rfl, rfl, hS⟩ := hrel
    have hwW := HB3.out.size
    have hSs := hS.bel.size
    by_cases hlt : k < ns.length
    · have hBk := HB3.out.trans (hS.bel.mono hwW)
      obtain ⟨b, off, n, rfl, hbl, hn2, hm, hnd⟩ := (HR.out.below hBk).at_ hlt
      obtain ⟨A1, c1, k2, hki, hnil⟩ := hnd.kids
      have k0 := hnd.kind
      have k1 := hnd.value
      have HN := hide (replNs_at (cl := cl) hn2)
      have HKn := hide (HK.out n hm)
      have hkn := HKL.out n hm
      have HS := hide hS
      have HKI := hide hki
      have hBk2 := hide hBk
      clear hn2 hm hnd hS hki hbl hBk
      go_upto_region 5 with fail
      have hB2 : Below wr.heap.size wr (wr.alloc (.cells #[.int .i64 n.kind, .int .i64 n.value, .slice A1 n.kids.length c1] 47)) := (Below.refl _ _).alloc (Nat.le_refl _) _
      have l1 := Lies.new wr #[.int .i64 n.kind, .int .i64 n.value, .slice A1 n.kids.length c1] 47
      generalize wr.alloc (.cells #[.int .i64 n.kind, .int .i64 n.value, .slice A1 n.kids.length c1] 47) = W2 at hB2 l1 ⊢
      have e0 := l1.cell 0
      have e1 := l1.cell 1
      have e2 := l1.cell 2
      simp only [List.getElem?_toArray, List.getElem?_cons_zero, List.getElem?_cons_succ] at e0 e1 e2
      have hs2 := hB2.size
      have HBW2 := hide (HS.out.bel.trans (hB2.mono hSs))
      have HRW := hide (rewired_any 38 #[] #[.pointer (some ⟨w.heap.size + 1, 0, none⟩)] (look cl) n A1 c1 W2 ((HKI.out.more (by omega)).later hB2 (Nat.le_refl _)) hkn (fun y hy => HC.out.wf _ (look_mem (HKn.out y hy).1 (by have := (HKn.out y hy).2; have := HL.out; omega))) (fun _ _ => by kernel_rfl)
        (fun y W' hb hy => by
          have hbx := HBW2.out.trans (hb.mono (by omega))
          have q0 := (HLC.out.below hbx HLC.out.lt).cell 0
          simp only [List.getElem?_toArray, List.getElem?_cons_zero] at q0
          have h3 := HKn.out y hy
          exact replaced1_any y (w.heap.size + 1) w.heap.size _ cl cc W' q0 (HC.out.below (HB3.out.trans (hbx.mono hwW))) h3.1 (by have := h3.2; have := HL.out; omega)))
      have HB2 := hide hB2
      clear k0 k1 k2 hB2 l1 HKI hnil
      go_wp2_with fail
      refine HRW.out.mono ?_
      clear HRW
      rintro e wi ⟨Ak, ck, rfl, hown, hbi⟩
      obtain ⟨f, hf⟩ := HS.out.row.row
      have hfw : wi.rowIs W.heap.size 47 (ns.length * 3) f := by
        have := hf.of_block (w' := wi) ((HB2.out.trans (hbi.mono HB2.out.size)).block _ hf.lt)
        rwa [replNs_len] at this
      have q0 := World.rowIs.cell hfw (i := k * 3) (by omega)
      have q1 := World.rowIs.cell hfw (i := k * 3 + 1) (by omega)
      have q2 := World.rowIs.cell hfw (i := k * 3 + 2) (by omega)
      have p0 := World.rowIs.frozen hfw (k * 3)
      have p1 := World.rowIs.frozen hfw (k * 3 + 1)
      have p2 := World.rowIs.frozen hfw (k * 3 + 2)
      have hBs := HS.out.step HN.out HB2.out hbi (c := ck) (Ak := Ak) hown
      simp only [replNd, List.length_map] at hBs
      have HB := hide hBs
      have hk1 : (k : Int) < (ns.length : Int) := by omega
      clear hBs hown hbi hf hfw e0 e1 e2 HB2 HN HS
      go_wp2_with fail
      go_roundg (ns.length - (k + 1))
      case measure => omega
      case rel => exact ⟨k + 1, by omega, rfl, by go_num, HB.out⟩
    · obtain rfl : k = ns.length := by omega
      have lG1 := HLG.out.below hS.bel HLG.out.lt
      have lC1 := HLC.out.below hS.bel HLC.out.lt
      have lR1 := HLR.out.below hS.bel HLR.out.lt
      have g1 := lG1.cell 1
      have g2 := lC1.cell 0
      have cx2 := (hS.bel.cell (p := ⟨bc, oc + ri, none⟩) (by show bc < W.heap.size; omega)).trans cxW.out
      have l5 := (lR1.set 0 (.slice (some ⟨W.heap.size, 0, none⟩) ns.length ns.length)).set 1 (.int .i64 x)
      simp only [List.setIfInBounds_toArray, List.set_cons_succ, List.set_cons_zero] at l5
      have s0 := l5.cell 0
      have s1 := l5.cell 1
      have b0 := lR1.cell 0
      have b1 := lR1.cell 1
      have f0 := lR1.frozen 0
      have f1 := lR1.frozen 1
      simp only [List.getElem?_toArray, List.getElem?_cons_zero, List.getElem?_cons_succ] at s0 s1 b0 b1 g1 g2
      have hrow := hS.row
      rw [List.take_of_length_le (by rw [replNs_len]; exact Nat.le_refl _), replNs_len] at hrow
      have hG := GivesG.putQ (q := w.heap.size + 1 + 1) (r := x) (by omega) (by omega) HB3.out (Below.refl _ _) hS.bel (.inr ⟨_, rfl, hrow⟩ : OwnNs wr W.heap.size wr.heap.size (some ⟨W.heap.size, 0, none⟩) ns.length (replNs ns cl))
      rw [replNs_len] at hG
      have HG := hide hG
      have hr3 : (0 : Int) ≤ (ri : Int) := by omega
      clear lG1 lC1 lR1 l5 hrow hG hS hlt
      go_wp2_with fail
      go_wp2
      refine bodyPost_ret (v := .agg #[.slice (some ⟨W.heap.size, 0, none⟩) ns.length ns.length, .int .i64 x]) (by simp [results, Try.results17, go_sem, s0, s1]) rfl ?_
      rw [HX.out]
      exact HG.out

end Go.Proofs.Ytdgmohebnkcohab
