/-
  Lemmas, several texts in one: ClnI, ClnL, EtqM.
-/
import Derived.Test.YtpcfjdhalglebaaPjAf
import Derived.Test.YtpcfjdhalglebaaPjAb
import Derived.Test.YtpcfjdhalglebaaPjAk
import Derived.Deep.Cut
import Derived.Deep.LoopGhost
import Derived.Deep.RegionHeld
import Derived.Test.YtpcfjdhalglebaaPjAm
import Derived.Test.YtpcfjdhalglebaaPjAo
namespace Go.Proofs.Ytpcfjdhalglebaa
open Go.RowKit Go.Maps
set_option linter.unusedVariables false

set_option maxHeartbeats 1000000 in
theorem cloneI_any (A : Option Addr) (xs : List Int) (c : Nat) (w : World) (h : IntsAt w w.heap.size A xs) (hnil : A = none → c = 0) (hl : xs.length ≤ 1000000) :
    Calls Try.prog 60 #[.slice A xs.length c] w (GivesInts w xs) := by
  cases A with
  | none =>
    have hos : xs = [] := by
      cases xs with
      | nil => rfl
      | cons o os =>
        obtain ⟨b, off, e, _⟩ := h.row (by simp)
        cases e
    have hq := fun W : World => Go.Lib.run_eql_slice_nil (P := Try.prog) W 35 3 none 0 0 0 0 Try.underlying35
    subst hos
    obtain rfl := hnil rfl
    clear h hnil
    show Calls _ _ #[.slice none 0 0] _ _
    go_enter Try.func60, Try.ntmps60
    go_wp2
    go_ret
    exact ⟨none, 0, rfl, OwnI.empty _ _, Below.refl _ _⟩
  | some ad =>
    have hq := fun W : World => Go.Lib.run_eql_slice_nil (P := Try.prog) W 35 3 (some ad) xs.length c 0 0 Try.underlying35
    have HO := hide (OwnI.bare w)
    have HB := hide ((Below.refl w.heap.size w).alloc (Nat.le_refl _) (.cells #[] 3))
    have HA := hide (h.below HB.out)
    clear h
    go_enter Try.func60, Try.ntmps60
    go_wp2_with (at_builtin; refine append_ints rfl (.tmp 5) (.tmp 6) rfl w.heap.size _ 0 [] rfl HO.out w.heap.size (some ad) c xs rfl (fun e => by cases e) HA.out (by simp; omega) HB.out.size ?_; intro zs A5 c5 w5 e5 own5 hg5 _; have HG5 := hide hg5; have HO5 := hide own5; clear hg5 own5)
    go_ret
    have e6 : zs = xs := by rw [e5.out, List.nil_append]
    subst e6
    exact ⟨A5, c5, rfl, HO5.out, below_grown HB.out HG5.out HB.out.size (fun q hq => (HO.out.blocks q hq).1)⟩

set_option maxRecDepth 100000 in
set_option maxHeartbeats 1000000 in
theorem clonedNode_any (n : Nd) (A : Option Addr) (c : Nat) (w : World) (hI : IntsAt w w.heap.size A n.kids) (hnil : A = none → c = 0) (hk : n.kids.length ≤ 1000) :
    Calls Try.prog 51 #[.agg #[.int .i64 n.kind, .int .i64 n.value, .slice A n.kids.length c]] w (GivesNd w n.kind n.value n.kids) := by
  have hB : Below w.heap.size w ((w.alloc (.cells #[.int .i64 n.kind, .int .i64 n.value, .slice A n.kids.length c] 50)).alloc (.cells #[.int .i64 0, .int .i64 0, .slice none 0 0] 50)) := ((Below.refl _ _).alloc (Nat.le_refl _) _).alloc (by simp) _
  have l1 := (Lies.new w #[.int .i64 n.kind, .int .i64 n.value, .slice A n.kids.length c] 50).alloc (.cells #[.int .i64 0, .int .i64 0, .slice none 0 0] 50)
  have l2 := Lies.new (w.alloc (.cells #[.int .i64 n.kind, .int .i64 n.value, .slice A n.kids.length c] 50)) #[.int .i64 0, .int .i64 0, .slice none 0 0] 50
  simp only [World.size_alloc] at l2
  have HI := hide (hI.later hB (Nat.le_refl _))
  clear hI
  go_enter Try.func51, Try.ntmps51
  go_upto_region 1 with fail
  generalize (w.alloc (.cells #[.int .i64 n.kind, .int .i64 n.value, .slice A n.kids.length c] 50)).alloc (.cells #[.int .i64 0, .int .i64 0, .slice none 0 0] 50) = W at hB l1 l2 HI ⊢
  have HL1 := hide l1
  have HL2 := hide l2
  have HB := hide hB
  have hq1 : w.heap.size < W.heap.size := l1.lt
  have hq2 : w.heap.size + 1 < W.heap.size := l2.lt
  have e0 := l1.cell 0
  have e1 := l1.cell 1
  have e2 := l1.cell 2
  simp only [List.getElem?_toArray, List.getElem?_cons_zero, List.getElem?_cons_succ] at e0 e1 e2
  have hS0 : W.cell? ⟨w.heap.size, 0, none⟩ = some (.int .i64 n.kind) ∧ W.cell? ⟨w.heap.size, 1, none⟩ = some (.int .i64 n.value) ∧ W.cell? ⟨w.heap.size, 2, none⟩ = some (.slice A n.kids.length c) := ⟨e0, e1, e2⟩
  have hxq : w.heap.size + 1 ≠ w.heap.size := by omega
  clear l1 l2 hB e0 e1 e2
  refine wp_region_held_drew (S := fun w' => w'.cell? ⟨w.heap.size, 0, none⟩ = some (.int .i64 n.kind) ∧ w'.cell? ⟨w.heap.size, 1, none⟩ = some (.int .i64 n.value) ∧ w'.cell? ⟨w.heap.size, 2, none⟩ = some (.slice A n.kids.length c)) (by kernel_rfl) hS0 (fun hHeld => ?_)
  refine wpAnyH_take (i := 0) (oi := { dst := some 3, op := _, type := _, pos := _, after := _, guard := _ }) (v := ?_) rfl (by kernel_rfl) (by kernel_rfl) (by kernel_rfl) (fun _ _ _ h => h) (Or.inl ⟨by rfl, ?_⟩) (by assumption) ?_
  rotate_left
  · (intro w hSw; (try dsimp only at hSw); obtain ⟨u0, u1, u2⟩ := hSw; go_simp; try with_reducible rfl)
  try simp only [Act.put, List.setIfInBounds_toArray, List.set_cons_zero, List.set_cons_succ]
  refine wpAnyH_take (i := 1) (oi := { dst := some 4, op := _, type := _, pos := _, after := _, guard := _ }) (v := ?_) rfl (by kernel_rfl) (by kernel_rfl) (by kernel_rfl) (fun _ _ _ h => h) (Or.inl ⟨by rfl, ?_⟩) (by assumption) ?_
  rotate_left
  · (intro w hSw; (try dsimp only at hSw); obtain ⟨u0, u1, u2⟩ := hSw; go_simp; try with_reducible rfl)
  try simp only [Act.put, List.setIfInBounds_toArray, List.set_cons_zero, List.set_cons_succ]
  refine wpAnyH_take (i := 2) (oi := { dst := some 5, op := _, type := _, pos := _, after := _, guard := _ }) (v := ?_) rfl (by kernel_rfl) (by kernel_rfl) (by kernel_rfl) (fun _ _ _ h => h) (Or.inl ⟨by rfl, ?_⟩) (by assumption) ?_
  rotate_left
  · (intro w hSw; (try dsimp only at hSw); obtain ⟨u0, u1, u2⟩ := hSw; go_simp; try with_reducible rfl)
  try simp only [Act.put, List.setIfInBounds_toArray, List.set_cons_zero, List.set_cons_succ]
  refine wpAnyH_take (i := 3) (oi := { dst := some 6, op := _, type := _, pos := _, after := _, guard := _ }) (v := ?_) rfl (by kernel_rfl) (by kernel_rfl) (by kernel_rfl) (fun _ _ _ h => h) (Or.inl ⟨by rfl, ?_⟩) (by assumption) ?_
  rotate_left
  · (intro w hSw; (try dsimp only at hSw); obtain ⟨u0, u1, u2⟩ := hSw; go_simp; try with_reducible rfl)
  try simp only [Act.put, List.setIfInBounds_toArray, List.set_cons_zero, List.set_cons_succ]
  refine wpAnyH_take (i := 4) (oi := { dst := some 7, op := _, type := _, pos := _, after := _, guard := _ }) (v := ?_) rfl (by kernel_rfl) (by kernel_rfl) (by kernel_rfl) (fun _ _ _ h => h) (Or.inl ⟨by rfl, ?_⟩) (by assumption) ?_
  rotate_left
  · (intro w hSw; (try dsimp only at hSw); obtain ⟨u0, u1, u2⟩ := hSw; go_simp; try with_reducible rfl)
  try simp only [Act.put, List.setIfInBounds_toArray, List.set_cons_zero, List.set_cons_succ]
  refine wpAnyH_take (i := 5) (oi := { dst := some 8, op := _, type := _, pos := _, after := _, guard := _ }) (v := ?_) rfl (by kernel_rfl) (by kernel_rfl) (by kernel_rfl) (fun _ _ _ h => h) (Or.inl ⟨by rfl, ?_⟩) (by assumption) ?_
  rotate_left
  · (intro w hSw; (try dsimp only at hSw); obtain ⟨u0, u1, u2⟩ := hSw; go_simp; try with_reducible rfl)
  try simp only [Act.put, List.setIfInBounds_toArray, List.set_cons_zero, List.set_cons_succ]
  refine wpAnyH_ready (rs := [6]) (by kernel_rfl) (by simp) ?_
  refine AllReadyH.cons (o := { dst := some 9, op := _, type := _, pos := _, after := _, guard := _ }) rfl (fun K hK => ?_) AllReadyH.nil
  go_simp
  go_at_call 60
  refine (cloneI_any A n.kids c _ (HI.out.later (Below.refl _ _).drew (Nat.le_refl _)) hnil (by omega)).mono ?_
  rintro e w5 ⟨Ac, cc, rfl, hoc, hb5⟩
  have hbw : Below W.heap.size W w5 := (Below.refl _ _).drew.trans (hb5.mono (by simp))
  have q0 : w5.cell? ⟨w.heap.size, 0, none⟩ = some (.int .i64 n.kind) ∧ w5.cell? ⟨w.heap.size, 1, none⟩ = some (.int .i64 n.value) ∧ w5.cell? ⟨w.heap.size, 2, none⟩ = some (.slice A n.kids.length c) := ⟨(hbw.cell (p := ⟨w.heap.size, 0, none⟩) hq1).trans hS0.1, (hbw.cell (p := ⟨w.heap.size, 1, none⟩) hq1).trans hS0.2.1, (hbw.cell (p := ⟨w.heap.size, 2, none⟩) hq1).trans hS0.2.2⟩
  have l4 := Lies.below HL2.out hbw hq2
  have l5 := ((l4.set 0 (.int .i64 n.kind)).set 1 (.int .i64 n.value)).set 2 (.slice Ac n.kids.length cc)
  simp only [List.setIfInBounds_toArray, List.set_cons_succ, List.set_cons_zero] at l5
  have s0 := l5.cell 0
  have s1 := l5.cell 1
  have s2 := l5.cell 2
  have p0 := l4.cell 0
  have p1 := l4.cell 1
  have p2 := l4.cell 2
  have f0 := l4.frozen 0
  have f1 := l4.frozen 1
  have f2 := l4.frozen 2
  simp only [List.getElem?_toArray, List.getElem?_cons_zero, List.getElem?_cons_succ] at s0 s1 s2 p0 p1 p2
  clear l4 l5
  refine hK.out _ _ q0 (fun hH => ?_)
  clear hK K hHeld
  have hHeld := hH
  clear hH
  try simp only [Act.put, List.setIfInBounds_toArray, List.set_cons_zero, List.set_cons_succ]
  refine wpAnyH_take (i := 7) (oi := { dst := some 10, op := _, type := _, pos := _, after := _, guard := _ }) (v := ?_) rfl (by kernel_rfl) (by kernel_rfl) (by kernel_rfl) (fun _ _ _ h => h) (Or.inl ⟨by rfl, ?_⟩) (by assumption) ?_
  rotate_left
  · (intro w hSw; (try dsimp only at hSw); obtain ⟨u0, u1, u2⟩ := hSw; go_simp; try with_reducible rfl)
  try simp only [Act.put, List.setIfInBounds_toArray, List.set_cons_zero, List.set_cons_succ]
  refine wpAnyH_ready (rs := [8]) (by kernel_rfl) (by simp) ?_
  refine AllReadyH.cons (o := { dst := none, op := _, type := _, pos := _, after := _, guard := _ }) rfl (fun K hK => ?_) AllReadyH.nil
  go_simp
  refine hK.out _ _ ⟨((World.cell?_setCell_far _ _ _ _ hxq).trans ((World.cell?_setCell_far _ _ _ _ hxq).trans ((World.cell?_setCell_far _ _ _ _ hxq).trans hHeld.1))), ((World.cell?_setCell_far _ _ _ _ hxq).trans ((World.cell?_setCell_far _ _ _ _ hxq).trans ((World.cell?_setCell_far _ _ _ _ hxq).trans hHeld.2.1))), ((World.cell?_setCell_far _ _ _ _ hxq).trans ((World.cell?_setCell_far _ _ _ _ hxq).trans ((World.cell?_setCell_far _ _ _ _ hxq).trans hHeld.2.2)))⟩ (fun hH => ?_)
  clear hK K hHeld
  have hHeld := hH
  clear hH
  try simp only [Act.put, List.setIfInBounds_toArray, List.set_cons_zero, List.set_cons_succ]
  refine wpAnyH_done (by kernel_rfl) ?_ _
  have HO := hide (hoc.of_blk (w' := ((w5.setCell ⟨w.heap.size + 1, 0, none⟩ (.int .i64 n.kind)).setCell ⟨w.heap.size + 1, 1, none⟩ (.int .i64 n.value)).setCell ⟨w.heap.size + 1, 2, none⟩ (.slice Ac n.kids.length cc)) (fun b hb => by
    have := (hoc.blocks b hb).1
    simp at this
    rw [Below.heap_setCell _ _ _ _ (by show b ≠ w.heap.size + 1; omega), Below.heap_setCell _ _ _ _ (by show b ≠ w.heap.size + 1; omega), Below.heap_setCell _ _ _ _ (by show b ≠ w.heap.size + 1; omega)]))
  have HBf := hide ((((HB.out.trans (hbw.mono HB.out.size)).setCell (p := ⟨w.heap.size + 1, 0, none⟩) (by show w.heap.size ≤ w.heap.size + 1; omega) (.int .i64 n.kind)).setCell (p := ⟨w.heap.size + 1, 1, none⟩) (by show w.heap.size ≤ w.heap.size + 1; omega) (.int .i64 n.value)).setCell (p := ⟨w.heap.size + 1, 2, none⟩) (by show w.heap.size ≤ w.heap.size + 1; omega) (.slice Ac n.kids.length cc))
  clear hbw hb5 hoc q0 hS0 p0 p1 p2 f0 f1 f2
  go_wp2
  refine bodyPost_ret (v := .agg #[.int .i64 n.kind, .int .i64 n.value, .slice Ac n.kids.length cc]) (by simp [results, Try.results51, go_sem, s0, s1, s2]) rfl ?_
  exact ⟨Ac, cc, rfl, HO.out.mono (by simp; omega), HBf.out⟩

end Go.Proofs.Ytpcfjdhalglebaa

namespace Go.Proofs.Ytpcfjdhalglebaa
open Go.RowKit Go.Maps
set_option linter.unusedVariables false

set_option maxHeartbeats 1000000 in
theorem clonedNodes_any (A : Option Addr) (ns : List Nd) (c : Nat) (w : World) (hr : NdsAt w w.heap.size A ns) (hl : ns.length ≤ 1000) (hk : ∀ n ∈ ns, n.kids.length ≤ 1000) :
    Calls Try.prog 31 #[.slice A ns.length c] w (GivesNs w ns) := by
  have hmk := makeNodesC ns.length hl
  have HR := hide hr
  have HS0 := hide (ClA.start w ns)
  have HK := hide hk
  clear hr hk
  go_enter Try.func31, Try.ntmps31
  go_wp2_with fail
  clear hmk
  generalize hX1 : w.alloc (.cells (madeCells #[.int .i64 0, .int .i64 0, .slice none 0 0] (ns.length * 3)) 50) = X1 at HS0 ⊢
  clear hX1
  go_loopg [11] ns.length (fun gk iv wr => ∃ k : Nat, k ≤ ns.length ∧ gk = ns.length - k ∧ iv = .int .i64 (k : Int) ∧ ClA w wr ns k)
  case atStart => exact ⟨0, Nat.zero_le _, rfl, rfl, HS0.out⟩
  case round =>
    clear HS0
    obtain ⟨k, hk, rfl, rfl, hS⟩ := hrel
    by_cases hlt : k < ns.length
    · obtain ⟨b, off, n, rfl, hbl, hn, hm, hnd⟩ := (HR.out.below hS.bel).at_ hlt
      obtain ⟨A1, c1, k2, hki, hnil⟩ := hnd.kids
      have k0 := hnd.kind
      have k1 := hnd.value
      have HN := hide hn
      have HM := hide (HK.out n hm)
      have HS := hide hS
      have HKI := hide hki
      clear hn hm hnd hS hki hbl
      go_upto_region 5 with fail
      have hB2 : Below wr.heap.size wr (wr.alloc (.cells #[.int .i64 n.kind, .int .i64 n.value, .slice A1 n.kids.length c1] 50)) := (Below.refl _ _).alloc (Nat.le_refl _) _
      have l1 := Lies.new wr #[.int .i64 n.kind, .int .i64 n.value, .slice A1 n.kids.length c1] 50
      generalize wr.alloc (.cells #[.int .i64 n.kind, .int .i64 n.value, .slice A1 n.kids.length c1] 50) = W2 at hB2 l1 ⊢
      have e0 := l1.cell 0
      have e1 := l1.cell 1
      have e2 := l1.cell 2
      simp only [List.getElem?_toArray, List.getElem?_cons_zero, List.getElem?_cons_succ] at e0 e1 e2
      have hwr := HS.out.bel.size
      have HC := hide (clonedNode_any n A1 c1 W2 ((HKI.out.later (Below.refl _ _) hwr).later hB2 (Nat.le_refl _)) hnil HM.out)
      have HB2 := hide hB2
      clear k0 k1 k2 hB2 l1 HKI hnil
      go_wp2_with fail
      refine HC.out.mono ?_
      clear HC
      rintro e wi ⟨Ak, ck, rfl, hown, hbi⟩
      obtain ⟨f, hf⟩ := HS.out.row.row
      have hfw : wi.rowIs w.heap.size 50 (ns.length * 3) f := hf.of_block ((HB2.out.trans (hbi.mono HB2.out.size)).block _ hf.lt)
      have q0 := World.rowIs.cell hfw (i := k * 3) (by omega)
      have q1 := World.rowIs.cell hfw (i := k * 3 + 1) (by omega)
      have q2 := World.rowIs.cell hfw (i := k * 3 + 2) (by omega)
      have p0 := World.rowIs.frozen hfw (k * 3)
      have p1 := World.rowIs.frozen hfw (k * 3 + 1)
      have p2 := World.rowIs.frozen hfw (k * 3 + 2)
      have HB := hide (HS.out.step HN.out HB2.out hbi hown)
      have hk1 : (k : Int) < (ns.length : Int) := by omega
      clear hown hbi hf hfw e0 e1 e2 HB2 HN HM HS
      go_wp2_with fail
      go_roundg (ns.length - (k + 1))
      case measure => omega
      case rel => exact ⟨k + 1, by omega, rfl, by go_num, HB.out⟩
    · obtain rfl : k = ns.length := by omega
      have HS := hide hS
      clear hS hlt
      go_wp2
      have hrow := HS.out.row
      rw [List.take_length] at hrow
      refine bodyPost_ret (v := .slice (some ⟨w.heap.size, 0, none⟩) ns.length ns.length) (by simp [results, Try.results31, go_sem]) rfl ?_
      exact ⟨_, rfl, hrow, HS.out.bel⟩

end Go.Proofs.Ytpcfjdhalglebaa

namespace Go.Proofs.Ytpcfjdhalglebaa
open Go.RowKit
set_option linter.unusedVariables false

theorem eqTo_less {ns ms : List Nd} {r s d : Int} (h : EqToG ns r ms s d) (hd : d ≠ 0) : EqToG ns r ms s (d - 1) := by
  obtain ⟨hv, hw, h0, h8, _⟩ := id h
  obtain ⟨k, rfl⟩ := Int.eq_ofNat_of_zero_le h0
  obtain ⟨j, rfl⟩ : ∃ j, k = j + 1 := ⟨k - 1, by omega⟩
  have h1 := (eqTo_iff hv hw (by omega)).1 h
  have h2 := (eqTo_iff (d := j) hv hw (by omega)).2 h1.less
  rw [show ((j + 1 : Nat) : Int) - 1 = (j : Int) by omega]
  exact h2

theorem eqTo_symm {ns ms : List Nd} {r s d : Int} (h : EqToG ns r ms s d) : EqToG ms s ns r d := by
  obtain ⟨hv, hw, h0, h8, _⟩ := id h
  obtain ⟨k, rfl⟩ := Int.eq_ofNat_of_zero_le h0
  exact (eqTo_iff hw hv (by omega)).2 ((eqTo_iff hv hw (by omega)).1 h).symm

theorem eqTo_self {ns ms : List Nd} {r s d : Int} (h : EqToG ns r ms s d) : EqToG ns r ns r d := by
  obtain ⟨hv, hw, h0, h8, _⟩ := id h
  obtain ⟨k, rfl⟩ := Int.eq_ofNat_of_zero_le h0
  exact (eqTo_iff hv hv (by omega)).2 (Eqq.refl (validG_kids hv) k r hv.root0 hv.root)

theorem deep_to {ns ms : List Nd} {r s d : Int} (h : EqDeepG ns r ms s) (h0 : 0 ≤ d) (h8 : d ≤ 8) : EqToG ns r ms s d := by
  obtain ⟨hv, hw, _⟩ := id h
  obtain ⟨k, rfl⟩ := Int.eq_ofNat_of_zero_le h0
  exact (eqTo_iff hv hw (by omega)).2 ((eqDeep_iff hv hw).1 h k)

theorem joinNs_lenE (ns ms : List Nd) : (joinNs ns ms).length = ns.length + ms.length := by simp [joinNs]

theorem small_deep {ns ms : List Nd} {r s : Int} (hv : ValidG ns r) (hw : ValidG ms s) (h1 : ns.length ≤ 4) (h2 : ms.length ≤ 4) : EqToG ns r ms s 8 ↔ EqDeepG ns r ms s := by
  constructor
  · intro h
    have h3 := (eqTo_iff (d := 8) hv hw (by omega)).1 h
    have hl := joinNs_lenE ns ms
    have h4 := h3.down (e := (joinNs ns ms).length) (by omega)
    exact ⟨hv, hw, (eqN_iff (validG_kids hv) (validG_kids hw) _ r s hv.root0 hv.root hw.root0 hw.root).2 h4⟩
  · intro h
    exact deep_to h (by omega) (by omega)

/-- the memory of a law on two graphs -/
structure TwoL (w X : World) (b3 b4 : Nat) (A1 : Option Addr) (c1 : Nat) (ms : List Nd) (r1 : Int) (A2 : Option Addr) (c2 : Nat) (ns : List Nd) (r2 : Int) : Prop where
  bel : Below w.heap.size w X
  l3 : Lies X b3 #[.slice A1 ms.length c1, .int .i64 r1] 25
  l4 : Lies X b4 #[.slice A2 ns.length c2, .int .i64 r2] 25
  na : NdsAt X X.heap.size A1 ms
  nb : NdsAt X X.heap.size A2 ns

theorem TwoL.below {w X Y : World} {b3 b4 : Nat} {A1 : Option Addr} {c1 : Nat} {ms : List Nd} {r1 : Int} {A2 : Option Addr} {c2 : Nat} {ns : List Nd} {r2 : Int} (h : TwoL w X b3 b4 A1 c1 ms r1 A2 c2 ns r2) (hb : Below X.heap.size X Y) : TwoL w Y b3 b4 A1 c1 ms r1 A2 c2 ns r2 :=
  ⟨h.bel.trans (hb.mono h.bel.size), h.l3.below hb h.l3.lt, h.l4.below hb h.l4.lt, h.na.later hb (Nat.le_refl _), h.nb.later hb (Nat.le_refl _)⟩

theorem TwoL.cells {w X : World} {b3 b4 : Nat} {A1 : Option Addr} {c1 : Nat} {ms : List Nd} {r1 : Int} {A2 : Option Addr} {c2 : Nat} {ns : List Nd} {r2 : Int} (h : TwoL w X b3 b4 A1 c1 ms r1 A2 c2 ns r2) : X.cell? ⟨b3, 0, none⟩ = some (.slice A1 ms.length c1) ∧ X.cell? ⟨b3, 1, none⟩ = some (.int .i64 r1) ∧ X.cell? ⟨b4, 0, none⟩ = some (.slice A2 ns.length c2) ∧ X.cell? ⟨b4, 1, none⟩ = some (.int .i64 r2) := by
  have a2 := h.l3.cell 0
  have a3 := h.l3.cell 1
  have a4 := h.l4.cell 0
  have a5 := h.l4.cell 1
  simp only [List.getElem?_toArray, List.getElem?_cons_zero, List.getElem?_cons_succ] at a2 a3 a4 a5
  exact ⟨a2, a3, a4, a5⟩

end Go.Proofs.Ytpcfjdhalglebaa
