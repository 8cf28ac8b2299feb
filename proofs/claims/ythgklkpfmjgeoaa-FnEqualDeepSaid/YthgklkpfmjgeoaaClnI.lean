/-
  The program's clonedNode and clonedNodes, and slices.Clone of ints: what they return.
-/
import Derived.Test.YthgklkpfmjgeoaaPjAe
import Derived.Test.YthgklkpfmjgeoaaPjAo
import Derived.Test.YthgklkpfmjgeoaaPjAi
import Derived.Deep.Cut
import Derived.Deep.LoopGhost
import Derived.Deep.RegionHeld
namespace Go.Proofs.Ythgklkpfmjgeoaa
open Go.RowKit Go.Maps
set_option linter.unusedVariables false

set_option maxHeartbeats 1000000 in
theorem cloneI_any (A : Option Addr) (xs : List Int) (c : Nat) (w : World) (h : IntsAt w w.heap.size A xs) (hnil : A = none → c = 0) (hl : xs.length ≤ 1000000) :
    Calls Try.prog 75 #[.slice A xs.length c] w (GivesInts w xs) := by
  cases A with
  | none =>
    have hos : xs = [] := by
      cases xs with
      | nil => rfl
      | cons o os =>
        obtain ⟨b, off, e, _⟩ := h.row (by simp)
        cases e
    have hq := fun W : World => Go.Lib.run_eql_slice_nil (P := Try.prog) W 35 3 none 0 0 0 0 Try.underlying35
    subst hos
    obtain rfl := hnil rfl
    clear h hnil
    show Calls _ _ #[.slice none 0 0] _ _
    go_enter Try.func75, Try.ntmps75
    go_wp2
    go_ret
    exact ⟨none, 0, rfl, OwnI.empty _ _, Below.refl _ _⟩
  | some ad =>
    have hq := fun W : World => Go.Lib.run_eql_slice_nil (P := Try.prog) W 35 3 (some ad) xs.length c 0 0 Try.underlying35
    have HO := hide (OwnI.bare w)
    have HB := hide ((Below.refl w.heap.size w).alloc (Nat.le_refl _) (.cells #[] 3))
    have HA := hide (h.below HB.out)
    clear h
    go_enter Try.func75, Try.ntmps75
    go_wp2_with (at_builtin; refine append_ints rfl (.tmp 5) (.tmp 6) rfl w.heap.size _ 0 [] rfl HO.out w.heap.size (some ad) c xs rfl (fun e => by cases e) HA.out (by simp; omega) HB.out.size ?_; intro zs A5 c5 w5 e5 own5 hg5 _; have HG5 := hide hg5; have HO5 := hide own5; clear hg5 own5)
    go_ret
    have e6 : zs = xs := by rw [e5.out, List.nil_append]
    subst e6
    exact ⟨A5, c5, rfl, HO5.out, below_grown HB.out HG5.out HB.out.size (fun q hq => (HO.out.blocks q hq).1)⟩

set_option maxRecDepth 100000 in
set_option maxHeartbeats 1000000 in
theorem clonedNode_any (n : Nd) (A : Option Addr) (c : Nat) (w : World) (hI : IntsAt w w.heap.size A n.kids) (hnil : A = none → c = 0) (hk : n.kids.length ≤ 1000) :
    Calls Try.prog 60 #[.agg #[.int .i64 n.kind, .int .i64 n.value, .slice A n.kids.length c]] w (GivesNd w n.kind n.value n.kids) := by
  have hB : Below w.heap.size w ((w.alloc (.cells #[.int .i64 n.kind, .int .i64 n.value, .slice A n.kids.length c] 43)).alloc (.cells #[.int .i64 0, .int .i64 0, .slice none 0 0] 43)) := ((Below.refl _ _).alloc (Nat.le_refl _) _).alloc (by simp) _
  have l1 := (Lies.new w #[.int .i64 n.kind, .int .i64 n.value, .slice A n.kids.length c] 43).alloc (.cells #[.int .i64 0, .int .i64 0, .slice none 0 0] 43)
  have l2 := Lies.new (w.alloc (.cells #[.int .i64 n.kind, .int .i64 n.value, .slice A n.kids.length c] 43)) #[.int .i64 0, .int .i64 0, .slice none 0 0] 43
  simp only [World.size_alloc] at l2
  have HI := hide (hI.later hB (Nat.le_refl _))
  clear hI
  go_enter Try.func60, Try.ntmps60
  go_upto_region 1 with fail
  generalize (w.alloc (.cells #[.int .i64 n.kind, .int .i64 n.value, .slice A n.kids.length c] 43)).alloc (.cells #[.int .i64 0, .int .i64 0, .slice none 0 0] 43) = W at hB l1 l2 HI ⊢
  have HL1 := hide l1
  have HL2 := hide l2
  have HB := hide hB
  have hq1 : w.heap.size < W.heap.size := l1.lt
  have hq2 : w.heap.size + 1 < W.heap.size := l2.lt
  have e0 := l1.cell 0
  have e1 := l1.cell 1
  have e2 := l1.cell 2
  simp only [List.getElem?_toArray, List.getElem?_cons_zero, List.getElem?_cons_succ] at e0 e1 e2
  have hS0 : W.cell? ⟨w.heap.size, 0, none⟩ = some (.int .i64 n.kind) ∧ W.cell? ⟨w.heap.size, 1, none⟩ = some (.int .i64 n.value) ∧ W.cell? ⟨w.heap.size, 2, none⟩ = some (.slice A n.kids.length c) := ⟨e0, e1, e2⟩
  have hxq : w.heap.size + 1 ≠ w.heap.size := by omega
  clear l1 l2 hB e0 e1 e2
  refine wp_region_held_drew (S := fun w' => w'.cell? ⟨w.heap.size, 0, none⟩ = some (.int .i64 n.kind) ∧ w'.cell? ⟨w.heap.size, 1, none⟩ = some (.int .i64 n.value) ∧ w'.cell? ⟨w.heap.size, 2, none⟩ = some (.slice A n.kids.length c)) (by kernel_rfl) hS0 (fun hHeld => ?_)
  refine wpAnyH_take (i := 0) (oi := { dst := some 3, op := _, type := _, pos := _, after := _, guard := _ }) (v := ?_) rfl (by kernel_rfl) (by kernel_rfl) (by kernel_rfl) (fun _ _ _ h => h) (Or.inl ⟨by rfl, ?_⟩) (by assumption) ?_
  rotate_left
  · (intro w hSw; (try dsimp only at hSw); obtain ⟨u0, u1, u2⟩ := hSw; go_simp; try with_reducible rfl)
  try simp only [Act.put, List.setIfInBounds_toArray, List.set_cons_zero, List.set_cons_succ]
  refine wpAnyH_take (i := 1) (oi := { dst := some 4, op := _, type := _, pos := _, after := _, guard := _ }) (v := ?_) rfl (by kernel_rfl) (by kernel_rfl) (by kernel_rfl) (fun _ _ _ h => h) (Or.inl ⟨by rfl, ?_⟩) (by assumption) ?_
  rotate_left
  · (intro w hSw; (try dsimp only at hSw); obtain ⟨u0, u1, u2⟩ := hSw; go_simp; try with_reducible rfl)
  try simp only [Act.put, List.setIfInBounds_toArray, List.set_cons_zero, List.set_cons_succ]
  refine wpAnyH_take (i := 2) (oi := { dst := some 5, op := _, type := _, pos := _, after := _, guard := _ }) (v := ?_) rfl (by kernel_rfl) (by kernel_rfl) (by kernel_rfl) (fun _ _ _ h => h) (Or.inl ⟨by rfl, ?_⟩) (by assumption) ?_
  rotate_left
  · (intro w hSw; (try dsimp only at hSw); obtain ⟨u0, u1, u2⟩ := hSw; go_simp; try with_reducible rfl)
  try simp only [Act.put, List.setIfInBounds_toArray, List.set_cons_zero, List.set_cons_succ]
  refine wpAnyH_take (i := 3) (oi := { dst := some 6, op := _, type := _, pos := _, after := _, guard := _ }) (v := ?_) rfl (by kernel_rfl) (by kernel_rfl) (by kernel_rfl) (fun _ _ _ h => h) (Or.inl ⟨by rfl, ?_⟩) (by assumption) ?_
  rotate_left
  · (intro w hSw; (try dsimp only at hSw); obtain ⟨u0, u1, u2⟩ := hSw; go_simp; try with_reducible rfl)
  try simp only [Act.put, List.setIfInBounds_toArray, List.set_cons_zero, List.set_cons_succ]
  refine wpAnyH_take (i := 4) (oi := { dst := some 7, op := _, type := _, pos := _, after := _, guard := _ }) (v := ?_) rfl (by kernel_rfl) (by kernel_rfl) (by kernel_rfl) (fun _ _ _ h => h) (Or.inl ⟨by rfl, ?_⟩) (by assumption) ?_
  rotate_left
  · (intro w hSw; (try dsimp only at hSw); obtain ⟨u0, u1, u2⟩ := hSw; go_simp; try with_reducible rfl)
  try simp only [Act.put, List.setIfInBounds_toArray, List.set_cons_zero, List.set_cons_succ]
  refine wpAnyH_take (i := 5) (oi := { dst := some 8, op := _, type := _, pos := _, after := _, guard := _ }) (v := ?_) rfl (by kernel_rfl) (by kernel_rfl) (by kernel_rfl) (fun _ _ _ h => h) (Or.inl ⟨by rfl, ?_⟩) (by assumption) ?_
  rotate_left
  · (intro w hSw; (try dsimp only at hSw); obtain ⟨u0, u1, u2⟩ := hSw; go_simp; try with_reducible rfl)
  try simp only [Act.put, List.setIfInBounds_toArray, List.set_cons_zero, List.set_cons_succ]
  refine wpAnyH_ready (rs := [6]) (by kernel_rfl) (by simp) ?_
  refine AllReadyH.cons (o := { dst := some 9, op := _, type := _, pos := _, after := _, guard := _ }) rfl (fun K hK => ?_) AllReadyH.nil
  go_simp
  go_at_call 75
  refine (cloneI_any A n.kids c _ (HI.out.later (Below.refl _ _).drew (Nat.le_refl _)) hnil (by omega)).mono ?_
  rintro e w5 ⟨Ac, cc, rfl, hoc, hb5⟩
  have hbw : Below W.heap.size W w5 := (Below.refl _ _).drew.trans (hb5.mono (by simp))
  have q0 : w5.cell? ⟨w.heap.size, 0, none⟩ = some (.int .i64 n.kind) ∧ w5.cell? ⟨w.heap.size, 1, none⟩ = some (.int .i64 n.value) ∧ w5.cell? ⟨w.heap.size, 2, none⟩ = some (.slice A n.kids.length c) := ⟨(hbw.cell (p := ⟨w.heap.size, 0, none⟩) hq1).trans hS0.1, (hbw.cell (p := ⟨w.heap.size, 1, none⟩) hq1).trans hS0.2.1, (hbw.cell (p := ⟨w.heap.size, 2, none⟩) hq1).trans hS0.2.2⟩
  have l4 := Lies.below HL2.out hbw hq2
  have l5 := ((l4.set 0 (.int .i64 n.kind)).set 1 (.int .i64 n.value)).set 2 (.slice Ac n.kids.length cc)
  simp only [List.setIfInBounds_toArray, List.set_cons_succ, List.set_cons_zero] at l5
  have s0 := l5.cell 0
  have s1 := l5.cell 1
  have s2 := l5.cell 2
  have p0 := l4.cell 0
  have p1 := l4.cell 1
  have p2 := l4.cell 2
  have f0 := l4.frozen 0
  have f1 := l4.frozen 1
  have f2 := l4.frozen 2
  simp only [List.getElem?_toArray, List.getElem?_cons_zero, List.getElem?_cons_succ] at s0 s1 s2 p0 p1 p2
  clear l4 l5
  refine hK.out _ _ q0 (fun hH => ?_)
  clear hK K hHeld
  have hHeld := hH
  clear hH
  try simp only [Act.put, List.setIfInBounds_toArray, List.set_cons_zero, List.set_cons_succ]
  refine wpAnyH_take (i := 7) (oi := { dst := some 10, op := _, type := _, pos := _, after := _, guard := _ }) (v := ?_) rfl (by kernel_rfl) (by kernel_rfl) (by kernel_rfl) (fun _ _ _ h => h) (Or.inl ⟨by rfl, ?_⟩) (by assumption) ?_
  rotate_left
  · (intro w hSw; (try dsimp only at hSw); obtain ⟨u0, u1, u2⟩ := hSw; go_simp; try with_reducible rfl)
  try simp only [Act.put, List.setIfInBounds_toArray, List.set_cons_zero, List.set_cons_succ]
  refine wpAnyH_ready (rs := [8]) (by kernel_rfl) (by simp) ?_
  refine AllReadyH.cons (o := { dst := none, op := _, type := _, pos := _, after := _, guard := _ }) rfl (fun K hK => ?_) AllReadyH.nil
  go_simp
  refine hK.out _ _ ⟨((World.cell?_setCell_far _ _ _ _ hxq).trans ((World.cell?_setCell_far _ _ _ _ hxq).trans ((World.cell?_setCell_far _ _ _ _ hxq).trans hHeld.1))), ((World.cell?_setCell_far _ _ _ _ hxq).trans ((World.cell?_setCell_far _ _ _ _ hxq).trans ((World.cell?_setCell_far _ _ _ _ hxq).trans hHeld.2.1))), ((World.cell?_setCell_far _ _ _ _ hxq).trans ((World.cell?_setCell_far _ _ _ _ hxq).trans ((World.cell?_setCell_far _ _ _ _ hxq).trans hHeld.2.2)))⟩ (fun hH => ?_)
  clear hK K hHeld
  have hHeld := hH
  clear hH
  try simp only [Act.put, List.setIfInBounds_toArray, List.set_cons_zero, List.set_cons_succ]
  refine wpAnyH_done (by kernel_rfl) ?_ _
  have HO := hide (hoc.of_blk (w' := ((w5.setCell ⟨w.heap.size + 1, 0, none⟩ (.int .i64 n.kind)).setCell ⟨w.heap.size + 1, 1, none⟩ (.int .i64 n.value)).setCell ⟨w.heap.size + 1, 2, none⟩ (.slice Ac n.kids.length cc)) (fun b hb => by
    have := (hoc.blocks b hb).1
    simp at this
    rw [Below.heap_setCell _ _ _ _ (by show b ≠ w.heap.size + 1; omega), Below.heap_setCell _ _ _ _ (by show b ≠ w.heap.size + 1; omega), Below.heap_setCell _ _ _ _ (by show b ≠ w.heap.size + 1; omega)]))
  have HBf := hide ((((HB.out.trans (hbw.mono HB.out.size)).setCell (p := ⟨w.heap.size + 1, 0, none⟩) (by show w.heap.size ≤ w.heap.size + 1; omega) (.int .i64 n.kind)).setCell (p := ⟨w.heap.size + 1, 1, none⟩) (by show w.heap.size ≤ w.heap.size + 1; omega) (.int .i64 n.value)).setCell (p := ⟨w.heap.size + 1, 2, none⟩) (by show w.heap.size ≤ w.heap.size + 1; omega) (.slice Ac n.kids.length cc))
  clear hbw hb5 hoc q0 hS0 p0 p1 p2 f0 f1 f2
  go_wp2
  refine bodyPost_ret (v := .agg #[.int .i64 n.kind, .int .i64 n.value, .slice Ac n.kids.length cc]) (by simp [results, Try.results60, go_sem, s0, s1, s2]) rfl ?_
  exact ⟨Ac, cc, rfl, HO.out.mono (by simp; omega), HBf.out⟩

end Go.Proofs.Ythgklkpfmjgeoaa
