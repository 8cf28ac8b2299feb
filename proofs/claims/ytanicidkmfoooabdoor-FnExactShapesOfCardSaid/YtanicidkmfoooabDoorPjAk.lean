/-
  Lemmas, several texts in one: ChkC, ChkD.
-/
import Derived.Test.YtanicidkmfoooabDoorPjAj
import Derived.Deep.RegionHeld3
import Derived.StillTailTactics
import Derived.Laws.Bits64
namespace Go.Proofs.YtanicidkmfoooabDoor
open Go.RowKit
set_option linter.unusedVariables false

/-- three numbers come back -/
def GivesV (w : World) (v0 v1 v2 : Nat) (e : Ending) (w' : World) : Prop := e = .returned (.agg #[.int .i64 (v0 : Int), .int .i64 (v1 : Int), .int .i64 (v2 : Int)]) ∧ Below w.heap.size w w'

theorem lies3_set {w : World} {g : Nat} {u0 u1 u2 : Value} {t : TypeId} (h : Lies w g #[u0, u1, u2] t) (v0 v1 v2 : Value) : Lies (((w.setCell ⟨g, 0, none⟩ v0).setCell ⟨g, 1, none⟩ v1).setCell ⟨g, 2, none⟩ v2) g #[v0, v1, v2] t := by
  have := ((h.set 0 v0).set 1 v1).set 2 v2
  simpa using this

set_option maxRecDepth 100000 in
set_option maxHeartbeats 4000000 in
theorem viewOf_all (q base off : Nat) (p : ShPtr) (s : Shp) (v0 v1 v2 : Nat) (w : World) (h : SbAt w base q off p s) (hs : s.Small) (h0 : s.useAt ((above s.stack : Int) - 2) = v0) (h1 : s.useAt ((above s.stack : Int) - 1) = v1) (h2 : s.useFrom (above s.stack) = v2) :
    Calls Tryd.prog 47 #[.pointer (some ⟨q, off, none⟩), .int .i64 (-1)] w (GivesV w v0 v1 v2) := by
  have hB : Below w.heap.size w (w.alloc (.cells #[.int .i64 0, .int .i64 0, .int .i64 0] 72)) := (Below.refl _ _).alloc (Nat.le_refl _) _
  have l1 := Lies.new w #[.int .i64 0, .int .i64 0, .int .i64 0] 72
  have hb := h.alloc (.cells #[.int .i64 0, .int .i64 0, .int .i64 0] 72)
  have hal := above_le s.stack
  have hst := hs.t
  have hfree : ∀ j, above s.stack ≤ j → j < s.stack.length → 0 ≤ s.stack.getD j 0 := fun j h1 h2 => above_free h1 h2
  have hok := hs.ok.st
  have H2 := hide h2
  have Hs := hide hs
  have HB := hide hB
  have hat := (hb.own.at_ hs).t
  have c0 := useAt_q q base off p s ((above s.stack : Int) - 2) v0 _ hb hs (by omega) (by omega) h0
  have c1 := useAt_q q base off p s ((above s.stack : Int) - 1) v1 _ hb hs (by omega) (by omega) h1
  have c2 := useFrom_any q base off p s (above s.stack) _ hb hs hal hfree
  have cm := aboveMark_any p.S s.stack p.c3 _ hat (fun x hx => (hok x hx).1)
  rw [h2] at c2
  obtain ⟨e0, e1, e2, e3, e4, _, _, _, _, _⟩ := hb.c
  have C0 := hide c0
  have C1 := hide c1
  have C2 := hide c2
  have CM := hide cm
  clear c0 c1 c2 cm hat hfree hok h hs hb hB h0 h1 h2 H2
  generalize above s.stack = a at hal C0 C1 C2 CM
  go_enter Tryd.func47, Tryd.ntmps47
  go_upto_region 1 with fail
  generalize w.alloc (.cells #[.int .i64 0, .int .i64 0, .int .i64 0] 72) = W at l1 e0 e1 e2 e3 e4 C0 C1 C2 CM HB ⊢
  go_wp2_with fail
  refine CM.out.mono ?_
  rintro e w' ⟨rfl, rfl⟩
  go_wp2_with fail
  refine C0.out.mono ?_
  rintro e w' ⟨rfl, rfl⟩
  go_wp2_with fail
  refine C1.out.mono ?_
  rintro e w' ⟨rfl, rfl⟩
  go_wp2_with fail
  refine C2.out.mono ?_
  rintro e w' ⟨rfl, rfl⟩
  have l2 := lies3_set l1 (.int .i64 (v0 : Int)) (.int .i64 (v1 : Int)) (.int .i64 (v2 : Int))
  have s0 := l2.cell 0
  have s1 := l2.cell 1
  have s2 := l2.cell 2
  have r0 := l1.cell 0
  have r1 := l1.cell 1
  have r2 := l1.cell 2
  have f0 := l1.frozen 0
  have f1 := l1.frozen 1
  have f2 := l1.frozen 2
  simp only [List.getElem?_toArray, List.getElem?_cons_zero, List.getElem?_cons_succ] at s0 s1 s2 r0 r1 r2
  have HB2 := hide (((HB.out.setCell (p := ⟨w.heap.size, 0, none⟩) (Nat.le_refl _) (.int .i64 (v0 : Int))).setCell (p := ⟨w.heap.size, 1, none⟩) (Nat.le_refl _) (.int .i64 (v1 : Int))).setCell (p := ⟨w.heap.size, 2, none⟩) (Nat.le_refl _) (.int .i64 (v2 : Int)))
  clear l1 l2 C0 C1 C2 CM
  go_wp2
  refine bodyPost_ret (v := .agg #[.int .i64 (v0 : Int), .int .i64 (v1 : Int), .int .i64 (v2 : Int)]) (by simp [results, Tryd.results47, go_sem, s0, s1, s2]) rfl ?_
  exact ⟨rfl, HB2.out⟩

set_option maxRecDepth 100000 in
set_option maxHeartbeats 4000000 in
theorem viewOf_top (q base off : Nat) (p : ShPtr) (s : Shp) (t : Int) (v0 v1 v2 : Nat) (w : World) (h : SbAt w base q off p s) (hs : s.Small) (ht : t ≠ -1) (h0 : s.useAt ((s.stack.length : Int) - 1 - 2) = v0) (h1 : s.useAt ((s.stack.length : Int) - 1 - 1) = v1) (h2 : s.useAt ((s.stack.length : Int) - 1) = v2) :
    Calls Tryd.prog 47 #[.pointer (some ⟨q, off, none⟩), .int .i64 t] w (GivesV w v0 v1 v2) := by
  have hB : Below w.heap.size w (w.alloc (.cells #[.int .i64 0, .int .i64 0, .int .i64 0] 72)) := (Below.refl _ _).alloc (Nat.le_refl _) _
  have l1 := Lies.new w #[.int .i64 0, .int .i64 0, .int .i64 0] 72
  have hb := h.alloc (.cells #[.int .i64 0, .int .i64 0, .int .i64 0] 72)
  have hst := hs.t
  have HB := hide hB
  have c0 := useAt_q q base off p s ((s.stack.length : Int) - 1 - 2) v0 _ hb hs (by omega) (by omega) h0
  have c1 := useAt_q q base off p s ((s.stack.length : Int) - 1 - 1) v1 _ hb hs (by omega) (by omega) h1
  have c2 := useAt_q q base off p s ((s.stack.length : Int) - 1) v2 _ hb hs (by omega) (by omega) h2
  obtain ⟨e0, e1, e2, e3, e4, _, _, _, _, _⟩ := hb.c
  have C0 := hide c0
  have C1 := hide c1
  have C2 := hide c2
  have htn : (t == -1) = false := by simpa using ht
  clear c0 c1 c2 h hs hb hB h0 h1 h2
  go_enter Tryd.func47, Tryd.ntmps47
  go_upto_region 1 with fail
  generalize w.alloc (.cells #[.int .i64 0, .int .i64 0, .int .i64 0] 72) = W at l1 e0 e1 e2 e3 e4 C0 C1 C2 HB ⊢
  go_wp2_with fail
  refine C0.out.mono ?_
  rintro e w' ⟨rfl, rfl⟩
  go_wp2_with fail
  refine C1.out.mono ?_
  rintro e w' ⟨rfl, rfl⟩
  go_wp2_with fail
  refine C2.out.mono ?_
  rintro e w' ⟨rfl, rfl⟩
  have l2 := lies3_set l1 (.int .i64 (v0 : Int)) (.int .i64 (v1 : Int)) (.int .i64 (v2 : Int))
  have s0 := l2.cell 0
  have s1 := l2.cell 1
  have s2 := l2.cell 2
  have r0 := l1.cell 0
  have r1 := l1.cell 1
  have r2 := l1.cell 2
  have f0 := l1.frozen 0
  have f1 := l1.frozen 1
  have f2 := l1.frozen 2
  simp only [List.getElem?_toArray, List.getElem?_cons_zero, List.getElem?_cons_succ] at s0 s1 s2 r0 r1 r2
  have HB2 := hide (((HB.out.setCell (p := ⟨w.heap.size, 0, none⟩) (Nat.le_refl _) (.int .i64 (v0 : Int))).setCell (p := ⟨w.heap.size, 1, none⟩) (Nat.le_refl _) (.int .i64 (v1 : Int))).setCell (p := ⟨w.heap.size, 2, none⟩) (Nat.le_refl _) (.int .i64 (v2 : Int)))
  clear l1 l2 C0 C1 C2
  go_wp2
  refine bodyPost_ret (v := .agg #[.int .i64 (v0 : Int), .int .i64 (v1 : Int), .int .i64 (v2 : Int)]) (by simp [results, Tryd.results47, go_sem, s0, s1, s2]) rfl ?_
  exact ⟨rfl, HB2.out⟩

end Go.Proofs.YtanicidkmfoooabDoor

namespace Go.Proofs.YtanicidkmfoooabDoor
open Go.RowKit
set_option linter.unusedVariables false

theorem and_i64 (a b : Nat) (ha : a < 1000) : bits .and .i64 (a : Int) (b % 1000 : Nat) = ((a &&& (b % 1000) : Nat) : Int) := by
  have hb : b % 1000 < 1000 := Nat.mod_lt _ (by omega)
  have hx : a &&& (b % 1000) ≤ a := Nat.and_le_left
  have h1 : (BitVec.ofInt 64 (a : Int)).toNat = a := by
    rw [BitVec.ofInt_natCast, BitVec.toNat_ofNat]; exact Nat.mod_eq_of_lt (by omega)
  have h2 : (BitVec.ofInt 64 ((b % 1000 : Nat) : Int)).toNat = b % 1000 := by
    rw [BitVec.ofInt_natCast, BitVec.toNat_ofNat]; exact Nat.mod_eq_of_lt (by omega)
  show IntKind.i64.wrap ((BitVec.ofInt 64 (a : Int) &&& BitVec.ofInt 64 ((b % 1000 : Nat) : Int)).toNat : Int) = _
  rw [BitVec.toNat_and, h1, h2, IntKind.wrap_i64]
  omega
theorem and_small {a b : Nat} (ha : a < 1000) (hb : b < 1000) : bits .and .i64 (a : Int) (b : Int) = ((a &&& b : Nat) : Int) := by
  have := and_i64 a b ha
  rwa [Nat.mod_eq_of_lt hb] at this

set_option maxRecDepth 100000 in
set_option maxHeartbeats 4000000 in
theorem within_any (v0 v1 v2 n0 n1 n2 : Nat) (w : World) (hv0 : v0 < 1000) (hv1 : v1 < 1000) (hv2 : v2 < 1000) (hn0 : n0 < 1000) (hn1 : n1 < 1000) (hn2 : n2 < 1000) :
    Calls Tryd.prog 48 #[.agg #[.int .i64 (v0 : Int), .int .i64 (v1 : Int), .int .i64 (v2 : Int)], .agg #[.int .i64 (n0 : Int), .int .i64 (n1 : Int), .int .i64 (n2 : Int)]] w (GivesV w (v0 &&& n0) (v1 &&& n1) (v2 &&& n2)) := by
  have a0 := and_small hv0 hn0
  have a1 := and_small hv1 hn1
  have a2 := and_small hv2 hn2
  have hB : Below w.heap.size w (((w.alloc (.cells #[.int .i64 (v0 : Int), .int .i64 (v1 : Int), .int .i64 (v2 : Int)] 72)).alloc (.cells #[.int .i64 (n0 : Int), .int .i64 (n1 : Int), .int .i64 (n2 : Int)] 72)).alloc (.cells #[.int .i64 0, .int .i64 0, .int .i64 0] 72)) := (((Below.refl _ _).alloc (Nat.le_refl _) _).alloc (by simp) _).alloc (by simp; omega) _
  have l1 := ((Lies.new w #[.int .i64 (v0 : Int), .int .i64 (v1 : Int), .int .i64 (v2 : Int)] 72).alloc (.cells #[.int .i64 (n0 : Int), .int .i64 (n1 : Int), .int .i64 (n2 : Int)] 72)).alloc (.cells #[.int .i64 0, .int .i64 0, .int .i64 0] 72)
  have l2 := (Lies.new (w.alloc (.cells #[.int .i64 (v0 : Int), .int .i64 (v1 : Int), .int .i64 (v2 : Int)] 72)) #[.int .i64 (n0 : Int), .int .i64 (n1 : Int), .int .i64 (n2 : Int)] 72).alloc (.cells #[.int .i64 0, .int .i64 0, .int .i64 0] 72)
  have l3 := Lies.new ((w.alloc (.cells #[.int .i64 (v0 : Int), .int .i64 (v1 : Int), .int .i64 (v2 : Int)] 72)).alloc (.cells #[.int .i64 (n0 : Int), .int .i64 (n1 : Int), .int .i64 (n2 : Int)] 72)) #[.int .i64 0, .int .i64 0, .int .i64 0] 72
  simp only [World.size_alloc] at l2 l3
  have A0 := hide a0
  have A1 := hide a1
  have A2 := hide a2
  have HB := hide hB
  clear hB a0 a1 a2 hv0 hv1 hv2 hn0 hn1 hn2
  generalize hk0 : v0 &&& n0 = k0 at A0 ⊢
  generalize hk1 : v1 &&& n1 = k1 at A1 ⊢
  generalize hk2 : v2 &&& n2 = k2 at A2 ⊢
  clear hk0 hk1 hk2
  go_enter Tryd.func48, Tryd.ntmps48
  go_upto_region 1 with fail
  generalize ((w.alloc (.cells #[.int .i64 (v0 : Int), .int .i64 (v1 : Int), .int .i64 (v2 : Int)] 72)).alloc (.cells #[.int .i64 (n0 : Int), .int .i64 (n1 : Int), .int .i64 (n2 : Int)] 72)).alloc (.cells #[.int .i64 0, .int .i64 0, .int .i64 0] 72) = W at l1 l2 l3 HB ⊢
  go_wp2_with fail
  go_loopw [6] (fun iv wr => ∃ (k : Nat) (x0 x1 x2 : Int), iv = .int .i64 (k : Int) ∧ k ≤ 3 ∧ Lies wr w.heap.size #[.int .i64 x0, .int .i64 x1, .int .i64 x2] 72 ∧ Lies wr (w.heap.size + 1) #[.int .i64 (n0 : Int), .int .i64 (n1 : Int), .int .i64 (n2 : Int)] 72 ∧ Lies wr (w.heap.size + 1 + 1) #[.int .i64 0, .int .i64 0, .int .i64 0] 72 ∧ Below w.heap.size w wr ∧ x0 = (if 0 < k then (k0 : Int) else v0) ∧ x1 = (if 1 < k then (k1 : Int) else v1) ∧ x2 = (if 2 < k then (k2 : Int) else v2)) (fun iv _ => 3 - (intOf iv).toNat)
  case atStart => exact ⟨0, v0, v1, v2, rfl, by omega, l1, l2, l3, HB.out, by simp, by simp, by simp⟩
  case round =>
    obtain ⟨k, x0, x1, x2, rfl, hk, l1, l2, l3, hB, hx0, hx1, hx2⟩ := hrel
    have HBr := hide hB
    have p0 := l1.cell 0
    have p1 := l1.cell 1
    have p2 := l1.cell 2
    have q0 := l2.cell 0
    have q1 := l2.cell 1
    have q2 := l2.cell 2
    have f0 := l1.frozen 0
    have f1 := l1.frozen 1
    have f2 := l1.frozen 2
    simp only [List.getElem?_toArray, List.getElem?_cons_zero, List.getElem?_cons_succ] at p0 p1 p2 q0 q1 q2
    match k, hk with
    | 0, _ =>
      simp at hx0 hx1 hx2
      subst hx0 hx1 hx2
      have aa := A0.out
      have m1 : Lies wr.drew w.heap.size _ _ := l1
      have pd := p0
      have fd := f0
      have HL1 := hide (l1.set 0 (.int .i64 (k0 : Int)))
      have HL2 := hide l2
      have HL3 := hide l3
      clear l1 l2 l3 hB
      rw [show ((0 : Nat) : Int) = 0 from rfl]
      go_wp2_with fail
      go_still_tail 8, (by kernel_rfl)
      change wpList _ _ _ _ _ wr.drew
      have pd' : wr.drew.cell? ⟨w.heap.size, 0, none⟩ = some (.int .i64 (v0 : Int)) := pd
      have fd' : wr.drew.frozen? ⟨w.heap.size, 0, none⟩ = false := fd
      have HL1' : Hid (Lies (wr.drew.setCell ⟨w.heap.size, 0, none⟩ (.int .i64 (k0 : Int))) w.heap.size _ _) := HL1
      have HL2' : Hid (Lies (wr.drew.setCell ⟨w.heap.size, 0, none⟩ (.int .i64 (k0 : Int))) (w.heap.size + 1) _ _) := hide (Lies.far (w := wr.drew) HL2.out (by show w.heap.size + 1 ≠ w.heap.size; omega) _)
      have HL3' : Hid (Lies (wr.drew.setCell ⟨w.heap.size, 0, none⟩ (.int .i64 (k0 : Int))) (w.heap.size + 1 + 1) _ _) := hide (Lies.far (w := wr.drew) HL3.out (by show w.heap.size + 1 + 1 ≠ w.heap.size; omega) _)
      have HB' := hide ((HBr.out.drew).setCell (p := ⟨w.heap.size, 0, none⟩) (Nat.le_refl _) (.int .i64 (k0 : Int)))
      clear HL1 HL2 HL3 HBr m1 p0 p1 p2 q0 q1 q2 f0 f1 f2 pd fd
      generalize wr.drew = w2 at pd' fd' HL1' HL2' HL3' HB' ⊢
      go_wp2
      go_roundw
      case rel => exact ⟨0 + 1, _, _, _, by go_num, by omega, by have h := HL1'.out; simp only [List.setIfInBounds_toArray, List.set_cons_zero] at h; exact h, HL2'.out, HL3'.out, HB'.out, by simp, by simp, by simp⟩
      case measure => simp [intOf]
    | 1, _ =>
      simp at hx0 hx1 hx2
      subst hx0 hx1 hx2
      have aa := A1.out
      have m1 : Lies wr.drew w.heap.size _ _ := l1
      have pd := p1
      have fd := f1
      have HL1 := hide (l1.set 1 (.int .i64 (k1 : Int)))
      have HL2 := hide l2
      have HL3 := hide l3
      clear l1 l2 l3 hB
      rw [show ((1 : Nat) : Int) = 1 from rfl]
      go_wp2_with fail
      go_still_tail 8, (by kernel_rfl)
      change wpList _ _ _ _ _ wr.drew
      have pd' : wr.drew.cell? ⟨w.heap.size, 1, none⟩ = some (.int .i64 (v1 : Int)) := pd
      have fd' : wr.drew.frozen? ⟨w.heap.size, 1, none⟩ = false := fd
      have HL1' : Hid (Lies (wr.drew.setCell ⟨w.heap.size, 1, none⟩ (.int .i64 (k1 : Int))) w.heap.size _ _) := HL1
      have HL2' : Hid (Lies (wr.drew.setCell ⟨w.heap.size, 1, none⟩ (.int .i64 (k1 : Int))) (w.heap.size + 1) _ _) := hide (Lies.far (w := wr.drew) HL2.out (by show w.heap.size + 1 ≠ w.heap.size; omega) _)
      have HL3' : Hid (Lies (wr.drew.setCell ⟨w.heap.size, 1, none⟩ (.int .i64 (k1 : Int))) (w.heap.size + 1 + 1) _ _) := hide (Lies.far (w := wr.drew) HL3.out (by show w.heap.size + 1 + 1 ≠ w.heap.size; omega) _)
      have HB' := hide ((HBr.out.drew).setCell (p := ⟨w.heap.size, 1, none⟩) (Nat.le_refl _) (.int .i64 (k1 : Int)))
      clear HL1 HL2 HL3 HBr m1 p0 p1 p2 q0 q1 q2 f0 f1 f2 pd fd
      generalize wr.drew = w2 at pd' fd' HL1' HL2' HL3' HB' ⊢
      go_wp2
      go_roundw
      case rel => exact ⟨1 + 1, _, _, _, by go_num, by omega, by have h := HL1'.out; simp only [List.setIfInBounds_toArray, List.set_cons_zero, List.set_cons_succ] at h; exact h, HL2'.out, HL3'.out, HB'.out, by simp, by simp, by simp⟩
      case measure => simp [intOf]
    | 2, _ =>
      simp at hx0 hx1 hx2
      subst hx0 hx1 hx2
      have aa := A2.out
      have m1 : Lies wr.drew w.heap.size _ _ := l1
      have pd := p2
      have fd := f2
      have HL1 := hide (l1.set 2 (.int .i64 (k2 : Int)))
      have HL2 := hide l2
      have HL3 := hide l3
      clear l1 l2 l3 hB
      rw [show ((2 : Nat) : Int) = 2 from rfl]
      go_wp2_with fail
      go_still_tail 8, (by kernel_rfl)
      change wpList _ _ _ _ _ wr.drew
      have pd' : wr.drew.cell? ⟨w.heap.size, 2, none⟩ = some (.int .i64 (v2 : Int)) := pd
      have fd' : wr.drew.frozen? ⟨w.heap.size, 2, none⟩ = false := fd
      have HL1' : Hid (Lies (wr.drew.setCell ⟨w.heap.size, 2, none⟩ (.int .i64 (k2 : Int))) w.heap.size _ _) := HL1
      have HL2' : Hid (Lies (wr.drew.setCell ⟨w.heap.size, 2, none⟩ (.int .i64 (k2 : Int))) (w.heap.size + 1) _ _) := hide (Lies.far (w := wr.drew) HL2.out (by show w.heap.size + 1 ≠ w.heap.size; omega) _)
      have HL3' : Hid (Lies (wr.drew.setCell ⟨w.heap.size, 2, none⟩ (.int .i64 (k2 : Int))) (w.heap.size + 1 + 1) _ _) := hide (Lies.far (w := wr.drew) HL3.out (by show w.heap.size + 1 + 1 ≠ w.heap.size; omega) _)
      have HB' := hide ((HBr.out.drew).setCell (p := ⟨w.heap.size, 2, none⟩) (Nat.le_refl _) (.int .i64 (k2 : Int)))
      clear HL1 HL2 HL3 HBr m1 p0 p1 p2 q0 q1 q2 f0 f1 f2 pd fd
      generalize wr.drew = w2 at pd' fd' HL1' HL2' HL3' HB' ⊢
      go_wp2
      go_roundw
      case rel => exact ⟨2 + 1, _, _, _, by go_num, by omega, by have h := HL1'.out; simp only [List.setIfInBounds_toArray, List.set_cons_zero, List.set_cons_succ] at h; exact h, HL2'.out, HL3'.out, HB'.out, by simp, by simp, by simp⟩
      case measure => simp [intOf]
    | 3, _ =>
      simp at hx0 hx1 hx2
      subst hx0 hx1 hx2
      have lf := lies3_set l3 (.int .i64 (k0 : Int)) (.int .i64 (k1 : Int)) (.int .i64 (k2 : Int))
      have s0 := lf.cell 0
      have s1 := lf.cell 1
      have s2 := lf.cell 2
      have r0 := l3.cell 0
      have r1 := l3.cell 1
      have r2 := l3.cell 2
      have g0 := l3.frozen 0
      have g1 := l3.frozen 1
      have g2 := l3.frozen 2
      simp only [List.getElem?_toArray, List.getElem?_cons_zero, List.getElem?_cons_succ] at s0 s1 s2 r0 r1 r2
      have HB2 := hide (((HBr.out.setCell (p := ⟨w.heap.size + 1 + 1, 0, none⟩) (by show w.heap.size ≤ w.heap.size + 1 + 1; omega) (.int .i64 (k0 : Int))).setCell (p := ⟨w.heap.size + 1 + 1, 1, none⟩) (by show w.heap.size ≤ w.heap.size + 1 + 1; omega) (.int .i64 (k1 : Int))).setCell (p := ⟨w.heap.size + 1 + 1, 2, none⟩) (by show w.heap.size ≤ w.heap.size + 1 + 1; omega) (.int .i64 (k2 : Int)))
      clear l1 l2 l3 lf hB HBr
      rw [show ((3 : Nat) : Int) = 3 from rfl]
      go_wp2
      refine bodyPost_ret (v := .agg #[.int .i64 (k0 : Int), .int .i64 (k1 : Int), .int .i64 (k2 : Int)]) (by simp [results, Tryd.results48, go_sem, s0, s1, s2]) rfl ?_
      exact ⟨rfl, HB2.out⟩

end Go.Proofs.YtanicidkmfoooabDoor
