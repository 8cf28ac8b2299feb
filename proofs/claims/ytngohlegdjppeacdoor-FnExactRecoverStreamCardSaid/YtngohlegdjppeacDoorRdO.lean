/-
  The model's readOp: what it returns.
-/
import Derived.Test.YtngohlegdjppeacDoorDecM
import Derived.Test.YtngohlegdjppeacDoorBof
import Derived.Deep.Cut
import Derived.StillTailTactics
namespace Go.Proofs.YtngohlegdjppeacDoor
open Go.RowKit
set_option linter.unusedVariables false

/-- what a call of the model hands back that reads an order -/
def GivesOpM (w : World) (p : Od × Nat) (e : Ending) (w' : World) : Prop := e = .returned (.tuple #[.agg #[.int .i64 p.1.code, .int .i64 p.1.arg], .int .i64 (p.2 : Int)]) ∧ Below w.heap.size w w'

theorem lies2m {w : World} {g : Nat} {a b : Value} {t : TypeId} (h : Lies w g #[a, b] t) (v0 v1 : Value) :
    ((w.setCell ⟨g, 0, none⟩ v0).setCell ⟨g, 1, none⟩ v1).cell? ⟨g, 0, none⟩ = some v0 ∧ ((w.setCell ⟨g, 0, none⟩ v0).setCell ⟨g, 1, none⟩ v1).cell? ⟨g, 1, none⟩ = some v1 := by
  have h2 := (h.set 0 v0).set 1 v1
  have c0 := h2.cell 0
  have c1 := h2.cell 1
  simp at c0 c1
  exact ⟨c0, c1⟩

/-- the order that was read counts if it is valid and has so many bytes -/
noncomputable def lastO (o : Od) (n : Nat) : Od × Nat := @ite _ (OdOk o ∧ (encO o).length = n) (Classical.propDecidable _) (o, n) (⟨0, 0⟩, 0)
theorem lastO_yes {o : Od} {n : Nat} (h : OdOk o) (hn : (encO o).length = n) : lastO o n = (o, n) := by unfold lastO; rw [if_pos ⟨h, hn⟩]
theorem lastO_no {o : Od} {n : Nat} (h : ¬ (OdOk o ∧ (encO o).length = n)) : lastO o n = (⟨0, 0⟩, 0) := by unfold lastO; rw [if_neg h]

theorem fstO_bare {y : Int} {t : List Int} (h0 : 0 ≤ y) (h : argMost y < 0) : fstO (y :: t) = lastO ⟨y, 0⟩ 1 := by
  by_cases h19 : 19 < y
  · rw [lastO_no (fun h => by have := h.1.1; simp at this; omega), fstO_none (by simp only [firstO]; rw [if_pos h19])]
  · rw [lastO_yes ⟨by simp; omega, .inl ⟨h, rfl⟩⟩ (by simp [encO_bare (o := ⟨y, 0⟩) h]), fstO_some (by simp only [firstO]; rw [if_neg h19, if_pos h])]

theorem arg_code {y : Int} (h0 : 0 ≤ y) (h : ¬ argMost y < 0) : ¬ 19 < y := by
  intro h19
  apply h
  unfold argMost
  repeat' split
  all_goals omega

theorem fstO_one {y : Int} (h0 : 0 ≤ y) (h : ¬ argMost y < 0) : fstO [y] = (⟨0, 0⟩, 0) :=
  fstO_none (by simp only [firstO]; rw [if_neg (arg_code h0 h), if_neg h]; simp [firstA])

theorem fstO_short {y a : Int} {t : List Int} (h0 : 0 ≤ y) (h : ¬ argMost y < 0) (ha0 : 0 ≤ a) (ha : a < 128) : fstO (y :: a :: t) = lastO ⟨y, a⟩ 2 := by
  have e : firstA (a :: t) = (a, 1) := by simp only [firstA]; rw [if_pos ha]
  have h19 := arg_code h0 h
  by_cases hb : argMost y < a
  · rw [lastO_no (fun hh => by have := hh.1.2; simp at this; omega), fstO_none (by simp only [firstO]; rw [if_neg h19, if_neg h, e]; simp [hb])]
  · rw [lastO_yes ⟨by simp; omega, .inr ⟨by simp; omega, by simp; omega⟩⟩ (by simp [encO_arg (o := ⟨y, a⟩) h, encA_short ha]), fstO_some (p := (⟨y, a⟩, 2)) (by simp only [firstO]; rw [if_neg h19, if_neg h, e]; simp [hb])]

theorem fstO_cut {y a : Int} (h0 : 0 ≤ y) (h : ¬ argMost y < 0) (ha : ¬ a < 128) : fstO [y, a] = (⟨0, 0⟩, 0) :=
  fstO_none (by simp only [firstO]; rw [if_neg (arg_code h0 h), if_neg h]; simp [firstA, ha])

theorem fstO_long {y a b : Int} {t : List Int} (h0 : 0 ≤ y) (h : ¬ argMost y < 0) (ha : ¬ a < 128) (ha2 : a ≤ 255) (hb : 0 ≤ b) : fstO (y :: a :: b :: t) = lastO ⟨y, a - 128 + 128 * b⟩ 3 := by
  have h19 := arg_code h0 h
  by_cases hp : 0 < b
  · have e : firstA (a :: b :: t) = (a - 128 + b * 128, 2) := by simp only [firstA]; rw [if_neg ha, if_pos hp]
    have e2 : a - 128 + 128 * b = a - 128 + b * 128 := by omega
    rw [e2]
    by_cases hbg : argMost y < a - 128 + b * 128
    · rw [lastO_no (fun hh => by have := hh.1.2; simp at this; omega), fstO_none (by simp only [firstO]; rw [if_neg h19, if_neg h, e]; simp [hbg])]
    · rw [lastO_yes ⟨by simp; omega, .inr ⟨by simp; omega, by simp; omega⟩⟩ (by simp [encO_arg (o := ⟨y, a - 128 + b * 128⟩) h, encA_long (show ¬ a - 128 + b * 128 < 128 by omega)]), fstO_some (p := (⟨y, a - 128 + b * 128⟩, 3)) (by simp only [firstO]; rw [if_neg h19, if_neg h, e]; simp [hbg])]
  · have e : firstA (a :: b :: t) = (0, 0) := by simp only [firstA]; rw [if_neg ha, if_neg hp]
    rw [lastO_no (fun hh => by have := hh.2; rw [encO_arg (o := ⟨y, a - 128 + 128 * b⟩) h, encA_short (show a - 128 + 128 * b < 128 by omega)] at this; simp at this), fstO_none (by simp only [firstO]; rw [if_neg h19, if_neg h, e]; simp)]

set_option maxRecDepth 100000 in
set_option maxHeartbeats 2000000 in
theorem readOp_nil (A : Option Addr) (c : Nat) (w : World) :
    Calls Tryd.prog 19 #[.slice A 0 c] w (GivesOpM w (⟨0, 0⟩, 0)) := by
  have l0 := Lies.new w #[.int .i64 0, .int .i64 0] 36
  have HB := hide ((Below.refl w.heap.size w).alloc (Nat.le_refl _) (.cells #[.int .i64 0, .int .i64 0] 36))
  go_enter Tryd.func19, Tryd.ntmps19
  go_upto_region 1 with fail
  generalize w.alloc (.cells #[.int .i64 0, .int .i64 0] 36) = W at HB l0 ⊢
  have f0 := l0.frozen 0
  have f1 := l0.frozen 1
  have x0 := l0.cell 0
  have x1 := l0.cell 1
  simp at x0 x1
  obtain ⟨s0, s1⟩ := lies2m l0 (.int .i64 0) (.int .i64 0)
  have HE := hide ((HB.out.setCell (p := ⟨w.heap.size, 0, none⟩) (Nat.le_refl _) (.int .i64 0)).setCell (p := ⟨w.heap.size, 1, none⟩) (Nat.le_refl _) (.int .i64 0))
  go_wp2
  exact bodyPost_ret (v := .tuple #[.agg #[.int .i64 0, .int .i64 0], .int .i64 0]) (by simp [results, Tryd.results19, go_sem, s0, s1]) rfl ⟨rfl, HE.out⟩

/-- the box of the order that is read: made behind the result's cell -/
theorem box_made {w W : World} (HB : Below w.heap.size w W) (l0 : Lies W w.heap.size #[.int .i64 0, .int .i64 0] 36) (y : Int) :
    Below w.heap.size w (W.alloc (.cells #[.int .i64 y, .int .i64 0] 36)) ∧ Lies (W.alloc (.cells #[.int .i64 y, .int .i64 0] 36)) w.heap.size #[.int .i64 0, .int .i64 0] 36 ∧
      Lies (W.alloc (.cells #[.int .i64 y, .int .i64 0] 36)) W.heap.size #[.int .i64 y, .int .i64 0] 36 ∧ w.heap.size < W.heap.size :=
  ⟨HB.alloc HB.size _, l0.alloc _, Lies.new W _ _, l0.lt⟩

theorem box_set {w W : World} {g : Nat} {y z : Int} (HB : Below w.heap.size w W) (l0 : Lies W w.heap.size #[.int .i64 0, .int .i64 0] 36) (l4 : Lies W g #[.int .i64 y, .int .i64 z] 36) (hg : w.heap.size < g) (a : Int) :
    Below w.heap.size w (W.setCell ⟨g, 1, none⟩ (.int .i64 a)) ∧ Lies (W.setCell ⟨g, 1, none⟩ (.int .i64 a)) w.heap.size #[.int .i64 0, .int .i64 0] 36 ∧ Lies (W.setCell ⟨g, 1, none⟩ (.int .i64 a)) g #[.int .i64 y, .int .i64 a] 36 := by
  refine ⟨HB.setCell (by show w.heap.size ≤ g; omega) _, l0.far (by show w.heap.size ≠ g; omega) _, ?_⟩
  have := l4.set 1 (.int .i64 a)
  simpa using this

set_option maxRecDepth 100000 in
set_option maxHeartbeats 2000000 in
theorem readOp_bare (b0 off : Nat) (y : Int) (t : List Int) (c : Nat) (w : World) (h : IntsAt w w.heap.size (some ⟨b0, off, none⟩) (y :: t)) (hy : 0 ≤ y ∧ y ≤ 255) (hl : (y :: t).length ≤ 1000) (hneg : argMost y < 0) :
    Calls Tryd.prog 19 #[.slice (some ⟨b0, off, none⟩) (y :: t).length c] w (GivesOpM w (fstO (y :: t))) := by
  rw [fstO_bare hy.1 hneg]
  obtain ⟨b1, off1, y0, e1, hbl, hy0, _, hcell⟩ := h.at_ (k := 0) (by simp)
  injection e1 with e1
  injection e1 with e1 e2
  subst e1 e2
  obtain rfl : y = y0 := by simpa using hy0
  rw [Nat.add_zero] at hcell
  have l0 := Lies.new w #[.int .i64 0, .int .i64 0] 36
  have HB := hide ((Below.refl w.heap.size w).alloc (Nat.le_refl _) (.cells #[.int .i64 0, .int .i64 0] 36))
  have hcW := (HB.out.cell (p := ⟨b0, off, none⟩) hbl).trans hcell
  have hlt : t.length + 1 ≤ 1000 := by simpa using hl
  have hz1 : (((t.length + 1 : Nat) : Int) == 0) = false := by simp only [beq_eq_false_iff_ne, ne_eq]; omega
  have hz2 : (0 : Int) < ((t.length + 1 : Nat) : Int) := by omega
  have HN := hide hneg
  rw [List.length_cons]
  clear h hl hy0 hcell hneg
  go_enter Tryd.func19, Tryd.ntmps19
  go_upto_region 1 with fail
  generalize w.alloc (.cells #[.int .i64 0, .int .i64 0] 36) = W at HB l0 hcW ⊢
  go_upto_region 5 with fail
  obtain ⟨hB4, l04, l4, hgg⟩ := box_made HB.out l0 y
  generalize W.alloc (.cells #[.int .i64 y, .int .i64 0] 36) = W4 at hB4 l04 l4 ⊢
  generalize W.heap.size = g4 at l4 hgg ⊢
  have HB4 := hide hB4
  have z0 := l4.cell 0
  have z1 := l4.cell 1
  simp at z0 z1
  clear hB4 l0 hcW
  go_wp2_with fail
  refine (argOf_any y W4).mono ?_
  rintro e w' ⟨rfl, rfl⟩
  have dneg : decide (0 ≤ argMost y) = false := by have := HN.out; simp; omega
  have hm := argMost_range y
  generalize argMost y = M at dneg hm ⊢
  go_wp2_with fail
  by_cases hv : OdOk ⟨y, 0⟩
  · have ht := hide (tf_true hv)
    have HV := hide hv
    obtain ⟨ln, hln⟩ : ∃ ln, ln = (encO ⟨y, 0⟩).length := ⟨_, rfl⟩
    have Hln := hide hln
    have hl3 := (encO_len ⟨y, 0⟩).2
    rw [← hln] at hl3
    clear hv hln
    refine (validOp_any ⟨y, 0⟩ W4).mono ?_
    rintro e w5 ⟨rfl, hb5⟩
    rw [ht.out]
    have l05 := l04.below hb5 l04.lt
    have l45 := l4.below hb5 l4.lt
    have HB5 := hide (HB4.out.trans (hb5.mono HB4.out.size))
    clear hb5 l04 l4 z0 z1
    have z0 := l45.cell 0
    have z1 := l45.cell 1
    simp at z0 z1
    go_wp2_with fail
    refine (bytesOf_any ⟨y, 0⟩ w5 HV.out).mono ?_
    rintro e w6 ⟨A6, c6, rfl, _, _, hb6⟩
    rw [← Hln.out]
    have l06 := l05.below hb6 l05.lt
    have l46 := l45.below hb6 l45.lt
    have HB6 := hide (HB5.out.trans (hb6.mono HB5.out.size))
    clear hb6 l05 l45 z0 z1
    have z0 := l46.cell 0
    have z1 := l46.cell 1
    simp at z0 z1
    by_cases hn : ln = 1
    · have HF := hide (lastO_yes (o := ⟨y, 0⟩) (n := 1) HV.out (Hln.out.symm.trans hn))
      subst hn
      have f0 := l06.frozen 0
      have f1 := l06.frozen 1
      have x0 := l06.cell 0
      have x1 := l06.cell 1
      simp at x0 x1
      obtain ⟨s0, s1⟩ := lies2m l06 (.int .i64 y) (.int .i64 (0))
      have HE := hide ((HB6.out.setCell (p := ⟨w.heap.size, 0, none⟩) (Nat.le_refl _) (.int .i64 y)).setCell (p := ⟨w.heap.size, 1, none⟩) (Nat.le_refl _) (.int .i64 (0)))
      clear l06 l46
      go_wp2
      exact bodyPost_ret (v := .tuple #[.agg #[.int .i64 y, .int .i64 (0)], .int .i64 1]) (by simp [results, Tryd.results19, go_sem, s0, s1]) rfl ⟨by rw [HF.out]; try rfl, HE.out⟩
    · have HF := hide (lastO_no (o := ⟨y, 0⟩) (n := 1) (fun h => hn (Hln.out.trans h.2)))
      have dn : ((ln : Int) != 1) = true := by simp; omega
      clear hn
      have f0 := l06.frozen 0
      have f1 := l06.frozen 1
      have x0 := l06.cell 0
      have x1 := l06.cell 1
      simp at x0 x1
      obtain ⟨s0, s1⟩ := lies2m l06 (.int .i64 0) (.int .i64 0)
      have HE := hide ((HB6.out.setCell (p := ⟨w.heap.size, 0, none⟩) (Nat.le_refl _) (.int .i64 0)).setCell (p := ⟨w.heap.size, 1, none⟩) (Nat.le_refl _) (.int .i64 0))
      go_wp2
      exact bodyPost_ret (v := .tuple #[.agg #[.int .i64 0, .int .i64 0], .int .i64 0]) (by simp [results, Tryd.results19, go_sem, s0, s1]) rfl ⟨by rw [HF.out]; try rfl, HE.out⟩
  · have ht := hide (tf_false hv)
    have HF := hide (lastO_no (o := ⟨y, 0⟩) (n := 1) (fun h => hv h.1))
    clear hv
    refine (validOp_any ⟨y, 0⟩ W4).mono ?_
    rintro e w5 ⟨rfl, hb5⟩
    rw [ht.out]
    have l05 := l04.below hb5 l04.lt
    have HB5 := hide (HB4.out.trans (hb5.mono HB4.out.size))
    clear hb5 l04 l4 z0 z1
    have f0 := l05.frozen 0
    have f1 := l05.frozen 1
    have x0 := l05.cell 0
    have x1 := l05.cell 1
    simp at x0 x1
    obtain ⟨s0, s1⟩ := lies2m l05 (.int .i64 0) (.int .i64 0)
    have HE := hide ((HB5.out.setCell (p := ⟨w.heap.size, 0, none⟩) (Nat.le_refl _) (.int .i64 0)).setCell (p := ⟨w.heap.size, 1, none⟩) (Nat.le_refl _) (.int .i64 0))
    go_wp2
    exact bodyPost_ret (v := .tuple #[.agg #[.int .i64 0, .int .i64 0], .int .i64 0]) (by simp [results, Tryd.results19, go_sem, s0, s1]) rfl ⟨by rw [HF.out]; try rfl, HE.out⟩

end Go.Proofs.YtngohlegdjppeacDoor
