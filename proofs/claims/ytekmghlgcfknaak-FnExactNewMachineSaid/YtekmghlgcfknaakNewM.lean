/-
  The model's newMachine and NewMachine, and the program's NewMachine: what each returns.
-/
import Derived.Test.YtekmghlgcfknaakMach
import Derived.Test.YtekmghlgcfknaakInR
import Derived.Test.YtekmghlgcfknaakUpTo
import Derived.Test.YtekmghlgcfknaakOwnNA
namespace Go.Proofs.Ytekmghlgcfknaak
open Go.RowKit
set_option linter.unusedVariables false

/-- the nodes of a new machine -/
def newNs (f : Int) : List Nd := if f = 1 then [⟨0, 0, []⟩] else []
/-- the memo of a new machine -/
def newMs (f : Int) : List Int := if f = 0 then List.replicate 20 (-1) else if f = 1 then 0 :: List.replicate 19 (-1) else []

/-- a machine of the call's own with an empty stack, in new memory -/
def GivesM (w : World) (ns : List Nd) (ms : List Int) (e : Ending) (w' : World) : Prop :=
  ∃ A c M cm, e = .returned (machV A ns.length c none 0 0 M ms.length cm false) ∧ OwnMach w' w.heap.size w'.heap.size A c ns none 0 [] M cm ms ∧ Below w.heap.size w w'

theorem noBlock {P : Nat → Prop} : ∀ b, blockOf none = some b → P b := fun b hb => by cases hb

theorem GivesM.zero (w w' : World) (hb : Below w.heap.size w w') : GivesM w [] [] (.returned (machV none 0 0 none 0 0 none 0 0 false)) w' :=
  ⟨none, 0, none, 0, rfl, ⟨⟨w.heap.size, w.heap.size, Nat.le_refl _, Nat.le_refl _, hb.size, .inl ⟨rfl, rfl, rfl⟩, noBlock, noBlock⟩, OwnI.empty _ _, OwnI.empty _ _, noBlock, noBlock⟩, hb⟩

set_option maxRecDepth 100000 in
set_option maxHeartbeats 2000000 in
theorem specNew_nil (w : World) :
    Calls Try.prog 10 #[] w fun e w' => GivesM w [] (List.replicate 20 (-1)) e w' ∧ ∃ M cm, e = .returned (machV none 0 0 none 0 0 M 20 cm false) := by
  have hm1 : In64 (-1) := by constructor <;> omega
  have hB : Below w.heap.size w ((w.alloc (.cells #[.slice none 0 0, .slice none 0 0, .slice none 0 0, .bool false] 25)).alloc (.cells #[.slice none 0 0, .slice none 0 0, .slice none 0 0, .bool false] 25)) := ((Below.refl _ _).alloc (Nat.le_refl _) _).alloc (by simp) _
  have l0 := (Lies.new w #[.slice none 0 0, .slice none 0 0, .slice none 0 0, .bool false] 25).alloc (.cells #[.slice none 0 0, .slice none 0 0, .slice none 0 0, .bool false] 25)
  have l1 := Lies.new (w.alloc (.cells #[.slice none 0 0, .slice none 0 0, .slice none 0 0, .bool false] 25)) #[.slice none 0 0, .slice none 0 0, .slice none 0 0, .bool false] 25
  simp only [World.size_alloc] at l1
  go_enter Try.func10, Try.ntmps10
  go_wp2_with fail
  generalize (w.alloc (.cells #[.slice none 0 0, .slice none 0 0, .slice none 0 0, .bool false] 25)).alloc (.cells #[.slice none 0 0, .slice none 0 0, .slice none 0 0, .bool false] 25) = w1 at hB l0 l1 ⊢
  go_loopw [2] (fun iv wr => ∃ (k : Nat) (A : Option Addr) (c : Nat), k ≤ 20 ∧ iv = .int .i64 (k : Int) ∧ Lies wr w.heap.size #[.slice none 0 0, .slice none 0 0, .slice none 0 0, .bool false] 25 ∧ Lies wr (w.heap.size + 1) #[.slice none 0 0, .slice none 0 0, .slice A (List.replicate k (-1 : Int)).length c, .bool false] 25 ∧ OwnI wr (w.heap.size + 1 + 1) A c (List.replicate k (-1)) ∧ Below w.heap.size w wr) (fun iv _ => 20 - (intOf iv).toNat)
  case atStart => exact ⟨0, none, 0, Nat.zero_le _, rfl, l0, l1, OwnI.empty _ _, hB⟩
  case round =>
    clear l0 l1 hB
    obtain ⟨k, A, c, hk, rfl, l0, l1, hown, hb⟩ := hrel
    have hl1 := l1.lt
    by_cases hlt : k < 20
    · have hd : decide ((k : Int) < 20) = true := by simp; omega
      have hrs := hide (show List.replicate k (-1 : Int) ++ [-1] = List.replicate (k + 1) (-1) by rw [List.replicate_succ'])
      have hll : (List.replicate k (-1 : Int)).length ≤ 20 := by simp; omega
      generalize List.replicate k (-1 : Int) = L at hown hrs hll l1
      have e2 := l1.cell 2
      have f2 := l1.frozen 2
      simp at e2
      have hbn : ∀ b, blockOf A = some b → w.heap.size + 1 < b := fun b hb => by have := (hown.blocks b hb).1; omega
      go_wp2_with (at_builtin; refine append_ints rfl (.tmp 9) (.tmp 10) rfl (w.heap.size + 1 + 1) A c L rfl (hown.alloc _) (wr.heap.size + 1) _ 1 [(-1 : Int)] rfl (fun e => by cases e) (IntsAt.one wr (-1) hm1) (by simp <;> omega) (by simp <;> omega) ?_; intro zs A2 c2 w5 hz hown5 hgrow5 hat5; have l15 : Lies w5 (w.heap.size + 1) _ _ := (hgrow5.block _ (by simp; omega) (fun e => by have := hbn _ e.symm; omega)).trans (l1.alloc (.cells #[.int .i64 (-1)] 3)); have s1 := l15.cell 2; have s2 := l15.frozen 2; simp at s1)
      go_roundw
      case rel =>
        have l05 : Lies w5 w.heap.size _ _ := (hgrow5.block _ (by simp; omega) (fun e => by have := hbn _ e.symm; omega)).trans (l0.alloc (.cells #[.int .i64 (-1)] 3))
        have hb5 := below_grown (hb.alloc hb.size (.cells #[.int .i64 (-1)] 3)) hgrow5 (by simp; omega) (fun q hq => by have := hbn q hq; omega)
        have l16 := l15.set 2 (.slice A2 zs.length c2)
        simp only [List.setIfInBounds_toArray, List.set_cons_succ, List.set_cons_zero] at l16
        refine ⟨k + 1, A2, c2, by omega, by go_num, l05.far (p := ⟨w.heap.size + 1, 2, none⟩) (by show w.heap.size ≠ w.heap.size + 1; omega) _, by rw [← hrs.out, ← hz.out]; exact l16, ?_, hb5.setCell (p := ⟨w.heap.size + 1, 2, none⟩) (by show w.heap.size ≤ w.heap.size + 1; omega) _⟩
        rw [← hrs.out, ← hz.out]
        exact hown5.of_blk (fun b hb => Below.heap_setCell _ _ _ _ (by show b ≠ w.heap.size + 1; have := (hown5.blocks b hb).1; omega))
      case measure => simp [intOf]; omega
    · obtain rfl : k = 20 := by omega
      clear hlt
      have e0 := l1.cell 0
      have e1 := l1.cell 1
      have e2 := l1.cell 2
      have e3 := l1.cell 3
      have c0 := l0.cell 0
      have c1 := l0.cell 1
      have c2 := l0.cell 2
      have c3 := l0.cell 3
      have f0 := l0.frozen 0
      have f1 := l0.frozen 1
      have f2 := l0.frozen 2
      have f3 := l0.frozen 3
      have lf := (((l0.set 0 (.slice none 0 0)).set 1 (.slice none 0 0)).set 2 (.slice A (List.replicate 20 (-1 : Int)).length c)).set 3 (.bool false)
      simp only [List.length_replicate] at e2 lf
      simp only [List.setIfInBounds_toArray, List.set_cons_succ, List.set_cons_zero] at lf
      have s0 := lf.cell 0
      have s1 := lf.cell 1
      have s2 := lf.cell 2
      have s3 := lf.cell 3
      simp only [List.getElem?_toArray, List.getElem?_cons_zero, List.getElem?_cons_succ] at e0 e1 e2 e3 c0 c1 c2 c3 s0 s1 s2 s3
      have HB := hide ((((hb.setCell (p := ⟨w.heap.size, 0, none⟩) (Nat.le_refl _) (.slice none 0 0)).setCell (p := ⟨w.heap.size, 1, none⟩) (Nat.le_refl _) (.slice none 0 0)).setCell (p := ⟨w.heap.size, 2, none⟩) (Nat.le_refl _) (.slice A 20 c)).setCell (p := ⟨w.heap.size, 3, none⟩) (Nat.le_refl _) (.bool false))
      have HO := hide hown
      clear lf l0 l1 hb hown
      rw [show ((20 : Nat) : Int) = (20 : Int) from rfl]
      go_wp2
      refine bodyPost_ret (v := machV none 0 0 none 0 0 A 20 c false) (by simp [machV, results, Try.results10, go_sem, s0, s1, s2, s3]) rfl ?_
      refine ⟨⟨none, 0, A, c, rfl, ⟨⟨w.heap.size, w.heap.size, Nat.le_refl _, Nat.le_refl _, HB.out.size, .inl ⟨rfl, rfl, rfl⟩, noBlock, fun b hb => .inr (by have := (HO.out.blocks b hb).1; omega)⟩, OwnI.empty _ _, ?_, noBlock, fun b hb => ⟨by have := (HO.out.blocks b hb).2; simp; omega, by simp [blockOf]⟩⟩, HB.out⟩, A, c, rfl⟩
      refine (HO.out.of_blk (fun b hb => ?_)).mono (by omega)
      have hbn : b ≠ w.heap.size := by have := (HO.out.blocks b hb).1; omega
      rw [Below.heap_setCell _ _ _ _ hbn, Below.heap_setCell _ _ _ _ hbn, Below.heap_setCell _ _ _ _ hbn, Below.heap_setCell _ _ _ _ hbn]

theorem specNew_any (w : World) :
    Calls Try.prog 10 #[] w (GivesM w [] (List.replicate 20 (-1))) := (specNew_nil w).mono fun _ _ h => h.1

end Go.Proofs.Ytekmghlgcfknaak
