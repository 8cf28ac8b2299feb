/-
  The model's unframe: what it returns.
-/
import Derived.Test.YtngohlegdjppeacDoorVF
import Derived.Test.YtngohlegdjppeacDoorSub
import Derived.Test.YtngohlegdjppeacDoorOwnS
import Derived.Deep.LoopGhost
import Derived.Deep.RegionLaw
namespace Go.Proofs.YtngohlegdjppeacDoor
open Go.RowKit
set_option linter.unusedVariables false

/-- an int slice of the call's own and a value come back -/
def GivesIntsV (w : World) (xs : List Int) (v : Value) (e : Ending) (w' : World) : Prop := ∃ A c, e = .returned (.tuple #[.slice A xs.length c, v]) ∧ OwnI w' w.heap.size A c xs ∧ Below w.heap.size w w'

/-- the memory while frames are read: i is how much of the list is read -/
structure UfS (w wr : World) (R : List Int) (N : Nat) (xs : List Int) (i : Nat) (Ao : Option Addr) (co : Nat) (acc : List Int) : Prop where
  bel : Below w.heap.size w wr
  own : OwnI wr w.heap.size Ao co acc
  eq : acc ++ (unfr xs.length (xs.drop i)).1 = R
  at_ : i + (unfr xs.length (xs.drop i)).2 = N
  sum : acc.length ≤ i
  le : i ≤ xs.length

theorem UfS.step {w wr w2 : World} {R : List Int} {N : Nat} {xs : List Int} {i q : Nat} {Ao A2 : Option Addr} {co c2 : Nat} {acc zs2 : List Int} (h : UfS w wr R N xs i Ao co acc)
    (hx : xs[i]? = some (q : Int)) (h1 : 1 ≤ q) (h2 : q ≤ 200) (h3 : i + q < xs.length)
    (hg2 : wr.grownBy w2 (blockOf Ao)) (e2 : zs2 = acc ++ (xs.drop (i + 1)).take q) (own2 : OwnI w2 w.heap.size A2 c2 zs2) :
    UfS w w2 R N xs (i + 1 + q) A2 c2 zs2 := by
  have hs := unfr_step (f := xs.length) hx (by omega) (by omega) (by rw [Int.toNat_natCast]; exact h3) (Nat.le_refl _)
  rw [Int.toNat_natCast] at hs
  refine ⟨below_grown h.bel hg2 h.bel.size (fun k hk => (h.own.blocks k hk).1), own2, ?_, ?_, ?_, by omega⟩
  · rw [e2, ← h.eq, hs, List.append_assoc]
  · have := h.at_
    rw [hs] at this
    simp only at this
    omega
  · rw [e2]
    have := h.sum
    simp only [List.length_append, List.length_take]
    omega

theorem UfS.stop {w wr : World} {R : List Int} {N : Nat} {xs : List Int} {i : Nat} {Ao : Option Addr} {co : Nat} {acc : List Int} (h : UfS w wr R N xs i Ao co acc)
    (hx : ∀ h, xs[i]? = some h → ¬ (1 ≤ h ∧ h ≤ 200 ∧ i + h.toNat < xs.length)) : acc = R ∧ i = N := by
  have hs := unfr_stop (f := xs.length) hx
  have h1 := h.eq
  have h2 := h.at_
  rw [hs] at h1 h2
  simp at h1 h2
  exact ⟨h1, h2⟩

set_option maxRecDepth 100000 in
set_option maxHeartbeats 1000000 in
theorem unframe_any (A : Option Addr) (xs : List Int) (c : Nat) (w : World) (h : IntsAt w w.heap.size A xs) (hc : xs.length ≤ c) (hl : xs.length ≤ 2000) :
    Calls Tryd.prog 13 #[.slice A xs.length c] w (GivesIntsV w (unfr xs.length xs).1 (.int .i64 ((unfr xs.length xs).2 : Int))) := by
  obtain ⟨R, hR⟩ : ∃ R, R = (unfr xs.length xs).1 := ⟨_, rfl⟩
  obtain ⟨N, hN⟩ : ∃ N, N = (unfr xs.length xs).2 := ⟨_, rfl⟩
  have HR := hide hR
  have HN := hide hN
  rw [← hR, ← hN]
  clear hR hN
  have HS0 := hide (show UfS w (w.alloc (.cells #[] 3)) R N xs 0 (some ⟨w.heap.size, 0, none⟩) 0 [] from
    ⟨(Below.refl _ _).alloc (Nat.le_refl _) _, OwnI.bare w, by rw [HR.out]; rfl, by rw [HN.out]; simp, Nat.zero_le _, Nat.zero_le _⟩)
  go_enter Tryd.func13, Tryd.ntmps13
  go_wp2_with fail
  generalize w.alloc (.cells #[] 3) = w0 at HS0 ⊢
  go_loopg [4, 5] xs.length (fun gk ov iv wr => ∃ (i : Nat) (Ao : Option Addr) (co : Nat) (acc : List Int), gk = xs.length - i ∧ iv = .int .i64 (i : Int) ∧ ov = .slice Ao acc.length co ∧ UfS w wr R N xs i Ao co acc)
  case atStart => exact ⟨0, _, 0, [], rfl, rfl, rfl, HS0.out⟩
  case round =>
    clear HS0
    obtain ⟨i, Ao, co, acc, rfl, rfl, rfl, hS⟩ := hrel
    have HS := hide hS
    have hil := hS.le
    have hsum := hS.sum
    have hbs := hS.bel.size
    by_cases hlt : i < xs.length
    · obtain ⟨b, off, y, rfl, hbl, hy, _, hcell⟩ := (h.below hS.bel).at_ hlt
      have Hy := hide hy
      clear hS hy
      by_cases h12 : 1 ≤ y ∧ y ≤ 200
      · obtain ⟨q, rfl⟩ := Int.eq_ofNat_of_zero_le (show 0 ≤ y by omega)
        obtain ⟨h1, h2⟩ := h12
        by_cases h3 : i + q < xs.length
        · have HT : Hid (((xs.drop (i + 1)).take q).length = q) := hide (by simp; omega)
          have HT2 : Hid (((xs.drop (i + 1)).take q).length = i + 1 + q - (i + 1)) := hide (by simp; omega)
          have hw4 : (i : Int) + 1 + (q : Int) ≤ (c : Int) := by omega
          have hw5 : ¬ c = i + 1 := by omega
          go_wp2_with fail
          refine (inRange_yes (q : Int) 1 200 wr h1 h2).mono ?_
          rintro e w' ⟨rfl, rfl⟩
          have d1 : decide ((i : Int) + (q : Int) < (xs.length : Int)) = true := by simp; omega
          go_wp2_with (at_builtin; refine append_ints rfl (.tmp 29) (.tmp 40) rfl w.heap.size Ao co acc rfl HS.out.own w.heap.size (some ⟨b, off + (i + 1), none⟩) (c - (i + 1)) ((xs.drop (i + 1)).take q) (congrArg (fun n => Value.slice (some ⟨b, off + (i + 1), none⟩) n (c - (i + 1))) HT2.out.symm) (fun e => by cases e) (((h.behind (i + 1)).upto q).below HS.out.bel) (by rw [HT.out]; omega) hbs ?_; intro zs2 A2 c2 w2 e2 own2 hg2 _; have HG2 := hide hg2; have HO2 := hide own2; have hcell2 : w2.cell? ⟨b, off + i, none⟩ = some (.int .i64 (q : Int)) := ((below_grown HS.out.bel hg2 hbs (fun k hk => (HS.out.own.blocks k hk).1)).cell (p := ⟨b, off + i, none⟩) hbl).trans ((HS.out.bel.cell (p := ⟨b, off + i, none⟩) hbl).symm.trans hcell); clear hg2 own2)
          go_roundg (xs.length - (i + 1 + q))
          case measure => omega
          case rel => exact ⟨i + 1 + q, A2, c2, zs2, rfl, by go_num, rfl, HS.out.step Hy.out (by omega) (by omega) h3 HG2.out e2 HO2.out⟩
        · have hE := HS.out.stop (fun h hh => by
            have : h = (q : Int) := by have := hh.symm.trans Hy.out; injection this
            rw [this, Int.toNat_natCast]; omega)
          obtain ⟨rfl, rfl⟩ := hE
          go_wp2_with fail
          refine (inRange_yes (q : Int) 1 200 wr h1 h2).mono ?_
          rintro e w' ⟨rfl, rfl⟩
          go_wp2
          go_ret2
          exact ⟨Ao, co, rfl, HS.out.own, HS.out.bel⟩
      · have hE := HS.out.stop (fun h hh => by
          have : h = y := by have := hh.symm.trans Hy.out; injection this
          rw [this]; omega)
        obtain ⟨rfl, rfl⟩ := hE
        go_wp2_with fail
        refine (inRange_no y 1 200 wr (by omega)).mono ?_
        rintro e w' ⟨rfl, rfl⟩
        clear h12
        go_wp2
        go_ret2
        exact ⟨Ao, co, rfl, HS.out.own, HS.out.bel⟩
    · have hE := HS.out.stop (fun h hh => by
        have := (List.getElem?_eq_some_iff.1 hh).1
        omega)
      obtain ⟨rfl, rfl⟩ := hE
      clear hS
      go_wp2
      go_ret2
      exact ⟨Ao, co, rfl, HS.out.own, HS.out.bel⟩

end Go.Proofs.YtngohlegdjppeacDoor
