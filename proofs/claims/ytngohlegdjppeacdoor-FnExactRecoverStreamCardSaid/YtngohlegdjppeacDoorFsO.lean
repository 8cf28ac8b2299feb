/-
  The program's firstOp: what it returns.
-/
import Derived.Test.YtngohlegdjppeacDoorFsA
import Derived.Test.YtngohlegdjppeacDoorHasA
import Derived.Test.YtngohlegdjppeacDoorSub
import Derived.Deep.Cut
namespace Go.Proofs.YtngohlegdjppeacDoor
open Go.RowKit
set_option linter.unusedVariables false

/-- what a call hands back that reads an order -/
def GivesOp (w : World) (p : Od × Nat) (e : Ending) (w' : World) : Prop := e = .returned (.tuple #[.agg #[.int .i64 p.1.code, .int .i64 p.1.arg], .int .i64 (p.2 : Int)]) ∧ Below w.heap.size w w'

theorem lies2 {w : World} {g : Nat} {a b : Value} {t : TypeId} (h : Lies w g #[a, b] t) (v0 v1 : Value) :
    ((w.setCell ⟨g, 0, none⟩ v0).setCell ⟨g, 1, none⟩ v1).cell? ⟨g, 0, none⟩ = some v0 ∧ ((w.setCell ⟨g, 0, none⟩ v0).setCell ⟨g, 1, none⟩ v1).cell? ⟨g, 1, none⟩ = some v1 := by
  have h2 := (h.set 0 v0).set 1 v1
  have c0 := h2.cell 0
  have c1 := h2.cell 1
  simp at c0 c1
  exact ⟨c0, c1⟩

set_option maxRecDepth 100000 in
set_option maxHeartbeats 2000000 in
theorem firstOp_any (A : Option Addr) (xs : List Int) (c : Nat) (w : World) (h : IntsAt w w.heap.size A xs) (hb : ∀ x ∈ xs, 0 ≤ x ∧ x ≤ 255) (hc : xs.length ≤ c) (hl : xs.length ≤ 1000) (hF : FormsAt w w.heap.size) :
    Calls Tryd.prog 27 #[.slice A xs.length c] w (GivesOp w (fstO xs)) := by
  have hB := (Below.refl w.heap.size w).alloc (Nat.le_refl _) (.cells #[.int .i64 0, .int .i64 0] 36)
  have l0 := Lies.new w #[.int .i64 0, .int .i64 0] 36
  have HB := hide hB
  have hFW := hF.later hB (Nat.le_refl _)
  match xs, h, hb, hc, hl with
  | [], h, hb, hc, hl =>
    have HF := hide (show fstO [] = (⟨0, 0⟩, 0) from fstO_none rfl)
    rw [HF.out]
    clear h hb hc hl hF hFW hB
    go_enter Tryd.func27, Tryd.ntmps27
    go_upto_region 1 with fail
    generalize w.alloc (.cells #[.int .i64 0, .int .i64 0] 36) = W at HB l0 ⊢
    have f0 := l0.frozen 0
    have f1 := l0.frozen 1
    have x0 := l0.cell 0
    have x1 := l0.cell 1
    simp at x0 x1
    obtain ⟨s0, s1⟩ := lies2 l0 (.int .i64 0) (.int .i64 0)
    have HE := hide ((HB.out.setCell (p := ⟨w.heap.size, 0, none⟩) (Nat.le_refl _) (.int .i64 0)).setCell (p := ⟨w.heap.size, 1, none⟩) (Nat.le_refl _) (.int .i64 0))
    clear l0
    go_wp2
    exact bodyPost_ret (v := .tuple #[.agg #[.int .i64 0, .int .i64 0], .int .i64 0]) (by simp [results, Tryd.results27, go_sem, s0, s1]) rfl ⟨rfl, HE.out⟩
  | y :: t, h, hb, hc, hl =>
    have hy := hb y (by simp)
    have ht : ∀ x ∈ t, 0 ≤ x ∧ x ≤ 255 := fun x hx => hb x (by simp [hx])
    obtain ⟨b0, off, y0, rfl, hbl, hy0, _, hcell⟩ := h.at_ (k := 0) (by simp)
    obtain rfl : y = y0 := by simpa using hy0
    rw [Nat.add_zero] at hcell
    have hcW := (hB.cell (p := ⟨b0, off, none⟩) hbl).trans hcell
    have hlt : t.length + 1 ≤ 1000 := by simpa using hl
    have hct : t.length + 1 ≤ c := by simpa using hc
    have hIt := (h.behind 1).later hB (Nat.le_refl _)
    rw [List.drop_one, List.tail_cons] at hIt
    have HIt := hide hIt
    have Ht := hide ht
    rw [List.length_cons]
    have hz1 : (((t.length + 1 : Nat) : Int) == 0) = false := by simp only [beq_eq_false_iff_ne, ne_eq]; omega
    have hz2 : (0 : Int) < ((t.length + 1 : Nat) : Int) := by omega
    clear h hb hc hl hF hB ht hIt hcell hy0
    by_cases h19 : 19 < y
    · have HF := hide (show fstO (y :: t) = (⟨0, 0⟩, 0) from fstO_none (by simp only [firstO]; rw [if_pos h19]))
      have d1 : decide (19 < y) = true := by simpa using h19
      rw [HF.out]
      clear hFW
      go_enter Tryd.func27, Tryd.ntmps27
      go_upto_region 1 with fail
      generalize w.alloc (.cells #[.int .i64 0, .int .i64 0] 36) = W at HB l0 HIt hcW ⊢
      have f0 := l0.frozen 0
      have f1 := l0.frozen 1
      have x0 := l0.cell 0
      have x1 := l0.cell 1
      simp at x0 x1
      obtain ⟨s0, s1⟩ := lies2 l0 (.int .i64 0) (.int .i64 0)
      have HE := hide ((HB.out.setCell (p := ⟨w.heap.size, 0, none⟩) (Nat.le_refl _) (.int .i64 0)).setCell (p := ⟨w.heap.size, 1, none⟩) (Nat.le_refl _) (.int .i64 0))
      clear l0
      go_wp2
      exact bodyPost_ret (v := .tuple #[.agg #[.int .i64 0, .int .i64 0], .int .i64 0]) (by simp [results, Tryd.results27, go_sem, s0, s1]) rfl ⟨rfl, HE.out⟩
    · have d1 : decide (19 < y) = false := by simpa using h19
      by_cases hneg : argMost y < 0
      · have HF := hide (show fstO (y :: t) = (⟨y, 0⟩, 1) from fstO_some (by simp only [firstO]; rw [if_neg h19, if_pos hneg]))
        have HN := hide hneg
        rw [HF.out]
        clear hneg
        go_enter Tryd.func27, Tryd.ntmps27
        go_upto_region 1 with fail
        generalize w.alloc (.cells #[.int .i64 0, .int .i64 0] 36) = W at HB l0 HIt hcW hFW ⊢
        have f0 := l0.frozen 0
        have f1 := l0.frozen 1
        have x0 := l0.cell 0
        have x1 := l0.cell 1
        simp at x0 x1
        obtain ⟨s0, s1⟩ := lies2 l0 (.int .i64 y) (.int .i64 0)
        have HE := hide ((HB.out.setCell (p := ⟨w.heap.size, 0, none⟩) (Nat.le_refl _) (.int .i64 y)).setCell (p := ⟨w.heap.size, 1, none⟩) (Nat.le_refl _) (.int .i64 0))
        clear l0
        go_wp2_with fail
        refine (hasArg_no y W hFW hy.1 (by omega) HN.out).mono ?_
        rintro e w' ⟨rfl, rfl⟩
        go_wp2
        exact bodyPost_ret (v := .tuple #[.agg #[.int .i64 y, .int .i64 0], .int .i64 1]) (by simp [results, Tryd.results27, go_sem, s0, s1]) rfl ⟨rfl, HE.out⟩
      · have HN := hide hneg
        have hm := argMost_range y
        have htop : argTop y = argMost y := by unfold argTop; rw [if_neg hneg]
        have Htop := hide htop
        clear hneg htop
        have hbd := firstA_bounds Ht.out
        obtain ⟨m, hmy⟩ := Int.eq_ofNat_of_zero_le hy.1
        have Hmy := hide hmy
        have hm20 : m < 20 := by omega
        clear hmy
        by_cases hc1 : c = 1
        · have e0 : t = [] := List.eq_nil_of_length_eq_zero (by omega)
          subst e0
          subst hc1
          have HF := hide (show fstO [y] = (⟨0, 0⟩, 0) from fstO_none (by simp only [firstO]; rw [if_neg h19, if_neg HN.out]; simp [firstA]))
          rw [HF.out]
          clear hbd hz1 hz2
          simp only [List.length_nil, Nat.zero_add] at hlt hct ⊢
          go_enter Tryd.func27, Tryd.ntmps27
          go_upto_region 1 with fail
          have hlW := l0.lt
          generalize w.alloc (.cells #[.int .i64 0, .int .i64 0] 36) = W at HB l0 HIt hcW hFW hlW ⊢
          have f0 := l0.frozen 0
          go_wp2_with fail
          refine (hasArg_yes y W hFW hy.1 (by omega) (by have := HN.out; omega)).mono ?_
          rintro e w' ⟨rfl, rfl⟩
          go_wp2_with fail
          refine (firstArg_any _ [] _ W (IntsAt.empt _) (by simp) (by simp)).mono ?_
          rw [show firstA [] = (0, 0) from rfl]
          rintro e w2 ⟨rfl, hb2⟩
          have l2 := l0.below hb2 l0.lt
          have HB2 := hide (HB.out.trans (hb2.mono HB.out.size))
          have hF2 := hFW.later hb2 (Nat.le_refl _)
          clear hb2 l0 f0 hFW HIt hcW
          have x0 := l2.cell 0
          have x1 := l2.cell 1
          have f0 := l2.frozen 0
          have f1 := l2.frozen 1
          simp at x0 x1
          obtain ⟨s0, s1⟩ := lies2 l2 (.int .i64 0) (.int .i64 0)
          have HE := hide ((HB2.out.setCell (p := ⟨w.heap.size, 0, none⟩) (Nat.le_refl _) (.int .i64 0)).setCell (p := ⟨w.heap.size, 1, none⟩) (Nat.le_refl _) (.int .i64 0))
          clear l2
          go_wp2
          exact bodyPost_ret (v := .tuple #[.agg #[.int .i64 0, .int .i64 0], .int .i64 0]) (by simp [results, Tryd.results27, go_sem, s0, s1]) rfl ⟨rfl, HE.out⟩
        · have hc2 : ¬ c = 1 := hc1
          obtain ⟨a, ha⟩ : ∃ a, a = (firstA t).1 := ⟨_, rfl⟩
          obtain ⟨n, hn⟩ : ∃ n, n = (firstA t).2 := ⟨_, rfl⟩
          rw [← ha, ← hn] at hbd
          have Ha := hide ha
          have Hn := hide hn
          clear ha hn hc1
          by_cases hn0 : n = 0
          · have HF := hide (show fstO (y :: t) = (⟨0, 0⟩, 0) from fstO_none (by simp only [firstO]; rw [if_neg h19, if_neg HN.out, if_pos (.inl (by rw [← Hn.out]; exact hn0))]))
            rw [HF.out]
            subst hn0
            go_enter Tryd.func27, Tryd.ntmps27
            go_upto_region 1 with fail
            have hlW := l0.lt
            generalize w.alloc (.cells #[.int .i64 0, .int .i64 0] 36) = W at HB l0 HIt hcW hFW hlW ⊢
            have f0 := l0.frozen 0
            go_wp2_with fail
            refine (hasArg_yes y W hFW hy.1 (by omega) (by have := HN.out; omega)).mono ?_
            rintro e w' ⟨rfl, rfl⟩
            go_wp2_with fail
            have HC := firstArg_any _ t (c - 1) W HIt.out Ht.out (by omega)
            rw [← Ha.out, ← Hn.out] at HC
            refine HC.mono ?_
            clear HC
            rintro e w2 ⟨rfl, hb2⟩
            have l2 := l0.below hb2 l0.lt
            have HB2 := hide (HB.out.trans (hb2.mono HB.out.size))
            have hF2 := hFW.later hb2 (Nat.le_refl _)
            clear hb2 l0 f0 hFW HIt hcW
            have x0 := l2.cell 0
            have x1 := l2.cell 1
            have f0 := l2.frozen 0
            have f1 := l2.frozen 1
            simp at x0 x1
            obtain ⟨s0, s1⟩ := lies2 l2 (.int .i64 0) (.int .i64 0)
            have HE := hide ((HB2.out.setCell (p := ⟨w.heap.size, 0, none⟩) (Nat.le_refl _) (.int .i64 0)).setCell (p := ⟨w.heap.size, 1, none⟩) (Nat.le_refl _) (.int .i64 0))
            clear l2
            go_wp2
            exact bodyPost_ret (v := .tuple #[.agg #[.int .i64 0, .int .i64 0], .int .i64 0]) (by simp [results, Tryd.results27, go_sem, s0, s1]) rfl ⟨rfl, HE.out⟩
          · have dn : ((n : Int) == 0) = false := by simp only [beq_eq_false_iff_ne, ne_eq]; omega
            by_cases hbig : argMost y < a
            · have HF := hide (show fstO (y :: t) = (⟨0, 0⟩, 0) from fstO_none (by simp only [firstO]; rw [if_neg h19, if_neg HN.out, if_pos (.inr (by rw [← Ha.out]; exact hbig))]))
              rw [HF.out]
              go_enter Tryd.func27, Tryd.ntmps27
              go_upto_region 1 with fail
              have hlW := l0.lt
              generalize w.alloc (.cells #[.int .i64 0, .int .i64 0] 36) = W at HB l0 HIt hcW hFW hlW ⊢
              have f0 := l0.frozen 0
              go_wp2_with fail
              refine (hasArg_yes y W hFW hy.1 (by omega) (by have := HN.out; omega)).mono ?_
              rintro e w' ⟨rfl, rfl⟩
              go_wp2_with fail
              have HC := firstArg_any _ t (c - 1) W HIt.out Ht.out (by omega)
              rw [← Ha.out, ← Hn.out] at HC
              refine HC.mono ?_
              clear HC
              rintro e w2 ⟨rfl, hb2⟩
              have l2 := l0.below hb2 l0.lt
              have HB2 := hide (HB.out.trans (hb2.mono HB.out.size))
              have hF2 := hFW.later hb2 (Nat.le_refl _)
              clear hb2 l0 f0 hFW HIt hcW
              have harg := hF2.arg m hm20
              rw [← Hmy.out, Htop.out] at harg
              have hmt : y.toNat = m := by have := Hmy.out; omega
              have db : decide (argMost y < a) = true := by simpa using hbig
              generalize argMost y = T at harg db hm hbig
              have x0 := l2.cell 0
              have x1 := l2.cell 1
              have f0 := l2.frozen 0
              have f1 := l2.frozen 1
              simp at x0 x1
              obtain ⟨s0, s1⟩ := lies2 l2 (.int .i64 0) (.int .i64 0)
              have HE := hide ((HB2.out.setCell (p := ⟨w.heap.size, 0, none⟩) (Nat.le_refl _) (.int .i64 0)).setCell (p := ⟨w.heap.size, 1, none⟩) (Nat.le_refl _) (.int .i64 0))
              clear l2
              go_wp2
              exact bodyPost_ret (v := .tuple #[.agg #[.int .i64 0, .int .i64 0], .int .i64 0]) (by simp [results, Tryd.results27, go_sem, s0, s1]) rfl ⟨rfl, HE.out⟩
            · have HF := hide (show fstO (y :: t) = (⟨y, a⟩, 1 + n) from fstO_some (by simp only [firstO]; rw [if_neg h19, if_neg HN.out, if_neg (by rw [← Ha.out, ← Hn.out]; omega), ← Ha.out, ← Hn.out]))
              rw [HF.out]
              go_enter Tryd.func27, Tryd.ntmps27
              go_upto_region 1 with fail
              have hlW := l0.lt
              generalize w.alloc (.cells #[.int .i64 0, .int .i64 0] 36) = W at HB l0 HIt hcW hFW hlW ⊢
              have f0 := l0.frozen 0
              go_wp2_with fail
              refine (hasArg_yes y W hFW hy.1 (by omega) (by have := HN.out; omega)).mono ?_
              rintro e w' ⟨rfl, rfl⟩
              go_wp2_with fail
              have HC := firstArg_any _ t (c - 1) W HIt.out Ht.out (by omega)
              rw [← Ha.out, ← Hn.out] at HC
              refine HC.mono ?_
              clear HC
              rintro e w2 ⟨rfl, hb2⟩
              have l2 := l0.below hb2 l0.lt
              have HB2 := hide (HB.out.trans (hb2.mono HB.out.size))
              have hF2 := hFW.later hb2 (Nat.le_refl _)
              clear hb2 l0 f0 hFW HIt hcW
              have harg := hF2.arg m hm20
              rw [← Hmy.out, Htop.out] at harg
              have hmt : y.toNat = m := by have := Hmy.out; omega
              have db : decide (argMost y < a) = false := by simpa using hbig
              generalize argMost y = T at harg db hm hbig
              have x0 := l2.cell 0
              have x1 := l2.cell 1
              have f0 := l2.frozen 0
              have f1 := l2.frozen 1
              simp at x0 x1
              obtain ⟨s0, s1⟩ := lies2 l2 (.int .i64 y) (.int .i64 a)
              have HE := hide ((HB2.out.setCell (p := ⟨w.heap.size, 0, none⟩) (Nat.le_refl _) (.int .i64 y)).setCell (p := ⟨w.heap.size, 1, none⟩) (Nat.le_refl _) (.int .i64 a))
              clear l2
              go_wp2
              exact bodyPost_ret (v := .tuple #[.agg #[.int .i64 y, .int .i64 a], .int .i64 (1 + (n : Int))]) (by simp [results, Tryd.results27, go_sem, s0, s1]) rfl ⟨by rw [Int.natCast_add]; rfl, HE.out⟩

end Go.Proofs.YtngohlegdjppeacDoor
