/-
  The program's RenumberGraph: what it returns, in memory of its own.
-/
import Derived.Test.YtigelbilfddhgabPjAk
import Derived.Test.YtigelbilfddhgabPjAh
import Derived.Test.YtigelbilfddhgabImplD
import Derived.Test.YtigelbilfddhgabPjAd
namespace Go.Proofs.Ytigelbilfddhgab
open Go.RowKit Go.Maps
set_option linter.unusedVariables false

/-- the memory while the order is turned round -/
structure RenS (X0 wr : World) (os : List Int) (k : Nat) : Prop where
  bel : Below X0.heap.size X0 wr
  row : ∃ f, wr.rowIs X0.heap.size 3 os.length f ∧ ∀ (i : Nat) (x : Int), i < k → os[i]? = some x → f x.toNat = .int .i64 (i : Int)

theorem RenS.step {X0 wr : World} {os : List Int} {n k j : Nat} (ho : IsOrd os n) (h : RenS X0 wr os k) (hk : os[k]? = some (j : Int)) : RenS X0 (wr.setCell ⟨X0.heap.size, j, none⟩ (.int .i64 (k : Int))) os (k + 1) := by
  obtain ⟨f, h1, h2⟩ := h.row
  refine ⟨h.bel.setCell (p := ⟨X0.heap.size, j, none⟩) (Nat.le_refl _) _, ⟨_, h1.set j (.int .i64 (k : Int)), fun i x hi hx => ?_⟩⟩
  have hxr := ho.rng x (List.mem_of_getElem? hx)
  obtain ⟨q, rfl⟩ := Int.eq_ofNat_of_zero_le hxr.1
  rw [Int.toNat_natCast]
  by_cases e : i = k
  · subst e
    rw [hk] at hx
    injection hx with hx
    have : q = j := by omega
    rw [if_pos this]
  · have hne : q ≠ j := by
      intro e2
      subst e2
      obtain ⟨h3, h4⟩ := List.getElem?_eq_some_iff.1 hk
      obtain ⟨h5, h6⟩ := List.getElem?_eq_some_iff.1 hx
      exact e ((List.getElem_inj ho.nd).1 (h6.trans h4.symm))
    rw [if_neg hne]
    have := h2 i (q : Int) (by omega) hx
    rwa [Int.toNat_natCast] at this

theorem RenS.fin {X0 wr : World} {os : List Int} {n : Nat} (ho : IsOrd os n) (hn : n ≤ 1000) (h : RenS X0 wr os os.length) : IntsAt wr wr.heap.size (some ⟨X0.heap.size, 0, none⟩) (invOf os) := by
  obtain ⟨f, h1, h2⟩ := h.row
  have hlen := ho.len
  have hrow : wr.rowIs X0.heap.size 3 (invOf os).length (intCell (invOf os)) := by
    rw [invOf_len]
    refine h1.congr (fun j hj => ?_)
    have hm := ho.onto (j := (j : Int)) (by omega) (by omega)
    obtain ⟨i, hi, e⟩ := List.getElem_of_mem hm
    have hat : os[i]? = some (j : Int) := by rw [List.getElem?_eq_getElem hi, e]
    have h3 := h2 i (j : Int) hi hat
    have h4 := ho.inv hat
    rw [Int.toNat_natCast] at h3 h4
    rw [h3, intCell_at h4]
  refine IntsAt.of_row hrow hrow.lt (fun x hx => ?_) (by rw [invOf_len]; omega)
  obtain ⟨j, hj, rfl⟩ := List.mem_map.1 hx
  exact place_in64 (by omega) _

set_option maxHeartbeats 1000000 in
theorem implRenumber_any (A : Option Addr) (ns : List Nd) (c : Nat) (r : Int) (A2 : Option Addr) (os : List Int) (c2 : Nat) (w : World) (hr : NdsAt w w.heap.size A ns) (ho : IntsAt w w.heap.size A2 os) :
    Calls Try.prog 5 #[.agg #[.slice A ns.length c, .int .i64 r], .slice A2 os.length c2] w (GivesG w (renNs ns r os) (renR ns r os)) := by
  have hB2 : Below w.heap.size w ((w.alloc (.cells #[.slice A ns.length c, .int .i64 r] 25)).alloc (.cells #[.slice none 0 0, .int .i64 0] 25)) := ((Below.refl _ _).alloc (Nat.le_refl _) _).alloc (by simp) _
  have lG := (Lies.new w #[.slice A ns.length c, .int .i64 r] 25).alloc (.cells #[.slice none 0 0, .int .i64 0] 25)
  have lR := Lies.new (w.alloc (.cells #[.slice A ns.length c, .int .i64 r] 25)) #[.slice none 0 0, .int .i64 0] 25
  simp only [World.size_alloc] at lR
  have hr2 := hr.later hB2 (Nat.le_refl _)
  have ho2 := ho.later hB2 (Nat.le_refl _)
  clear hr ho
  go_enter Try.func5, Try.ntmps5
  go_wp2_with fail
  generalize (w.alloc (.cells #[.slice A ns.length c, .int .i64 r] 25)).alloc (.cells #[.slice none 0 0, .int .i64 0] 25) = W at hB2 lG lR hr2 ho2 ⊢
  refine (implValid_any A ns c r W hr2).mono ?_
  rintro e w1 ⟨rfl, hb1⟩
  have lG1 := lG.below hb1 lG.lt
  have lR1 := lR.below hb1 lR.lt
  have hr3 := hr2.later hb1 (Nat.le_refl _)
  have ho3 := ho2.later hb1 (Nat.le_refl _)
  have hB3 := hB2.trans (hb1.mono hB2.size)
  have e0 := lG1.cell 0
  have e1 := lG1.cell 1
  simp at e0 e1
  clear lG lR hr2 ho2 hB2 hb1
  have zero : ∀ (wz : World), Lies wz (w.heap.size + 1) #[.slice none 0 0, .int .i64 0] 25 → Below w.heap.size w wz → ¬ (ValidG ns r ∧ IsOrd os ns.length) →
      Hid (wz.cell? ⟨w.heap.size + 1, 0, none⟩ = some (.slice none 0 0) ∧ wz.cell? ⟨w.heap.size + 1, 1, none⟩ = some (.int .i64 0) ∧ wz.frozen? ⟨w.heap.size + 1, 0, none⟩ = false ∧ wz.frozen? ⟨w.heap.size + 1, 1, none⟩ = false ∧
        ((wz.setCell ⟨w.heap.size + 1, 0, none⟩ (.slice none 0 0)).setCell ⟨w.heap.size + 1, 1, none⟩ (.int .i64 0)).cell? ⟨w.heap.size + 1, 0, none⟩ = some (.slice none 0 0) ∧ ((wz.setCell ⟨w.heap.size + 1, 0, none⟩ (.slice none 0 0)).setCell ⟨w.heap.size + 1, 1, none⟩ (.int .i64 0)).cell? ⟨w.heap.size + 1, 1, none⟩ = some (.int .i64 0) ∧
        GivesG w (renNs ns r os) (renR ns r os) (.returned (.agg #[.slice none 0 0, .int .i64 0])) ((wz.setCell ⟨w.heap.size + 1, 0, none⟩ (.slice none 0 0)).setCell ⟨w.heap.size + 1, 1, none⟩ (.int .i64 0))) := by
    intro wz lz hb hno
    have l5 := (lz.set 0 (.slice none 0 0)).set 1 (.int .i64 0)
    simp only [List.setIfInBounds_toArray, List.set_cons_succ, List.set_cons_zero] at l5
    have s0 := l5.cell 0
    have s1 := l5.cell 1
    have b0 := lz.cell 0
    have b1 := lz.cell 1
    simp only [List.getElem?_toArray, List.getElem?_cons_zero, List.getElem?_cons_succ] at s0 s1 b0 b1
    refine ⟨b0, b1, lz.frozen 0, lz.frozen 1, s0, s1, ?_⟩
    have e1 : renNs ns r os = [] := by unfold renNs; rw [if_neg hno]
    have e2 : renR ns r os = 0 := by unfold renR; rw [if_neg hno]
    rw [e1, e2]
    exact GivesG.zero _ _ ((hb.setCell (p := ⟨w.heap.size + 1, 0, none⟩) (by show w.heap.size ≤ w.heap.size + 1; omega) _).setCell (p := ⟨w.heap.size + 1, 1, none⟩) (by show w.heap.size ≤ w.heap.size + 1; omega) _)
  have HZ := hide zero
  clear zero
  by_cases hv : ValidG ns r
  · rw [tf_true hv]
    have HV := hide hv
    have hfew := hv.few
    clear hv
    go_wp2_with fail
    refine (isOrder_any A2 os c2 ns.length w1 ho3 (by omega)).mono ?_
    rintro e w2 ⟨rfl, hb2⟩
    have lG2 := lG1.below hb2 lG1.lt
    have lR2 := lR1.below hb2 lR1.lt
    have hr4 := hr3.later hb2 (Nat.le_refl _)
    have ho4 := ho3.later hb2 (Nat.le_refl _)
    have hB4 := hB3.trans (hb2.mono hB3.size)
    clear lG1 lR1 hr3 ho3 hB3 hb2 e0 e1
    by_cases hord : IsOrd os ns.length
    · rw [tf_true hord]
      have HO := hide hord
      have hol := hord.len
      have hos : os.length ≤ 1000 := by omega
      have hmk := run_make_row' (P := Try.prog) 26 3 (.int .i64 0) 8 Try.underlying26 infoInt rfl .i64 .i64 os.length (by omega) (by omega)
      have hrow0 := World.rowIs_made w2 (.int .i64 0) os.length 3
      have hS0 : RenS w2 (w2.alloc (.cells (madeCells #[.int .i64 0] os.length) 3)) os 0 := ⟨(Below.refl _ _).alloc (Nat.le_refl _) _, ⟨_, hrow0, fun i x hi => absurd hi (by omega)⟩⟩
      have HS0 := hide hS0
      have HG := hide lG2
      have HR := hide lR2
      have HN := hide hr4
      have HOS := hide ho4
      have HB := hide hB4
      clear hord hS0 hrow0 lG2 lR2 hr4 ho4 hB4 hol
      go_wp2_with fail
      clear hmk
      generalize w2.alloc (.cells (madeCells #[.int .i64 0] os.length) 3) = W2 at HS0 ⊢
      go_loopg [25] os.length (fun gk iv wr => ∃ k : Nat, k ≤ os.length ∧ gk = os.length - k ∧ iv = .int .i64 (k : Int) ∧ RenS w2 wr os k)
      case atStart => exact ⟨0, Nat.zero_le _, rfl, rfl, HS0.out⟩
      case round =>
        clear HS0
        obtain ⟨k, hk, rfl, rfl, hS⟩ := hrel
        by_cases hlt : k < os.length
        · obtain ⟨b, off, x, rfl, hbl, hx, hm, hc⟩ := (HOS.out.below hS.bel).at_ hlt
          have hxr := HO.out.rng x hm
          obtain ⟨j, rfl⟩ := Int.eq_ofNat_of_zero_le hxr.1
          have hj : j < os.length := by have := HO.out.len; omega
          have HX := hide hx
          have HS := hide hS
          obtain ⟨f, hf, _⟩ := hS.row
          have q1 := World.rowIs.cell hf hj
          have q2 := World.rowIs.frozen hf j
          have hk1 : (0 : Int) ≤ (k : Int) := by omega
          have hk2 : (k : Int) < (os.length : Int) := by omega
          have hk3 : (0 : Int) ≤ (j : Int) := by omega
          have hk4 : (j : Int) < (os.length : Int) := by omega
          have HN2 := hide (HS.out.step HO.out HX.out)
          clear hx hS hm hbl hxr hf
          go_wp2
          go_roundg (os.length - (k + 1))
          case measure => omega
          case rel => exact ⟨k + 1, by omega, rfl, by go_num, HN2.out⟩
        · obtain rfl : k = os.length := by omega
          have hi := hS.fin HO.out (by omega)
          have HI := hide hi
          have hlen2 := invOf_len os
          have lG5 := HG.out.below hS.bel HG.out.lt
          have lR5 := HR.out.below hS.bel HR.out.lt
          have hr5 := HN.out.later hS.bel (Nat.le_refl _)
          have hB5 := HB.out.trans (hS.bel.mono HB.out.size)
          have g0 := lG5.cell 0
          have g1 := lG5.cell 1
          simp at g0 g1
          have hP := implPicked_any A ns c r (some ⟨w2.heap.size, 0, none⟩) (invOf os) os.length wr hr5 hi (HO.out.pickable HV.out)
          have HR5 := hide lR5
          have hRlt := lR5.lt
          have HB5 := hide hB5
          rw [hlen2] at hP
          have HP := hide hP
          clear hlt hS hi hlen2 lG5 lR5 hr5 hB5 hP
          go_wp2_with fail
          refine HP.out.mono ?_
          rintro e w3 ⟨Ap, cp, rfl, hoP, hb3⟩
          have lR6 := HR5.out.below hb3 hRlt
          have l5 := (lR6.set 0 (.slice Ap (pickNs ns (invOf os)).length cp)).set 1 (.int .i64 (place (invOf os) r))
          simp only [List.setIfInBounds_toArray, List.set_cons_succ, List.set_cons_zero] at l5
          have s0 := l5.cell 0
          have s1 := l5.cell 1
          have b0 := lR6.cell 0
          have b1 := lR6.cell 1
          have f0 := lR6.frozen 0
          have f1 := lR6.frozen 1
          simp only [List.getElem?_toArray, List.getElem?_cons_zero, List.getElem?_cons_succ] at s0 s1 b0 b1
          have e1 : renNs ns r os = pickNs ns (invOf os) := by unfold renNs; rw [if_pos ⟨HV.out, HO.out⟩]
          have e2 : renR ns r os = place (invOf os) r := by unfold renR; rw [if_pos ⟨HV.out, HO.out⟩]
          have HF := hide (GivesG.put (r := place (invOf os) r) hRlt HB5.out (Below.refl _ _) hb3 hoP)
          have E1 := hide e1
          have E2 := hide e2
          clear l5 lR6 hb3 hoP HP e1 e2 g0 g1
          go_wp2
          refine bodyPost_ret (v := .agg #[.slice Ap (pickNs ns (invOf os)).length cp, .int .i64 (place (invOf os) r)]) (by simp [results, Try.results5, go_sem, s0, s1]) rfl ?_
          rw [E1.out, E2.out]
          exact HF.out
    · rw [tf_false hord]
      have HQ := hide (HZ.out w2 lR2 hB4 (fun h => hord h.2)).out
      obtain ⟨b0, b1, f0, f1, s0, s1, _⟩ := HQ.out
      clear hord lG2 lR2 hr4 ho4 hB4
      go_wp2
      refine bodyPost_ret (v := .agg #[.slice none 0 0, .int .i64 0]) (by simp [results, Try.results5, go_sem, s0, s1]) rfl ?_
      exact HQ.out.2.2.2.2.2.2
  · rw [tf_false hv]
    have HQ := hide (HZ.out w1 lR1 hB3 (fun h => hv h.1)).out
    obtain ⟨b0, b1, f0, f1, s0, s1, _⟩ := HQ.out
    clear hv lG1 lR1 hr3 ho3 hB3 e0 e1
    go_wp2
    refine bodyPost_ret (v := .agg #[.slice none 0 0, .int .i64 0]) (by simp [results, Try.results5, go_sem, s0, s1]) rfl ?_
    exact HQ.out.2.2.2.2.2.2

end Go.Proofs.Ytigelbilfddhgab
