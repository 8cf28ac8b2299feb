/-
  The model's FrameBytes: what it returns.
-/
import Derived.Test.YtfhmmdiicnfjbaaDoorPjAe
import Derived.Test.YtfhmmdiicnfjbaaDoorPjAf
import Derived.Test.YtfhmmdiicnfjbaaDoorOwnS
import Derived.Deep.LoopGhost
import Derived.Deep.RegionLaw
import Derived.IntWalk
namespace Go.Proofs.YtfhmmdiicnfjbaaDoor
open Go.RowKit
set_option linter.unusedVariables false

/-- the memory while frames are laid behind each other: i is how much of the list is in them -/
structure FrT (w wr : World) (m : Nat) (R xs : List Int) (i : Nat) (Ao : Option Addr) (co : Nat) (acc : List Int) : Prop where
  bel : Below w.heap.size w wr
  own : OwnI wr w.heap.size Ao co acc
  eq : acc ++ framed m xs.length (xs.drop i) = R
  sum : acc.length + 2 * (xs.length - i) ≤ 2000

theorem FrT.mid {w wr w1 : World} {m : Nat} {R xs : List Int} {i : Nat} {Ao : Option Addr} {co : Nat} {acc : List Int} (h : FrT w wr m R xs i Ao co acc) (o : Obj)
    (hg : (wr.alloc o).drew.grownBy w1 (blockOf Ao)) : Below w.heap.size w w1 :=
  below_grown ((h.bel.alloc h.bel.size o).drew) hg (by have := h.bel.size; simp; omega) (fun k hk => (h.own.blocks k hk).1)

theorem FrT.step {w wr w1 w2 : World} {m z : Nat} {R xs : List Int} {i : Nat} {Ao A1 A2 : Option Addr} {co c1 c2 : Nat} {acc zs1 zs2 : List Int} (h : FrT w wr m R xs i Ao co acc) (o : Obj)
    (hm : 1 ≤ m) (hi : i < xs.length) (hz : z = min m (xs.length - i))
    (hg1 : (wr.alloc o).drew.grownBy w1 (blockOf Ao)) (e1 : zs1 = acc ++ [(z : Int)]) (own1 : OwnI w1 w.heap.size A1 c1 zs1)
    (hg2 : w1.grownBy w2 (blockOf A1)) (e2 : zs2 = zs1 ++ (xs.drop i).take z) (own2 : OwnI w2 w.heap.size A2 c2 zs2) :
    FrT w w2 m R xs (i + m) A2 c2 zs2 := by
  have hmid := h.mid o hg1
  have hl : (xs.drop i).length = xs.length - i := by simp
  refine ⟨below_grown hmid hg2 hmid.size (fun k hk => (own1.blocks k hk).1), own2, ?_, ?_⟩
  · rw [e2, e1, ← h.eq, framed_step (xs := xs.drop i) hm (List.length_pos_iff.1 (by omega)) (by omega), hl, ← hz, List.drop_drop]
    have : (xs.drop i).take z = (xs.drop i).take m := by
      rw [hz]
      rcases Nat.le_total m (xs.length - i) with h1 | h1
      · rw [Nat.min_eq_left h1]
      · rw [Nat.min_eq_right h1, List.take_of_length_le (by omega), List.take_of_length_le (by omega)]
    rw [this]
    simp
  · have := h.sum
    rw [e2, e1]
    simp only [List.length_append, List.length_take, List.length_drop, List.length_cons, List.length_nil]
    omega

set_option maxRecDepth 100000 in
set_option maxHeartbeats 1000000 in
theorem specFrameBytes_any (A : Option Addr) (xs : List Int) (c : Nat) (m : Int) (w : World) (h : IntsAt w w.heap.size A xs) (hc : xs.length ≤ c) :
    Calls Tryd.prog 16 #[.slice A xs.length c, .int .i64 m] w (GivesInts w (frameOf xs m)) := by
  by_cases hok : BytesOk 1000 xs
  · by_cases hmm : 1 ≤ m ∧ m ≤ 200
    · obtain ⟨q, rfl⟩ := Int.eq_ofNat_of_zero_le (show 0 ≤ m by omega)
      rw [frameOf_ok hok hmm.1 hmm.2]
      have hq1 : 1 ≤ q := by omega
      have hq2 : q ≤ 200 := by omega
      have ht := hide (tf_true hok)
      have hl := hok.1
      obtain ⟨R, hR⟩ : ∃ R, R = framed q xs.length xs := ⟨_, rfl⟩
      have HR := hide hR
      rw [Int.toNat_natCast]
      rw [← hR]
      clear hok hR
      go_enter Tryd.func16, Tryd.ntmps16
      go_wp2_with fail
      refine (validBytes_any A xs c w h).mono ?_
      rintro e w' ⟨rfl, rfl⟩
      rw [ht.out]
      go_wp2_with fail
      refine (inRange_yes (q : Int) 1 200 w hmm.1 hmm.2).mono ?_
      rintro e w' ⟨rfl, rfl⟩
      clear hmm
      have HS0 := hide (show FrT w (w.alloc (.cells #[] 3)) q R xs 0 (some ⟨w.heap.size, 0, none⟩) 0 [] from
        ⟨(Below.refl _ _).alloc (Nat.le_refl _) _, OwnI.bare w, by rw [HR.out]; rfl, by simp; omega⟩)
      go_wp2_with fail
      generalize w.alloc (.cells #[] 3) = w0 at HS0 ⊢
      go_loopg [5, 6, 7] (xs.length + q) (fun gk ov iv _ wr => ∃ (i : Nat) (Ao : Option Addr) (co : Nat) (acc : List Int), i ≤ xs.length + q ∧ gk = xs.length + q - i ∧ iv = .int .i64 (i : Int) ∧ ov = .slice Ao acc.length co ∧ FrT w wr q R xs i Ao co acc)
      case atStart => exact ⟨0, _, 0, [], Nat.zero_le _, rfl, rfl, rfl, HS0.out⟩
      case round =>
        clear HS0
        obtain ⟨i, Ao, co, acc, hi, rfl, rfl, rfl, hS⟩ := hrel
        have HS := hide hS
        by_cases hlt : i < xs.length
        · obtain ⟨b, off, y0, rfl, hbl, _, _, _⟩ := h.at_ hlt
          have hsum := hS.sum
          have hbs := hS.bel.size
          clear hS
          by_cases hq : xs.length - i < q
          · obtain ⟨z, hz⟩ : ∃ z, z = xs.length - i := ⟨_, rfl⟩
            have HZ : Hid (z = min q (xs.length - i)) := hide (by omega)
            have HT : Hid (((xs.drop i).take z).length = z) := hide (by simp; omega)
            have hzn : i + z ≤ xs.length := by omega
            have hz0 : 0 < z := by omega
            have hzi : (xs.length : Int) - (i : Int) = (z : Int) := by omega
            have hzq : z < q := by omega
            clear hz hq
            have hw1 : IntKind.i64.wrap ((i : Int) + (z : Int)) = (i : Int) + (z : Int) := IntWalk.i64_in _ (by omega)
            have hw2 : (0 : Int) ≤ (i : Int) + (z : Int) := by omega
            have hw3 : ((i : Int) + (z : Int)).toNat = i + z := by omega
            have hw4 : (i : Int) + (z : Int) ≤ (c : Int) := by omega
            have hw5 : ¬ c = i := by omega
            go_wp2_with fail
            go_region_law (first
              | (refine step_append_ints (by rfl) _ _ (by rfl) w.heap.size Ao co acc (by rfl) ((HS.out.own.alloc _).drew) ⟨wr.heap.size, 0, none⟩ 1 [(z : Int)] (by simp) (by rfl) (by have h0 := (IntsAt.lit wr [(z : Int)] (by intro v hv; simp at hv; rw [hv]; constructor <;> omega) (by simp)).below (Below.refl _ _).drew; simpa using h0) (by simp; omega) (by simp; omega) ?_; intro zs1 A1 c1 w1 e1 own1 hg1 _; have HM := hide (HS.out.mid _ hg1); have hz1 : zs1.length ≤ 2000 := (by rw [e1]; simp; omega); have HG1 := hide hg1; have HO1 := hide own1; clear hg1 own1)
              | (refine step_append_ints (by rfl) _ _ (by rfl) w.heap.size A1 c1 zs1 (by rfl) HO1.out ⟨b, off + i, none⟩ (c - i) ((xs.drop i).take z) (by intro e; have := HT.out; rw [e] at this; simp at this; omega) (by rw [HT.out]; rfl) ((((h.later HM.out (Nat.le_refl _)).behind i).upto _)) (by rw [HT.out]; omega) HM.out.size ?_; intro zs2 A2 c2 w2 e2 own2 hg2 _; have HG2 := hide hg2; have HO2 := hide own2; clear hg2 own2))
            all_goals
              clear hw1 hw2 hw3 hw4 hw5
              go_wp2
              go_roundg (xs.length + q - (i + q))
              case measure => omega
              case rel => exact ⟨i + q, A2, c2, zs2, by omega, rfl, by go_num, rfl, HS.out.step _ hq1 hlt HZ.out HG1.out e1 HO1.out HG2.out e2 HO2.out⟩
          · obtain ⟨z, hz⟩ : ∃ z, z = q := ⟨_, rfl⟩
            have HZ : Hid (z = min q (xs.length - i)) := hide (by omega)
            have HT : Hid (((xs.drop i).take z).length = z) := hide (by simp; omega)
            have hzn : i + z ≤ xs.length := by omega
            have hz0 : 0 < z := by omega
            obtain ⟨y, hy⟩ : ∃ y, y = xs.length - i := ⟨_, rfl⟩
            have hzi : (xs.length : Int) - (i : Int) = (y : Int) := by omega
            have hzq : ¬ y < z := by omega
            have hzy : z ≤ y := by omega
            subst hz
            clear hy hq
            have hw1 : IntKind.i64.wrap ((i : Int) + (z : Int)) = (i : Int) + (z : Int) := IntWalk.i64_in _ (by omega)
            have hw2 : (0 : Int) ≤ (i : Int) + (z : Int) := by omega
            have hw3 : ((i : Int) + (z : Int)).toNat = i + z := by omega
            have hw4 : (i : Int) + (z : Int) ≤ (c : Int) := by omega
            have hw5 : ¬ c = i := by omega
            go_wp2_with fail
            go_region_law (first
              | (refine step_append_ints (by rfl) _ _ (by rfl) w.heap.size Ao co acc (by rfl) ((HS.out.own.alloc _).drew) ⟨wr.heap.size, 0, none⟩ 1 [(z : Int)] (by simp) (by rfl) (by have h0 := (IntsAt.lit wr [(z : Int)] (by intro v hv; simp at hv; rw [hv]; constructor <;> omega) (by simp)).below (Below.refl _ _).drew; simpa using h0) (by simp; omega) (by simp; omega) ?_; intro zs1 A1 c1 w1 e1 own1 hg1 _; have HM := hide (HS.out.mid _ hg1); have hz1 : zs1.length ≤ 2000 := (by rw [e1]; simp; omega); have HG1 := hide hg1; have HO1 := hide own1; clear hg1 own1)
              | (refine step_append_ints (by rfl) _ _ (by rfl) w.heap.size A1 c1 zs1 (by rfl) HO1.out ⟨b, off + i, none⟩ (c - i) ((xs.drop i).take z) (by intro e; have := HT.out; rw [e] at this; simp at this; omega) (by rw [HT.out]; rfl) ((((h.later HM.out (Nat.le_refl _)).behind i).upto _)) (by rw [HT.out]; omega) HM.out.size ?_; intro zs2 A2 c2 w2 e2 own2 hg2 _; have HG2 := hide hg2; have HO2 := hide own2; clear hg2 own2))
            all_goals
              clear hw1 hw2 hw3 hw4 hw5
              go_wp2
              go_roundg (xs.length + z - (i + z))
              case measure => omega
              case rel => exact ⟨i + z, A2, c2, zs2, by omega, rfl, by go_num, rfl, HS.out.step _ hq1 hlt HZ.out HG1.out e1 HO1.out HG2.out e2 HO2.out⟩
        · have hE : acc = R := by have := hS.eq; rw [List.drop_eq_nil_of_le (by omega), framed_nil, List.append_nil] at this; exact this
          subst hE
          clear hS
          go_wp2
          go_ret
          exact ⟨Ao, co, rfl, HS.out.own, HS.out.bel⟩
    · rw [frameOf_no (fun h => hmm h.2)]
      have ht := hide (tf_true hok)
      clear hok
      go_enter Tryd.func16, Tryd.ntmps16
      go_wp2_with fail
      refine (validBytes_any A xs c w h).mono ?_
      rintro e w' ⟨rfl, rfl⟩
      rw [ht.out]
      go_wp2_with fail
      refine (inRange_no m 1 200 w (by omega)).mono ?_
      rintro e w' ⟨rfl, rfl⟩
      clear hmm
      go_wp2
      go_ret
      exact ⟨none, 0, rfl, OwnI.empty _ _, Below.refl _ _⟩
  · rw [frameOf_no (fun h => hok h.1)]
    have ht := hide (tf_false hok)
    clear hok
    go_enter Tryd.func16, Tryd.ntmps16
    go_wp2_with fail
    refine (validBytes_any A xs c w h).mono ?_
    rintro e w' ⟨rfl, rfl⟩
    rw [ht.out]
    go_wp2
    go_ret
    exact ⟨none, 0, rfl, OwnI.empty _ _, Below.refl _ _⟩

end Go.Proofs.YtfhmmdiicnfjbaaDoor
