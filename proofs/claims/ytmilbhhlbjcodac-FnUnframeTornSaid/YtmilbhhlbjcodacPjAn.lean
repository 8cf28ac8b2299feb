/-
  Lemmas, several texts in one: NewR, ByM, EncS, FrS, ABy, UtI, UbI.
-/
import Derived.Test.YtmilbhhlbjcodacPjAb
import Derived.Test.YtmilbhhlbjcodacSoM
import Derived.Test.YtmilbhhlbjcodacPjAd
import Derived.Test.YtmilbhhlbjcodacPjAh
import Derived.Test.YtmilbhhlbjcodacShpR
import Derived.Test.YtmilbhhlbjcodacPjAl
import Derived.Test.YtmilbhhlbjcodacPjAf
import Derived.Deep.LoopGhost
import Derived.Test.YtmilbhhlbjcodacPjAj
import Derived.Deep.RegionLaw
import Derived.IntWalk
import Derived.Deep.QuietTactic
import Derived.BigQuiet
namespace Go.Proofs.Ytmilbhhlbjcodac
open Go.RowKit
set_option linter.unusedVariables false
theorem BytesAt.less {w : World} {B : Nat} {A : Option Addr} {n m : Nat} (h : BytesAt w B A n) (hm : m ≤ n) : BytesAt w B A m := fun k hk => h k (by omega)
theorem BytesAt.more {w : World} {B B' : Nat} {A : Option Addr} {n : Nat} (h : BytesAt w B A n) (hB : B ≤ B') : BytesAt w B' A n := fun k hk => by
  obtain ⟨b, off, x, h1, h2, h3⟩ := h k hk
  exact ⟨b, off, x, h1, by omega, h3⟩
set_option maxHeartbeats 1000000 in
theorem newReader_any (A : Option Addr) (n c : Nat) (w : World) (h : BytesAt w w.heap.size A n) (hc : n ≤ c) (hn : n ≤ 9223372036854775807) :
    Calls Try.prog 10 #[.slice A n c] w fun e w' => e = .returned (.pointer (some ⟨w.heap.size, 0, none⟩)) ∧ (∃ n' c', Rd w' w.heap.size A n' c' 0) ∧ Below w.heap.size w w' := by
  by_cases h2 : n ≤ 2000
  · have d : decide ((2000 : Int) < (n : Int)) = false := by simp; omega
    have hB : Below w.heap.size w (w.alloc (.cells #[.slice A n c, .int .i64 0] 41)) := (Below.refl _ _).alloc (Nat.le_refl _) _
    have HR : Hid (Rd (w.alloc (.cells #[.slice A n c, .int .i64 0] 41)) w.heap.size A n c 0) := hide ⟨Lies.new w _ _, h.later hB, h2⟩
    clear h
    go_enter Try.func10, Try.ntmps10
    go_wp2
    go_ret
    exact ⟨rfl, ⟨n, c, HR.out⟩, hB⟩
  · have d : decide ((2000 : Int) < (n : Int)) = true := by simp; omega
    obtain ⟨b, off, _, rfl, _⟩ := h 0 (by omega)
    have hcap : ¬ ((c : Int) < 2000) := by omega
    have hB : Below w.heap.size w (w.alloc (.cells #[.slice (some ⟨b, off, none⟩) 2000 c, .int .i64 0] 41)) := (Below.refl _ _).alloc (Nat.le_refl _) _
    have HR : Hid (Rd (w.alloc (.cells #[.slice (some ⟨b, off, none⟩) 2000 c, .int .i64 0] 41)) w.heap.size (some ⟨b, off, none⟩) 2000 c 0) := hide ⟨Lies.new w _ _, (h.less (by omega)).later hB, Nat.le_refl _⟩
    clear h
    go_enter Try.func10, Try.ntmps10
    go_wp2
    go_ret
    exact ⟨rfl, ⟨2000, c, HR.out⟩, hB⟩
end Go.Proofs.Ytmilbhhlbjcodac

namespace Go.Proofs.Ytmilbhhlbjcodac
open Go.RowKit
set_option linter.unusedVariables false
structure ByS (w wr : World) (rb : Nat) (A : Option Addr) (n c P : Nat) (B : Option Addr) (cb : Nat) (xs : List Int) : Prop where
  grew : Grew rb w wr
  rd : ∃ p', p' ≤ P ∧ Rd wr rb A n c p'
  own : OwnI wr w.heap.size B cb xs
  wf : ∀ x ∈ xs, In64 x
  few : xs.length ≤ 2000
  nr : rb < w.heap.size
section
variable {w wr w1 : World} {rb n c P P' cb : Nat} {A B : Option Addr} {xs : List Int}
theorem ByS.turned (h : ByS w wr rb A n c P B cb xs) {p1 : Nat} (hg : Grew rb wr w1) (hr : Rd w1 rb A n c p1) (hp : p1 ≤ P') : ByS w w1 rb A n c P' B cb xs := by
  have hn := h.nr
  exact ⟨h.grew.trans hg, ⟨p1, hp, hr⟩, h.own.of_block (fun g hg1 => hg.block g (h.own.blocks g hg1).2 (by have := (h.own.blocks g hg1).1; omega)), h.wf, h.few, h.nr⟩
theorem ByS.later (h : ByS w wr rb A n c P B cb xs) (hb : Below wr.heap.size wr w1) : ByS w w1 rb A n c P B cb xs := by
  obtain ⟨p1, hp1, hr⟩ := h.rd
  exact h.turned (Grew.of_below hb) (hr.below hb) hp1
theorem ByS.more (h : ByS w wr rb A n c P B cb xs) (hp : P ≤ P') : ByS w wr rb A n c P' B cb xs := by
  obtain ⟨p1, h1, h2⟩ := h.rd
  exact ⟨h.grew, ⟨p1, by omega, h2⟩, h.own, h.wf, h.few, h.nr⟩
theorem ByS.row (h : ByS w wr rb A n c P B cb xs) (hz : 0 < xs.length) : ∃ g, B = some ⟨g, 0, none⟩ ∧ w.heap.size ≤ g ∧ g < wr.heap.size := by
  rcases h.own.form with ⟨_, _, h2⟩ | h
  · rw [h2] at hz; simp at hz
  · obtain ⟨g, h1, h2⟩ := h
    exact ⟨g, h1, h2⟩
theorem ByS.set {g j : Nat} {x : Int} (h : ByS w wr rb A n c P (some ⟨g, 0, none⟩) cb xs) (hx : In64 x) : ByS w (wr.setCell ⟨g, j, none⟩ (.int .i64 x)) rb A n c P (some ⟨g, 0, none⟩) cb (xs.set j x) := by
  obtain ⟨p1, hp1, hr⟩ := h.rd
  have hg := (h.own.blocks g rfl).1
  have hn := h.nr
  refine ⟨grew_set1 h.grew hg _, ⟨p1, hp1, hr.far1 (by omega) _⟩, h.own.setAt j x, fun p hp => ?_, by rw [List.length_set]; exact h.few, h.nr⟩
  rcases List.mem_or_eq_of_mem_set hp with hp | rfl
  · exact h.wf p hp
  · exact hx
theorem ByS.cut {k : Nat} (h : ByS w wr rb A n c P B cb xs) (hk : k ≤ xs.length) : ByS w wr rb A n c P B cb (xs.take k) :=
  ⟨h.grew, h.rd, h.own.cutAt hk, fun o ho => h.wf o (List.mem_of_mem_take ho), by have := h.few; simp; omega, h.nr⟩
theorem ByS.cell {g j : Nat} (h : ByS w wr rb A n c P (some ⟨g, 0, none⟩) cb xs) (hj : j < xs.length) :
    ∃ x, wr.cell? ⟨g, j, none⟩ = some (.int .i64 x) ∧ wr.frozen? ⟨g, j, none⟩ = false := by
  obtain ⟨x, hx⟩ : ∃ x, xs[j]? = some x := ⟨_, List.getElem?_eq_getElem hj⟩
  exact ⟨x, h.own.cellAt hx, h.own.frozenAt j⟩
end
def Ints2 (rb : Nat) (A : Option Addr) (n c P : Nat) (w : World) (e : Ending) (w' : World) : Prop :=
  ∃ (xs : List Int) (B : Option Addr) (cb : Nat), e = .returned (.slice B xs.length cb) ∧ ByS w w' rb A n c P B cb xs
end Go.Proofs.Ytmilbhhlbjcodac

namespace Go.Proofs.Ytmilbhhlbjcodac
open Go.RowKit
set_option linter.unusedVariables false
structure EnS (w wr : World) (os : List Od) (k : Nat) (Ao : Option Addr) (co : Nat) (acc : List Int) : Prop where
  bel : Below w.heap.size w wr
  own : OwnI wr w.heap.size Ao co acc
  eq : acc = encs (os.take k)
theorem EnS.few {w wr : World} {os : List Od} {k : Nat} {Ao : Option Addr} {co : Nat} {acc : List Int} (h : EnS w wr os k Ao co acc) : acc.length ≤ 3 * k := by
  rw [h.eq]
  have := (encs_len (os.take k)).2
  simp only [List.length_take] at this
  omega
set_option maxRecDepth 100000 in
set_option maxHeartbeats 1000000 in
theorem specEncodeOps_any (A : Option Addr) (os : List Od) (c : Nat) (w : World) (h : OpsAt w w.heap.size A os) :
    Calls Try.prog 26 #[.slice A os.length c] w (GivesInts w (encodeOf os)) := by
  have hl := h.len
  by_cases hok : OpsOk os
  · rw [encodeOf_ok hok]
    have Hok := hide hok
    have ht := hide (tf_true hok)
    have hl3 := hok.1
    clear hok
    go_enter Try.func26, Try.ntmps26
    go_wp2_with fail
    refine (specValidOps_any A os c w h).mono ?_
    rintro e w1 ⟨rfl, hb1⟩
    rw [ht.out]
    have HS0 := hide (show EnS w (w1.alloc (.cells #[] 3)) os 0 (some ⟨w1.heap.size, 0, none⟩) 0 [] from
      ⟨hb1.alloc hb1.size _, (OwnI.bare w1).mono hb1.size, rfl⟩)
    go_wp2_with fail
    generalize w1.alloc (.cells #[] 3) = w0 at HS0 ⊢
    go_loopg [3, 4] os.length (fun gk ov iv wr => ∃ (k : Nat) (Ao : Option Addr) (co : Nat) (acc : List Int), k ≤ os.length ∧ gk = os.length - k ∧ iv = .int .i64 (k : Int) ∧ ov = .slice Ao acc.length co ∧ EnS w wr os k Ao co acc)
    case atStart => exact ⟨0, _, 0, [], Nat.zero_le _, rfl, rfl, rfl, HS0.out⟩
    case round =>
      clear HS0
      obtain ⟨k, Ao, co, acc, hk, rfl, rfl, rfl, hS⟩ := hrel
      have HS := hide hS
      have hfew := hS.few
      have hbs := hS.bel.size
      by_cases hlt : k < os.length
      · obtain ⟨b, off, o, rfl, hbl, hx, hmem, hc0, hc1⟩ := (h.below hS.bel).at_ hlt
        have Hx := hide hx
        have Hin := hide (Hok.out.2 o hmem)
        have hlen := encO_len o
        clear hS hx hmem
        go_wp2_with fail
        refine (bytesOf_any o _ Hin.out).mono ?_
        rintro e w2 ⟨A2, c2, rfl, hn2, hI2, hb2⟩
        have HN2 := hide hn2
        have HI2 := hide hI2
        have HB2 := hide hb2
        have HO2 := hide (HS.out.own.below hb2)
        have HW2 := hide (HS.out.bel.trans (hb2.mono hbs))
        have hs2 := HW2.out.size
        clear hn2 hI2 hb2
        go_wp2_with (at_builtin; refine append_ints rfl (.tmp 15) (.tmp 20) rfl w.heap.size Ao co acc rfl HO2.out w2.heap.size A2 c2 (encO o) rfl HN2.out HI2.out (by omega) hs2 ?_; intro zs A3 c3 w3 e3 own3 hg3 _; have HG3 := hide hg3; have HO3 := hide own3; clear hg3 own3)
        go_roundg (os.length - (k + 1))
        case measure => omega
        case rel => exact ⟨k + 1, A3, c3, zs, by omega, rfl, by go_num, rfl, below_grown HW2.out HG3.out hs2 (fun q hq => (HO2.out.blocks q hq).1), HO3.out, by rw [e3.out, HS.out.eq, encs_next Hx.out]⟩
      · obtain rfl : k = os.length := by omega
        have hE : acc = encs os := by have := hS.eq; rw [List.take_length] at this; exact this
        subst hE
        clear hS hlt
        go_wp2
        go_ret
        exact ⟨Ao, co, rfl, HS.out.own, HS.out.bel⟩
  · rw [encodeOf_no hok]
    have ht := hide (tf_false hok)
    clear hok
    go_enter Try.func26, Try.ntmps26
    go_wp2_with fail
    refine (specValidOps_any A os c w h).mono ?_
    rintro e w1 ⟨rfl, hb1⟩
    rw [ht.out]
    go_wp2
    go_ret
    exact ⟨none, 0, rfl, OwnI.empty _ _, hb1⟩
end Go.Proofs.Ytmilbhhlbjcodac

namespace Go.Proofs.Ytmilbhhlbjcodac
open Go.RowKit
set_option linter.unusedVariables false
structure FrT (w wr : World) (m : Nat) (R xs : List Int) (i : Nat) (Ao : Option Addr) (co : Nat) (acc : List Int) : Prop where
  bel : Below w.heap.size w wr
  own : OwnI wr w.heap.size Ao co acc
  eq : acc ++ framed m xs.length (xs.drop i) = R
  sum : acc.length + 2 * (xs.length - i) ≤ 2000
theorem FrT.mid {w wr w1 : World} {m : Nat} {R xs : List Int} {i : Nat} {Ao : Option Addr} {co : Nat} {acc : List Int} (h : FrT w wr m R xs i Ao co acc) (o : Obj)
    (hg : (wr.alloc o).drew.grownBy w1 (blockOf Ao)) : Below w.heap.size w w1 :=
  below_grown ((h.bel.alloc h.bel.size o).drew) hg (by have := h.bel.size; simp; omega) (fun k hk => (h.own.blocks k hk).1)
theorem FrT.step {w wr w1 w2 : World} {m z : Nat} {R xs : List Int} {i : Nat} {Ao A1 A2 : Option Addr} {co c1 c2 : Nat} {acc zs1 zs2 : List Int} (h : FrT w wr m R xs i Ao co acc) (o : Obj)
    (hm : 1 ≤ m) (hi : i < xs.length) (hz : z = min m (xs.length - i))
    (hg1 : (wr.alloc o).drew.grownBy w1 (blockOf Ao)) (e1 : zs1 = acc ++ [(z : Int)]) (own1 : OwnI w1 w.heap.size A1 c1 zs1)
    (hg2 : w1.grownBy w2 (blockOf A1)) (e2 : zs2 = zs1 ++ (xs.drop i).take z) (own2 : OwnI w2 w.heap.size A2 c2 zs2) :
    FrT w w2 m R xs (i + m) A2 c2 zs2 := by
  have hmid := h.mid o hg1
  have hl : (xs.drop i).length = xs.length - i := by simp
  refine ⟨below_grown hmid hg2 hmid.size (fun k hk => (own1.blocks k hk).1), own2, ?_, ?_⟩
  · rw [e2, e1, ← h.eq, framed_step (xs := xs.drop i) hm (List.length_pos_iff.1 (by omega)) (by omega), hl, ← hz, List.drop_drop]
    have : (xs.drop i).take z = (xs.drop i).take m := by
      rw [hz]
      rcases Nat.le_total m (xs.length - i) with h1 | h1
      · rw [Nat.min_eq_left h1]
      · rw [Nat.min_eq_right h1, List.take_of_length_le (by omega), List.take_of_length_le (by omega)]
    rw [this]
    simp
  · have := h.sum
    rw [e2, e1]
    simp only [List.length_append, List.length_take, List.length_drop, List.length_cons, List.length_nil]
    omega
set_option maxRecDepth 100000 in
set_option maxHeartbeats 1000000 in
theorem specFrameBytes_any (A : Option Addr) (xs : List Int) (c : Nat) (m : Int) (w : World) (h : IntsAt w w.heap.size A xs) (hc : xs.length ≤ c) :
    Calls Try.prog 15 #[.slice A xs.length c, .int .i64 m] w (GivesInts w (frameOf xs m)) := by
  by_cases hok : BytesOk 1000 xs
  · by_cases hmm : 1 ≤ m ∧ m ≤ 200
    · obtain ⟨q, rfl⟩ := Int.eq_ofNat_of_zero_le (show 0 ≤ m by omega)
      rw [frameOf_ok hok hmm.1 hmm.2]
      have hq1 : 1 ≤ q := by omega
      have hq2 : q ≤ 200 := by omega
      have ht := hide (tf_true hok)
      have hl := hok.1
      obtain ⟨R, hR⟩ : ∃ R, R = framed q xs.length xs := ⟨_, rfl⟩
      have HR := hide hR
      rw [Int.toNat_natCast]
      rw [← hR]
      clear hok hR
      go_enter Try.func15, Try.ntmps15
      go_wp2_with fail
      refine (validBytes_any A xs c w h).mono ?_
      rintro e w' ⟨rfl, rfl⟩
      rw [ht.out]
      go_wp2_with fail
      refine (inRange_yes (q : Int) 1 200 w hmm.1 hmm.2).mono ?_
      rintro e w' ⟨rfl, rfl⟩
      clear hmm
      have HS0 := hide (show FrT w (w.alloc (.cells #[] 3)) q R xs 0 (some ⟨w.heap.size, 0, none⟩) 0 [] from
        ⟨(Below.refl _ _).alloc (Nat.le_refl _) _, OwnI.bare w, by rw [HR.out]; rfl, by simp; omega⟩)
      go_wp2_with fail
      generalize w.alloc (.cells #[] 3) = w0 at HS0 ⊢
      go_loopg [5, 6, 7] (xs.length + q) (fun gk ov iv _ wr => ∃ (i : Nat) (Ao : Option Addr) (co : Nat) (acc : List Int), i ≤ xs.length + q ∧ gk = xs.length + q - i ∧ iv = .int .i64 (i : Int) ∧ ov = .slice Ao acc.length co ∧ FrT w wr q R xs i Ao co acc)
      case atStart => exact ⟨0, _, 0, [], Nat.zero_le _, rfl, rfl, rfl, HS0.out⟩
      case round =>
        clear HS0
        obtain ⟨i, Ao, co, acc, hi, rfl, rfl, rfl, hS⟩ := hrel
        have HS := hide hS
        by_cases hlt : i < xs.length
        · obtain ⟨b, off, y0, rfl, hbl, _, _, _⟩ := h.at_ hlt
          have hsum := hS.sum
          have hbs := hS.bel.size
          clear hS
          by_cases hq : xs.length - i < q
          · obtain ⟨z, hz⟩ : ∃ z, z = xs.length - i := ⟨_, rfl⟩
            have HZ : Hid (z = min q (xs.length - i)) := hide (by omega)
            have HT : Hid (((xs.drop i).take z).length = z) := hide (by simp; omega)
            have hzn : i + z ≤ xs.length := by omega
            have hz0 : 0 < z := by omega
            have hzi : (xs.length : Int) - (i : Int) = (z : Int) := by omega
            have hzq : z < q := by omega
            clear hz hq
            have hw1 : IntKind.i64.wrap ((i : Int) + (z : Int)) = (i : Int) + (z : Int) := IntWalk.i64_in _ (by omega)
            have hw2 : (0 : Int) ≤ (i : Int) + (z : Int) := by omega
            have hw3 : ((i : Int) + (z : Int)).toNat = i + z := by omega
            have hw4 : (i : Int) + (z : Int) ≤ (c : Int) := by omega
            have hw5 : ¬ c = i := by omega
            go_wp2_with fail
            go_region_law (first
              | (refine step_append_ints (by rfl) _ _ (by rfl) w.heap.size Ao co acc (by rfl) ((HS.out.own.alloc _).drew) ⟨wr.heap.size, 0, none⟩ 1 [(z : Int)] (by simp) (by rfl) (by have h0 := (IntsAt.lit wr [(z : Int)] (by intro v hv; simp at hv; rw [hv]; constructor <;> omega) (by simp)).below (Below.refl _ _).drew; simpa using h0) (by simp; omega) (by simp; omega) ?_; intro zs1 A1 c1 w1 e1 own1 hg1 _; have HM := hide (HS.out.mid _ hg1); have hz1 : zs1.length ≤ 2000 := (by rw [e1]; simp; omega); have HG1 := hide hg1; have HO1 := hide own1; clear hg1 own1)
              | (refine step_append_ints (by rfl) _ _ (by rfl) w.heap.size A1 c1 zs1 (by rfl) HO1.out ⟨b, off + i, none⟩ (c - i) ((xs.drop i).take z) (by intro e; have := HT.out; rw [e] at this; simp at this; omega) (by rw [HT.out]; rfl) ((((h.later HM.out (Nat.le_refl _)).behind i).upto _)) (by rw [HT.out]; omega) HM.out.size ?_; intro zs2 A2 c2 w2 e2 own2 hg2 _; have HG2 := hide hg2; have HO2 := hide own2; clear hg2 own2))
            all_goals
              clear hw1 hw2 hw3 hw4 hw5
              go_wp2
              go_roundg (xs.length + q - (i + q))
              case measure => omega
              case rel => exact ⟨i + q, A2, c2, zs2, by omega, rfl, by go_num, rfl, HS.out.step _ hq1 hlt HZ.out HG1.out e1 HO1.out HG2.out e2 HO2.out⟩
          · obtain ⟨z, hz⟩ : ∃ z, z = q := ⟨_, rfl⟩
            have HZ : Hid (z = min q (xs.length - i)) := hide (by omega)
            have HT : Hid (((xs.drop i).take z).length = z) := hide (by simp; omega)
            have hzn : i + z ≤ xs.length := by omega
            have hz0 : 0 < z := by omega
            obtain ⟨y, hy⟩ : ∃ y, y = xs.length - i := ⟨_, rfl⟩
            have hzi : (xs.length : Int) - (i : Int) = (y : Int) := by omega
            have hzq : ¬ y < z := by omega
            have hzy : z ≤ y := by omega
            subst hz
            clear hy hq
            have hw1 : IntKind.i64.wrap ((i : Int) + (z : Int)) = (i : Int) + (z : Int) := IntWalk.i64_in _ (by omega)
            have hw2 : (0 : Int) ≤ (i : Int) + (z : Int) := by omega
            have hw3 : ((i : Int) + (z : Int)).toNat = i + z := by omega
            have hw4 : (i : Int) + (z : Int) ≤ (c : Int) := by omega
            have hw5 : ¬ c = i := by omega
            go_wp2_with fail
            go_region_law (first
              | (refine step_append_ints (by rfl) _ _ (by rfl) w.heap.size Ao co acc (by rfl) ((HS.out.own.alloc _).drew) ⟨wr.heap.size, 0, none⟩ 1 [(z : Int)] (by simp) (by rfl) (by have h0 := (IntsAt.lit wr [(z : Int)] (by intro v hv; simp at hv; rw [hv]; constructor <;> omega) (by simp)).below (Below.refl _ _).drew; simpa using h0) (by simp; omega) (by simp; omega) ?_; intro zs1 A1 c1 w1 e1 own1 hg1 _; have HM := hide (HS.out.mid _ hg1); have hz1 : zs1.length ≤ 2000 := (by rw [e1]; simp; omega); have HG1 := hide hg1; have HO1 := hide own1; clear hg1 own1)
              | (refine step_append_ints (by rfl) _ _ (by rfl) w.heap.size A1 c1 zs1 (by rfl) HO1.out ⟨b, off + i, none⟩ (c - i) ((xs.drop i).take z) (by intro e; have := HT.out; rw [e] at this; simp at this; omega) (by rw [HT.out]; rfl) ((((h.later HM.out (Nat.le_refl _)).behind i).upto _)) (by rw [HT.out]; omega) HM.out.size ?_; intro zs2 A2 c2 w2 e2 own2 hg2 _; have HG2 := hide hg2; have HO2 := hide own2; clear hg2 own2))
            all_goals
              clear hw1 hw2 hw3 hw4 hw5
              go_wp2
              go_roundg (xs.length + z - (i + z))
              case measure => omega
              case rel => exact ⟨i + z, A2, c2, zs2, by omega, rfl, by go_num, rfl, HS.out.step _ hq1 hlt HZ.out HG1.out e1 HO1.out HG2.out e2 HO2.out⟩
        · have hE : acc = R := by have := hS.eq; rw [List.drop_eq_nil_of_le (by omega), framed_nil, List.append_nil] at this; exact this
          subst hE
          clear hS
          go_wp2
          go_ret
          exact ⟨Ao, co, rfl, HS.out.own, HS.out.bel⟩
    · rw [frameOf_no (fun h => hmm h.2)]
      have ht := hide (tf_true hok)
      clear hok
      go_enter Try.func15, Try.ntmps15
      go_wp2_with fail
      refine (validBytes_any A xs c w h).mono ?_
      rintro e w' ⟨rfl, rfl⟩
      rw [ht.out]
      go_wp2_with fail
      refine (inRange_no m 1 200 w (by omega)).mono ?_
      rintro e w' ⟨rfl, rfl⟩
      clear hmm
      go_wp2
      go_ret
      exact ⟨none, 0, rfl, OwnI.empty _ _, Below.refl _ _⟩
  · rw [frameOf_no (fun h => hok h.1)]
    have ht := hide (tf_false hok)
    clear hok
    go_enter Try.func15, Try.ntmps15
    go_wp2_with fail
    refine (validBytes_any A xs c w h).mono ?_
    rintro e w' ⟨rfl, rfl⟩
    rw [ht.out]
    go_wp2
    go_ret
    exact ⟨none, 0, rfl, OwnI.empty _ _, Below.refl _ _⟩
end Go.Proofs.Ytmilbhhlbjcodac

namespace Go.Proofs.Ytmilbhhlbjcodac
open Go.RowKit
set_option maxHeartbeats 1000000 in
theorem areBytes_any (A : Option Addr) (xs : List Int) (c : Nat) (m : Nat) (w : World) (h : IntsAt w w.heap.size A xs) (hm : m ≤ 1048576) :
    Calls Try.prog 11 #[.slice A xs.length c, .int .i64 (m : Int)] w fun e w' => e = .returned (.bool (tf (BytesOk m xs))) ∧ w = w' := by
  have hl := h.len
  by_cases hlen : xs.length ≤ m
  · have d1 : decide (m < xs.length) = false := by simpa using hlen
    go_enter Try.func11, Try.ntmps11
    go_wp2_with fail
    clear d1
    go_loop [6, 13] (fun _ i => ∃ k : Nat, k ≤ xs.length ∧ i = .int .i64 k ∧ ∀ j x, j < k → xs[j]? = some x → 0 ≤ x ∧ x ≤ 255) (fun _ i => xs.length - (intOf i).toNat)
    case atStart => exact ⟨0, Nat.zero_le _, rfl, fun j _ hj => absurd hj (by omega)⟩
    case round =>
      obtain ⟨k, hk, rfl, he0⟩ := hrel
      have he := hide he0
      clear he0
      by_cases hlt : k < xs.length
      · obtain ⟨b, off, x, rfl, hbl, hx, hmem, hc⟩ := h.at_ hlt
        have Hx := hide hx
        clear hx
        by_cases hin : 0 ≤ x ∧ x ≤ 255
        · have He : Hid (∀ j y, j < k + 1 → xs[j]? = some y → 0 ≤ y ∧ y ≤ 255) := by
            intro j y hj hy
            by_cases e : j = k
            · subst e
              have := Hx.out.symm.trans hy
              injection this with this
              subst this
              exact hin
            · exact he.out j y (by omega) hy
          obtain ⟨h1, h2⟩ := hin
          clear he hmem
          go_wp2_with fail
          refine (isUpTo_yes x 255 w h1 h2).mono ?_
          rintro e w' ⟨rfl, rfl⟩
          go_wp2
          go_round
          case rel => exact ⟨k + 1, by omega, by go_num, He.out⟩
          case measure => simp [intOf]; omega
        · have HF := hide (show tf (BytesOk m xs) = false from tf_false fun hall => hin (hall.2 x hmem))
          have hno : x < 0 ∨ 255 < x := by omega
          clear he hmem
          go_wp2_with fail
          refine (isUpTo_no x 255 w hno).mono ?_
          rintro e w' ⟨rfl, rfl⟩
          clear hno hin
          go_wp2
          go_ret
          exact ⟨ret_bool HF.out.symm, rfl⟩
      · obtain rfl : k = xs.length := by omega
        have HF := hide (show tf (BytesOk m xs) = true from tf_true ⟨hlen, fun x hx => by
          obtain ⟨j, hj, rfl⟩ := List.getElem_of_mem hx
          exact he.out j _ hj (List.getElem?_eq_getElem hj)⟩)
        clear hlt
        go_wp2
        go_ret
        exact ⟨ret_bool HF.out.symm, rfl⟩
  · have d1 : decide (m < xs.length) = true := by simpa using hlen
    have HF := hide (show tf (BytesOk m xs) = false from tf_false fun h => hlen h.1)
    go_enter Try.func11, Try.ntmps11
    go_wp2
    go_ret
    exact ⟨ret_bool HF.out.symm, rfl⟩
end Go.Proofs.Ytmilbhhlbjcodac

namespace Go.Proofs.Ytmilbhhlbjcodac
open Go.RowKit
set_option linter.unusedVariables false
set_option maxRecDepth 100000 in
set_option maxHeartbeats 1000000 in
theorem implUnframeTorn_any (A : Option Addr) (xs : List Int) (c : Nat) (w : World) (h : IntsAt w w.heap.size A xs) (hnil : A = none → c = 0) (hc : xs.length ≤ c) :
    Calls Try.prog 5 #[.slice A xs.length c] w (GivesIntsV w (unfrBytes xs) (.int .i64 (unfrSize xs))) := by
  by_cases hok : BytesOk 2000 xs
  · rw [unfrBytes_ok hok, unfrSize_ok hok]
    have ht := hide (tf_true hok)
    have hl := hok.1
    clear hok
    obtain ⟨R, hR⟩ : ∃ R, R = (unfr xs.length xs).1 := ⟨_, rfl⟩
    obtain ⟨N, hN⟩ : ∃ N, N = (unfr xs.length xs).2 := ⟨_, rfl⟩
    have HR := hide hR
    have HN := hide hN
    rw [← hR, ← hN]
    clear hR hN
    have HS0 := hide (show UfS w w R N xs 0 none 0 [] from
      ⟨Below.refl _ _, OwnI.empty _ _, by rw [HR.out]; rfl, by rw [HN.out]; simp, Nat.zero_le _, Nat.zero_le _⟩)
    have Hnil := hide hnil
    clear hnil
    go_enter Try.func5, Try.ntmps5
    go_wp2_with fail
    refine (areBytes_any A xs c 2000 w h (by omega)).mono ?_
    rintro e w' ⟨rfl, rfl⟩
    rw [ht.out]
    go_wp2_with fail
    go_loopg [4, 5, 6] xs.length (fun gk ov iv _ wr => ∃ (i : Nat) (Ao : Option Addr) (co : Nat) (acc : List Int), gk = xs.length - i ∧ iv = .int .i64 (i : Int) ∧ ov = .slice Ao acc.length co ∧ UfS w wr R N xs i Ao co acc)
    case atStart => exact ⟨0, none, 0, [], rfl, rfl, rfl, HS0.out⟩
    case round =>
      clear HS0
      obtain ⟨i, Ao, co, acc, rfl, rfl, rfl, hS⟩ := hrel
      have HS := hide hS
      have hil := hS.le
      have hsum := hS.sum
      have hbs := hS.bel.size
      have hw0 : (i : Int) ≤ (xs.length : Int) := by omega
      by_cases hlt : i < xs.length
      · obtain ⟨b, off, y, rfl, hbl, hy, _, hcell⟩ := (h.below hS.bel).at_ hlt
        have HD : Hid ((xs.drop i).length = xs.length - i) := hide (by simp)
        have h0 : (xs.drop i)[0]? = some y := by rw [List.getElem?_drop]; simpa using hy
        have H0 := hide h0
        have Hy := hide hy
        have hw5 : ¬ c = i := by omega
        have hP := ((h.behind i).later hS.bel (Nat.le_refl _))
        have HP := hide hP
        clear hS hy h0 hP hcell
        by_cases h12 : 1 ≤ y ∧ y ≤ 200 ∧ i + y.toNat < xs.length
        · obtain ⟨q, rfl⟩ := Int.eq_ofNat_of_zero_le (show 0 ≤ y by omega)
          obtain ⟨h1, h2, h3⟩ := h12
          rw [Int.toNat_natCast] at h3
          have HT : Hid ((((xs.drop i).drop 1).take q).length = q) := hide (by simp; omega)
          have HE : Hid (((xs.drop i).drop 1).take q = (xs.drop (i + 1)).take q) := hide (by rw [List.drop_drop])
          have hq0 : (((q : Nat) : Int) == 0) = false := by simp only [beq_eq_false_iff_ne, ne_eq]; omega
          go_wp2_with fail
          have HC := firstFrame_yes (some ⟨b, off + i, none⟩) (xs.drop i) (c - i) q wr HP.out (by rw [HD.out]; omega) H0.out (by omega) (by omega) (by rw [HD.out]; omega) (by rw [HD.out]; omega)
          rw [HD.out] at HC
          refine HC.mono ?_
          clear HC
          rintro e w' ⟨A3, c3, rfl, hI3, hn3, rfl⟩
          rw [HT.out]
          have HI3 := hide hI3
          have Hn3 := hide hn3
          clear hI3 hn3
          go_wp2_with (at_builtin; refine append_ints rfl (.tmp 19) (.tmp 20) rfl w.heap.size Ao co acc rfl HS.out.own wr.heap.size A3 c3 (((xs.drop i).drop 1).take q) (congrArg (fun n => Value.slice A3 n c3) HT.out.symm) Hn3.out HI3.out (by rw [HT.out]; omega) hbs ?_; intro zs2 A2 c2 w2 e2 own2 hg2 _; have HG2 := hide hg2; have HO2 := hide own2; clear hg2 own2)
          go_roundg (xs.length - (i + 1 + q))
          case measure => omega
          case rel => exact ⟨i + 1 + q, A2, c2, zs2, rfl, by go_num, rfl, HS.out.step Hy.out (by omega) (by omega) h3 HG2.out (by rw [← HE.out]; exact e2) HO2.out⟩
        · have hE := HS.out.stop (fun h hh => by
            have : h = y := by have := hh.symm.trans Hy.out; injection this
            rw [this]; exact h12)
          obtain ⟨rfl, rfl⟩ := hE
          have HN := hide h12
          clear h12
          go_wp2_with fail
          have HC := firstFrame_no (some ⟨b, off + i, none⟩) (xs.drop i) (c - i) wr HP.out (fun h hh => by
            have : h = y := by have := hh.symm.trans H0.out; injection this
            subst this
            intro hh2
            exact HN.out ⟨hh2.1, hh2.2.1, by have := hh2.2.2; rw [HD.out] at this; omega⟩) (by rw [HD.out]; omega)
          rw [HD.out] at HC
          refine HC.mono ?_
          clear HC
          rintro e w' ⟨A3, c3, rfl, _, _, rfl⟩
          go_wp2
          go_ret2
          exact ⟨Ao, co, rfl, HS.out.own, HS.out.bel⟩
      · have hE := HS.out.stop (fun h hh => by
          have := (List.getElem?_eq_some_iff.1 hh).1
          omega)
        obtain ⟨rfl, rfl⟩ := hE
        obtain rfl : i = xs.length := by omega
        clear hS hlt hw0
        have HF := hide (fun (A' : Option Addr) (c' : Nat) => firstFrame_no A' [] c' wr (IntsAt.empt _) (fun h hh => by cases hh) (by simp))
        rcases A with _ | ad
        · obtain rfl := Hnil.out rfl
          obtain rfl : xs = [] := List.eq_nil_of_length_eq_zero (by omega)
          go_wp2_with fail
          refine (HF.out none 0).mono ?_
          rintro e w' ⟨A3, c3, rfl, _, _, rfl⟩
          go_wp2
          go_ret2
          exact ⟨Ao, co, rfl, HS.out.own, HS.out.bel⟩
        · by_cases hcap : c = xs.length
          · subst hcap
            go_wp2_with fail
            refine (HF.out _ _).mono ?_
            rintro e w' ⟨A3, c3, rfl, _, _, rfl⟩
            go_wp2
            go_ret2
            exact ⟨Ao, co, rfl, HS.out.own, HS.out.bel⟩
          · go_wp2_with fail
            refine (HF.out _ _).mono ?_
            rintro e w' ⟨A3, c3, rfl, _, _, rfl⟩
            go_wp2
            go_ret2
            exact ⟨Ao, co, rfl, HS.out.own, HS.out.bel⟩
  · rw [unfrBytes_no hok, unfrSize_no hok]
    have ht := hide (tf_false hok)
    clear hok
    go_enter Try.func5, Try.ntmps5
    go_wp2_with fail
    refine (areBytes_any A xs c 2000 w h (by omega)).mono ?_
    rintro e w' ⟨rfl, rfl⟩
    rw [ht.out]
    go_wp2
    go_ret2
    exact ⟨none, 0, rfl, OwnI.empty _ _, Below.refl _ _⟩
end Go.Proofs.Ytmilbhhlbjcodac

namespace Go.Proofs.Ytmilbhhlbjcodac
open Go.RowKit
set_option linter.unusedVariables false
set_option maxHeartbeats 1000000 in
theorem implUnframeBytes_any (A : Option Addr) (xs : List Int) (c : Nat) (w : World) (h : IntsAt w w.heap.size A xs) (hnil : A = none → c = 0) (hc : xs.length ≤ c) :
    Calls Try.prog 8 #[.slice A xs.length c] w (GivesIntsV w (unfAll xs) (.bool (tf (UnfOk xs)))) := by
  have hlen := h.len
  by_cases hok : UnfOk xs
  · rw [unfAll_ok hok, tf_true hok]
    have e1 := hide (unfrBytes_ok hok.1)
    have e2 := hide (unfrSize_ok hok.1)
    have e3 := hide hok.2
    clear hok
    have Hnil := hide hnil
    clear hnil
    have d1 : ((xs.length : Int) != (xs.length : Int)) = false := by simp
    go_enter Try.func8, Try.ntmps8
    go_wp2_with fail
    have HC := implUnframeTorn_any A xs c w h Hnil.out hc
    rw [e1.out, e2.out, e3.out] at HC
    refine HC.mono ?_
    clear HC
    rintro e w2 ⟨A2, c2, rfl, ho, hb⟩
    go_wp2
    go_ret2
    exact ⟨A2, c2, rfl, ho, hb⟩
  · rw [unfAll_no hok, tf_false hok]
    have d0 : unfrSize xs ≠ (xs.length : Int) := by
      unfold unfrSize
      split
      · rename_i hb
        intro e
        exact hok ⟨hb, by omega⟩
      · omega
    have d1 : (unfrSize xs != (xs.length : Int)) = true := by simpa using d0
    have Hnil := hide hnil
    clear hok d0 hnil
    go_enter Try.func8, Try.ntmps8
    go_wp2_with fail
    refine (implUnframeTorn_any A xs c w h Hnil.out hc).mono ?_
    rintro e w2 ⟨A2, c2, rfl, ho, hb⟩
    go_wp2
    go_ret2
    exact ⟨none, 0, rfl, OwnI.empty _ _, hb⟩
end Go.Proofs.Ytmilbhhlbjcodac
