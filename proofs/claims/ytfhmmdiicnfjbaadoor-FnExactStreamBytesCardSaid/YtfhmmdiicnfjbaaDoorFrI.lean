/-
  The program's FrameBytes: what it returns.
-/
import Derived.Test.YtfhmmdiicnfjbaaDoorABy
import Derived.Test.YtfhmmdiicnfjbaaDoorPjAd
import Derived.Test.YtfhmmdiicnfjbaaDoorPjAf
import Derived.Test.YtfhmmdiicnfjbaaDoorOwnS
import Derived.Deep.LoopGhost
import Derived.Deep.QuietTactic
import Derived.BigQuiet
namespace Go.Proofs.YtfhmmdiicnfjbaaDoor
open Go.RowKit
set_option linter.unusedVariables false

/-- the memory while frames are laid behind each other: the list's rest reads as ys -/
structure FrS (w wr : World) (m n : Nat) (R : List Int) (Al : Option Addr) (cl : Nat) (ys : List Int) (Ao : Option Addr) (co : Nat) (acc : List Int) : Prop where
  bel : Below w.heap.size w wr
  rest : IntsAt w w.heap.size Al ys
  byte : ∀ x ∈ ys, 0 ≤ x ∧ x ≤ 255
  cap : ys.length ≤ cl
  few : ys.length ≤ n
  own : OwnI wr w.heap.size Ao co acc
  eq : acc ++ framed m n ys = R
  sum : acc.length + 2 * ys.length ≤ 2000

theorem FrS.mid {w wr w1 : World} {m n : Nat} {R : List Int} {Al Ao : Option Addr} {cl co : Nat} {ys acc : List Int} (h : FrS w wr m n R Al cl ys Ao co acc) (o : Obj)
    (hg : (wr.alloc o).grownBy w1 (blockOf Ao)) : Below w.heap.size w w1 :=
  below_grown (h.bel.alloc h.bel.size o) hg (by have := h.bel.size; simp; omega) (fun k hk => (h.own.blocks k hk).1)

theorem FrS.step {w wr w1 w2 : World} {m n z : Nat} {R : List Int} {Al Al' Ao A1 A2 : Option Addr} {cl co c1 c2 : Nat} {ys acc zs1 zs2 : List Int} (h : FrS w wr m n R Al cl ys Ao co acc) (o : Obj)
    (hm : 1 ≤ m) (hy : 0 < ys.length) (hz : z = min m ys.length)
    (hg1 : (wr.alloc o).grownBy w1 (blockOf Ao)) (e1 : zs1 = acc ++ [(z : Int)]) (own1 : OwnI w1 w.heap.size A1 c1 zs1)
    (hg2 : w1.grownBy w2 (blockOf A1)) (e2 : zs2 = zs1 ++ ys.take z) (own2 : OwnI w2 w.heap.size A2 c2 zs2) (hr : IntsAt w w.heap.size Al' (ys.drop z)) :
    FrS w w2 m n R Al' (cl - z) (ys.drop z) A2 c2 zs2 := by
  have hmid := h.mid o hg1
  refine ⟨below_grown hmid hg2 hmid.size (fun k hk => (own1.blocks k hk).1), hr, fun x hx => h.byte x (List.mem_of_mem_drop hx), ?_, ?_, own2, ?_, ?_⟩
  · have := h.cap; simp; omega
  · have := h.few; simp; omega
  · rw [e2, e1, ← h.eq, framed_step hm (List.length_pos_iff.1 hy) h.few, ← hz]
    have : ys.take z = ys.take m := by
      rw [hz]
      rcases Nat.le_total m ys.length with h1 | h1
      · rw [Nat.min_eq_left h1]
      · rw [Nat.min_eq_right h1, List.take_of_length_le (Nat.le_refl _), List.take_of_length_le h1]
    have h3 : ys.drop z = ys.drop m := by
      rw [hz]
      rcases Nat.le_total m ys.length with h1 | h1
      · rw [Nat.min_eq_left h1]
      · rw [Nat.min_eq_right h1, List.drop_eq_nil_of_le (Nat.le_refl _), List.drop_eq_nil_of_le h1]
    rw [this, h3]
    simp
  · have := h.sum
    rw [e2, e1]
    simp only [List.length_append, List.length_take, List.length_drop, List.length_cons, List.length_nil]
    omega

set_option maxRecDepth 100000 in
set_option maxHeartbeats 1000000 in
theorem implFrameBytes_any (A : Option Addr) (xs : List Int) (c : Nat) (m : Int) (w : World) (h : IntsAt w w.heap.size A xs) (hnil : A = none → c = 0) (hc : xs.length ≤ c) :
    Calls Tryd.prog 20 #[.slice A xs.length c, .int .i64 m] w (GivesInts w (frameOf xs m)) := by
  by_cases hok : BytesOk 1000 xs
  · by_cases hmm : 1 ≤ m ∧ m ≤ 200
    · obtain ⟨q, rfl⟩ := Int.eq_ofNat_of_zero_le (show 0 ≤ m by omega)
      rw [frameOf_ok hok hmm.1 hmm.2]
      have hq1 : 1 ≤ q := by omega
      have hq2 : q ≤ 200 := by omega
      have ht := hide (tf_true hok)
      have hl := hok.1
      have HS0 := hide (show FrS w w q xs.length (framed q xs.length xs) A c xs none 0 [] from ⟨Below.refl _ _, h, hok.2, hc, Nat.le_refl _, OwnI.empty _ _, rfl, by simp; omega⟩)
      obtain ⟨R, hR⟩ : ∃ R, R = framed q xs.length xs := ⟨_, rfl⟩
      have HR := hide hR
      rw [Int.toNat_natCast]
      rw [← hR] at HS0 ⊢
      clear hok hR hnil
      go_enter Tryd.func20, Tryd.ntmps20
      go_wp2_with fail
      refine (areBytes_any A xs c 1000 w h (by omega)).mono ?_
      rintro e w' ⟨rfl, rfl⟩
      rw [ht.out]
      go_wp2_with fail
      refine (isFrameSize_yes (q : Int) w hmm.1 hmm.2).mono ?_
      rintro e w' ⟨rfl, rfl⟩
      clear hmm
      go_wp2_with fail
      go_loopg [0, 5, 6] xs.length (fun gk lv ov _ wr => ∃ (Al : Option Addr) (cl : Nat) (ys : List Int) (Ao : Option Addr) (co : Nat) (acc : List Int), gk = ys.length ∧ lv = .slice Al ys.length cl ∧ ov = .slice Ao acc.length co ∧ FrS w wr q xs.length R Al cl ys Ao co acc)
      case atStart => exact ⟨A, c, xs, none, 0, [], rfl, rfl, rfl, HS0.out⟩
      case round =>
        clear HS0 h
        obtain ⟨Al, cl, ys, Ao, co, acc, rfl, rfl, rfl, hS⟩ := hrel
        have HS := hide hS
        have hys := hS.few
        have hcl := hS.cap
        by_cases hlt : 0 < ys.length
        · obtain ⟨b, off, y0, rfl, hbl, _, _, _⟩ := hS.rest.at_ hlt
          have hsum := hS.sum
          have hbs := hS.bel.size
          clear hS
          by_cases hq : ys.length < q
          · have HZ : Hid (ys.length = min q ys.length) := hide (by omega)
            have HT : Hid ((ys.take ys.length).length = ys.length) := hide (by simp)
            have hz : True := trivial
            by_cases hcz : cl = ys.length
            · subst hcz
              have HSub : Hid (IntsAt w w.heap.size (some ⟨b, off, none⟩) (ys.drop ys.length)) := hide (by rw [List.drop_eq_nil_of_le (by omega)]; exact IntsAt.empt _)
              clear hz
              go_wp2_with (at_builtin; first
                | (refine append_ints rfl (.tmp 22) (.tmp 24) rfl w.heap.size Ao co acc rfl (HS.out.own.alloc _) _ _ 1 [(ys.length : Int)] rfl (fun e => by cases e) (IntsAt.one wr _ (by constructor <;> omega)) (by simp; omega) (by simp; omega) ?_; intro zs1 A1 c1 w1 e1 own1 hg1 _; have HM := hide (HS.out.mid _ hg1); have hz1 : zs1.length ≤ 2000 := (by rw [e1]; simp; omega); have HG1 := hide hg1; have HO1 := hide own1; clear hg1 own1)
                | (refine append_ints rfl (.tmp 26) (.tmp 29) rfl w.heap.size A1 c1 zs1 rfl HO1.out w.heap.size _ _ (ys.take ys.length) (by rw [HT.out]; rfl) (fun e => by cases e) ((HS.out.rest.below HM.out).upto _) (by rw [HT.out]; omega) HM.out.size ?_; intro zs2 A2 c2 w2 e2 own2 hg2 _; have HG2 := hide hg2; have HO2 := hide own2; clear hg2 own2))
              go_roundg (ys.drop ys.length).length
              case measure => simp; omega
              case rel => exact ⟨some ⟨b, off, none⟩, ys.length - ys.length, ys.drop ys.length, A2, c2, zs2, rfl, by simp <;> omega, rfl, HS.out.step _ hq1 hlt HZ.out HG1.out e1 HO1.out HG2.out e2 HO2.out HSub.out⟩
            · have hcz2 : ¬ ys.length = cl := fun e => hcz e.symm
              have HSub : Hid (IntsAt w w.heap.size (some ⟨b, off + ys.length, none⟩) (ys.drop ys.length)) := hide (by rw [List.drop_eq_nil_of_le (by omega)]; exact IntsAt.empt _)
              clear hz
              go_wp2_with (at_builtin; first
                | (refine append_ints rfl (.tmp 22) (.tmp 24) rfl w.heap.size Ao co acc rfl (HS.out.own.alloc _) _ _ 1 [(ys.length : Int)] rfl (fun e => by cases e) (IntsAt.one wr _ (by constructor <;> omega)) (by simp; omega) (by simp; omega) ?_; intro zs1 A1 c1 w1 e1 own1 hg1 _; have HM := hide (HS.out.mid _ hg1); have hz1 : zs1.length ≤ 2000 := (by rw [e1]; simp; omega); have HG1 := hide hg1; have HO1 := hide own1; clear hg1 own1)
                | (refine append_ints rfl (.tmp 26) (.tmp 29) rfl w.heap.size A1 c1 zs1 rfl HO1.out w.heap.size _ _ (ys.take ys.length) (by rw [HT.out]; rfl) (fun e => by cases e) ((HS.out.rest.below HM.out).upto _) (by rw [HT.out]; omega) HM.out.size ?_; intro zs2 A2 c2 w2 e2 own2 hg2 _; have HG2 := hide hg2; have HO2 := hide own2; clear hg2 own2))
              go_roundg (ys.drop ys.length).length
              case measure => simp; omega
              case rel => exact ⟨some ⟨b, off + ys.length, none⟩, cl - ys.length, ys.drop ys.length, A2, c2, zs2, rfl, by simp <;> omega, rfl, HS.out.step _ hq1 hlt HZ.out HG1.out e1 HO1.out HG2.out e2 HO2.out HSub.out⟩
          · have hq' : q ≤ ys.length := by omega
            have HZ : Hid (q = min q ys.length) := hide (by omega)
            have HT : Hid ((ys.take q).length = q) := hide (by simp; omega)
            have hz : True := trivial
            by_cases hcz : cl = q
            · subst hcz
              have HSub : Hid (IntsAt w w.heap.size (some ⟨b, off, none⟩) (ys.drop cl)) := hide (by rw [List.drop_eq_nil_of_le (by omega)]; exact IntsAt.empt _)
              clear hz
              go_wp2_with (at_builtin; first
                | (refine append_ints rfl (.tmp 22) (.tmp 24) rfl w.heap.size Ao co acc rfl (HS.out.own.alloc _) _ _ 1 [(cl : Int)] rfl (fun e => by cases e) (IntsAt.one wr _ (by constructor <;> omega)) (by simp; omega) (by simp; omega) ?_; intro zs1 A1 c1 w1 e1 own1 hg1 _; have HM := hide (HS.out.mid _ hg1); have hz1 : zs1.length ≤ 2000 := (by rw [e1]; simp; omega); have HG1 := hide hg1; have HO1 := hide own1; clear hg1 own1)
                | (refine append_ints rfl (.tmp 26) (.tmp 29) rfl w.heap.size A1 c1 zs1 rfl HO1.out w.heap.size _ _ (ys.take cl) (by rw [HT.out]; rfl) (fun e => by cases e) ((HS.out.rest.below HM.out).upto _) (by rw [HT.out]; omega) HM.out.size ?_; intro zs2 A2 c2 w2 e2 own2 hg2 _; have HG2 := hide hg2; have HO2 := hide own2; clear hg2 own2))
              go_roundg (ys.drop cl).length
              case measure => simp; omega
              case rel => exact ⟨some ⟨b, off, none⟩, cl - cl, ys.drop cl, A2, c2, zs2, rfl, by simp <;> omega, rfl, HS.out.step _ hq1 hlt HZ.out HG1.out e1 HO1.out HG2.out e2 HO2.out HSub.out⟩
            · have hcz2 : ¬ q = cl := fun e => hcz e.symm
              clear hz
              go_wp2_with (at_builtin; first
                | (refine append_ints rfl (.tmp 22) (.tmp 24) rfl w.heap.size Ao co acc rfl (HS.out.own.alloc _) _ _ 1 [(q : Int)] rfl (fun e => by cases e) (IntsAt.one wr _ (by constructor <;> omega)) (by simp; omega) (by simp; omega) ?_; intro zs1 A1 c1 w1 e1 own1 hg1 _; have HM := hide (HS.out.mid _ hg1); have hz1 : zs1.length ≤ 2000 := (by rw [e1]; simp; omega); have HG1 := hide hg1; have HO1 := hide own1; clear hg1 own1)
                | (refine append_ints rfl (.tmp 26) (.tmp 29) rfl w.heap.size A1 c1 zs1 rfl HO1.out w.heap.size _ _ (ys.take q) (by rw [HT.out]; rfl) (fun e => by cases e) ((HS.out.rest.below HM.out).upto _) (by rw [HT.out]; omega) HM.out.size ?_; intro zs2 A2 c2 w2 e2 own2 hg2 _; have HG2 := hide hg2; have HO2 := hide own2; clear hg2 own2))
              go_roundg (ys.drop q).length
              case measure => simp; omega
              case rel => exact ⟨some ⟨b, off + q, none⟩, cl - q, ys.drop q, A2, c2, zs2, rfl, by simp <;> omega, rfl, HS.out.step _ hq1 hlt HZ.out HG1.out e1 HO1.out HG2.out e2 HO2.out (HS.out.rest.behind q)⟩
        · obtain rfl : ys = [] := List.eq_nil_of_length_eq_zero (by omega)
          have hE : acc = R := by have := hS.eq; rw [framed_nil, List.append_nil] at this; exact this
          subst hE
          clear hS hlt
          go_wp2
          go_ret
          exact ⟨Ao, co, rfl, HS.out.own, HS.out.bel⟩
    · rw [frameOf_no (fun h => hmm h.2)]
      have ht := hide (tf_true hok)
      clear hok
      go_enter Tryd.func20, Tryd.ntmps20
      go_wp2_with fail
      refine (areBytes_any A xs c 1000 w h (by omega)).mono ?_
      rintro e w' ⟨rfl, rfl⟩
      rw [ht.out]
      go_wp2_with fail
      refine (isFrameSize_no m w hmm).mono ?_
      rintro e w' ⟨rfl, rfl⟩
      clear hmm
      go_wp2
      go_ret
      exact ⟨none, 0, rfl, OwnI.empty _ _, Below.refl _ _⟩
  · rw [frameOf_no (fun h => hok h.1)]
    have ht := hide (tf_false hok)
    clear hok
    go_enter Tryd.func20, Tryd.ntmps20
    go_wp2_with fail
    refine (areBytes_any A xs c 1000 w h (by omega)).mono ?_
    rintro e w' ⟨rfl, rfl⟩
    rw [ht.out]
    go_wp2
    go_ret
    exact ⟨none, 0, rfl, OwnI.empty _ _, Below.refl _ _⟩

end Go.Proofs.YtfhmmdiicnfjbaaDoor
