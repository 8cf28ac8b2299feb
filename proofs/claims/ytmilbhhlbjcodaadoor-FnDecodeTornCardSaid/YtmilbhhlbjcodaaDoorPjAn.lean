/-
  Lemmas, several texts in one: ByM, EncI, EqL.
-/
import Derived.Test.YtmilbhhlbjcodaaDoorSoM
import Derived.Test.YtmilbhhlbjcodaaDoorOwnBb
import Derived.Test.YtmilbhhlbjcodaaDoorPjAg
import Derived.Test.YtmilbhhlbjcodaaDoorPjAd
import Derived.Test.YtmilbhhlbjcodaaDoorPjAk
import Derived.Test.YtmilbhhlbjcodaaDoorPjAi
import Derived.Deep.LoopGhost
import Derived.Deep.Cut
import Derived.Deep.QuietTactic
import Derived.BigQuiet
import Derived.StillTailTactics
namespace Go.Proofs.YtmilbhhlbjcodaaDoor
open Go.RowKit
set_option linter.unusedVariables false
structure ByS (w wr : World) (rb : Nat) (A : Option Addr) (n c P : Nat) (B : Option Addr) (cb : Nat) (xs : List Int) : Prop where
  grew : Grew rb w wr
  rd : ∃ p', p' ≤ P ∧ Rd wr rb A n c p'
  own : OwnI wr w.heap.size B cb xs
  wf : ∀ x ∈ xs, In64 x
  few : xs.length ≤ 2000
  nr : rb < w.heap.size
section
variable {w wr w1 : World} {rb n c P P' cb : Nat} {A B : Option Addr} {xs : List Int}
theorem ByS.turned (h : ByS w wr rb A n c P B cb xs) {p1 : Nat} (hg : Grew rb wr w1) (hr : Rd w1 rb A n c p1) (hp : p1 ≤ P') : ByS w w1 rb A n c P' B cb xs := by
  have hn := h.nr
  exact ⟨h.grew.trans hg, ⟨p1, hp, hr⟩, h.own.of_block (fun g hg1 => hg.block g (h.own.blocks g hg1).2 (by have := (h.own.blocks g hg1).1; omega)), h.wf, h.few, h.nr⟩
theorem ByS.later (h : ByS w wr rb A n c P B cb xs) (hb : Below wr.heap.size wr w1) : ByS w w1 rb A n c P B cb xs := by
  obtain ⟨p1, hp1, hr⟩ := h.rd
  exact h.turned (Grew.of_below hb) (hr.below hb) hp1
theorem ByS.more (h : ByS w wr rb A n c P B cb xs) (hp : P ≤ P') : ByS w wr rb A n c P' B cb xs := by
  obtain ⟨p1, h1, h2⟩ := h.rd
  exact ⟨h.grew, ⟨p1, by omega, h2⟩, h.own, h.wf, h.few, h.nr⟩
theorem ByS.row (h : ByS w wr rb A n c P B cb xs) (hz : 0 < xs.length) : ∃ g, B = some ⟨g, 0, none⟩ ∧ w.heap.size ≤ g ∧ g < wr.heap.size := by
  rcases h.own.form with ⟨_, _, h2⟩ | h
  · rw [h2] at hz; simp at hz
  · obtain ⟨g, h1, h2⟩ := h
    exact ⟨g, h1, h2⟩
theorem ByS.set {g j : Nat} {x : Int} (h : ByS w wr rb A n c P (some ⟨g, 0, none⟩) cb xs) (hx : In64 x) : ByS w (wr.setCell ⟨g, j, none⟩ (.int .i64 x)) rb A n c P (some ⟨g, 0, none⟩) cb (xs.set j x) := by
  obtain ⟨p1, hp1, hr⟩ := h.rd
  have hg := (h.own.blocks g rfl).1
  have hn := h.nr
  refine ⟨grew_set1 h.grew hg _, ⟨p1, hp1, hr.far1 (by omega) _⟩, h.own.setAt j x, fun p hp => ?_, by rw [List.length_set]; exact h.few, h.nr⟩
  rcases List.mem_or_eq_of_mem_set hp with hp | rfl
  · exact h.wf p hp
  · exact hx
theorem ByS.cut {k : Nat} (h : ByS w wr rb A n c P B cb xs) (hk : k ≤ xs.length) : ByS w wr rb A n c P B cb (xs.take k) :=
  ⟨h.grew, h.rd, h.own.cutAt hk, fun o ho => h.wf o (List.mem_of_mem_take ho), by have := h.few; simp; omega, h.nr⟩
theorem ByS.cell {g j : Nat} (h : ByS w wr rb A n c P (some ⟨g, 0, none⟩) cb xs) (hj : j < xs.length) :
    ∃ x, wr.cell? ⟨g, j, none⟩ = some (.int .i64 x) ∧ wr.frozen? ⟨g, j, none⟩ = false := by
  obtain ⟨x, hx⟩ : ∃ x, xs[j]? = some x := ⟨_, List.getElem?_eq_getElem hj⟩
  exact ⟨x, h.own.cellAt hx, h.own.frozenAt j⟩
end
def Ints2 (rb : Nat) (A : Option Addr) (n c P : Nat) (w : World) (e : Ending) (w' : World) : Prop :=
  ∃ (xs : List Int) (B : Option Addr) (cb : Nat), e = .returned (.slice B xs.length cb) ∧ ByS w w' rb A n c P B cb xs
end Go.Proofs.YtmilbhhlbjcodaaDoor

namespace Go.Proofs.YtmilbhhlbjcodaaDoor
open Go.RowKit
set_option linter.unusedVariables false
structure EnT (w wr : World) (os : List Od) (k : Nat) (Ao : Option Addr) (co : Nat) (acc : List Int) : Prop where
  bel : Below w.heap.size w wr
  own : OwnI wr w.heap.size Ao co acc
  eq : acc = encs (os.take k)
theorem EnT.few {w wr : World} {os : List Od} {k : Nat} {Ao : Option Addr} {co : Nat} {acc : List Int} (h : EnT w wr os k Ao co acc) : acc.length ≤ 3 * k := by
  rw [h.eq]
  have := (encs_len (os.take k)).2
  simp only [List.length_take] at this
  omega
set_option maxRecDepth 100000 in
set_option maxHeartbeats 2000000 in
theorem implEncodeOps_any (A : Option Addr) (os : List Od) (c : Nat) (w : World) (h : OpsAt w w.heap.size A os) (hF : FormsAt w w.heap.size) :
    Calls Tryd.prog 11 #[.slice A os.length c] w (GivesInts w (encodeOf os)) := by
  have hl := h.len
  by_cases hok : OpsOk os
  · rw [encodeOf_ok hok]
    have Hok := hide hok
    have ht := hide (tf_true hok)
    have hl3 := hok.1
    clear hok
    go_enter Tryd.func11, Tryd.ntmps11
    go_wp2_with fail
    refine (implValidOps_any A os c w h hF).mono ?_
    rintro e w1 ⟨rfl, hb1⟩
    rw [ht.out]
    have HS0 := hide (show EnT w w1 os 0 none 0 [] from ⟨hb1, OwnI.empty _ _, rfl⟩)
    clear hb1
    go_wp2_with fail
    go_loopg [3, 5, 11] os.length (fun gk ov _ iv wr => ∃ (k : Nat) (Ao : Option Addr) (co : Nat) (acc : List Int), k ≤ os.length ∧ gk = os.length - k ∧ iv = .int .i64 (k : Int) ∧ ov = .slice Ao acc.length co ∧ EnT w wr os k Ao co acc)
    case atStart => exact ⟨0, none, 0, [], Nat.zero_le _, rfl, rfl, rfl, HS0.out⟩
    case round =>
      clear HS0
      obtain ⟨k, Ao, co, acc, hk, rfl, rfl, rfl, hS⟩ := hrel
      have HS := hide hS
      have hfew := hS.few
      have hbs := hS.bel.size
      by_cases hlt : k < os.length
      · obtain ⟨b, off, o, rfl, hbl, hx, hmem, hc0, hc1⟩ := (h.below hS.bel).at_ hlt
        have Hx := hide hx
        have hin := Hok.out.2 o hmem
        obtain ⟨⟨hq1, hq2⟩, hqa⟩ := hin
        have HA := hide hqa
        have hm := argMost_range o.code
        have lo := Lies.new wr #[.int .i64 o.code, .int .i64 o.arg] 39
        have HOb := hide (HS.out.own.alloc (.cells #[.int .i64 o.code, .int .i64 o.arg] 39))
        have HBb := hide (HS.out.bel.alloc HS.out.bel.size (.cells #[.int .i64 o.code, .int .i64 o.arg] 39))
        have Hne := hide (fun (g : Nat) (e : some wr.heap.size = blockOf Ao) => (by have := (HS.out.own.blocks _ e.symm).2; omega : False))
        clear hS hx hmem hqa
        go_upto_region 7 with fail
        have hgb : wr.heap.size < (wr.alloc (.cells #[.int .i64 o.code, .int .i64 o.arg] 39)).heap.size := lo.lt
        generalize wr.heap.size = gb at *
        generalize wr.alloc (.cells #[.int .i64 o.code, .int .i64 o.arg] 39) = wb at *
        have c0 := lo.cell 0
        simp at c0
        have Lo := hide lo
        clear hc0 hc1 lo
        have hg3f : ∀ (w3 : World), (wb.alloc (.cells #[.int .i64 o.code] 3)).grownBy w3 (blockOf Ao) → Below w.heap.size w w3 ∧ Lies w3 gb #[.int .i64 o.code, .int .i64 o.arg] 39 := fun w3 hg3 =>
          ⟨below_grown (HBb.out.alloc HBb.out.size _) hg3 (by have := HBb.out.size; simp; omega) (fun q hq => (HOb.out.blocks q hq).1),
            (hg3.block gb (by simp; omega) (fun e => Hne.out gb e)).trans (Lo.out.alloc _)⟩
        have Hg3f := hide hg3f
        clear hg3f
        go_wp2_with (at_builtin; refine append_ints rfl (.tmp 15) (.tmp 18) rfl w.heap.size Ao co acc rfl (HOb.out.alloc _) _ _ 1 [o.code] rfl (fun e => by cases e) (IntsAt.one wb o.code (by constructor <;> omega)) (by simp; omega) (by simp; omega) ?_; intro zs A3 c3 w3 e3 own3 hg3 _; obtain ⟨hb3, lo3⟩ := Hg3f.out w3 hg3; have HO3 := hide own3; have HB3 := hide hb3; have HL3 := hide lo3; have d0 := lo3.cell 0; have d1 := lo3.cell 1; simp at d0 d1; have HF3 := hide (hF.later hb3 (Nat.le_refl _)); have hs3 := hb3.size; clear hg3 own3 hb3 lo3)
        by_cases hneg : argMost o.code < 0
        · have HE := hide (encO_bare hneg)
          refine (hasArg_no o.code w3 HF3.out hq1 (by omega) hneg).mono ?_
          rintro e w' ⟨rfl, rfl⟩
          clear hneg
          go_wp2
          go_roundg (os.length - (k + 1))
          case measure => omega
          case rel => exact ⟨k + 1, A3, c3, zs, by omega, rfl, by go_num, rfl, HB3.out, HO3.out, by rw [e3.out, HS.out.eq, encs_next Hx.out, HE.out]⟩
        · have HE := hide (encO_arg hneg)
          have hr : 0 ≤ o.arg ∧ o.arg ≤ 999 := by have := HA.out; omega
          obtain ⟨hr1, hr2⟩ := hr
          have hzl : zs.length ≤ 3 * k + 1 := by rw [e3.out]; simp; omega
          refine (hasArg_yes o.code w3 HF3.out hq1 (by omega) hneg).mono ?_
          rintro e w' ⟨rfl, rfl⟩
          clear hneg
          go_wp2_with fail
          refine (appendArg_any w.heap.size A3 c3 zs o.arg w3 HO3.out hs3 hr1 hr2 (by omega)).mono ?_
          rintro e w4 ⟨A4, c4, rfl, own4, hb4, _⟩
          go_wp2
          go_roundg (os.length - (k + 1))
          case measure => omega
          case rel => exact ⟨k + 1, A4, c4, zs ++ encA o.arg, by omega, rfl, by go_num, by rw [List.length_append], HB3.out.trans hb4, own4, by rw [e3.out, HS.out.eq, encs_next Hx.out, HE.out]; simp⟩
      · obtain rfl : k = os.length := by omega
        have hE : acc = encs os := by have := hS.eq; rw [List.take_length] at this; exact this
        subst hE
        clear hS hlt
        go_wp2
        go_ret
        exact ⟨Ao, co, rfl, HS.out.own, HS.out.bel⟩
  · rw [encodeOf_no hok]
    have ht := hide (tf_false hok)
    clear hok
    go_enter Tryd.func11, Tryd.ntmps11
    go_wp2_with fail
    refine (implValidOps_any A os c w h hF).mono ?_
    rintro e w1 ⟨rfl, hb1⟩
    rw [ht.out]
    go_wp2
    go_ret
    exact ⟨none, 0, rfl, OwnI.empty _ _, hb1⟩
end Go.Proofs.YtmilbhhlbjcodaaDoor

namespace Go.Proofs.YtmilbhhlbjcodaaDoor
open Go.RowKit
set_option maxHeartbeats 1000000 in
theorem equalInts_any (A A' : Option Addr) (xs ys : List Int) (c c' : Nat) (w : World) (h : IntsAt w w.heap.size A xs) (h' : IntsAt w w.heap.size A' ys) :
    Calls Tryd.prog 10 #[.slice A xs.length c, .slice A' ys.length c'] w fun e w' => e = .returned (.bool (decide (xs = ys))) ∧ Below w.heap.size w w' := by
  have hl := h.len
  by_cases hne : xs.length = ys.length
  · have hb0 : ((xs.length : Int) != (ys.length : Int)) = false := by simp [hne]
    go_enter Tryd.func10, Tryd.ntmps10
    go_wp2_with fail
    go_loopw [5] (fun i wr => ∃ k : Nat, k ≤ xs.length ∧ i = .int .i64 k ∧ Below w.heap.size w wr ∧ ∀ j, j < k → xs[j]? = ys[j]?) (fun i _ => xs.length - (intOf i).toNat)
    case atStart => exact ⟨0, Nat.zero_le _, rfl, Below.refl _ _, fun j hj => absurd hj (by omega)⟩
    case round =>
      obtain ⟨k, hk, rfl, hb, he0⟩ := hrel
      have he := hide he0
      clear he0
      by_cases hlt : k < xs.length
      · obtain ⟨b, off, x, rfl, hbl, hx, _, hcx⟩ := (h.below hb).at_ hlt
        obtain ⟨b', off', y, rfl, hbl', hy, _, hcy⟩ := (h'.below hb).at_ (k := k) (by omega)
        have Hx := hide hx
        have Hy := hide hy
        clear hx hy
        have hk1 : (0 : Int) ≤ (k : Int) := by omega
        have hk2 : (k : Int) < (xs.length : Int) := by omega
        have hk3 : (k : Int) < (ys.length : Int) := by omega
        by_cases hxy : x = y
        · subst hxy
          go_wp2_with fail
          go_quiet (fail)
          go_wp2
          go_roundw
          case rel => exact ⟨k + 1, by omega, by go_num, below_drewN hb _, fun j hj => by
            by_cases e : j = k
            · subst e; rw [Hx.out, Hy.out]
            · exact he.out j (by omega)⟩
          case measure => simp [intOf]; omega
        · have hn1 : (x != y) = true := by simpa using hxy
          have hF : decide (xs = ys) = false := by
            simp only [decide_eq_false_iff_not]
            intro e
            subst e
            have := Hx.out.symm.trans Hy.out
            injection this with this
            exact hxy this
          have HF := hide hF
          clear hF
          go_wp2_with fail
          go_quiet (fail)
          go_wp2
          go_ret
          exact ⟨ret_bool HF.out.symm, below_drewN hb _⟩
      · obtain rfl : k = xs.length := by omega
        have hF : decide (xs = ys) = true := by
          simp only [decide_eq_true_eq]
          exact eq_of_prefix hne rfl he.out
        have HF := hide hF
        clear hF hlt
        go_wp2
        go_ret
        exact ⟨ret_bool HF.out.symm, hb⟩
  · have hb1 : ((xs.length : Int) != (ys.length : Int)) = true := by simp; omega
    have hF : decide (xs = ys) = false := by
      simp only [decide_eq_false_iff_not]
      intro e
      exact hne (by rw [e])
    have HF := hide hF
    clear hF
    go_enter Tryd.func10, Tryd.ntmps10
    go_wp2
    go_ret
    exact ⟨ret_bool HF.out.symm, Below.refl _ _⟩
end Go.Proofs.YtmilbhhlbjcodaaDoor
