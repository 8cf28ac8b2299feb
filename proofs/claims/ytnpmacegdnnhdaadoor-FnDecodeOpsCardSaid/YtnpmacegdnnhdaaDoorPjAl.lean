/-
  Lemmas, several texts in one: ByM, EncS, EncI, EqS, DtI, DoI, Rds, DoS.
-/
import Derived.Test.YtnpmacegdnnhdaaDoorSoM
import Derived.Test.YtnpmacegdnnhdaaDoorOwnBb
import Derived.Test.YtnpmacegdnnhdaaDoorPjAg
import Derived.Test.YtnpmacegdnnhdaaDoorShpR
import Derived.Test.YtnpmacegdnnhdaaDoorPjAf
import Derived.Test.YtnpmacegdnnhdaaDoorPjAe
import Derived.Deep.LoopGhost
import Derived.Test.YtnpmacegdnnhdaaDoorPjAj
import Derived.Deep.Cut
import Derived.Test.YtnpmacegdnnhdaaDoorPjAb
import Derived.Deep.QuietTactic
import Derived.BigQuiet
import Derived.StillTailTactics
import Derived.Test.YtnpmacegdnnhdaaDoorPjAk
import Derived.Test.YtnpmacegdnnhdaaDoorPjAi
import Derived.Test.YtnpmacegdnnhdaaDoorPjAc
namespace Go.Proofs.YtnpmacegdnnhdaaDoor
open Go.RowKit
set_option linter.unusedVariables false
structure ByS (w wr : World) (rb : Nat) (A : Option Addr) (n c P : Nat) (B : Option Addr) (cb : Nat) (xs : List Int) : Prop where
  grew : Grew rb w wr
  rd : ∃ p', p' ≤ P ∧ Rd wr rb A n c p'
  own : OwnI wr w.heap.size B cb xs
  wf : ∀ x ∈ xs, In64 x
  few : xs.length ≤ 2000
  nr : rb < w.heap.size
section
variable {w wr w1 : World} {rb n c P P' cb : Nat} {A B : Option Addr} {xs : List Int}
theorem ByS.turned (h : ByS w wr rb A n c P B cb xs) {p1 : Nat} (hg : Grew rb wr w1) (hr : Rd w1 rb A n c p1) (hp : p1 ≤ P') : ByS w w1 rb A n c P' B cb xs := by
  have hn := h.nr
  exact ⟨h.grew.trans hg, ⟨p1, hp, hr⟩, h.own.of_block (fun g hg1 => hg.block g (h.own.blocks g hg1).2 (by have := (h.own.blocks g hg1).1; omega)), h.wf, h.few, h.nr⟩
theorem ByS.later (h : ByS w wr rb A n c P B cb xs) (hb : Below wr.heap.size wr w1) : ByS w w1 rb A n c P B cb xs := by
  obtain ⟨p1, hp1, hr⟩ := h.rd
  exact h.turned (Grew.of_below hb) (hr.below hb) hp1
theorem ByS.more (h : ByS w wr rb A n c P B cb xs) (hp : P ≤ P') : ByS w wr rb A n c P' B cb xs := by
  obtain ⟨p1, h1, h2⟩ := h.rd
  exact ⟨h.grew, ⟨p1, by omega, h2⟩, h.own, h.wf, h.few, h.nr⟩
theorem ByS.row (h : ByS w wr rb A n c P B cb xs) (hz : 0 < xs.length) : ∃ g, B = some ⟨g, 0, none⟩ ∧ w.heap.size ≤ g ∧ g < wr.heap.size := by
  rcases h.own.form with ⟨_, _, h2⟩ | h
  · rw [h2] at hz; simp at hz
  · obtain ⟨g, h1, h2⟩ := h
    exact ⟨g, h1, h2⟩
theorem ByS.set {g j : Nat} {x : Int} (h : ByS w wr rb A n c P (some ⟨g, 0, none⟩) cb xs) (hx : In64 x) : ByS w (wr.setCell ⟨g, j, none⟩ (.int .i64 x)) rb A n c P (some ⟨g, 0, none⟩) cb (xs.set j x) := by
  obtain ⟨p1, hp1, hr⟩ := h.rd
  have hg := (h.own.blocks g rfl).1
  have hn := h.nr
  refine ⟨grew_set1 h.grew hg _, ⟨p1, hp1, hr.far1 (by omega) _⟩, h.own.setAt j x, fun p hp => ?_, by rw [List.length_set]; exact h.few, h.nr⟩
  rcases List.mem_or_eq_of_mem_set hp with hp | rfl
  · exact h.wf p hp
  · exact hx
theorem ByS.cut {k : Nat} (h : ByS w wr rb A n c P B cb xs) (hk : k ≤ xs.length) : ByS w wr rb A n c P B cb (xs.take k) :=
  ⟨h.grew, h.rd, h.own.cutAt hk, fun o ho => h.wf o (List.mem_of_mem_take ho), by have := h.few; simp; omega, h.nr⟩
theorem ByS.cell {g j : Nat} (h : ByS w wr rb A n c P (some ⟨g, 0, none⟩) cb xs) (hj : j < xs.length) :
    ∃ x, wr.cell? ⟨g, j, none⟩ = some (.int .i64 x) ∧ wr.frozen? ⟨g, j, none⟩ = false := by
  obtain ⟨x, hx⟩ : ∃ x, xs[j]? = some x := ⟨_, List.getElem?_eq_getElem hj⟩
  exact ⟨x, h.own.cellAt hx, h.own.frozenAt j⟩
end
def Ints2 (rb : Nat) (A : Option Addr) (n c P : Nat) (w : World) (e : Ending) (w' : World) : Prop :=
  ∃ (xs : List Int) (B : Option Addr) (cb : Nat), e = .returned (.slice B xs.length cb) ∧ ByS w w' rb A n c P B cb xs
end Go.Proofs.YtnpmacegdnnhdaaDoor

namespace Go.Proofs.YtnpmacegdnnhdaaDoor
open Go.RowKit
set_option linter.unusedVariables false
structure EnS (w wr : World) (os : List Od) (k : Nat) (Ao : Option Addr) (co : Nat) (acc : List Int) : Prop where
  bel : Below w.heap.size w wr
  own : OwnI wr w.heap.size Ao co acc
  eq : acc = encs (os.take k)
theorem EnS.few {w wr : World} {os : List Od} {k : Nat} {Ao : Option Addr} {co : Nat} {acc : List Int} (h : EnS w wr os k Ao co acc) : acc.length ≤ 3 * k := by
  rw [h.eq]
  have := (encs_len (os.take k)).2
  simp only [List.length_take] at this
  omega
set_option maxRecDepth 100000 in
set_option maxHeartbeats 1000000 in
theorem specEncodeOps_any (A : Option Addr) (os : List Od) (c : Nat) (w : World) (h : OpsAt w w.heap.size A os) :
    Calls Tryd.prog 21 #[.slice A os.length c] w (GivesInts w (encodeOf os)) := by
  have hl := h.len
  by_cases hok : OpsOk os
  · rw [encodeOf_ok hok]
    have Hok := hide hok
    have ht := hide (tf_true hok)
    have hl3 := hok.1
    clear hok
    go_enter Tryd.func21, Tryd.ntmps21
    go_wp2_with fail
    refine (specValidOps_any A os c w h).mono ?_
    rintro e w1 ⟨rfl, hb1⟩
    rw [ht.out]
    have HS0 := hide (show EnS w (w1.alloc (.cells #[] 3)) os 0 (some ⟨w1.heap.size, 0, none⟩) 0 [] from
      ⟨hb1.alloc hb1.size _, (OwnI.bare w1).mono hb1.size, rfl⟩)
    go_wp2_with fail
    generalize w1.alloc (.cells #[] 3) = w0 at HS0 ⊢
    go_loopg [3, 4] os.length (fun gk ov iv wr => ∃ (k : Nat) (Ao : Option Addr) (co : Nat) (acc : List Int), k ≤ os.length ∧ gk = os.length - k ∧ iv = .int .i64 (k : Int) ∧ ov = .slice Ao acc.length co ∧ EnS w wr os k Ao co acc)
    case atStart => exact ⟨0, _, 0, [], Nat.zero_le _, rfl, rfl, rfl, HS0.out⟩
    case round =>
      clear HS0
      obtain ⟨k, Ao, co, acc, hk, rfl, rfl, rfl, hS⟩ := hrel
      have HS := hide hS
      have hfew := hS.few
      have hbs := hS.bel.size
      by_cases hlt : k < os.length
      · obtain ⟨b, off, o, rfl, hbl, hx, hmem, hc0, hc1⟩ := (h.below hS.bel).at_ hlt
        have Hx := hide hx
        have Hin := hide (Hok.out.2 o hmem)
        have hlen := encO_len o
        clear hS hx hmem
        go_wp2_with fail
        refine (bytesOf_any o _ Hin.out).mono ?_
        rintro e w2 ⟨A2, c2, rfl, hn2, hI2, hb2⟩
        have HN2 := hide hn2
        have HI2 := hide hI2
        have HB2 := hide hb2
        have HO2 := hide (HS.out.own.below hb2)
        have HW2 := hide (HS.out.bel.trans (hb2.mono hbs))
        have hs2 := HW2.out.size
        clear hn2 hI2 hb2
        go_wp2_with (at_builtin; refine append_ints rfl (.tmp 15) (.tmp 20) rfl w.heap.size Ao co acc rfl HO2.out w2.heap.size A2 c2 (encO o) rfl HN2.out HI2.out (by omega) hs2 ?_; intro zs A3 c3 w3 e3 own3 hg3 _; have HG3 := hide hg3; have HO3 := hide own3; clear hg3 own3)
        go_roundg (os.length - (k + 1))
        case measure => omega
        case rel => exact ⟨k + 1, A3, c3, zs, by omega, rfl, by go_num, rfl, below_grown HW2.out HG3.out hs2 (fun q hq => (HO2.out.blocks q hq).1), HO3.out, by rw [e3.out, HS.out.eq, encs_next Hx.out]⟩
      · obtain rfl : k = os.length := by omega
        have hE : acc = encs os := by have := hS.eq; rw [List.take_length] at this; exact this
        subst hE
        clear hS hlt
        go_wp2
        go_ret
        exact ⟨Ao, co, rfl, HS.out.own, HS.out.bel⟩
  · rw [encodeOf_no hok]
    have ht := hide (tf_false hok)
    clear hok
    go_enter Tryd.func21, Tryd.ntmps21
    go_wp2_with fail
    refine (specValidOps_any A os c w h).mono ?_
    rintro e w1 ⟨rfl, hb1⟩
    rw [ht.out]
    go_wp2
    go_ret
    exact ⟨none, 0, rfl, OwnI.empty _ _, hb1⟩
end Go.Proofs.YtnpmacegdnnhdaaDoor

namespace Go.Proofs.YtnpmacegdnnhdaaDoor
open Go.RowKit
set_option linter.unusedVariables false
structure EnT (w wr : World) (os : List Od) (k : Nat) (Ao : Option Addr) (co : Nat) (acc : List Int) : Prop where
  bel : Below w.heap.size w wr
  own : OwnI wr w.heap.size Ao co acc
  eq : acc = encs (os.take k)
theorem EnT.few {w wr : World} {os : List Od} {k : Nat} {Ao : Option Addr} {co : Nat} {acc : List Int} (h : EnT w wr os k Ao co acc) : acc.length ≤ 3 * k := by
  rw [h.eq]
  have := (encs_len (os.take k)).2
  simp only [List.length_take] at this
  omega
set_option maxRecDepth 100000 in
set_option maxHeartbeats 2000000 in
theorem implEncodeOps_any (A : Option Addr) (os : List Od) (c : Nat) (w : World) (h : OpsAt w w.heap.size A os) (hF : FormsAt w w.heap.size) :
    Calls Tryd.prog 9 #[.slice A os.length c] w (GivesInts w (encodeOf os)) := by
  have hl := h.len
  by_cases hok : OpsOk os
  · rw [encodeOf_ok hok]
    have Hok := hide hok
    have ht := hide (tf_true hok)
    have hl3 := hok.1
    clear hok
    go_enter Tryd.func9, Tryd.ntmps9
    go_wp2_with fail
    refine (implValidOps_any A os c w h hF).mono ?_
    rintro e w1 ⟨rfl, hb1⟩
    rw [ht.out]
    have HS0 := hide (show EnT w w1 os 0 none 0 [] from ⟨hb1, OwnI.empty _ _, rfl⟩)
    clear hb1
    go_wp2_with fail
    go_loopg [3, 5, 11] os.length (fun gk ov _ iv wr => ∃ (k : Nat) (Ao : Option Addr) (co : Nat) (acc : List Int), k ≤ os.length ∧ gk = os.length - k ∧ iv = .int .i64 (k : Int) ∧ ov = .slice Ao acc.length co ∧ EnT w wr os k Ao co acc)
    case atStart => exact ⟨0, none, 0, [], Nat.zero_le _, rfl, rfl, rfl, HS0.out⟩
    case round =>
      clear HS0
      obtain ⟨k, Ao, co, acc, hk, rfl, rfl, rfl, hS⟩ := hrel
      have HS := hide hS
      have hfew := hS.few
      have hbs := hS.bel.size
      by_cases hlt : k < os.length
      · obtain ⟨b, off, o, rfl, hbl, hx, hmem, hc0, hc1⟩ := (h.below hS.bel).at_ hlt
        have Hx := hide hx
        have hin := Hok.out.2 o hmem
        obtain ⟨⟨hq1, hq2⟩, hqa⟩ := hin
        have HA := hide hqa
        have hm := argMost_range o.code
        have lo := Lies.new wr #[.int .i64 o.code, .int .i64 o.arg] 40
        have HOb := hide (HS.out.own.alloc (.cells #[.int .i64 o.code, .int .i64 o.arg] 40))
        have HBb := hide (HS.out.bel.alloc HS.out.bel.size (.cells #[.int .i64 o.code, .int .i64 o.arg] 40))
        have Hne := hide (fun (g : Nat) (e : some wr.heap.size = blockOf Ao) => (by have := (HS.out.own.blocks _ e.symm).2; omega : False))
        clear hS hx hmem hqa
        go_upto_region 7 with fail
        have hgb : wr.heap.size < (wr.alloc (.cells #[.int .i64 o.code, .int .i64 o.arg] 40)).heap.size := lo.lt
        generalize wr.heap.size = gb at *
        generalize wr.alloc (.cells #[.int .i64 o.code, .int .i64 o.arg] 40) = wb at *
        have c0 := lo.cell 0
        simp at c0
        have Lo := hide lo
        clear hc0 hc1 lo
        have hg3f : ∀ (w3 : World), (wb.alloc (.cells #[.int .i64 o.code] 3)).grownBy w3 (blockOf Ao) → Below w.heap.size w w3 ∧ Lies w3 gb #[.int .i64 o.code, .int .i64 o.arg] 40 := fun w3 hg3 =>
          ⟨below_grown (HBb.out.alloc HBb.out.size _) hg3 (by have := HBb.out.size; simp; omega) (fun q hq => (HOb.out.blocks q hq).1),
            (hg3.block gb (by simp; omega) (fun e => Hne.out gb e)).trans (Lo.out.alloc _)⟩
        have Hg3f := hide hg3f
        clear hg3f
        go_wp2_with (at_builtin; refine append_ints rfl (.tmp 15) (.tmp 18) rfl w.heap.size Ao co acc rfl (HOb.out.alloc _) _ _ 1 [o.code] rfl (fun e => by cases e) (IntsAt.one wb o.code (by constructor <;> omega)) (by simp; omega) (by simp; omega) ?_; intro zs A3 c3 w3 e3 own3 hg3 _; obtain ⟨hb3, lo3⟩ := Hg3f.out w3 hg3; have HO3 := hide own3; have HB3 := hide hb3; have HL3 := hide lo3; have d0 := lo3.cell 0; have d1 := lo3.cell 1; simp at d0 d1; have HF3 := hide (hF.later hb3 (Nat.le_refl _)); have hs3 := hb3.size; clear hg3 own3 hb3 lo3)
        by_cases hneg : argMost o.code < 0
        · have HE := hide (encO_bare hneg)
          refine (hasArg_no o.code w3 HF3.out hq1 (by omega) hneg).mono ?_
          rintro e w' ⟨rfl, rfl⟩
          clear hneg
          go_wp2
          go_roundg (os.length - (k + 1))
          case measure => omega
          case rel => exact ⟨k + 1, A3, c3, zs, by omega, rfl, by go_num, rfl, HB3.out, HO3.out, by rw [e3.out, HS.out.eq, encs_next Hx.out, HE.out]⟩
        · have HE := hide (encO_arg hneg)
          have hr : 0 ≤ o.arg ∧ o.arg ≤ 999 := by have := HA.out; omega
          obtain ⟨hr1, hr2⟩ := hr
          have hzl : zs.length ≤ 3 * k + 1 := by rw [e3.out]; simp; omega
          refine (hasArg_yes o.code w3 HF3.out hq1 (by omega) hneg).mono ?_
          rintro e w' ⟨rfl, rfl⟩
          clear hneg
          go_wp2_with fail
          refine (appendArg_any w.heap.size A3 c3 zs o.arg w3 HO3.out hs3 hr1 hr2 (by omega)).mono ?_
          rintro e w4 ⟨A4, c4, rfl, own4, hb4, _⟩
          go_wp2
          go_roundg (os.length - (k + 1))
          case measure => omega
          case rel => exact ⟨k + 1, A4, c4, zs ++ encA o.arg, by omega, rfl, by go_num, by rw [List.length_append], HB3.out.trans hb4, own4, by rw [e3.out, HS.out.eq, encs_next Hx.out, HE.out]; simp⟩
      · obtain rfl : k = os.length := by omega
        have hE : acc = encs os := by have := hS.eq; rw [List.take_length] at this; exact this
        subst hE
        clear hS hlt
        go_wp2
        go_ret
        exact ⟨Ao, co, rfl, HS.out.own, HS.out.bel⟩
  · rw [encodeOf_no hok]
    have ht := hide (tf_false hok)
    clear hok
    go_enter Tryd.func9, Tryd.ntmps9
    go_wp2_with fail
    refine (implValidOps_any A os c w h hF).mono ?_
    rintro e w1 ⟨rfl, hb1⟩
    rw [ht.out]
    go_wp2
    go_ret
    exact ⟨none, 0, rfl, OwnI.empty _ _, hb1⟩
end Go.Proofs.YtnpmacegdnnhdaaDoor

namespace Go.Proofs.YtnpmacegdnnhdaaDoor
open Go.RowKit
set_option maxHeartbeats 1000000 in
theorem equalOps_same (A A' : Option Addr) (os : List Od) (c c' : Nat) (w : World) (h : OpsAt w w.heap.size A os) (h' : OpsAt w w.heap.size A' os) :
    Calls Tryd.prog 7 #[.slice A os.length c, .slice A' os.length c'] w fun e w' => e = .returned (.bool true) ∧ Below w.heap.size w w' := by
  have hl := h.len
  have hb0 : ((os.length : Int) != (os.length : Int)) = false := by simp
  go_enter Tryd.func7, Tryd.ntmps7
  go_wp2_with fail
  go_loopw [5] (fun i wr => ∃ k : Nat, k ≤ os.length ∧ i = .int .i64 k ∧ Below w.heap.size w wr) (fun i _ => os.length - (intOf i).toNat)
  case atStart => exact ⟨0, Nat.zero_le _, rfl, Below.refl _ _⟩
  case round =>
    obtain ⟨k, hk, rfl, hb⟩ := hrel
    by_cases hlt : k < os.length
    · obtain ⟨b, off, x, rfl, hbl, hx, _, hx0, hx1⟩ := (h.below hb).at_ hlt
      obtain ⟨b', off', y, rfl, hbl', hy, _, hy0, hy1⟩ := (h'.below hb).at_ hlt
      obtain rfl : x = y := by rw [hx] at hy; injection hy
      clear hx hy
      have hk1 : (0 : Int) ≤ (k : Int) := by omega
      have hk2 : (k : Int) < (os.length : Int) := by omega
      have t1 : (x.code == x.code) = true := by simp
      have t2 : (x.arg == x.arg) = true := by simp
      go_wp2_with fail
      go_quiet (fail)
      go_wp2
      go_roundw
      case rel => exact ⟨k + 1, by omega, by go_num, below_drewN hb _⟩
      case measure => simp [intOf]; omega
    · obtain rfl : k = os.length := by omega
      go_wp2
      go_ret
      exact ⟨rfl, hb⟩
end Go.Proofs.YtnpmacegdnnhdaaDoor

namespace Go.Proofs.YtnpmacegdnnhdaaDoor
open Go.RowKit
set_option linter.unusedVariables false
set_option maxRecDepth 100000 in
set_option maxHeartbeats 2000000 in
theorem implDecodeTorn_any (A : Option Addr) (xs : List Int) (c : Nat) (w : World) (h : IntsAt w w.heap.size A xs) (hnil : A = none → c = 0) (hc : xs.length ≤ c) (hF : FormsAt w w.heap.size) :
    Calls Tryd.prog 13 #[.slice A xs.length c] w (GivesOpsV w (tornOps xs) (.int .i64 (tornSize xs))) := by
  by_cases hok : BytesOk 1000 xs
  · rw [tornOps_ok hok, tornSize_ok hok]
    have ht := hide (tf_true hok)
    have hl := hok.1
    have Hb := hide hok.2
    clear hok
    obtain ⟨R, hR⟩ : ∃ R, R = (decs 300 xs).1 := ⟨_, rfl⟩
    obtain ⟨N, hN⟩ : ∃ N, N = (decs 300 xs).2 := ⟨_, rfl⟩
    have HR := hide hR
    have HN := hide hN
    rw [← hR, ← hN]
    clear hR hN
    have HS0 := hide (show DcS w w R N xs 0 0 none 0 [] from
      ⟨Below.refl _ _, OwnO.empty _ _, by rw [HR.out]; rfl, by rw [HN.out]; simp, rfl, by omega, Nat.zero_le _⟩)
    have Hnil := hide hnil
    clear hnil
    go_enter Tryd.func13, Tryd.ntmps13
    go_wp2_with fail
    refine (areBytes_any A xs c 1000 w h (by omega)).mono ?_
    rintro e w' ⟨rfl, rfl⟩
    rw [ht.out]
    go_wp2_with fail
    go_loopg [4, 5, 6, 7, 11] 300 (fun gk ov iv _ _ kv wr => ∃ (k i : Nat) (Ao : Option Addr) (co : Nat) (acc : List Od), gk = 300 - k ∧ kv = .int .i64 (k : Int) ∧ iv = .int .i64 (i : Int) ∧ ov = .slice Ao acc.length co ∧ DcS w wr R N xs k i Ao co acc)
    case atStart => exact ⟨0, 0, none, 0, [], rfl, rfl, rfl, rfl, HS0.out⟩
    case round =>
      clear HS0
      obtain ⟨k, i, Ao, co, acc, rfl, rfl, rfl, rfl, hS⟩ := hrel
      have HS := hide hS
      have hil := hS.le
      have hkl := hS.few
      have hbs := hS.bel.size
      have hlen := hide hS.len
      have hFr := hF.later hS.bel (Nat.le_refl _)
      by_cases hk : k < 300
      · have hw0 : (i : Int) ≤ (xs.length : Int) := by omega
        have hwc : (i : Int) ≤ (c : Int) := by omega
        have HD : Hid ((xs.drop i).length = xs.length - i) := hide (by simp)
        have HBd := hide (fun x (hx : x ∈ xs.drop i) => Hb.out x (List.mem_of_mem_drop hx))
        have HC : Hid (∃ A2 : Option Addr, (if c = i then A else A.map fun (a : Addr) => a.add i) = A2) := hide ⟨_, rfl⟩
        obtain ⟨o, hoD⟩ : ∃ o, o = (fstO (xs.drop i)).1 := ⟨_, rfl⟩
        obtain ⟨n, hnD⟩ : ∃ n, n = (fstO (xs.drop i)).2 := ⟨_, rfl⟩
        have HP : Hid (fstO (xs.drop i) = (o, n)) := hide (by rw [hoD, hnD])
        clear hoD hnD HC
        -- the slice from i on
        have hP0 : ∀ A2 c2, IntsAt wr wr.heap.size A2 (xs.drop i) → xs.length - i ≤ c2 → Calls Tryd.prog 25 #[.slice A2 (xs.length - i) c2] wr (GivesOp wr (o, n)) := by
          intro A2 c2 hI hcc
          have := firstOp_any A2 (xs.drop i) c2 wr hI HBd.out (by rw [HD.out]; exact hcc) (by rw [HD.out]; omega) hFr
          rw [HD.out, HP.out] at this
          exact this
        have HP0 := hide hP0
        have HI := hide h
        have hIr := hide (fun (b off : Nat) (e : A = some ⟨b, off, none⟩) => (by subst e; exact (h.behind i).later HS.out.bel (Nat.le_refl _) : IntsAt wr wr.heap.size (some ⟨b, off + i, none⟩) (xs.drop i)))
        have hsum := hide hS.own
        clear hS h hFr hP0
        have hcase : (∃ ad, A = some ad ∧ c = i) ∨ (∃ b off, A = some ⟨b, off, none⟩ ∧ c ≠ i) ∨ (∃ ad, A = some ad ∧ c ≠ i ∧ xs = []) ∨ A = none := by
          rcases A with _ | ad
          · exact .inr (.inr (.inr rfl))
          · by_cases hci : c = i
            · exact .inl ⟨ad, rfl, hci⟩
            · by_cases hx : xs = []
              · exact .inr (.inr (.inl ⟨ad, rfl, hci, hx⟩))
              · obtain ⟨b, off, e, _⟩ := HI.out.row hx
                exact .inr (.inl ⟨b, off, e, hci⟩)
        rcases hcase with ⟨ad, rfl, rfl⟩ | ⟨b, off, rfl, hci⟩ | ⟨ad, rfl, hci, rfl⟩ | rfl
        · have HE : Hid (xs.drop c = []) := hide (List.drop_eq_nil_of_le (by omega))
          have HZ : Hid (xs.length - c = 0) := hide (by omega)
          go_wp2_with fail
          have HC := HP0.out (some ad) 0 (by rw [HE.out]; exact IntsAt.empt _) (by omega)
          rw [HZ.out] at HC
          refine HC.mono ?_
          clear HC
          rintro e w2 ⟨rfl, hb2⟩
          have HO2 := hide (HS.out.own.below hb2)
          have HB2 := hide (HS.out.bel.trans (hb2.mono hbs))
          clear hb2
          have lb := Lies.new w2 #[.int .i64 o.code, .int .i64 o.arg] 40
          have hBb := HB2.out.alloc HB2.out.size (.cells #[.int .i64 o.code, .int .i64 o.arg] 40)
          have hOb := HO2.out.alloc (.cells #[.int .i64 o.code, .int .i64 o.arg] 40)
          have hgb := lb.lt
          have HBb := hide hBb
          have HOb := hide hOb
          have Hne := hide (fun (e : some w2.heap.size = blockOf Ao) => (by have := (HO2.out.blocks _ e.symm).2; omega : False))
          have HLb := hide lb
          clear hBb hOb lb
          go_upto_region 8 with fail
          generalize w2.alloc (.cells #[.int .i64 o.code, .int .i64 o.arg] 40) = wb at HBb HOb HLb hgb ⊢
          generalize w2.heap.size = gb at Hne HLb hgb ⊢
          by_cases hn0 : n = 0
          · have dn : ((n : Int) == 0) = true := by simpa using hn0
            have hE := HS.out.stop (.inr (firstO_zero HBd.out HP.out hn0))
            obtain ⟨rfl, rfl⟩ := hE
            clear hn0
            go_wp2
            go_ret2
            exact ⟨Ao, co, rfl, HOb.out, HBb.out⟩
          · have dn : ((n : Int) == 0) = false := by simpa using hn0
            have hF := hide (firstO_pos HBd.out HP.out hn0)
            have hfs := firstO_some HBd.out hF.out
            have hn3 := hfs.2.2.2.2.1
            clear hn0 hfs
            have lb := HLb.out
            have x0 := lb.cell 0
            have x1 := lb.cell 1
            simp at x0 x1
            have hal : acc.length ≤ 300 := by have := hlen.out; omega
            have HNw := hide (show Lies (wb.alloc (.cells #[.int .i64 o.code, .int .i64 o.arg] 40)) wb.heap.size #[.int .i64 o.code, .int .i64 o.arg] 40 from Lies.new wb _ _)
            clear lb
            go_wp2_with (at_builtin; refine append_op rfl (.tmp 22) (.tmp 24) rfl w.heap.size Ao co acc rfl (HOb.out.alloc _) wb.heap.size o 40 rfl HNw.out (by omega) (by have := HBb.out.size; simp; omega) ?_; intro zs A3 c3 w7 hz hown7 hg7 hat7; have HO7 := hide hown7; have HG7 := hide hg7; clear hown7 hg7 hat7)
            go_roundg (300 - (k + 1))
            case measure => omega
            case rel => exact ⟨k + 1, c + n, A3, c3, zs, rfl, by go_num, by go_num, rfl, HS.out.step Hb.out hk hF.out (below_grown (HBb.out.alloc HBb.out.size _) HG7.out (by have := HBb.out.size; simp; omega) (fun q hq => (HOb.out.blocks q hq).1)) hz.out HO7.out⟩
        · go_wp2_with fail
          refine (HP0.out (some ⟨b, off + i, none⟩) (c - i) (hIr.out b off rfl) (by omega)).mono ?_
          rintro e w2 ⟨rfl, hb2⟩
          have HO2 := hide (HS.out.own.below hb2)
          have HB2 := hide (HS.out.bel.trans (hb2.mono hbs))
          clear hb2
          have lb := Lies.new w2 #[.int .i64 o.code, .int .i64 o.arg] 40
          have hBb := HB2.out.alloc HB2.out.size (.cells #[.int .i64 o.code, .int .i64 o.arg] 40)
          have hOb := HO2.out.alloc (.cells #[.int .i64 o.code, .int .i64 o.arg] 40)
          have hgb := lb.lt
          have HBb := hide hBb
          have HOb := hide hOb
          have Hne := hide (fun (e : some w2.heap.size = blockOf Ao) => (by have := (HO2.out.blocks _ e.symm).2; omega : False))
          have HLb := hide lb
          clear hBb hOb lb
          go_upto_region 8 with fail
          generalize w2.alloc (.cells #[.int .i64 o.code, .int .i64 o.arg] 40) = wb at HBb HOb HLb hgb ⊢
          generalize w2.heap.size = gb at Hne HLb hgb ⊢
          by_cases hn0 : n = 0
          · have dn : ((n : Int) == 0) = true := by simpa using hn0
            have hE := HS.out.stop (.inr (firstO_zero HBd.out HP.out hn0))
            obtain ⟨rfl, rfl⟩ := hE
            clear hn0
            go_wp2
            go_ret2
            exact ⟨Ao, co, rfl, HOb.out, HBb.out⟩
          · have dn : ((n : Int) == 0) = false := by simpa using hn0
            have hF := hide (firstO_pos HBd.out HP.out hn0)
            have hfs := firstO_some HBd.out hF.out
            have hn3 := hfs.2.2.2.2.1
            clear hn0 hfs
            have lb := HLb.out
            have x0 := lb.cell 0
            have x1 := lb.cell 1
            simp at x0 x1
            have hal : acc.length ≤ 300 := by have := hlen.out; omega
            have HNw := hide (show Lies (wb.alloc (.cells #[.int .i64 o.code, .int .i64 o.arg] 40)) wb.heap.size #[.int .i64 o.code, .int .i64 o.arg] 40 from Lies.new wb _ _)
            clear lb
            go_wp2_with (at_builtin; refine append_op rfl (.tmp 22) (.tmp 24) rfl w.heap.size Ao co acc rfl (HOb.out.alloc _) wb.heap.size o 40 rfl HNw.out (by omega) (by have := HBb.out.size; simp; omega) ?_; intro zs A3 c3 w7 hz hown7 hg7 hat7; have HO7 := hide hown7; have HG7 := hide hg7; clear hown7 hg7 hat7)
            go_roundg (300 - (k + 1))
            case measure => omega
            case rel => exact ⟨k + 1, i + n, A3, c3, zs, rfl, by go_num, by go_num, rfl, HS.out.step Hb.out hk hF.out (below_grown (HBb.out.alloc HBb.out.size _) HG7.out (by have := HBb.out.size; simp; omega) (fun q hq => (HOb.out.blocks q hq).1)) hz.out HO7.out⟩
        · obtain rfl : i = 0 := by simpa using hil
          go_wp2_with fail
          refine (HP0.out (some ad) c (IntsAt.empt _) (by simp)).mono ?_
          rintro e w2 ⟨rfl, hb2⟩
          have HO2 := hide (HS.out.own.below hb2)
          have HB2 := hide (HS.out.bel.trans (hb2.mono hbs))
          clear hb2
          have lb := Lies.new w2 #[.int .i64 o.code, .int .i64 o.arg] 40
          have hBb := HB2.out.alloc HB2.out.size (.cells #[.int .i64 o.code, .int .i64 o.arg] 40)
          have hOb := HO2.out.alloc (.cells #[.int .i64 o.code, .int .i64 o.arg] 40)
          have hgb := lb.lt
          have HBb := hide hBb
          have HOb := hide hOb
          have Hne := hide (fun (e : some w2.heap.size = blockOf Ao) => (by have := (HO2.out.blocks _ e.symm).2; omega : False))
          have HLb := hide lb
          clear hBb hOb lb
          go_upto_region 8 with fail
          generalize w2.alloc (.cells #[.int .i64 o.code, .int .i64 o.arg] 40) = wb at HBb HOb HLb hgb ⊢
          generalize w2.heap.size = gb at Hne HLb hgb ⊢
          by_cases hn0 : n = 0
          · have dn : ((n : Int) == 0) = true := by simpa using hn0
            have hE := HS.out.stop (.inr (firstO_zero HBd.out HP.out hn0))
            obtain ⟨rfl, rfl⟩ := hE
            clear hn0
            go_wp2
            go_ret2
            exact ⟨Ao, co, rfl, HOb.out, HBb.out⟩
          · have dn : ((n : Int) == 0) = false := by simpa using hn0
            have hF := hide (firstO_pos HBd.out HP.out hn0)
            have hfs := firstO_some HBd.out hF.out
            have hn3 := hfs.2.2.2.2.1
            clear hn0 hfs
            have lb := HLb.out
            have x0 := lb.cell 0
            have x1 := lb.cell 1
            simp at x0 x1
            have hal : acc.length ≤ 300 := by have := hlen.out; omega
            have HNw := hide (show Lies (wb.alloc (.cells #[.int .i64 o.code, .int .i64 o.arg] 40)) wb.heap.size #[.int .i64 o.code, .int .i64 o.arg] 40 from Lies.new wb _ _)
            clear lb
            go_wp2_with (at_builtin; refine append_op rfl (.tmp 22) (.tmp 24) rfl w.heap.size Ao co acc rfl (HOb.out.alloc _) wb.heap.size o 40 rfl HNw.out (by omega) (by have := HBb.out.size; simp; omega) ?_; intro zs A3 c3 w7 hz hown7 hg7 hat7; have HO7 := hide hown7; have HG7 := hide hg7; clear hown7 hg7 hat7)
            go_roundg (300 - (k + 1))
            case measure => omega
            case rel => exact ⟨k + 1, 0 + n, A3, c3, zs, rfl, by go_num, by first | rw [Nat.zero_add] | go_num, rfl, HS.out.step Hb.out hk hF.out (below_grown (HBb.out.alloc HBb.out.size _) HG7.out (by have := HBb.out.size; simp; omega) (fun q hq => (HOb.out.blocks q hq).1)) hz.out HO7.out⟩
        · obtain rfl := Hnil.out rfl
          have e0 : xs = [] := List.eq_nil_of_length_eq_zero (by omega)
          subst e0
          obtain rfl : i = 0 := by simpa using hil
          go_wp2_with fail
          refine (HP0.out none 0 (IntsAt.empt _) (by simp)).mono ?_
          rintro e w2 ⟨rfl, hb2⟩
          have HO2 := hide (HS.out.own.below hb2)
          have HB2 := hide (HS.out.bel.trans (hb2.mono hbs))
          clear hb2
          have lb := Lies.new w2 #[.int .i64 o.code, .int .i64 o.arg] 40
          have hBb := HB2.out.alloc HB2.out.size (.cells #[.int .i64 o.code, .int .i64 o.arg] 40)
          have hOb := HO2.out.alloc (.cells #[.int .i64 o.code, .int .i64 o.arg] 40)
          have hgb := lb.lt
          have HBb := hide hBb
          have HOb := hide hOb
          have Hne := hide (fun (e : some w2.heap.size = blockOf Ao) => (by have := (HO2.out.blocks _ e.symm).2; omega : False))
          have HLb := hide lb
          clear hBb hOb lb
          go_upto_region 8 with fail
          generalize w2.alloc (.cells #[.int .i64 o.code, .int .i64 o.arg] 40) = wb at HBb HOb HLb hgb ⊢
          generalize w2.heap.size = gb at Hne HLb hgb ⊢
          by_cases hn0 : n = 0
          · have dn : ((n : Int) == 0) = true := by simpa using hn0
            have hE := HS.out.stop (.inr (firstO_zero HBd.out HP.out hn0))
            obtain ⟨rfl, rfl⟩ := hE
            clear hn0
            go_wp2
            go_ret2
            exact ⟨Ao, co, rfl, HOb.out, HBb.out⟩
          · have dn : ((n : Int) == 0) = false := by simpa using hn0
            have hF := hide (firstO_pos HBd.out HP.out hn0)
            have hfs := firstO_some HBd.out hF.out
            have hn3 := hfs.2.2.2.2.1
            clear hn0 hfs
            have lb := HLb.out
            have x0 := lb.cell 0
            have x1 := lb.cell 1
            simp at x0 x1
            have hal : acc.length ≤ 300 := by have := hlen.out; omega
            have HNw := hide (show Lies (wb.alloc (.cells #[.int .i64 o.code, .int .i64 o.arg] 40)) wb.heap.size #[.int .i64 o.code, .int .i64 o.arg] 40 from Lies.new wb _ _)
            clear lb
            go_wp2_with (at_builtin; refine append_op rfl (.tmp 22) (.tmp 24) rfl w.heap.size Ao co acc rfl (HOb.out.alloc _) wb.heap.size o 40 rfl HNw.out (by omega) (by have := HBb.out.size; simp; omega) ?_; intro zs A3 c3 w7 hz hown7 hg7 hat7; have HO7 := hide hown7; have HG7 := hide hg7; clear hown7 hg7 hat7)
            go_roundg (300 - (k + 1))
            case measure => omega
            case rel => exact ⟨k + 1, 0 + n, A3, c3, zs, rfl, by go_num, by first | rw [Nat.zero_add] | go_num, rfl, HS.out.step Hb.out hk hF.out (below_grown (HBb.out.alloc HBb.out.size _) HG7.out (by have := HBb.out.size; simp; omega) (fun q hq => (HOb.out.blocks q hq).1)) hz.out HO7.out⟩
      · obtain rfl : k = 300 := by omega
        have hE := HS.out.stop (.inl rfl)
        obtain ⟨rfl, rfl⟩ := hE
        clear hS hk
        go_wp2
        go_ret2
        exact ⟨Ao, co, rfl, HS.out.own, HS.out.bel⟩
  · rw [tornOps_no hok, tornSize_no hok]
    have ht := hide (tf_false hok)
    clear hok
    go_enter Tryd.func13, Tryd.ntmps13
    go_wp2_with fail
    refine (areBytes_any A xs c 1000 w h (by omega)).mono ?_
    rintro e w' ⟨rfl, rfl⟩
    rw [ht.out]
    go_wp2
    go_ret2
    exact ⟨none, 0, rfl, OwnO.empty _ _, Below.refl _ _⟩
end Go.Proofs.YtnpmacegdnnhdaaDoor

namespace Go.Proofs.YtnpmacegdnnhdaaDoor
open Go.RowKit
set_option linter.unusedVariables false
set_option maxHeartbeats 1000000 in
theorem implDecodeOps_any (A : Option Addr) (xs : List Int) (c : Nat) (w : World) (h : IntsAt w w.heap.size A xs) (hnil : A = none → c = 0) (hc : xs.length ≤ c) (hF : FormsAt w w.heap.size) :
    Calls Tryd.prog 5 #[.slice A xs.length c] w (GivesOpsV w (decAll xs) (.bool (tf (DecOk xs)))) := by
  have hlen := h.len
  have Hnil := hide hnil
  clear hnil
  by_cases hok : DecOk xs
  · rw [decAll_ok hok, tf_true hok]
    have e1 := hide (tornOps_ok hok.1)
    have e2 := hide (tornSize_ok hok.1)
    have e3 := hide hok.2
    clear hok
    have d1 : ((xs.length : Int) != (xs.length : Int)) = false := by simp
    go_enter Tryd.func5, Tryd.ntmps5
    go_wp2_with fail
    have HC := implDecodeTorn_any A xs c w h Hnil.out hc hF
    rw [e1.out, e2.out, e3.out] at HC
    refine HC.mono ?_
    clear HC
    rintro e w2 ⟨A2, c2, rfl, ho, hb⟩
    go_wp2
    go_ret2
    exact ⟨A2, c2, rfl, ho, hb⟩
  · rw [decAll_no hok, tf_false hok]
    have d0 : tornSize xs ≠ (xs.length : Int) := by
      unfold tornSize
      split
      · rename_i hb
        intro e
        exact hok ⟨hb, by omega⟩
      · omega
    have d1 : (tornSize xs != (xs.length : Int)) = true := by simpa using d0
    clear hok d0
    go_enter Tryd.func5, Tryd.ntmps5
    go_wp2_with fail
    refine (implDecodeTorn_any A xs c w h Hnil.out hc hF).mono ?_
    rintro e w2 ⟨A2, c2, rfl, ho, hb⟩
    go_wp2
    go_ret2
    exact ⟨none, 0, rfl, OwnO.empty _ _, hb⟩
end Go.Proofs.YtnpmacegdnnhdaaDoor

namespace Go.Proofs.YtnpmacegdnnhdaaDoor
open Go.RowKit
set_option linter.unusedVariables false
theorem readOp_any (A : Option Addr) (xs : List Int) (c : Nat) (w : World) (h : IntsAt w w.heap.size A xs) (hb : ∀ x ∈ xs, 0 ≤ x ∧ x ≤ 255) (hl : xs.length ≤ 1000) :
    Calls Tryd.prog 27 #[.slice A xs.length c] w (GivesOpM w (fstO xs)) := by
  match xs, h, hb, hl with
  | [], h, hb, hl =>
    rw [fstO_none (xs := []) rfl]
    exact readOp_nil A c w
  | y :: t, h, hb, hl =>
    obtain ⟨b, off, _, rfl, _⟩ := h.at_ (k := 0) (by simp)
    have hy := hb y (by simp)
    by_cases hneg : argMost y < 0
    · exact readOp_bare b off y t c w h hy hl hneg
    · match t, h, hb, hl with
      | [], h, hb, hl => exact readOp_one b off y c w h hb hl hneg
      | a :: u, h, hb, hl =>
        by_cases ha : a < 128
        · exact readOp_short b off y a u c w h hb hl hneg ha
        · match u, h, hb, hl with
          | [], h, hb, hl => exact readOp_cut b off y a c w h hb hl hneg ha
          | z :: v, h, hb, hl => exact readOp_long b off y a z v c w h hb hl hneg ha
set_option maxRecDepth 100000 in
set_option maxHeartbeats 2000000 in
theorem readOps_any (A : Option Addr) (xs : List Int) (c : Nat) (w : World) (h : IntsAt w w.heap.size A xs) (hnil : A = none → c = 0) (hc : xs.length ≤ c) (hok : BytesOk 1000 xs) :
    Calls Tryd.prog 15 #[.slice A xs.length c] w (GivesOpsV w (decs 300 xs).1 (.int .i64 ((decs 300 xs).2 : Int))) := by
  have hl := hok.1
  have Hb := hide hok.2
  clear hok
  obtain ⟨R, hR⟩ : ∃ R, R = (decs 300 xs).1 := ⟨_, rfl⟩
  obtain ⟨N, hN⟩ : ∃ N, N = (decs 300 xs).2 := ⟨_, rfl⟩
  have HR := hide hR
  have HN := hide hN
  rw [← hR, ← hN]
  clear hR hN
  have HS0 := hide (show DcS w (w.alloc (.cells #[] 40)) R N xs 0 0 (some ⟨w.heap.size, 0, none⟩) 0 [] from
    ⟨(Below.refl _ _).alloc (Nat.le_refl _) _, OwnO.bare w, by rw [HR.out]; rfl, by rw [HN.out]; simp, rfl, by omega, Nat.zero_le _⟩)
  have Hnil := hide hnil
  clear hnil
  go_enter Tryd.func15, Tryd.ntmps15
  go_wp2_with fail
  generalize w.alloc (.cells #[] 40) = w0 at HS0 ⊢
  go_loopg [4, 5, 6, 7] 300 (fun gk ov iv _ _ wr => ∃ (k i : Nat) (Ao : Option Addr) (co : Nat) (acc : List Od), gk = 300 - k ∧ iv = .int .i64 (i : Int) ∧ ov = .slice Ao acc.length co ∧ DcS w wr R N xs k i Ao co acc)
  case atStart => exact ⟨0, 0, _, 0, [], rfl, rfl, rfl, HS0.out⟩
  case round =>
    clear HS0
    obtain ⟨k, i, Ao, co, acc, rfl, rfl, rfl, hS⟩ := hrel
    have HS := hide hS
    have hil := hS.le
    have hkl := hS.few
    have hbs := hS.bel.size
    have hlen0 := hS.len
    have hlen := hide hlen0
    subst hlen0
    by_cases hk : acc.length < 300
    · have hw0 : (i : Int) ≤ (xs.length : Int) := by omega
      have hwc : (i : Int) ≤ (c : Int) := by omega
      have HD : Hid ((xs.drop i).length = xs.length - i) := hide (by simp)
      have HBd := hide (fun x (hx : x ∈ xs.drop i) => Hb.out x (List.mem_of_mem_drop hx))
      have HC : Hid (∃ A2 : Option Addr, (if c = i then A else A.map fun (a : Addr) => a.add i) = A2) := hide ⟨_, rfl⟩
      obtain ⟨o, hoD⟩ : ∃ o, o = (fstO (xs.drop i)).1 := ⟨_, rfl⟩
      obtain ⟨n, hnD⟩ : ∃ n, n = (fstO (xs.drop i)).2 := ⟨_, rfl⟩
      have HP : Hid (fstO (xs.drop i) = (o, n)) := hide (by rw [hoD, hnD])
      clear hoD hnD HC
      -- the slice from i on
      have hP0 : ∀ A2 c2, IntsAt wr wr.heap.size A2 (xs.drop i) → xs.length - i ≤ c2 → Calls Tryd.prog 27 #[.slice A2 (xs.length - i) c2] wr (GivesOpM wr (o, n)) := by
        intro A2 c2 hI hcc
        have := readOp_any A2 (xs.drop i) c2 wr hI HBd.out (by rw [HD.out]; omega)
        rw [HD.out, HP.out] at this
        exact this
      have HP0 := hide hP0
      have HI := hide h
      have hIr := hide (fun (b off : Nat) (e : A = some ⟨b, off, none⟩) => (by subst e; exact (h.behind i).later HS.out.bel (Nat.le_refl _) : IntsAt wr wr.heap.size (some ⟨b, off + i, none⟩) (xs.drop i)))
      have hsum := hide hS.own
      clear hS h hP0
      have hcase : (∃ ad, A = some ad ∧ c = i) ∨ (∃ b off, A = some ⟨b, off, none⟩ ∧ c ≠ i) ∨ (∃ ad, A = some ad ∧ c ≠ i ∧ xs = []) ∨ A = none := by
        rcases A with _ | ad
        · exact .inr (.inr (.inr rfl))
        · by_cases hci : c = i
          · exact .inl ⟨ad, rfl, hci⟩
          · by_cases hx : xs = []
            · exact .inr (.inr (.inl ⟨ad, rfl, hci, hx⟩))
            · obtain ⟨b, off, e, _⟩ := HI.out.row hx
              exact .inr (.inl ⟨b, off, e, hci⟩)
      rcases hcase with ⟨ad, rfl, rfl⟩ | ⟨b, off, rfl, hci⟩ | ⟨ad, rfl, hci, rfl⟩ | rfl
      · have HE : Hid (xs.drop c = []) := hide (List.drop_eq_nil_of_le (by omega))
        have HZ : Hid (xs.length - c = 0) := hide (by omega)
        go_wp2_with fail
        have HC := HP0.out (some ad) 0 (by rw [HE.out]; exact IntsAt.empt _) (by omega)
        rw [HZ.out] at HC
        refine HC.mono ?_
        clear HC
        rintro e w2 ⟨rfl, hb2⟩
        have HO2 := hide (HS.out.own.below hb2)
        have HB2 := hide (HS.out.bel.trans (hb2.mono hbs))
        clear hb2
        have lb := Lies.new w2 #[.int .i64 o.code, .int .i64 o.arg] 40
        have hBb := HB2.out.alloc HB2.out.size (.cells #[.int .i64 o.code, .int .i64 o.arg] 40)
        have hOb := HO2.out.alloc (.cells #[.int .i64 o.code, .int .i64 o.arg] 40)
        have hgb := lb.lt
        have HBb := hide hBb
        have HOb := hide hOb
        have Hne := hide (fun (e : some w2.heap.size = blockOf Ao) => (by have := (HO2.out.blocks _ e.symm).2; omega : False))
        have HLb := hide lb
        clear hBb hOb lb
        go_upto_region 5 with fail
        generalize w2.alloc (.cells #[.int .i64 o.code, .int .i64 o.arg] 40) = wb at HBb HOb HLb hgb ⊢
        generalize w2.heap.size = gb at Hne HLb hgb ⊢
        by_cases hn0 : n = 0
        · have dn : ((n : Int) == 0) = true := by simpa using hn0
          have hE := HS.out.stop (.inr (firstO_zero HBd.out HP.out hn0))
          obtain ⟨rfl, rfl⟩ := hE
          clear hn0
          go_wp2
          go_ret2
          exact ⟨Ao, co, rfl, HOb.out, HBb.out⟩
        · have dn : ((n : Int) == 0) = false := by simpa using hn0
          have hF := hide (firstO_pos HBd.out HP.out hn0)
          have hfs := firstO_some HBd.out hF.out
          have hn3 := hfs.2.2.2.2.1
          clear hn0 hfs
          have lb := HLb.out
          have x0 := lb.cell 0
          have x1 := lb.cell 1
          simp at x0 x1
          have hal : acc.length ≤ 300 := hkl
          have HNw := hide (show Lies (wb.alloc (.cells #[.int .i64 o.code, .int .i64 o.arg] 40)) wb.heap.size #[.int .i64 o.code, .int .i64 o.arg] 40 from Lies.new wb _ _)
          clear lb
          go_wp2_with (at_builtin; refine append_op rfl (.tmp 23) (.tmp 25) rfl w.heap.size Ao co acc rfl (HOb.out.alloc _) wb.heap.size o 40 rfl HNw.out (by omega) (by have := HBb.out.size; simp; omega) ?_; intro zs A3 c3 w7 hz hown7 hg7 hat7; have HO7 := hide hown7; have HG7 := hide hg7; clear hown7 hg7 hat7)
          go_roundg (300 - (acc.length + 1))
          case measure => omega
          case rel => exact ⟨acc.length + 1, c + n, A3, c3, zs, rfl, by go_num, rfl, HS.out.step Hb.out hk hF.out (below_grown (HBb.out.alloc HBb.out.size _) HG7.out (by have := HBb.out.size; simp; omega) (fun q hq => (HOb.out.blocks q hq).1)) hz.out HO7.out⟩
      · go_wp2_with fail
        refine (HP0.out (some ⟨b, off + i, none⟩) (c - i) (hIr.out b off rfl) (by omega)).mono ?_
        rintro e w2 ⟨rfl, hb2⟩
        have HO2 := hide (HS.out.own.below hb2)
        have HB2 := hide (HS.out.bel.trans (hb2.mono hbs))
        clear hb2
        have lb := Lies.new w2 #[.int .i64 o.code, .int .i64 o.arg] 40
        have hBb := HB2.out.alloc HB2.out.size (.cells #[.int .i64 o.code, .int .i64 o.arg] 40)
        have hOb := HO2.out.alloc (.cells #[.int .i64 o.code, .int .i64 o.arg] 40)
        have hgb := lb.lt
        have HBb := hide hBb
        have HOb := hide hOb
        have Hne := hide (fun (e : some w2.heap.size = blockOf Ao) => (by have := (HO2.out.blocks _ e.symm).2; omega : False))
        have HLb := hide lb
        clear hBb hOb lb
        go_upto_region 5 with fail
        generalize w2.alloc (.cells #[.int .i64 o.code, .int .i64 o.arg] 40) = wb at HBb HOb HLb hgb ⊢
        generalize w2.heap.size = gb at Hne HLb hgb ⊢
        by_cases hn0 : n = 0
        · have dn : ((n : Int) == 0) = true := by simpa using hn0
          have hE := HS.out.stop (.inr (firstO_zero HBd.out HP.out hn0))
          obtain ⟨rfl, rfl⟩ := hE
          clear hn0
          go_wp2
          go_ret2
          exact ⟨Ao, co, rfl, HOb.out, HBb.out⟩
        · have dn : ((n : Int) == 0) = false := by simpa using hn0
          have hF := hide (firstO_pos HBd.out HP.out hn0)
          have hfs := firstO_some HBd.out hF.out
          have hn3 := hfs.2.2.2.2.1
          clear hn0 hfs
          have lb := HLb.out
          have x0 := lb.cell 0
          have x1 := lb.cell 1
          simp at x0 x1
          have hal : acc.length ≤ 300 := hkl
          have HNw := hide (show Lies (wb.alloc (.cells #[.int .i64 o.code, .int .i64 o.arg] 40)) wb.heap.size #[.int .i64 o.code, .int .i64 o.arg] 40 from Lies.new wb _ _)
          clear lb
          go_wp2_with (at_builtin; refine append_op rfl (.tmp 23) (.tmp 25) rfl w.heap.size Ao co acc rfl (HOb.out.alloc _) wb.heap.size o 40 rfl HNw.out (by omega) (by have := HBb.out.size; simp; omega) ?_; intro zs A3 c3 w7 hz hown7 hg7 hat7; have HO7 := hide hown7; have HG7 := hide hg7; clear hown7 hg7 hat7)
          go_roundg (300 - (acc.length + 1))
          case measure => omega
          case rel => exact ⟨acc.length + 1, i + n, A3, c3, zs, rfl, by go_num, rfl, HS.out.step Hb.out hk hF.out (below_grown (HBb.out.alloc HBb.out.size _) HG7.out (by have := HBb.out.size; simp; omega) (fun q hq => (HOb.out.blocks q hq).1)) hz.out HO7.out⟩
      · obtain rfl : i = 0 := by simpa using hil
        go_wp2_with fail
        refine (HP0.out (some ad) c (IntsAt.empt _) (by simp)).mono ?_
        rintro e w2 ⟨rfl, hb2⟩
        have HO2 := hide (HS.out.own.below hb2)
        have HB2 := hide (HS.out.bel.trans (hb2.mono hbs))
        clear hb2
        have lb := Lies.new w2 #[.int .i64 o.code, .int .i64 o.arg] 40
        have hBb := HB2.out.alloc HB2.out.size (.cells #[.int .i64 o.code, .int .i64 o.arg] 40)
        have hOb := HO2.out.alloc (.cells #[.int .i64 o.code, .int .i64 o.arg] 40)
        have hgb := lb.lt
        have HBb := hide hBb
        have HOb := hide hOb
        have Hne := hide (fun (e : some w2.heap.size = blockOf Ao) => (by have := (HO2.out.blocks _ e.symm).2; omega : False))
        have HLb := hide lb
        clear hBb hOb lb
        go_upto_region 5 with fail
        generalize w2.alloc (.cells #[.int .i64 o.code, .int .i64 o.arg] 40) = wb at HBb HOb HLb hgb ⊢
        generalize w2.heap.size = gb at Hne HLb hgb ⊢
        by_cases hn0 : n = 0
        · have dn : ((n : Int) == 0) = true := by simpa using hn0
          have hE := HS.out.stop (.inr (firstO_zero HBd.out HP.out hn0))
          obtain ⟨rfl, rfl⟩ := hE
          clear hn0
          go_wp2
          go_ret2
          exact ⟨Ao, co, rfl, HOb.out, HBb.out⟩
        · have dn : ((n : Int) == 0) = false := by simpa using hn0
          have hF := hide (firstO_pos HBd.out HP.out hn0)
          have hfs := firstO_some HBd.out hF.out
          have hn3 := hfs.2.2.2.2.1
          clear hn0 hfs
          have lb := HLb.out
          have x0 := lb.cell 0
          have x1 := lb.cell 1
          simp at x0 x1
          have hal : acc.length ≤ 300 := hkl
          have HNw := hide (show Lies (wb.alloc (.cells #[.int .i64 o.code, .int .i64 o.arg] 40)) wb.heap.size #[.int .i64 o.code, .int .i64 o.arg] 40 from Lies.new wb _ _)
          clear lb
          go_wp2_with (at_builtin; refine append_op rfl (.tmp 23) (.tmp 25) rfl w.heap.size Ao co acc rfl (HOb.out.alloc _) wb.heap.size o 40 rfl HNw.out (by omega) (by have := HBb.out.size; simp; omega) ?_; intro zs A3 c3 w7 hz hown7 hg7 hat7; have HO7 := hide hown7; have HG7 := hide hg7; clear hown7 hg7 hat7)
          go_roundg (300 - (acc.length + 1))
          case measure => omega
          case rel => exact ⟨acc.length + 1, 0 + n, A3, c3, zs, rfl, by first | rw [Nat.zero_add] | go_num, rfl, HS.out.step Hb.out hk hF.out (below_grown (HBb.out.alloc HBb.out.size _) HG7.out (by have := HBb.out.size; simp; omega) (fun q hq => (HOb.out.blocks q hq).1)) hz.out HO7.out⟩
      · obtain rfl := Hnil.out rfl
        have e0 : xs = [] := List.eq_nil_of_length_eq_zero (by omega)
        subst e0
        obtain rfl : i = 0 := by simpa using hil
        go_wp2_with fail
        refine (HP0.out none 0 (IntsAt.empt _) (by simp)).mono ?_
        rintro e w2 ⟨rfl, hb2⟩
        have HO2 := hide (HS.out.own.below hb2)
        have HB2 := hide (HS.out.bel.trans (hb2.mono hbs))
        clear hb2
        have lb := Lies.new w2 #[.int .i64 o.code, .int .i64 o.arg] 40
        have hBb := HB2.out.alloc HB2.out.size (.cells #[.int .i64 o.code, .int .i64 o.arg] 40)
        have hOb := HO2.out.alloc (.cells #[.int .i64 o.code, .int .i64 o.arg] 40)
        have hgb := lb.lt
        have HBb := hide hBb
        have HOb := hide hOb
        have Hne := hide (fun (e : some w2.heap.size = blockOf Ao) => (by have := (HO2.out.blocks _ e.symm).2; omega : False))
        have HLb := hide lb
        clear hBb hOb lb
        go_upto_region 5 with fail
        generalize w2.alloc (.cells #[.int .i64 o.code, .int .i64 o.arg] 40) = wb at HBb HOb HLb hgb ⊢
        generalize w2.heap.size = gb at Hne HLb hgb ⊢
        by_cases hn0 : n = 0
        · have dn : ((n : Int) == 0) = true := by simpa using hn0
          have hE := HS.out.stop (.inr (firstO_zero HBd.out HP.out hn0))
          obtain ⟨rfl, rfl⟩ := hE
          clear hn0
          go_wp2
          go_ret2
          exact ⟨Ao, co, rfl, HOb.out, HBb.out⟩
        · have dn : ((n : Int) == 0) = false := by simpa using hn0
          have hF := hide (firstO_pos HBd.out HP.out hn0)
          have hfs := firstO_some HBd.out hF.out
          have hn3 := hfs.2.2.2.2.1
          clear hn0 hfs
          have lb := HLb.out
          have x0 := lb.cell 0
          have x1 := lb.cell 1
          simp at x0 x1
          have hal : acc.length ≤ 300 := hkl
          have HNw := hide (show Lies (wb.alloc (.cells #[.int .i64 o.code, .int .i64 o.arg] 40)) wb.heap.size #[.int .i64 o.code, .int .i64 o.arg] 40 from Lies.new wb _ _)
          clear lb
          go_wp2_with (at_builtin; refine append_op rfl (.tmp 23) (.tmp 25) rfl w.heap.size Ao co acc rfl (HOb.out.alloc _) wb.heap.size o 40 rfl HNw.out (by omega) (by have := HBb.out.size; simp; omega) ?_; intro zs A3 c3 w7 hz hown7 hg7 hat7; have HO7 := hide hown7; have HG7 := hide hg7; clear hown7 hg7 hat7)
          go_roundg (300 - (acc.length + 1))
          case measure => omega
          case rel => exact ⟨acc.length + 1, 0 + n, A3, c3, zs, rfl, by first | rw [Nat.zero_add] | go_num, rfl, HS.out.step Hb.out hk hF.out (below_grown (HBb.out.alloc HBb.out.size _) HG7.out (by have := HBb.out.size; simp; omega) (fun q hq => (HOb.out.blocks q hq).1)) hz.out HO7.out⟩
    · have hk3 : acc.length = 300 := by omega
      have hE := HS.out.stop (.inl hk3)
      clear hk3
      obtain ⟨rfl, rfl⟩ := hE
      clear hS
      go_wp2
      go_ret2
      exact ⟨Ao, co, rfl, HS.out.own, HS.out.bel⟩
end Go.Proofs.YtnpmacegdnnhdaaDoor

namespace Go.Proofs.YtnpmacegdnnhdaaDoor
open Go.RowKit
set_option linter.unusedVariables false
set_option maxHeartbeats 1000000 in
theorem specDecodeOps_any (A : Option Addr) (xs : List Int) (c : Nat) (w : World) (h : IntsAt w w.heap.size A xs) (hnil : A = none → c = 0) (hc : xs.length ≤ c) :
    Calls Tryd.prog 6 #[.slice A xs.length c] w (GivesOpsV w (decAll xs) (.bool (tf (DecOk xs)))) := by
  have Hnil := hide hnil
  clear hnil
  by_cases hok : BytesOk 1000 xs
  · have ht := hide (tf_true hok)
    have hl := hok.1
    have hle := (decs_le 300 xs hok.2).1
    by_cases hall : (decs 300 xs).2 = xs.length
    · have HK : DecOk xs := ⟨hok, hall⟩
      rw [decAll_ok HK, tf_true HK]
      have Hok := hide hok
      have d1 : decide (xs.length < xs.length) = false := by simp
      have Hall := hide hall
      clear hall hle HK hok
      go_enter Tryd.func6, Tryd.ntmps6
      go_wp2_with fail
      refine (validBytes_any A xs c w h).mono ?_
      rintro e w' ⟨rfl, rfl⟩
      rw [ht.out]
      go_wp2_with fail
      have HC := readOps_any A xs c w h Hnil.out hc Hok.out
      rw [Hall.out] at HC
      refine HC.mono ?_
      clear HC
      rintro e w2 ⟨A2, c2, rfl, ho, hb⟩
      go_wp2
      go_ret2
      exact ⟨A2, c2, rfl, ho, hb⟩
    · have HK : ¬ DecOk xs := fun h => hall h.2
      rw [decAll_no HK, tf_false HK]
      have Hok := hide hok
      have d1 : decide ((decs 300 xs).2 < xs.length) = true := by simp; omega
      clear hall hle HK hok
      go_enter Tryd.func6, Tryd.ntmps6
      go_wp2_with fail
      refine (validBytes_any A xs c w h).mono ?_
      rintro e w' ⟨rfl, rfl⟩
      rw [ht.out]
      go_wp2_with fail
      refine (readOps_any A xs c w h Hnil.out hc Hok.out).mono ?_
      rintro e w2 ⟨A2, c2, rfl, ho, hb⟩
      go_wp2
      go_ret2
      exact ⟨none, 0, rfl, OwnO.empty _ _, hb⟩
  · have HK : ¬ DecOk xs := fun h => hok h.1
    rw [decAll_no HK, tf_false HK]
    have ht := hide (tf_false hok)
    clear hok HK
    go_enter Tryd.func6, Tryd.ntmps6
    go_wp2_with fail
    refine (validBytes_any A xs c w h).mono ?_
    rintro e w' ⟨rfl, rfl⟩
    rw [ht.out]
    go_wp2
    go_ret2
    exact ⟨none, 0, rfl, OwnO.empty _ _, Below.refl _ _⟩
end Go.Proofs.YtnpmacegdnnhdaaDoor
