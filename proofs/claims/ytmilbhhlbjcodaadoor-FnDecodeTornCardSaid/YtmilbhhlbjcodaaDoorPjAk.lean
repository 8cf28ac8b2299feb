/-
  Lemmas, several texts in one: Emit, EncS, ImplO, EqS, Begs, FsO, DtI, DoI.
-/
import Derived.Test.YtmilbhhlbjcodaaDoorPjAj
import Derived.Test.YtmilbhhlbjcodaaDoorPjAf
import Derived.Test.YtmilbhhlbjcodaaDoorPjAe
import Derived.Deep.LoopGhost
import Derived.Test.YtmilbhhlbjcodaaDoorPjAc
import Derived.Deep.QuietTactic
import Derived.BigQuiet
import Derived.Test.YtmilbhhlbjcodaaDoorPjAg
import Derived.StillTailTactics
import Derived.Test.YtmilbhhlbjcodaaDoorPjAi
import Derived.Test.YtmilbhhlbjcodaaDoorPjAb
import Derived.Deep.Cut
import Derived.Test.YtmilbhhlbjcodaaDoorPjAh
namespace Go.Proofs.YtmilbhhlbjcodaaDoor
open Go.RowKit
set_option linter.unusedVariables false
theorem OpsAt.one {w : World} {b : Nat} {o : Od} {t : TypeId} (h : Lies w b #[.int .i64 o.code, .int .i64 o.arg] t) (h64 : In64 o.code ∧ In64 o.arg) : OpsAt w w.heap.size (some ⟨b, 0, none⟩) [o] := by
  have c0 := h.cell 0
  have c1 := h.cell 1
  simp only [List.getElem?_toArray, List.getElem?_cons_zero, List.getElem?_cons_succ] at c0 c1
  refine ⟨fun _ => ⟨b, 0, rfl, h.lt, fun j x hj => ?_⟩, fun x hx => ?_, by simp⟩
  · match j, hj with
    | 0, hj =>
      simp at hj
      subst hj
      exact ⟨c0, c1⟩
  · rw [List.mem_singleton.1 hx]
    exact h64
set_option maxHeartbeats 1000000 in
theorem emit_any (A : Option Addr) (os : List Od) (c : Nat) (B : Option Addr) (ps : List Od) (d : Nat) (w : World) (h : OpsAt w w.heap.size A os) (hn : A = none → c = 0) (h2 : OpsAt w w.heap.size B ps) (hn2 : B = none → d = 0) (hl : os.length + ps.length ≤ 8000000) :
    Calls Tryd.prog 45 #[.slice A os.length c, .slice B ps.length d] w (GivesOps w (os ++ ps)) := by
  have Hn := hide hn
  have Hn2 := hide hn2
  have HE := hide (OwnO.bare w)
  have HB := hide ((Below.refl w.heap.size w).alloc (Nat.le_refl _) (.cells #[] 39))
  clear hn hn2
  go_enter Tryd.func45, Tryd.ntmps45
  go_wp2_with (at_builtin; first
    | (refine append_ops rfl (.tmp 5) (.tmp 6) rfl w.heap.size _ 0 [] rfl HE.out w.heap.size A c os rfl Hn.out (h.below HB.out) (by simp; omega) HB.out.size ?_; intro zs A5 c5 w6 e5 own5 hg5 _; have HB6 := hide (below_grown HB.out hg5 HB.out.size (fun q hq => (HE.out.blocks q hq).1)); have HO6 := hide own5; have hz6 : zs.length = os.length := (by rw [e5.out, List.nil_append]); have hz7 : zs.length ≤ os.length := (by omega); clear own5 hg5 hz6)
    | (refine append_ops rfl (.tmp 7) (.tmp 8) rfl w.heap.size A5 c5 zs rfl HO6.out w.heap.size B d ps rfl Hn2.out (h2.below HB6.out) (by omega) HB6.out.size ?_; intro ys A7 c7 w8 e7 own7 hg7 _; have HB8 := hide (below_grown HB6.out hg7 HB6.out.size (fun q hq => (HO6.out.blocks q hq).1)); have HO8 := hide own7; clear own7 hg7))
  go_ret
  have e8 : ys = os ++ ps := by rw [e7.out, e5.out, List.nil_append]
  subst e8
  exact ⟨A7, c7, rfl, HO8.out, HB8.out⟩
end Go.Proofs.YtmilbhhlbjcodaaDoor

namespace Go.Proofs.YtmilbhhlbjcodaaDoor
open Go.RowKit
set_option linter.unusedVariables false
structure EnS (w wr : World) (os : List Od) (k : Nat) (Ao : Option Addr) (co : Nat) (acc : List Int) : Prop where
  bel : Below w.heap.size w wr
  own : OwnI wr w.heap.size Ao co acc
  eq : acc = encs (os.take k)
theorem EnS.few {w wr : World} {os : List Od} {k : Nat} {Ao : Option Addr} {co : Nat} {acc : List Int} (h : EnS w wr os k Ao co acc) : acc.length ≤ 3 * k := by
  rw [h.eq]
  have := (encs_len (os.take k)).2
  simp only [List.length_take] at this
  omega
set_option maxRecDepth 100000 in
set_option maxHeartbeats 1000000 in
theorem specEncodeOps_any (A : Option Addr) (os : List Od) (c : Nat) (w : World) (h : OpsAt w w.heap.size A os) :
    Calls Tryd.prog 23 #[.slice A os.length c] w (GivesInts w (encodeOf os)) := by
  have hl := h.len
  by_cases hok : OpsOk os
  · rw [encodeOf_ok hok]
    have Hok := hide hok
    have ht := hide (tf_true hok)
    have hl3 := hok.1
    clear hok
    go_enter Tryd.func23, Tryd.ntmps23
    go_wp2_with fail
    refine (specValidOps_any A os c w h).mono ?_
    rintro e w1 ⟨rfl, hb1⟩
    rw [ht.out]
    have HS0 := hide (show EnS w (w1.alloc (.cells #[] 3)) os 0 (some ⟨w1.heap.size, 0, none⟩) 0 [] from
      ⟨hb1.alloc hb1.size _, (OwnI.bare w1).mono hb1.size, rfl⟩)
    go_wp2_with fail
    generalize w1.alloc (.cells #[] 3) = w0 at HS0 ⊢
    go_loopg [3, 4] os.length (fun gk ov iv wr => ∃ (k : Nat) (Ao : Option Addr) (co : Nat) (acc : List Int), k ≤ os.length ∧ gk = os.length - k ∧ iv = .int .i64 (k : Int) ∧ ov = .slice Ao acc.length co ∧ EnS w wr os k Ao co acc)
    case atStart => exact ⟨0, _, 0, [], Nat.zero_le _, rfl, rfl, rfl, HS0.out⟩
    case round =>
      clear HS0
      obtain ⟨k, Ao, co, acc, hk, rfl, rfl, rfl, hS⟩ := hrel
      have HS := hide hS
      have hfew := hS.few
      have hbs := hS.bel.size
      by_cases hlt : k < os.length
      · obtain ⟨b, off, o, rfl, hbl, hx, hmem, hc0, hc1⟩ := (h.below hS.bel).at_ hlt
        have Hx := hide hx
        have Hin := hide (Hok.out.2 o hmem)
        have hlen := encO_len o
        clear hS hx hmem
        go_wp2_with fail
        refine (bytesOf_any o _ Hin.out).mono ?_
        rintro e w2 ⟨A2, c2, rfl, hn2, hI2, hb2⟩
        have HN2 := hide hn2
        have HI2 := hide hI2
        have HB2 := hide hb2
        have HO2 := hide (HS.out.own.below hb2)
        have HW2 := hide (HS.out.bel.trans (hb2.mono hbs))
        have hs2 := HW2.out.size
        clear hn2 hI2 hb2
        go_wp2_with (at_builtin; refine append_ints rfl (.tmp 15) (.tmp 20) rfl w.heap.size Ao co acc rfl HO2.out w2.heap.size A2 c2 (encO o) rfl HN2.out HI2.out (by omega) hs2 ?_; intro zs A3 c3 w3 e3 own3 hg3 _; have HG3 := hide hg3; have HO3 := hide own3; clear hg3 own3)
        go_roundg (os.length - (k + 1))
        case measure => omega
        case rel => exact ⟨k + 1, A3, c3, zs, by omega, rfl, by go_num, rfl, below_grown HW2.out HG3.out hs2 (fun q hq => (HO2.out.blocks q hq).1), HO3.out, by rw [e3.out, HS.out.eq, encs_next Hx.out]⟩
      · obtain rfl : k = os.length := by omega
        have hE : acc = encs os := by have := hS.eq; rw [List.take_length] at this; exact this
        subst hE
        clear hS hlt
        go_wp2
        go_ret
        exact ⟨Ao, co, rfl, HS.out.own, HS.out.bel⟩
  · rw [encodeOf_no hok]
    have ht := hide (tf_false hok)
    clear hok
    go_enter Tryd.func23, Tryd.ntmps23
    go_wp2_with fail
    refine (specValidOps_any A os c w h).mono ?_
    rintro e w1 ⟨rfl, hb1⟩
    rw [ht.out]
    go_wp2
    go_ret
    exact ⟨none, 0, rfl, OwnI.empty _ _, hb1⟩
end Go.Proofs.YtmilbhhlbjcodaaDoor

namespace Go.Proofs.YtmilbhhlbjcodaaDoor
open Go.RowKit
set_option linter.unusedVariables false
set_option maxRecDepth 100000 in
set_option maxHeartbeats 1000000 in
theorem implValidOps_any (A : Option Addr) (os : List Od) (c : Nat) (w : World) (h : OpsAt w w.heap.size A os) (hF : FormsAt w w.heap.size) :
    Calls Tryd.prog 18 #[.slice A os.length c] w fun e w' => e = .returned (.bool (tf (OpsOk os))) ∧ Below w.heap.size w w' := by
  have hl := h.len
  by_cases h3 : os.length ≤ 300
  · have t3 : decide ((300 : Int) < (os.length : Int)) = false := by simp; omega
    go_enter Tryd.func18, Tryd.ntmps18
    go_wp2_with fail
    go_loopw [10] (fun i wr => ∃ k : Nat, k ≤ os.length ∧ i = .int .i64 k ∧ Below w.heap.size w wr ∧ ∀ j x, j < k → os[j]? = some x → OdOk x) (fun i _ => os.length - (intOf i).toNat)
    case atStart => exact ⟨0, Nat.zero_le _, rfl, Below.refl _ _, fun j _ hj => absurd hj (by omega)⟩
    case round =>
      obtain ⟨k, hk, rfl, hb, he0⟩ := hrel
      have he := hide he0
      clear he0
      by_cases hlt : k < os.length
      · obtain ⟨b, off, x, rfl, hbl, hx, hmem, hc0, hc1⟩ := (h.below hb).at_ hlt
        have Hx := hide hx
        clear hx
        have hFr := hF.below hb
        have hb2 : Below w.heap.size w (wr.alloc (.cells #[.int .i64 x.code, .int .i64 x.arg] 39)) := hb.alloc hb.size _
        have lx := Lies.new wr #[.int .i64 x.code, .int .i64 x.arg] 39
        have hF2 := hF.below hb2
        clear hFr
        go_wp2_with fail
        generalize wr.alloc (.cells #[.int .i64 x.code, .int .i64 x.arg] 39) = w2 at hb2 lx hF2 ⊢
        have x0 := lx.cell 0
        have x1 := lx.cell 1
        simp at x0 x1
        by_cases hc : 0 ≤ x.code ∧ x.code ≤ 19
        · have u1 := upB_yes hc
          obtain ⟨m, hm⟩ := Int.eq_ofNat_of_zero_le hc.1
          have hm19 : m < 20 := by omega
          have harg := hF2.arg m hm19
          have hi1 : (0 : Int) ≤ x.code := hc.1
          have hi2 : x.code < 20 := by omega
          have hmn : x.code.toNat = m := by omega
          rw [← hm, ← hmn] at harg
          by_cases ha : 0 ≤ x.arg ∧ x.arg ≤ argTop x.code
          · have u2 := upB_yes ha
            have He : Hid (∀ j y, j < k + 1 → os[j]? = some y → OdOk y) := by
              intro j y hj hy
              by_cases e : j = k
              · subst e
                obtain rfl := Option.some.inj (Hx.out.symm.trans hy)
                exact (OdOk.iff _).2 ⟨hc, ha⟩
              · exact he.out j y (by omega) hy
            generalize argTop x.code = T at harg u2
            clear he hmem hm hmn ha hc hF2 lx
            go_quiet ((go_at_call 26; exact Calls.quiet_of_same (isUpTo_q _ _ _)))
            go_wp2
            go_roundw
            case rel => exact ⟨k + 1, by omega, by go_num, below_drewN hb2 _, He.out⟩
            case measure => simp [intOf]; omega
          · have u2 := upB_no ha
            have HF := hide (show tf (OpsOk os) = false from tf_false fun hall => ha ((OdOk.iff _).1 (hall.2 x hmem)).2)
            generalize argTop x.code = T at harg u2
            clear he hmem hm hmn ha hc hF2 lx
            go_quiet ((go_at_call 26; exact Calls.quiet_of_same (isUpTo_q _ _ _)))
            go_wp2
            go_ret
            exact ⟨ret_bool HF.out.symm, below_drewN hb2 _⟩
        · have u1 := upB_no hc
          have HF := hide (show tf (OpsOk os) = false from tf_false fun hall => hc (hall.2 x hmem).1)
          clear he hmem hc hF2 lx
          go_quiet ((go_at_call 26; exact Calls.quiet_of_same (isUpTo_q _ _ _)))
          go_wp2
          go_ret
          exact ⟨ret_bool HF.out.symm, below_drewN hb2 _⟩
      · obtain rfl : k = os.length := by omega
        have HF := hide (show tf (OpsOk os) = true from tf_true ⟨h3, fun x hx => by
          obtain ⟨j, hj, rfl⟩ := List.getElem_of_mem hx
          exact he.out j _ hj (List.getElem?_eq_getElem hj)⟩)
        clear hlt
        go_wp2
        go_ret
        exact ⟨ret_bool HF.out.symm, hb⟩
  · have t3 : decide ((300 : Int) < (os.length : Int)) = true := by simp; omega
    have HF := hide (show tf (OpsOk os) = false from tf_false fun hh => h3 hh.1)
    clear h3
    go_enter Tryd.func18, Tryd.ntmps18
    go_wp2
    go_ret
    exact ⟨ret_bool HF.out.symm, Below.refl _ _⟩
end Go.Proofs.YtmilbhhlbjcodaaDoor

namespace Go.Proofs.YtmilbhhlbjcodaaDoor
open Go.RowKit
set_option maxHeartbeats 1000000 in
theorem equalOps_same (A A' : Option Addr) (os : List Od) (c c' : Nat) (w : World) (h : OpsAt w w.heap.size A os) (h' : OpsAt w w.heap.size A' os) :
    Calls Tryd.prog 7 #[.slice A os.length c, .slice A' os.length c'] w fun e w' => e = .returned (.bool true) ∧ Below w.heap.size w w' := by
  have hl := h.len
  have hb0 : ((os.length : Int) != (os.length : Int)) = false := by simp
  go_enter Tryd.func7, Tryd.ntmps7
  go_wp2_with fail
  go_loopw [5] (fun i wr => ∃ k : Nat, k ≤ os.length ∧ i = .int .i64 k ∧ Below w.heap.size w wr) (fun i _ => os.length - (intOf i).toNat)
  case atStart => exact ⟨0, Nat.zero_le _, rfl, Below.refl _ _⟩
  case round =>
    obtain ⟨k, hk, rfl, hb⟩ := hrel
    by_cases hlt : k < os.length
    · obtain ⟨b, off, x, rfl, hbl, hx, _, hx0, hx1⟩ := (h.below hb).at_ hlt
      obtain ⟨b', off', y, rfl, hbl', hy, _, hy0, hy1⟩ := (h'.below hb).at_ hlt
      obtain rfl : x = y := by rw [hx] at hy; injection hy
      clear hx hy
      have hk1 : (0 : Int) ≤ (k : Int) := by omega
      have hk2 : (k : Int) < (os.length : Int) := by omega
      have t1 : (x.code == x.code) = true := by simp
      have t2 : (x.arg == x.arg) = true := by simp
      go_wp2_with fail
      go_quiet (fail)
      go_wp2
      go_roundw
      case rel => exact ⟨k + 1, by omega, by go_num, below_drewN hb _⟩
      case measure => simp [intOf]; omega
    · obtain rfl : k = os.length := by omega
      go_wp2
      go_ret
      exact ⟨rfl, hb⟩
end Go.Proofs.YtmilbhhlbjcodaaDoor

namespace Go.Proofs.YtmilbhhlbjcodaaDoor
open Go.RowKit
set_option linter.unusedVariables false
set_option maxHeartbeats 1000000 in
theorem begins_pre (A A' : Option Addr) (os l ps : List Od) (c c' : Nat) (w : World) (hcat : os = ps ++ l) (h : OpsAt w w.heap.size A os) (h' : OpsAt w w.heap.size A' ps) (hnil : A = none → c = 0) (hc : os.length ≤ c) :
    Calls Tryd.prog 8 #[.slice A os.length c, .slice A' ps.length c'] w fun e w' => e = .returned (.bool true) ∧ Below w.heap.size w w' := by
  have hple : ps.length ≤ os.length := by rw [hcat, List.length_append]; omega
  have htk : OpsAt w w.heap.size A ps := by
    refine ⟨fun hx => ?_, h'.wf, h'.len⟩
    obtain ⟨b, off, h1, h2, h3⟩ := h.row (fun e => hx (by rw [e] at hcat; exact (List.append_eq_nil_iff.1 hcat.symm).1))
    refine ⟨b, off, h1, h2, fun j o hj => h3 j o ?_⟩
    rw [hcat, List.getElem?_append_left (List.getElem?_eq_some_iff.1 hj).1]
    exact hj
  have hE := hide (equalOps_same A A' ps c c' w htk h')
  cases A with
  | none =>
    have hc0 : c = 0 := hnil rfl
    have ho0 : os = [] := by
      cases hos : os with
      | nil => rfl
      | cons o t => obtain ⟨b, off, h1, _⟩ := h.row (by rw [hos]; simp); cases h1
    have hp0 : ps = [] := by
      cases hps : ps with
      | nil => rfl
      | cons o t => rw [hps, ho0] at hple; simp at hple
    clear hcat h h' htk hple hnil
    subst hc0 ho0 hp0
    clear hc
    go_enter Tryd.func8, Tryd.ntmps8
    go_wp2_with fail
    refine hE.out.mono ?_
    rintro e w1 ⟨rfl, hb1⟩
    clear hE
    have HB := hide hb1
    clear hb1
    go_wp2
    go_ret
    exact ⟨by simp, HB.out⟩
  | some ad =>
    have hk0 : (0 : Int) ≤ (ps.length : Int) := by omega
    have hk1 : (ps.length : Int) ≤ (c : Int) := by omega
    have hk2 : (ps.length : Int) ≤ (os.length : Int) := by omega
    have d : decide ((ps.length : Int) ≤ (os.length : Int)) = true := by simp; omega
    clear hcat h h' htk hnil
    go_enter Tryd.func8, Tryd.ntmps8
    go_wp2_with fail
    refine hE.out.mono ?_
    rintro e w1 ⟨rfl, hb1⟩
    clear hE
    have HB := hide hb1
    clear hb1
    go_wp2
    go_ret
    exact ⟨by simp, HB.out⟩
end Go.Proofs.YtmilbhhlbjcodaaDoor

namespace Go.Proofs.YtmilbhhlbjcodaaDoor
open Go.RowKit
set_option linter.unusedVariables false
def GivesOp (w : World) (p : Od × Nat) (e : Ending) (w' : World) : Prop := e = .returned (.tuple #[.agg #[.int .i64 p.1.code, .int .i64 p.1.arg], .int .i64 (p.2 : Int)]) ∧ Below w.heap.size w w'
theorem lies2 {w : World} {g : Nat} {a b : Value} {t : TypeId} (h : Lies w g #[a, b] t) (v0 v1 : Value) :
    ((w.setCell ⟨g, 0, none⟩ v0).setCell ⟨g, 1, none⟩ v1).cell? ⟨g, 0, none⟩ = some v0 ∧ ((w.setCell ⟨g, 0, none⟩ v0).setCell ⟨g, 1, none⟩ v1).cell? ⟨g, 1, none⟩ = some v1 := by
  have h2 := (h.set 0 v0).set 1 v1
  have c0 := h2.cell 0
  have c1 := h2.cell 1
  simp at c0 c1
  exact ⟨c0, c1⟩
set_option maxRecDepth 100000 in
set_option maxHeartbeats 2000000 in
theorem firstOp_any (A : Option Addr) (xs : List Int) (c : Nat) (w : World) (h : IntsAt w w.heap.size A xs) (hb : ∀ x ∈ xs, 0 ≤ x ∧ x ≤ 255) (hc : xs.length ≤ c) (hl : xs.length ≤ 1000) (hF : FormsAt w w.heap.size) :
    Calls Tryd.prog 15 #[.slice A xs.length c] w (GivesOp w (fstO xs)) := by
  have hB := (Below.refl w.heap.size w).alloc (Nat.le_refl _) (.cells #[.int .i64 0, .int .i64 0] 39)
  have l0 := Lies.new w #[.int .i64 0, .int .i64 0] 39
  have HB := hide hB
  have hFW := hF.later hB (Nat.le_refl _)
  match xs, h, hb, hc, hl with
  | [], h, hb, hc, hl =>
    have HF := hide (show fstO [] = (⟨0, 0⟩, 0) from fstO_none rfl)
    rw [HF.out]
    clear h hb hc hl hF hFW hB
    go_enter Tryd.func15, Tryd.ntmps15
    go_upto_region 1 with fail
    generalize w.alloc (.cells #[.int .i64 0, .int .i64 0] 39) = W at HB l0 ⊢
    have f0 := l0.frozen 0
    have f1 := l0.frozen 1
    have x0 := l0.cell 0
    have x1 := l0.cell 1
    simp at x0 x1
    obtain ⟨s0, s1⟩ := lies2 l0 (.int .i64 0) (.int .i64 0)
    have HE := hide ((HB.out.setCell (p := ⟨w.heap.size, 0, none⟩) (Nat.le_refl _) (.int .i64 0)).setCell (p := ⟨w.heap.size, 1, none⟩) (Nat.le_refl _) (.int .i64 0))
    clear l0
    go_wp2
    exact bodyPost_ret (v := .tuple #[.agg #[.int .i64 0, .int .i64 0], .int .i64 0]) (by simp [results, Tryd.results15, go_sem, s0, s1]) rfl ⟨rfl, HE.out⟩
  | y :: t, h, hb, hc, hl =>
    have hy := hb y (by simp)
    have ht : ∀ x ∈ t, 0 ≤ x ∧ x ≤ 255 := fun x hx => hb x (by simp [hx])
    obtain ⟨b0, off, y0, rfl, hbl, hy0, _, hcell⟩ := h.at_ (k := 0) (by simp)
    obtain rfl : y = y0 := by simpa using hy0
    rw [Nat.add_zero] at hcell
    have hcW := (hB.cell (p := ⟨b0, off, none⟩) hbl).trans hcell
    have hlt : t.length + 1 ≤ 1000 := by simpa using hl
    have hct : t.length + 1 ≤ c := by simpa using hc
    have hIt := (h.behind 1).later hB (Nat.le_refl _)
    rw [List.drop_one, List.tail_cons] at hIt
    have HIt := hide hIt
    have Ht := hide ht
    rw [List.length_cons]
    have hz1 : (((t.length + 1 : Nat) : Int) == 0) = false := by simp only [beq_eq_false_iff_ne, ne_eq]; omega
    have hz2 : (0 : Int) < ((t.length + 1 : Nat) : Int) := by omega
    clear h hb hc hl hF hB ht hIt hcell hy0
    by_cases h19 : 19 < y
    · have HF := hide (show fstO (y :: t) = (⟨0, 0⟩, 0) from fstO_none (by simp only [firstO]; rw [if_pos h19]))
      have d1 : decide (19 < y) = true := by simpa using h19
      rw [HF.out]
      clear hFW
      go_enter Tryd.func15, Tryd.ntmps15
      go_upto_region 1 with fail
      generalize w.alloc (.cells #[.int .i64 0, .int .i64 0] 39) = W at HB l0 HIt hcW ⊢
      have f0 := l0.frozen 0
      have f1 := l0.frozen 1
      have x0 := l0.cell 0
      have x1 := l0.cell 1
      simp at x0 x1
      obtain ⟨s0, s1⟩ := lies2 l0 (.int .i64 0) (.int .i64 0)
      have HE := hide ((HB.out.setCell (p := ⟨w.heap.size, 0, none⟩) (Nat.le_refl _) (.int .i64 0)).setCell (p := ⟨w.heap.size, 1, none⟩) (Nat.le_refl _) (.int .i64 0))
      clear l0
      go_wp2
      exact bodyPost_ret (v := .tuple #[.agg #[.int .i64 0, .int .i64 0], .int .i64 0]) (by simp [results, Tryd.results15, go_sem, s0, s1]) rfl ⟨rfl, HE.out⟩
    · have d1 : decide (19 < y) = false := by simpa using h19
      by_cases hneg : argMost y < 0
      · have HF := hide (show fstO (y :: t) = (⟨y, 0⟩, 1) from fstO_some (by simp only [firstO]; rw [if_neg h19, if_pos hneg]))
        have HN := hide hneg
        rw [HF.out]
        clear hneg
        go_enter Tryd.func15, Tryd.ntmps15
        go_upto_region 1 with fail
        generalize w.alloc (.cells #[.int .i64 0, .int .i64 0] 39) = W at HB l0 HIt hcW hFW ⊢
        have f0 := l0.frozen 0
        have f1 := l0.frozen 1
        have x0 := l0.cell 0
        have x1 := l0.cell 1
        simp at x0 x1
        obtain ⟨s0, s1⟩ := lies2 l0 (.int .i64 y) (.int .i64 0)
        have HE := hide ((HB.out.setCell (p := ⟨w.heap.size, 0, none⟩) (Nat.le_refl _) (.int .i64 y)).setCell (p := ⟨w.heap.size, 1, none⟩) (Nat.le_refl _) (.int .i64 0))
        clear l0
        go_wp2_with fail
        refine (hasArg_no y W hFW hy.1 (by omega) HN.out).mono ?_
        rintro e w' ⟨rfl, rfl⟩
        go_wp2
        exact bodyPost_ret (v := .tuple #[.agg #[.int .i64 y, .int .i64 0], .int .i64 1]) (by simp [results, Tryd.results15, go_sem, s0, s1]) rfl ⟨rfl, HE.out⟩
      · have HN := hide hneg
        have hm := argMost_range y
        have htop : argTop y = argMost y := by unfold argTop; rw [if_neg hneg]
        have Htop := hide htop
        clear hneg htop
        have hbd := firstA_bounds Ht.out
        obtain ⟨m, hmy⟩ := Int.eq_ofNat_of_zero_le hy.1
        have Hmy := hide hmy
        have hm20 : m < 20 := by omega
        clear hmy
        by_cases hc1 : c = 1
        · have e0 : t = [] := List.eq_nil_of_length_eq_zero (by omega)
          subst e0
          subst hc1
          have HF := hide (show fstO [y] = (⟨0, 0⟩, 0) from fstO_none (by simp only [firstO]; rw [if_neg h19, if_neg HN.out]; simp [firstA]))
          rw [HF.out]
          clear hbd hz1 hz2
          simp only [List.length_nil, Nat.zero_add] at hlt hct ⊢
          go_enter Tryd.func15, Tryd.ntmps15
          go_upto_region 1 with fail
          have hlW := l0.lt
          generalize w.alloc (.cells #[.int .i64 0, .int .i64 0] 39) = W at HB l0 HIt hcW hFW hlW ⊢
          have f0 := l0.frozen 0
          go_wp2_with fail
          refine (hasArg_yes y W hFW hy.1 (by omega) (by have := HN.out; omega)).mono ?_
          rintro e w' ⟨rfl, rfl⟩
          go_wp2_with fail
          refine (firstArg_any _ [] _ W (IntsAt.empt _) (by simp) (by simp)).mono ?_
          rw [show firstA [] = (0, 0) from rfl]
          rintro e w2 ⟨rfl, hb2⟩
          have l2 := l0.below hb2 l0.lt
          have HB2 := hide (HB.out.trans (hb2.mono HB.out.size))
          have hF2 := hFW.later hb2 (Nat.le_refl _)
          clear hb2 l0 f0 hFW HIt hcW
          have x0 := l2.cell 0
          have x1 := l2.cell 1
          have f0 := l2.frozen 0
          have f1 := l2.frozen 1
          simp at x0 x1
          obtain ⟨s0, s1⟩ := lies2 l2 (.int .i64 0) (.int .i64 0)
          have HE := hide ((HB2.out.setCell (p := ⟨w.heap.size, 0, none⟩) (Nat.le_refl _) (.int .i64 0)).setCell (p := ⟨w.heap.size, 1, none⟩) (Nat.le_refl _) (.int .i64 0))
          clear l2
          go_wp2
          exact bodyPost_ret (v := .tuple #[.agg #[.int .i64 0, .int .i64 0], .int .i64 0]) (by simp [results, Tryd.results15, go_sem, s0, s1]) rfl ⟨rfl, HE.out⟩
        · have hc2 : ¬ c = 1 := hc1
          obtain ⟨a, ha⟩ : ∃ a, a = (firstA t).1 := ⟨_, rfl⟩
          obtain ⟨n, hn⟩ : ∃ n, n = (firstA t).2 := ⟨_, rfl⟩
          rw [← ha, ← hn] at hbd
          have Ha := hide ha
          have Hn := hide hn
          clear ha hn hc1
          by_cases hn0 : n = 0
          · have HF := hide (show fstO (y :: t) = (⟨0, 0⟩, 0) from fstO_none (by simp only [firstO]; rw [if_neg h19, if_neg HN.out, if_pos (.inl (by rw [← Hn.out]; exact hn0))]))
            rw [HF.out]
            subst hn0
            go_enter Tryd.func15, Tryd.ntmps15
            go_upto_region 1 with fail
            have hlW := l0.lt
            generalize w.alloc (.cells #[.int .i64 0, .int .i64 0] 39) = W at HB l0 HIt hcW hFW hlW ⊢
            have f0 := l0.frozen 0
            go_wp2_with fail
            refine (hasArg_yes y W hFW hy.1 (by omega) (by have := HN.out; omega)).mono ?_
            rintro e w' ⟨rfl, rfl⟩
            go_wp2_with fail
            have HC := firstArg_any _ t (c - 1) W HIt.out Ht.out (by omega)
            rw [← Ha.out, ← Hn.out] at HC
            refine HC.mono ?_
            clear HC
            rintro e w2 ⟨rfl, hb2⟩
            have l2 := l0.below hb2 l0.lt
            have HB2 := hide (HB.out.trans (hb2.mono HB.out.size))
            have hF2 := hFW.later hb2 (Nat.le_refl _)
            clear hb2 l0 f0 hFW HIt hcW
            have x0 := l2.cell 0
            have x1 := l2.cell 1
            have f0 := l2.frozen 0
            have f1 := l2.frozen 1
            simp at x0 x1
            obtain ⟨s0, s1⟩ := lies2 l2 (.int .i64 0) (.int .i64 0)
            have HE := hide ((HB2.out.setCell (p := ⟨w.heap.size, 0, none⟩) (Nat.le_refl _) (.int .i64 0)).setCell (p := ⟨w.heap.size, 1, none⟩) (Nat.le_refl _) (.int .i64 0))
            clear l2
            go_wp2
            exact bodyPost_ret (v := .tuple #[.agg #[.int .i64 0, .int .i64 0], .int .i64 0]) (by simp [results, Tryd.results15, go_sem, s0, s1]) rfl ⟨rfl, HE.out⟩
          · have dn : ((n : Int) == 0) = false := by simp only [beq_eq_false_iff_ne, ne_eq]; omega
            by_cases hbig : argMost y < a
            · have HF := hide (show fstO (y :: t) = (⟨0, 0⟩, 0) from fstO_none (by simp only [firstO]; rw [if_neg h19, if_neg HN.out, if_pos (.inr (by rw [← Ha.out]; exact hbig))]))
              rw [HF.out]
              go_enter Tryd.func15, Tryd.ntmps15
              go_upto_region 1 with fail
              have hlW := l0.lt
              generalize w.alloc (.cells #[.int .i64 0, .int .i64 0] 39) = W at HB l0 HIt hcW hFW hlW ⊢
              have f0 := l0.frozen 0
              go_wp2_with fail
              refine (hasArg_yes y W hFW hy.1 (by omega) (by have := HN.out; omega)).mono ?_
              rintro e w' ⟨rfl, rfl⟩
              go_wp2_with fail
              have HC := firstArg_any _ t (c - 1) W HIt.out Ht.out (by omega)
              rw [← Ha.out, ← Hn.out] at HC
              refine HC.mono ?_
              clear HC
              rintro e w2 ⟨rfl, hb2⟩
              have l2 := l0.below hb2 l0.lt
              have HB2 := hide (HB.out.trans (hb2.mono HB.out.size))
              have hF2 := hFW.later hb2 (Nat.le_refl _)
              clear hb2 l0 f0 hFW HIt hcW
              have harg := hF2.arg m hm20
              rw [← Hmy.out, Htop.out] at harg
              have hmt : y.toNat = m := by have := Hmy.out; omega
              have db : decide (argMost y < a) = true := by simpa using hbig
              generalize argMost y = T at harg db hm hbig
              have x0 := l2.cell 0
              have x1 := l2.cell 1
              have f0 := l2.frozen 0
              have f1 := l2.frozen 1
              simp at x0 x1
              obtain ⟨s0, s1⟩ := lies2 l2 (.int .i64 0) (.int .i64 0)
              have HE := hide ((HB2.out.setCell (p := ⟨w.heap.size, 0, none⟩) (Nat.le_refl _) (.int .i64 0)).setCell (p := ⟨w.heap.size, 1, none⟩) (Nat.le_refl _) (.int .i64 0))
              clear l2
              go_wp2
              exact bodyPost_ret (v := .tuple #[.agg #[.int .i64 0, .int .i64 0], .int .i64 0]) (by simp [results, Tryd.results15, go_sem, s0, s1]) rfl ⟨rfl, HE.out⟩
            · have HF := hide (show fstO (y :: t) = (⟨y, a⟩, 1 + n) from fstO_some (by simp only [firstO]; rw [if_neg h19, if_neg HN.out, if_neg (by rw [← Ha.out, ← Hn.out]; omega), ← Ha.out, ← Hn.out]))
              rw [HF.out]
              go_enter Tryd.func15, Tryd.ntmps15
              go_upto_region 1 with fail
              have hlW := l0.lt
              generalize w.alloc (.cells #[.int .i64 0, .int .i64 0] 39) = W at HB l0 HIt hcW hFW hlW ⊢
              have f0 := l0.frozen 0
              go_wp2_with fail
              refine (hasArg_yes y W hFW hy.1 (by omega) (by have := HN.out; omega)).mono ?_
              rintro e w' ⟨rfl, rfl⟩
              go_wp2_with fail
              have HC := firstArg_any _ t (c - 1) W HIt.out Ht.out (by omega)
              rw [← Ha.out, ← Hn.out] at HC
              refine HC.mono ?_
              clear HC
              rintro e w2 ⟨rfl, hb2⟩
              have l2 := l0.below hb2 l0.lt
              have HB2 := hide (HB.out.trans (hb2.mono HB.out.size))
              have hF2 := hFW.later hb2 (Nat.le_refl _)
              clear hb2 l0 f0 hFW HIt hcW
              have harg := hF2.arg m hm20
              rw [← Hmy.out, Htop.out] at harg
              have hmt : y.toNat = m := by have := Hmy.out; omega
              have db : decide (argMost y < a) = false := by simpa using hbig
              generalize argMost y = T at harg db hm hbig
              have x0 := l2.cell 0
              have x1 := l2.cell 1
              have f0 := l2.frozen 0
              have f1 := l2.frozen 1
              simp at x0 x1
              obtain ⟨s0, s1⟩ := lies2 l2 (.int .i64 y) (.int .i64 a)
              have HE := hide ((HB2.out.setCell (p := ⟨w.heap.size, 0, none⟩) (Nat.le_refl _) (.int .i64 y)).setCell (p := ⟨w.heap.size, 1, none⟩) (Nat.le_refl _) (.int .i64 a))
              clear l2
              go_wp2
              exact bodyPost_ret (v := .tuple #[.agg #[.int .i64 y, .int .i64 a], .int .i64 (1 + (n : Int))]) (by simp [results, Tryd.results15, go_sem, s0, s1]) rfl ⟨by rw [Int.natCast_add]; rfl, HE.out⟩
end Go.Proofs.YtmilbhhlbjcodaaDoor

namespace Go.Proofs.YtmilbhhlbjcodaaDoor
open Go.RowKit
set_option linter.unusedVariables false
set_option maxRecDepth 100000 in
set_option maxHeartbeats 2000000 in
theorem implDecodeTorn_any (A : Option Addr) (xs : List Int) (c : Nat) (w : World) (h : IntsAt w w.heap.size A xs) (hnil : A = none → c = 0) (hc : xs.length ≤ c) (hF : FormsAt w w.heap.size) :
    Calls Tryd.prog 5 #[.slice A xs.length c] w (GivesOpsV w (tornOps xs) (.int .i64 (tornSize xs))) := by
  by_cases hok : BytesOk 1000 xs
  · rw [tornOps_ok hok, tornSize_ok hok]
    have ht := hide (tf_true hok)
    have hl := hok.1
    have Hb := hide hok.2
    clear hok
    obtain ⟨R, hR⟩ : ∃ R, R = (decs 300 xs).1 := ⟨_, rfl⟩
    obtain ⟨N, hN⟩ : ∃ N, N = (decs 300 xs).2 := ⟨_, rfl⟩
    have HR := hide hR
    have HN := hide hN
    rw [← hR, ← hN]
    clear hR hN
    have HS0 := hide (show DcS w w R N xs 0 0 none 0 [] from
      ⟨Below.refl _ _, OwnO.empty _ _, by rw [HR.out]; rfl, by rw [HN.out]; simp, rfl, by omega, Nat.zero_le _⟩)
    have Hnil := hide hnil
    clear hnil
    go_enter Tryd.func5, Tryd.ntmps5
    go_wp2_with fail
    refine (areBytes_any A xs c 1000 w h (by omega)).mono ?_
    rintro e w' ⟨rfl, rfl⟩
    rw [ht.out]
    go_wp2_with fail
    go_loopg [4, 5, 6, 7, 11] 300 (fun gk ov iv _ _ kv wr => ∃ (k i : Nat) (Ao : Option Addr) (co : Nat) (acc : List Od), gk = 300 - k ∧ kv = .int .i64 (k : Int) ∧ iv = .int .i64 (i : Int) ∧ ov = .slice Ao acc.length co ∧ DcS w wr R N xs k i Ao co acc)
    case atStart => exact ⟨0, 0, none, 0, [], rfl, rfl, rfl, rfl, HS0.out⟩
    case round =>
      clear HS0
      obtain ⟨k, i, Ao, co, acc, rfl, rfl, rfl, rfl, hS⟩ := hrel
      have HS := hide hS
      have hil := hS.le
      have hkl := hS.few
      have hbs := hS.bel.size
      have hlen := hide hS.len
      have hFr := hF.later hS.bel (Nat.le_refl _)
      by_cases hk : k < 300
      · have hw0 : (i : Int) ≤ (xs.length : Int) := by omega
        have hwc : (i : Int) ≤ (c : Int) := by omega
        have HD : Hid ((xs.drop i).length = xs.length - i) := hide (by simp)
        have HBd := hide (fun x (hx : x ∈ xs.drop i) => Hb.out x (List.mem_of_mem_drop hx))
        have HC : Hid (∃ A2 : Option Addr, (if c = i then A else A.map fun (a : Addr) => a.add i) = A2) := hide ⟨_, rfl⟩
        obtain ⟨o, hoD⟩ : ∃ o, o = (fstO (xs.drop i)).1 := ⟨_, rfl⟩
        obtain ⟨n, hnD⟩ : ∃ n, n = (fstO (xs.drop i)).2 := ⟨_, rfl⟩
        have HP : Hid (fstO (xs.drop i) = (o, n)) := hide (by rw [hoD, hnD])
        clear hoD hnD HC
        -- the slice from i on
        have hP0 : ∀ A2 c2, IntsAt wr wr.heap.size A2 (xs.drop i) → xs.length - i ≤ c2 → Calls Tryd.prog 15 #[.slice A2 (xs.length - i) c2] wr (GivesOp wr (o, n)) := by
          intro A2 c2 hI hcc
          have := firstOp_any A2 (xs.drop i) c2 wr hI HBd.out (by rw [HD.out]; exact hcc) (by rw [HD.out]; omega) hFr
          rw [HD.out, HP.out] at this
          exact this
        have HP0 := hide hP0
        have HI := hide h
        have hIr := hide (fun (b off : Nat) (e : A = some ⟨b, off, none⟩) => (by subst e; exact (h.behind i).later HS.out.bel (Nat.le_refl _) : IntsAt wr wr.heap.size (some ⟨b, off + i, none⟩) (xs.drop i)))
        have hsum := hide hS.own
        clear hS h hFr hP0
        have hcase : (∃ ad, A = some ad ∧ c = i) ∨ (∃ b off, A = some ⟨b, off, none⟩ ∧ c ≠ i) ∨ (∃ ad, A = some ad ∧ c ≠ i ∧ xs = []) ∨ A = none := by
          rcases A with _ | ad
          · exact .inr (.inr (.inr rfl))
          · by_cases hci : c = i
            · exact .inl ⟨ad, rfl, hci⟩
            · by_cases hx : xs = []
              · exact .inr (.inr (.inl ⟨ad, rfl, hci, hx⟩))
              · obtain ⟨b, off, e, _⟩ := HI.out.row hx
                exact .inr (.inl ⟨b, off, e, hci⟩)
        rcases hcase with ⟨ad, rfl, rfl⟩ | ⟨b, off, rfl, hci⟩ | ⟨ad, rfl, hci, rfl⟩ | rfl
        · have HE : Hid (xs.drop c = []) := hide (List.drop_eq_nil_of_le (by omega))
          have HZ : Hid (xs.length - c = 0) := hide (by omega)
          go_wp2_with fail
          have HC := HP0.out (some ad) 0 (by rw [HE.out]; exact IntsAt.empt _) (by omega)
          rw [HZ.out] at HC
          refine HC.mono ?_
          clear HC
          rintro e w2 ⟨rfl, hb2⟩
          have HO2 := hide (HS.out.own.below hb2)
          have HB2 := hide (HS.out.bel.trans (hb2.mono hbs))
          clear hb2
          have lb := Lies.new w2 #[.int .i64 o.code, .int .i64 o.arg] 39
          have hBb := HB2.out.alloc HB2.out.size (.cells #[.int .i64 o.code, .int .i64 o.arg] 39)
          have hOb := HO2.out.alloc (.cells #[.int .i64 o.code, .int .i64 o.arg] 39)
          have hgb := lb.lt
          have HBb := hide hBb
          have HOb := hide hOb
          have Hne := hide (fun (e : some w2.heap.size = blockOf Ao) => (by have := (HO2.out.blocks _ e.symm).2; omega : False))
          have HLb := hide lb
          clear hBb hOb lb
          go_upto_region 8 with fail
          generalize w2.alloc (.cells #[.int .i64 o.code, .int .i64 o.arg] 39) = wb at HBb HOb HLb hgb ⊢
          generalize w2.heap.size = gb at Hne HLb hgb ⊢
          by_cases hn0 : n = 0
          · have dn : ((n : Int) == 0) = true := by simpa using hn0
            have hE := HS.out.stop (.inr (firstO_zero HBd.out HP.out hn0))
            obtain ⟨rfl, rfl⟩ := hE
            clear hn0
            go_wp2
            go_ret2
            exact ⟨Ao, co, rfl, HOb.out, HBb.out⟩
          · have dn : ((n : Int) == 0) = false := by simpa using hn0
            have hF := hide (firstO_pos HBd.out HP.out hn0)
            have hfs := firstO_some HBd.out hF.out
            have hn3 := hfs.2.2.2.2.1
            clear hn0 hfs
            have lb := HLb.out
            have x0 := lb.cell 0
            have x1 := lb.cell 1
            simp at x0 x1
            have hal : acc.length ≤ 300 := by have := hlen.out; omega
            have HNw := hide (show Lies (wb.alloc (.cells #[.int .i64 o.code, .int .i64 o.arg] 39)) wb.heap.size #[.int .i64 o.code, .int .i64 o.arg] 39 from Lies.new wb _ _)
            clear lb
            go_wp2_with (at_builtin; refine append_op rfl (.tmp 22) (.tmp 24) rfl w.heap.size Ao co acc rfl (HOb.out.alloc _) wb.heap.size o 39 rfl HNw.out (by omega) (by have := HBb.out.size; simp; omega) ?_; intro zs A3 c3 w7 hz hown7 hg7 hat7; have HO7 := hide hown7; have HG7 := hide hg7; clear hown7 hg7 hat7)
            go_roundg (300 - (k + 1))
            case measure => omega
            case rel => exact ⟨k + 1, c + n, A3, c3, zs, rfl, by go_num, by go_num, rfl, HS.out.step Hb.out hk hF.out (below_grown (HBb.out.alloc HBb.out.size _) HG7.out (by have := HBb.out.size; simp; omega) (fun q hq => (HOb.out.blocks q hq).1)) hz.out HO7.out⟩
        · go_wp2_with fail
          refine (HP0.out (some ⟨b, off + i, none⟩) (c - i) (hIr.out b off rfl) (by omega)).mono ?_
          rintro e w2 ⟨rfl, hb2⟩
          have HO2 := hide (HS.out.own.below hb2)
          have HB2 := hide (HS.out.bel.trans (hb2.mono hbs))
          clear hb2
          have lb := Lies.new w2 #[.int .i64 o.code, .int .i64 o.arg] 39
          have hBb := HB2.out.alloc HB2.out.size (.cells #[.int .i64 o.code, .int .i64 o.arg] 39)
          have hOb := HO2.out.alloc (.cells #[.int .i64 o.code, .int .i64 o.arg] 39)
          have hgb := lb.lt
          have HBb := hide hBb
          have HOb := hide hOb
          have Hne := hide (fun (e : some w2.heap.size = blockOf Ao) => (by have := (HO2.out.blocks _ e.symm).2; omega : False))
          have HLb := hide lb
          clear hBb hOb lb
          go_upto_region 8 with fail
          generalize w2.alloc (.cells #[.int .i64 o.code, .int .i64 o.arg] 39) = wb at HBb HOb HLb hgb ⊢
          generalize w2.heap.size = gb at Hne HLb hgb ⊢
          by_cases hn0 : n = 0
          · have dn : ((n : Int) == 0) = true := by simpa using hn0
            have hE := HS.out.stop (.inr (firstO_zero HBd.out HP.out hn0))
            obtain ⟨rfl, rfl⟩ := hE
            clear hn0
            go_wp2
            go_ret2
            exact ⟨Ao, co, rfl, HOb.out, HBb.out⟩
          · have dn : ((n : Int) == 0) = false := by simpa using hn0
            have hF := hide (firstO_pos HBd.out HP.out hn0)
            have hfs := firstO_some HBd.out hF.out
            have hn3 := hfs.2.2.2.2.1
            clear hn0 hfs
            have lb := HLb.out
            have x0 := lb.cell 0
            have x1 := lb.cell 1
            simp at x0 x1
            have hal : acc.length ≤ 300 := by have := hlen.out; omega
            have HNw := hide (show Lies (wb.alloc (.cells #[.int .i64 o.code, .int .i64 o.arg] 39)) wb.heap.size #[.int .i64 o.code, .int .i64 o.arg] 39 from Lies.new wb _ _)
            clear lb
            go_wp2_with (at_builtin; refine append_op rfl (.tmp 22) (.tmp 24) rfl w.heap.size Ao co acc rfl (HOb.out.alloc _) wb.heap.size o 39 rfl HNw.out (by omega) (by have := HBb.out.size; simp; omega) ?_; intro zs A3 c3 w7 hz hown7 hg7 hat7; have HO7 := hide hown7; have HG7 := hide hg7; clear hown7 hg7 hat7)
            go_roundg (300 - (k + 1))
            case measure => omega
            case rel => exact ⟨k + 1, i + n, A3, c3, zs, rfl, by go_num, by go_num, rfl, HS.out.step Hb.out hk hF.out (below_grown (HBb.out.alloc HBb.out.size _) HG7.out (by have := HBb.out.size; simp; omega) (fun q hq => (HOb.out.blocks q hq).1)) hz.out HO7.out⟩
        · obtain rfl : i = 0 := by simpa using hil
          go_wp2_with fail
          refine (HP0.out (some ad) c (IntsAt.empt _) (by simp)).mono ?_
          rintro e w2 ⟨rfl, hb2⟩
          have HO2 := hide (HS.out.own.below hb2)
          have HB2 := hide (HS.out.bel.trans (hb2.mono hbs))
          clear hb2
          have lb := Lies.new w2 #[.int .i64 o.code, .int .i64 o.arg] 39
          have hBb := HB2.out.alloc HB2.out.size (.cells #[.int .i64 o.code, .int .i64 o.arg] 39)
          have hOb := HO2.out.alloc (.cells #[.int .i64 o.code, .int .i64 o.arg] 39)
          have hgb := lb.lt
          have HBb := hide hBb
          have HOb := hide hOb
          have Hne := hide (fun (e : some w2.heap.size = blockOf Ao) => (by have := (HO2.out.blocks _ e.symm).2; omega : False))
          have HLb := hide lb
          clear hBb hOb lb
          go_upto_region 8 with fail
          generalize w2.alloc (.cells #[.int .i64 o.code, .int .i64 o.arg] 39) = wb at HBb HOb HLb hgb ⊢
          generalize w2.heap.size = gb at Hne HLb hgb ⊢
          by_cases hn0 : n = 0
          · have dn : ((n : Int) == 0) = true := by simpa using hn0
            have hE := HS.out.stop (.inr (firstO_zero HBd.out HP.out hn0))
            obtain ⟨rfl, rfl⟩ := hE
            clear hn0
            go_wp2
            go_ret2
            exact ⟨Ao, co, rfl, HOb.out, HBb.out⟩
          · have dn : ((n : Int) == 0) = false := by simpa using hn0
            have hF := hide (firstO_pos HBd.out HP.out hn0)
            have hfs := firstO_some HBd.out hF.out
            have hn3 := hfs.2.2.2.2.1
            clear hn0 hfs
            have lb := HLb.out
            have x0 := lb.cell 0
            have x1 := lb.cell 1
            simp at x0 x1
            have hal : acc.length ≤ 300 := by have := hlen.out; omega
            have HNw := hide (show Lies (wb.alloc (.cells #[.int .i64 o.code, .int .i64 o.arg] 39)) wb.heap.size #[.int .i64 o.code, .int .i64 o.arg] 39 from Lies.new wb _ _)
            clear lb
            go_wp2_with (at_builtin; refine append_op rfl (.tmp 22) (.tmp 24) rfl w.heap.size Ao co acc rfl (HOb.out.alloc _) wb.heap.size o 39 rfl HNw.out (by omega) (by have := HBb.out.size; simp; omega) ?_; intro zs A3 c3 w7 hz hown7 hg7 hat7; have HO7 := hide hown7; have HG7 := hide hg7; clear hown7 hg7 hat7)
            go_roundg (300 - (k + 1))
            case measure => omega
            case rel => exact ⟨k + 1, 0 + n, A3, c3, zs, rfl, by go_num, by first | rw [Nat.zero_add] | go_num, rfl, HS.out.step Hb.out hk hF.out (below_grown (HBb.out.alloc HBb.out.size _) HG7.out (by have := HBb.out.size; simp; omega) (fun q hq => (HOb.out.blocks q hq).1)) hz.out HO7.out⟩
        · obtain rfl := Hnil.out rfl
          have e0 : xs = [] := List.eq_nil_of_length_eq_zero (by omega)
          subst e0
          obtain rfl : i = 0 := by simpa using hil
          go_wp2_with fail
          refine (HP0.out none 0 (IntsAt.empt _) (by simp)).mono ?_
          rintro e w2 ⟨rfl, hb2⟩
          have HO2 := hide (HS.out.own.below hb2)
          have HB2 := hide (HS.out.bel.trans (hb2.mono hbs))
          clear hb2
          have lb := Lies.new w2 #[.int .i64 o.code, .int .i64 o.arg] 39
          have hBb := HB2.out.alloc HB2.out.size (.cells #[.int .i64 o.code, .int .i64 o.arg] 39)
          have hOb := HO2.out.alloc (.cells #[.int .i64 o.code, .int .i64 o.arg] 39)
          have hgb := lb.lt
          have HBb := hide hBb
          have HOb := hide hOb
          have Hne := hide (fun (e : some w2.heap.size = blockOf Ao) => (by have := (HO2.out.blocks _ e.symm).2; omega : False))
          have HLb := hide lb
          clear hBb hOb lb
          go_upto_region 8 with fail
          generalize w2.alloc (.cells #[.int .i64 o.code, .int .i64 o.arg] 39) = wb at HBb HOb HLb hgb ⊢
          generalize w2.heap.size = gb at Hne HLb hgb ⊢
          by_cases hn0 : n = 0
          · have dn : ((n : Int) == 0) = true := by simpa using hn0
            have hE := HS.out.stop (.inr (firstO_zero HBd.out HP.out hn0))
            obtain ⟨rfl, rfl⟩ := hE
            clear hn0
            go_wp2
            go_ret2
            exact ⟨Ao, co, rfl, HOb.out, HBb.out⟩
          · have dn : ((n : Int) == 0) = false := by simpa using hn0
            have hF := hide (firstO_pos HBd.out HP.out hn0)
            have hfs := firstO_some HBd.out hF.out
            have hn3 := hfs.2.2.2.2.1
            clear hn0 hfs
            have lb := HLb.out
            have x0 := lb.cell 0
            have x1 := lb.cell 1
            simp at x0 x1
            have hal : acc.length ≤ 300 := by have := hlen.out; omega
            have HNw := hide (show Lies (wb.alloc (.cells #[.int .i64 o.code, .int .i64 o.arg] 39)) wb.heap.size #[.int .i64 o.code, .int .i64 o.arg] 39 from Lies.new wb _ _)
            clear lb
            go_wp2_with (at_builtin; refine append_op rfl (.tmp 22) (.tmp 24) rfl w.heap.size Ao co acc rfl (HOb.out.alloc _) wb.heap.size o 39 rfl HNw.out (by omega) (by have := HBb.out.size; simp; omega) ?_; intro zs A3 c3 w7 hz hown7 hg7 hat7; have HO7 := hide hown7; have HG7 := hide hg7; clear hown7 hg7 hat7)
            go_roundg (300 - (k + 1))
            case measure => omega
            case rel => exact ⟨k + 1, 0 + n, A3, c3, zs, rfl, by go_num, by first | rw [Nat.zero_add] | go_num, rfl, HS.out.step Hb.out hk hF.out (below_grown (HBb.out.alloc HBb.out.size _) HG7.out (by have := HBb.out.size; simp; omega) (fun q hq => (HOb.out.blocks q hq).1)) hz.out HO7.out⟩
      · obtain rfl : k = 300 := by omega
        have hE := HS.out.stop (.inl rfl)
        obtain ⟨rfl, rfl⟩ := hE
        clear hS hk
        go_wp2
        go_ret2
        exact ⟨Ao, co, rfl, HS.out.own, HS.out.bel⟩
  · rw [tornOps_no hok, tornSize_no hok]
    have ht := hide (tf_false hok)
    clear hok
    go_enter Tryd.func5, Tryd.ntmps5
    go_wp2_with fail
    refine (areBytes_any A xs c 1000 w h (by omega)).mono ?_
    rintro e w' ⟨rfl, rfl⟩
    rw [ht.out]
    go_wp2
    go_ret2
    exact ⟨none, 0, rfl, OwnO.empty _ _, Below.refl _ _⟩
end Go.Proofs.YtmilbhhlbjcodaaDoor

namespace Go.Proofs.YtmilbhhlbjcodaaDoor
open Go.RowKit
set_option linter.unusedVariables false
set_option maxHeartbeats 1000000 in
theorem implDecodeOps_any (A : Option Addr) (xs : List Int) (c : Nat) (w : World) (h : IntsAt w w.heap.size A xs) (hnil : A = none → c = 0) (hc : xs.length ≤ c) (hF : FormsAt w w.heap.size) :
    Calls Tryd.prog 9 #[.slice A xs.length c] w (GivesOpsV w (decAll xs) (.bool (tf (DecOk xs)))) := by
  have hlen := h.len
  have Hnil := hide hnil
  clear hnil
  by_cases hok : DecOk xs
  · rw [decAll_ok hok, tf_true hok]
    have e1 := hide (tornOps_ok hok.1)
    have e2 := hide (tornSize_ok hok.1)
    have e3 := hide hok.2
    clear hok
    have d1 : ((xs.length : Int) != (xs.length : Int)) = false := by simp
    go_enter Tryd.func9, Tryd.ntmps9
    go_wp2_with fail
    have HC := implDecodeTorn_any A xs c w h Hnil.out hc hF
    rw [e1.out, e2.out, e3.out] at HC
    refine HC.mono ?_
    clear HC
    rintro e w2 ⟨A2, c2, rfl, ho, hb⟩
    go_wp2
    go_ret2
    exact ⟨A2, c2, rfl, ho, hb⟩
  · rw [decAll_no hok, tf_false hok]
    have d0 : tornSize xs ≠ (xs.length : Int) := by
      unfold tornSize
      split
      · rename_i hb
        intro e
        exact hok ⟨hb, by omega⟩
      · omega
    have d1 : (tornSize xs != (xs.length : Int)) = true := by simpa using d0
    clear hok d0
    go_enter Tryd.func9, Tryd.ntmps9
    go_wp2_with fail
    refine (implDecodeTorn_any A xs c w h Hnil.out hc hF).mono ?_
    rintro e w2 ⟨A2, c2, rfl, ho, hb⟩
    go_wp2
    go_ret2
    exact ⟨none, 0, rfl, OwnO.empty _ _, hb⟩
end Go.Proofs.YtmilbhhlbjcodaaDoor
