/-
  Lemmas, several texts in one: Forms, Needs, ChkH, OwnR, UpTo, ToO.
-/
import Derived.Test.YtaolnnjcpnhghaaDoorArg
import Derived.Test.YtaolnnjcpnhghaaDoorMem
import Derived.LaidMore
import Derived.Test.YtaolnnjcpnhghaaDoorChkM
import Derived.Test.YtaolnnjcpnhghaaDoorChkG
import Derived.Test.YtaolnnjcpnhghaaDoorChkD
import Derived.Deep.QuietTactic
import Derived.BigQuiet
import Derived.Test.YtaolnnjcpnhghaaDoorPjAf
import Derived.Test.YtaolnnjcpnhghaaDoorPjAb
namespace Go.Proofs.YtaolnnjcpnhghaaDoor
open Go.RowKit Go.ChangeShapes

/-- how many things an order of a code takes, -1 for all above a mark -/
def takesOf (c : Nat) : Int := [0, 0, 0, -1, 0, 1, 2, 0, 1, -1, 0, 2, -1, 0, 1, 0, 0, 1, -1, 0].getD c 0

/-- how many things an order of a code pushes -/
def pushesOf (c : Nat) : Int := [1, 1, 1, 1, 1, 1, 1, 1, 0, 0, 1, 0, 0, 1, 0, 0, 1, 0, 0, 0].getD c 0

/-- the cells of the table -/
structure FormsAt (w : World) (B : Nat) : Prop where
  lt : 0 < B
  takes : ∀ c : Nat, c < 20 → w.cell? ⟨0, c * 3, none⟩ = some (.int .i64 (takesOf c))
  pushes : ∀ c : Nat, c < 20 → w.cell? ⟨0, c * 3 + 1, none⟩ = some (.int .i64 (pushesOf c))
  arg : ∀ c : Nat, c < 20 → w.cell? ⟨0, c * 3 + 2, none⟩ = some (.int .i64 (argTop c))

theorem FormsAt.below {w w' : World} {B : Nat} (h : FormsAt w B) (hb : Below B w w') : FormsAt w' B :=
  ⟨h.lt, fun c hc => (hb.cell (p := ⟨0, c * 3, none⟩) h.lt).trans (h.takes c hc), fun c hc => (hb.cell (p := ⟨0, c * 3 + 1, none⟩) h.lt).trans (h.pushes c hc), fun c hc => (hb.cell (p := ⟨0, c * 3 + 2, none⟩) h.lt).trans (h.arg c hc)⟩

theorem FormsAt.more {w : World} {B B' : Nat} (h : FormsAt w B) (hB : B ≤ B') : FormsAt w B' := ⟨Nat.lt_of_lt_of_le h.lt hB, h.takes, h.pushes, h.arg⟩

theorem FormsAt.later {w w' : World} {B : Nat} (h : FormsAt w B) (hb : Below B w w') (hB : B ≤ w.heap.size) : FormsAt w' w'.heap.size :=
  (h.below hb).more (Nat.le_trans hB hb.size)

end Go.Proofs.YtaolnnjcpnhghaaDoor

namespace Go.Proofs.YtaolnnjcpnhghaaDoor
open Go.RowKit Go.ChangeShapes

/-- the cells of the table -/
structure NeedsAt (w : World) (B : Nat) : Prop where
  lt : 1 < B
  n0 : ∀ c : Nat, c < 20 → w.cell? ⟨1, c * 3, none⟩ = some (.int .i64 (need0 (c : Int) : Int))
  n1 : ∀ c : Nat, c < 20 → w.cell? ⟨1, c * 3 + 1, none⟩ = some (.int .i64 (need1 (c : Int) : Int))
  n2 : ∀ c : Nat, c < 20 → w.cell? ⟨1, c * 3 + 2, none⟩ = some (.int .i64 (need2 (c : Int) : Int))

theorem NeedsAt.below {w w' : World} {B : Nat} (h : NeedsAt w B) (hb : Below B w w') : NeedsAt w' B :=
  ⟨h.lt, fun c hc => (hb.cell (p := ⟨1, c * 3, none⟩) h.lt).trans (h.n0 c hc), fun c hc => (hb.cell (p := ⟨1, c * 3 + 1, none⟩) h.lt).trans (h.n1 c hc), fun c hc => (hb.cell (p := ⟨1, c * 3 + 2, none⟩) h.lt).trans (h.n2 c hc)⟩

theorem NeedsAt.more {w : World} {B B' : Nat} (h : NeedsAt w B) (hB : B ≤ B') : NeedsAt w B' := ⟨Nat.lt_of_lt_of_le h.lt hB, h.n0, h.n1, h.n2⟩

theorem NeedsAt.later {w w' : World} {B : Nat} (h : NeedsAt w B) (hb : Below B w w') (hB : B ≤ w.heap.size) : NeedsAt w' w'.heap.size :=
  (h.below hb).more (Nat.le_trans hB hb.size)

end Go.Proofs.YtaolnnjcpnhghaaDoor

namespace Go.Proofs.YtaolnnjcpnhghaaDoor
open Go.RowKit
set_option linter.unusedVariables false

theorem takes_same : ∀ c : Nat, c < 20 → takesOf c = takesN (c : Int) := by
  decide

theorem use_small (s : Shp) (a : Int) : s.useAt a < 1000 := by
  rcases s.use_bits a with h | h | h | h | h | h | h <;> omega
theorem from_small (s : Shp) (a : Nat) : s.useFrom a < 1000 := by unfold Shp.useFrom; split <;> omega
theorem view_small (s : Shp) (c : Int) : s.view0 c < 1000 ∧ s.view1 c < 1000 ∧ s.view2 c < 1000 := by
  unfold Shp.view0 Shp.view1 Shp.view2
  refine ⟨?_, ?_, ?_⟩ <;> split <;> first | exact use_small _ _ | exact from_small _ _
theorem need_small (c : Int) : need0 c < 1000 ∧ need1 c < 1000 ∧ need2 c < 1000 := by
  unfold need0 need1 need2
  refine ⟨?_, ?_, ?_⟩ <;> (repeat' split) <;> omega

theorem viewOf_code (q base off : Nat) (p : ShPtr) (s : Shp) (c : Nat) (w : World) (h : SbAt w base q off p s) (hs : s.Small) (hc : c < 20) :
    Calls Tryd.prog 38 #[.pointer (some ⟨q, off, none⟩), .int .i64 (takesOf c)] w (GivesV w (s.view0 (c : Int)) (s.view1 (c : Int)) (s.view2 (c : Int))) := by
  rw [takes_same c hc]
  unfold Shp.view0 Shp.view1 Shp.view2
  by_cases ht : takesN (c : Int) = -1
  · rw [if_pos ht, if_pos ht, if_pos ht, ht]
    exact viewOf_all q base off p s _ _ _ w h hs rfl rfl rfl
  · rw [if_neg ht, if_neg ht, if_neg ht]
    exact viewOf_top q base off p s _ _ _ _ w h hs ht rfl rfl rfl

set_option maxRecDepth 100000 in
set_option maxHeartbeats 4000000 in
theorem hasNeeded_no (q base off : Nat) (p : ShPtr) (s : Shp) (ar : Nat) (w : World) (h : SbAt w base q off p s) (hs : s.Small) (ha : ar < 20) (hm : s.memo.getD ar 0 < 0) :
    Calls Tryd.prog 34 #[.pointer (some ⟨q, off, none⟩), .agg #[.int .i64 16, .int .i64 (ar : Int)]] w fun e w' => e = .returned (.bool false) ∧ Below w.heap.size w w' := by
  have hB := hide ((Below.refl w.heap.size w).alloc (Nat.le_refl _) (.cells #[.int .i64 16, .int .i64 (ar : Int)] 37))
  have lo := Lies.new w #[.int .i64 16, .int .i64 (ar : Int)] 37
  have h2 := h.alloc (.cells #[.int .i64 16, .int .i64 (ar : Int)] 37)
  have hml := hs.ok.ml
  obtain ⟨x, hx⟩ : ∃ x, s.memo[ar]? = some x := ⟨_, List.getElem?_eq_getElem (by omega)⟩
  have hx1 := (hs.ok.mm x (List.mem_of_getElem? hx)).1
  have hgd : s.memo.getD ar 0 = x := by rw [List.getD_eq_getElem?_getD, hx]; rfl
  rw [hgd] at hm
  obtain rfl : x = -1 := by omega
  obtain ⟨gm, hM, hm1, hm2, hcm, hfm⟩ := h2.own.m.atJ hx
  obtain ⟨e0, e1, e2, e3, e4, f0, f1, f2, f3, f4⟩ := h2.c
  rw [hM] at e3
  have d0 := lo.cell 0
  have d1 := lo.cell 1
  simp only [List.getElem?_toArray, List.getElem?_cons_zero, List.getElem?_cons_succ] at d0 d1
  have hj0 : (0 : Int) ≤ (ar : Int) := by omega
  have hj1 : (ar : Int) < (s.memo.length : Int) := by omega
  clear h hs h2 hx hgd hml hM lo hm hx1
  go_enter Tryd.func34, Tryd.ntmps34
  go_upto_region 1 with fail
  generalize w.alloc (.cells #[.int .i64 16, .int .i64 (ar : Int)] 37) = W at hB e0 e1 e2 e3 e4 f0 f1 f2 f3 f4 d0 d1 hcm hfm hm2 ⊢
  go_quiet (fail)
  go_wp2
  go_ret
  exact ⟨rfl, below_drewN hB.out _⟩

end Go.Proofs.YtaolnnjcpnhghaaDoor

namespace Go.Proofs.YtaolnnjcpnhghaaDoor
open Go.RowKit
set_option linter.unusedVariables false


/-- a row behind an owned int slice -/
theorem OwnI.row {w : World} {base g : Nat} {c : Nat} {xs : List Int} (h : OwnI w base (some ⟨g, 0, none⟩) c xs) :
    ∃ (cap : Nat) (f : Nat → Value), w.rowIs g 3 cap f ∧ xs.length ≤ cap ∧ cap ≤ maxLen ∧ c = cap ∧ base ≤ g := by
  rcases h.own.2 with ⟨h1, _⟩ | ⟨g', cap, cur, hv, hg, hh, hn, hm, hs, _⟩
  · injection h1 with h1
    cases h1
  · injection hv with hv _ hc
    obtain rfl : g = g' := by simpa using hv
    refine ⟨cap, fun i => (cur[i]?).getD undef, ⟨cur, hh, by simpa using hs, fun i hi => ?_⟩, hn, hm, hc, hg⟩
    have : i < cur.size := by rw [hs]; omega
    show _ = some ((cur[i]?).getD undef)
    rw [Array.getElem?_eq_getElem this]; rfl

theorem OwnI.of_row {w : World} {base g cap : Nat} {f : Nat → Value} {xs : List Int} (h : w.rowIs g 3 cap f) (hl : xs.length ≤ cap) (hm : cap ≤ maxLen) (hb : base ≤ g) (hf : ∀ i x, xs[i]? = some x → f i = .int .i64 x) :
    OwnI w base (some ⟨g, 0, none⟩) cap xs := by
  obtain ⟨cur, hh, hs, hc⟩ := h
  refine ⟨⟨by simp, .inr ⟨g, cap, cur, rfl, hb, hh, hl, hm, by simpa using hs, ?_⟩⟩⟩
  apply List.ext_getElem?
  intro i
  rw [List.getElem?_take, List.getElem?_map]
  by_cases hi : i < xs.length
  · rw [if_pos (by omega), Array.getElem?_toList, hc i (by omega), List.getElem?_eq_getElem hi]
    simp [hf i _ (List.getElem?_eq_getElem hi)]
  · rw [if_neg (by omega), List.getElem?_eq_none (by omega)]
    rfl

end Go.Proofs.YtaolnnjcpnhghaaDoor

namespace Go.Proofs.YtaolnnjcpnhghaaDoor
open Go.RowKit

theorem isUpTo_yes (n hi : Int) (w : World) (h1 : 0 ≤ n) (h2 : n ≤ hi) :
    Calls Tryd.prog 32 #[.int .i64 n, .int .i64 hi] w fun e w' => e = .returned (.bool true) ∧ w = w' := by
  have d1 : decide (0 ≤ n) = true := by simpa using h1
  have d2 : decide (n ≤ hi) = true := by simpa using h2
  go_enter Tryd.func32, Tryd.ntmps32
  go_wp2
  go_ret
  exact ⟨rfl, rfl⟩

theorem isUpTo_no (n hi : Int) (w : World) (h : n < 0 ∨ hi < n) :
    Calls Tryd.prog 32 #[.int .i64 n, .int .i64 hi] w fun e w' => e = .returned (.bool false) ∧ w = w' := by
  by_cases h1 : 0 ≤ n
  · have h2 : ¬ n ≤ hi := by omega
    have d1 : decide (0 ≤ n) = true := by simpa using h1
    have d2 : decide (n ≤ hi) = false := by simpa using h2
    clear h
    go_enter Tryd.func32, Tryd.ntmps32
    go_wp2
    go_ret
    exact ⟨rfl, rfl⟩
  · have d1 : decide (0 ≤ n) = false := by simpa using h1
    clear h
    go_enter Tryd.func32, Tryd.ntmps32
    go_wp2
    go_ret
    exact ⟨rfl, rfl⟩

/-- whether a number is in 0..hi -/
def upB (n hi : Int) : Bool := decide (0 ≤ n ∧ n ≤ hi)
theorem upB_yes {n hi : Int} (h : 0 ≤ n ∧ n ≤ hi) : upB n hi = true := by unfold upB; simpa using h
theorem upB_no {n hi : Int} (h : ¬ (0 ≤ n ∧ n ≤ hi)) : upB n hi = false := by unfold upB; simpa using h

/-- the same for a region that only reads -/
theorem isUpTo_q (n hi : Int) (w : World) :
    Calls Tryd.prog 32 #[.int .i64 n, .int .i64 hi] w fun e w' => e = .returned (.bool (upB n hi)) ∧ w' = w := by
  by_cases h : 0 ≤ n ∧ n ≤ hi
  · rw [upB_yes h]
    exact (isUpTo_yes n hi w h.1 h.2).mono fun e w' ⟨a, b⟩ => ⟨a, b.symm⟩
  · rw [upB_no h]
    exact (isUpTo_no n hi w (by omega)).mono fun e w' ⟨a, b⟩ => ⟨a, b.symm⟩

end Go.Proofs.YtaolnnjcpnhghaaDoor

namespace Go.Proofs.YtaolnnjcpnhghaaDoor
open Go.RowKit

set_option maxHeartbeats 1000000 in
theorem toOp_any (c a : Int) (w : World) :
    Calls Tryd.prog 11 #[.agg #[.int .i64 c, .int .i64 a]] w fun e w' => e = .returned (.agg #[.int .i64 c, .int .i64 a]) ∧ Below w.heap.size w w' := by
  go_enter Tryd.func11, Tryd.ntmps11
  go_wp2
  refine bodyPost_ret (v := .agg #[.int .i64 c, .int .i64 a]) (by simp [results, Tryd.results11, go_sem]) rfl ⟨rfl, ?_⟩
  exact (((Below.refl _ _).alloc (Nat.le_refl _) _).alloc (by simp) _).alloc (by simp; omega) _

set_option maxHeartbeats 1000000 in
theorem toOpS_any (A : Option Addr) (os : List Od) (c : Nat) (w : World) (h : OpsAt w w.heap.size A os) (hs : os.length ≤ 1048576) :
    Calls Tryd.prog 6 #[.slice A os.length c] w fun e w' => e = .returned (.slice (some ⟨w.heap.size, 0, none⟩) os.length os.length) ∧
      w'.rowIs w.heap.size 37 (os.length * 2) (opCell os) ∧ Below w.heap.size w w' := by
  have hmk := run_make_rows (P := Tryd.prog) 25 37 (.agg #[.int .i64 0, .int .i64 0]) 2 16 Tryd.underlying25 infoOp .i64 .i64 os.length (by omega) (by omega)
  obtain ⟨f0, hrow0⟩ := rowIs_made_any w (Value.agg #[.int .i64 0, .int .i64 0]).cells (os.length * 2) 37
  have hb0 := (Below.refl _ w).alloc (Nat.le_refl _) (.cells (madeCells (Value.agg #[.int .i64 0, .int .i64 0]).cells (os.length * 2)) 37)
  generalize (Value.agg #[.int .i64 0, .int .i64 0]).cells = zc at hmk hrow0 hb0
  go_enter Tryd.func6, Tryd.ntmps6
  go_wp2_with fail
  clear hmk
  go_loopw [4] (fun i wr => ∃ k : Nat, k ≤ os.length ∧ i = .int .i64 k ∧ Below w.heap.size w wr ∧ ∃ f, wr.rowIs w.heap.size 37 (os.length * 2) f ∧ ∀ j, j < 2 * k → f j = opCell os j) (fun i _ => os.length - (intOf i).toNat)
  case atStart => exact ⟨0, Nat.zero_le _, rfl, hb0, f0, hrow0, fun j hj => absurd hj (by omega)⟩
  case round =>
    obtain ⟨k, hk, rfl, hb, f, hrow, hf0⟩ := hrel
    clear hrow0 hb0
    have hf := hide hf0
    clear hf0
    have hg := hrow.lt
    by_cases hlt : k < os.length
    · obtain ⟨b, off, o, rfl, hbl, hx, hmem, hc0, hc1⟩ := (h.below hb).at_ hlt
      have Hx := hide hx
      clear hx hmem
      go_wp2_with fail
      refine (toOp_any o.code o.arg wr).mono ?_
      rintro e w1 ⟨rfl, hb1⟩
      have hrow1 := rowIs_below hrow hb1 hg
      have a0 := hrow1.cell (i := k * 2) (by omega)
      have a1 := hrow1.cell (i := k * 2 + 1) (by omega)
      have b0 := hrow1.frozen (k * 2)
      have b1 := hrow1.frozen (k * 2 + 1)
      have hb2 : Below w.heap.size w (set2 w1 w.heap.size (k * 2) (.int .i64 o.code) (.int .i64 o.arg)) :=
        below_set2 (hb.trans (hb1.mono (by omega))) (Nat.le_refl _) _ _
      have hrow2 := opRow_next hrow1 hf.out Hx.out
      clear hrow1 hf hrow hb hb1
      unfold set2 at hb2 hrow2
      have HB := hide hb2
      have HR := hide hrow2
      clear hb2 hrow2
      go_wp2
      go_roundw
      case rel => exact ⟨k + 1, by omega, by go_num, HB.out, HR.out⟩
      case measure => simp [intOf]; omega
    · obtain rfl : k = os.length := by omega
      clear hlt
      go_wp2
      go_ret
      exact ⟨rfl, hrow.congr (fun i hi => hf.out i (by omega)), hb⟩

end Go.Proofs.YtaolnnjcpnhghaaDoor
