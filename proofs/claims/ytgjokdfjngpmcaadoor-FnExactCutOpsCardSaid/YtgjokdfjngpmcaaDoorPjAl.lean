/-
  Lemmas, several texts in one: Needs, NeedsL, ChkH, OwnR.
-/
import Derived.Test.YtgjokdfjngpmcaaDoorChkM
import Derived.Test.YtgjokdfjngpmcaaDoorMem
import Derived.LaidMore
import Derived.Test.YtgjokdfjngpmcaaDoorRows
import Derived.ProofKit
import Derived.OpenShut
import Derived.ChangeVars
import Derived.Stop.Joined
import Derived.Test.YtgjokdfjngpmcaaDoorPjAk
import Derived.Test.YtgjokdfjngpmcaaDoorChkD
import Derived.Test.YtgjokdfjngpmcaaDoorPjAc
import Derived.Deep.QuietTactic
import Derived.BigQuiet
namespace Go.Proofs.YtgjokdfjngpmcaaDoor
open Go.RowKit Go.ChangeShapes

/-- the cells of the table -/
structure NeedsAt (w : World) (B : Nat) : Prop where
  lt : 1 < B
  n0 : ∀ c : Nat, c < 20 → w.cell? ⟨1, c * 3, none⟩ = some (.int .i64 (need0 (c : Int) : Int))
  n1 : ∀ c : Nat, c < 20 → w.cell? ⟨1, c * 3 + 1, none⟩ = some (.int .i64 (need1 (c : Int) : Int))
  n2 : ∀ c : Nat, c < 20 → w.cell? ⟨1, c * 3 + 2, none⟩ = some (.int .i64 (need2 (c : Int) : Int))

theorem NeedsAt.below {w w' : World} {B : Nat} (h : NeedsAt w B) (hb : Below B w w') : NeedsAt w' B :=
  ⟨h.lt, fun c hc => (hb.cell (p := ⟨1, c * 3, none⟩) h.lt).trans (h.n0 c hc), fun c hc => (hb.cell (p := ⟨1, c * 3 + 1, none⟩) h.lt).trans (h.n1 c hc), fun c hc => (hb.cell (p := ⟨1, c * 3 + 2, none⟩) h.lt).trans (h.n2 c hc)⟩

theorem NeedsAt.more {w : World} {B B' : Nat} (h : NeedsAt w B) (hB : B ≤ B') : NeedsAt w B' := ⟨Nat.lt_of_lt_of_le h.lt hB, h.n0, h.n1, h.n2⟩

theorem NeedsAt.later {w w' : World} {B : Nat} (h : NeedsAt w B) (hb : Below B w w') (hB : B ≤ w.heap.size) : NeedsAt w' w'.heap.size :=
  (h.below hb).more (Nat.le_trans hB hb.size)

end Go.Proofs.YtgjokdfjngpmcaaDoor

namespace Go.Proofs.YtgjokdfjngpmcaaDoor
open Go.ChangeShapes Go.WideShapes Go.ChangeAt Go.WideElems Go.RowKit
set_option linter.unusedVariables false

theorem gNeeds : Tryd.prog.globalNamed "loop.example/graphcode/impl.needs" = some 1 := by kernel_rfl
theorem tNeeds : (Tryd.prog.globals[1]?).map (·.type) = some 69 := by kernel_rfl
theorem cView : Tryd.prog.cellsOf 68 = 3 := by kernel_rfl
theorem cNeeds : Tryd.prog.cellsOf 69 = 60 := by kernel_rfl
theorem cViewI : Tryd.prog.cellsOf 3 = 1 := by kernel_rfl

/-- what the table reads as -/
def needsD {H : Type} : DataW H := .agg ((List.range 20).map fun (c : Nat) => .agg [.lit (.int .i64 (need0 (c : Int) : Int)), .lit (.int .i64 (need1 (c : Int) : Int)), .lit (.int .i64 (need2 (c : Int) : Int))])

theorem needsD_laid {H : Type} : (Rows.laid_loop_example_graphcode_impl_needs : DataW H) = needsD := rfl

theorem list3n {α : Type} (l : List α) (h : l.length = 3) : ∃ a b c, l = [a, b, c] := by
  match l, h with
  | [a, b, c], _ => exact ⟨a, b, c, rfl⟩

set_option maxRecDepth 100000 in
theorem needCells {H : Type} {enc : TypeId × Value → H} {W : World} {base : Nat} {spare : Nat → Bool} {held : Bool} {fuel : Nat} {cs : List Value} {y : DataW H × List MemPlace} (h : DataW.trod enc Tryd.prog W base spare held fuel 69 cs = some y) (hy : y.1 = needsD) :
    ∀ c : Nat, c < 20 → cs[c * 3]? = some (.int .i64 (need0 (c : Int) : Int)) ∧ cs[c * 3 + 1]? = some (.int .i64 (need1 (c : Int) : Int)) ∧ cs[c * 3 + 2]? = some (.int .i64 (need2 (c : Int) : Int)) := by
  intro c hc
  obtain ⟨xs, m1, rfl, rfl, hlen, hn, hel⟩ := DataW.trod_array Tryd.underlying69 h
  rw [cNeeds] at hlen
  have h1 := hel c hc
  rw [cView] at h1
  have hxs : ∃ x, xs[c]? = some x := ⟨_, List.getElem?_eq_getElem (by omega)⟩
  obtain ⟨x, hx⟩ := hxs
  rw [hx] at h1
  have hd : x.1 = .agg [.lit (.int .i64 (need0 (c : Int) : Int)), .lit (.int .i64 (need1 (c : Int) : Int)), .lit (.int .i64 (need2 (c : Int) : Int))] := by
    simp only [needsD, DataW.agg.injEq] at hy
    have := congrArg (fun l => l[c]?) hy
    simp [hx, hc] at this
    exact this
  obtain ⟨ys, m2, rfl, rfl, hcl, hyl, hf⟩ := DataW.trod_array Tryd.underlying68 h1
  obtain ⟨v0, v1, v2, hv⟩ := list3n _ (hcl.trans cView)
  rw [hv] at hf
  have h0 := hf 0 (by omega)
  have h2 := hf 1 (by omega)
  have h3 := hf 2 (by omega)
  rw [cViewI] at h0 h2 h3
  simp only [Nat.mul_one] at h0 h2 h3
  simp only [List.drop_zero, List.drop_succ_cons, List.take_succ_cons, List.take_zero] at h0 h2 h3
  obtain ⟨z0, z1, z2, rfl⟩ := list3n ys hyl
  obtain ⟨a, ha, ha2, _⟩ := DataW.trod_int Tryd.underlying3 (show DataW.trod enc Tryd.prog W base spare held m2 3 [v0] = some z0 from h0)
  obtain ⟨b, hb, hb2, _⟩ := DataW.trod_int Tryd.underlying3 (show DataW.trod enc Tryd.prog W base spare held m2 3 [v1] = some z1 from h2)
  obtain ⟨d, hd3, hd2, _⟩ := DataW.trod_int Tryd.underlying3 (show DataW.trod enc Tryd.prog W base spare held m2 3 [v2] = some z2 from h3)
  simp at ha hb hd3
  subst ha
  subst hb
  subst hd3
  simp [ha2, hb2, hd2] at hd
  obtain ⟨rfl, rfl, rfl⟩ := hd
  have g0 : ((cs.drop (c * 3)).take 3)[0]? = some (.int .i64 (need0 (c : Int) : Int)) := by rw [hv]; rfl
  have g1 : ((cs.drop (c * 3)).take 3)[1]? = some (.int .i64 (need1 (c : Int) : Int)) := by rw [hv]; rfl
  have g2 : ((cs.drop (c * 3)).take 3)[2]? = some (.int .i64 (need2 (c : Int) : Int)) := by rw [hv]; rfl
  rw [List.getElem?_take_of_lt (by omega), List.getElem?_drop] at g0 g1 g2
  exact ⟨g0, g1, g2⟩

theorem needs_of_var {W : World} {cs : Array Value} (hvar : W.var? Tryd.prog "loop.example/graphcode/impl.needs" = some cs) (h : ∀ c : Nat, c < 20 → cs.toList[c * 3]? = some (.int .i64 (need0 (c : Int) : Int)) ∧ cs.toList[c * 3 + 1]? = some (.int .i64 (need1 (c : Int) : Int)) ∧ cs.toList[c * 3 + 2]? = some (.int .i64 (need2 (c : Int) : Int))) :
    NeedsAt W W.heap.size := by
  have hc : ∀ i, W.cell? ⟨1, i, none⟩ = cs[i]? := World.var?_cell gNeeds hvar
  have h0 := (h 0 (by omega)).1
  refine ⟨World.block_lt_of_cell? (u := .int .i64 (need0 (0 : Nat) : Int)) W ⟨1, 0, none⟩ ?_, fun c hcl => ?_, fun c hcl => ?_, fun c hcl => ?_⟩
  · rw [hc, ← Array.getElem?_toList]; exact h0
  · rw [hc, ← Array.getElem?_toList]; exact (h c hcl).1
  · rw [hc, ← Array.getElem?_toList]; exact (h c hcl).2.1
  · rw [hc, ← Array.getElem?_toList]; exact (h c hcl).2.2

theorem needs_of_laid {W : World} (h : laidMetH Tryd.prog [("loop.example/graphcode/impl.needs", Rows.laid_loop_example_graphcode_impl_needs)] W) : NeedsAt W W.heap.size := by
  rw [MakeChecks.laidMetH_plain _ _ _ (by kernel_rfl)] at h
  obtain ⟨ps, ⟨g0, t0, cs0, f0, p0, q0, hg0, ht0, hv0, hd0, _⟩, _⟩ := h
  obtain rfl := Option.some.inj (gNeeds.symm.trans hg0)
  obtain rfl := Option.some.inj (tNeeds.symm.trans ht0)
  exact needs_of_var hv0 (needCells hd0 needsD_laid)

end Go.Proofs.YtgjokdfjngpmcaaDoor

namespace Go.Proofs.YtgjokdfjngpmcaaDoor
open Go.RowKit
set_option linter.unusedVariables false

theorem takes_same : ∀ c : Nat, c < 20 → takesOf c = takesN (c : Int) := by
  decide

theorem use_small (s : Shp) (a : Int) : s.useAt a < 1000 := by
  rcases s.use_bits a with h | h | h | h | h | h | h <;> omega
theorem from_small (s : Shp) (a : Nat) : s.useFrom a < 1000 := by unfold Shp.useFrom; split <;> omega
theorem view_small (s : Shp) (c : Int) : s.view0 c < 1000 ∧ s.view1 c < 1000 ∧ s.view2 c < 1000 := by
  unfold Shp.view0 Shp.view1 Shp.view2
  refine ⟨?_, ?_, ?_⟩ <;> split <;> first | exact use_small _ _ | exact from_small _ _
theorem need_small (c : Int) : need0 c < 1000 ∧ need1 c < 1000 ∧ need2 c < 1000 := by
  unfold need0 need1 need2
  refine ⟨?_, ?_, ?_⟩ <;> (repeat' split) <;> omega

theorem viewOf_code (q base off : Nat) (p : ShPtr) (s : Shp) (c : Nat) (w : World) (h : SbAt w base q off p s) (hs : s.Small) (hc : c < 20) :
    Calls Tryd.prog 41 #[.pointer (some ⟨q, off, none⟩), .int .i64 (takesOf c)] w (GivesV w (s.view0 (c : Int)) (s.view1 (c : Int)) (s.view2 (c : Int))) := by
  rw [takes_same c hc]
  unfold Shp.view0 Shp.view1 Shp.view2
  by_cases ht : takesN (c : Int) = -1
  · rw [if_pos ht, if_pos ht, if_pos ht, ht]
    exact viewOf_all q base off p s _ _ _ w h hs rfl rfl rfl
  · rw [if_neg ht, if_neg ht, if_neg ht]
    exact viewOf_top q base off p s _ _ _ _ w h hs ht rfl rfl rfl

set_option maxRecDepth 100000 in
set_option maxHeartbeats 4000000 in
theorem hasNeeded_no (q base off : Nat) (p : ShPtr) (s : Shp) (ar : Nat) (w : World) (h : SbAt w base q off p s) (hs : s.Small) (ha : ar < 20) (hm : s.memo.getD ar 0 < 0) :
    Calls Tryd.prog 37 #[.pointer (some ⟨q, off, none⟩), .agg #[.int .i64 16, .int .i64 (ar : Int)]] w fun e w' => e = .returned (.bool false) ∧ Below w.heap.size w w' := by
  have hB := hide ((Below.refl w.heap.size w).alloc (Nat.le_refl _) (.cells #[.int .i64 16, .int .i64 (ar : Int)] 38))
  have lo := Lies.new w #[.int .i64 16, .int .i64 (ar : Int)] 38
  have h2 := h.alloc (.cells #[.int .i64 16, .int .i64 (ar : Int)] 38)
  have hml := hs.ok.ml
  obtain ⟨x, hx⟩ : ∃ x, s.memo[ar]? = some x := ⟨_, List.getElem?_eq_getElem (by omega)⟩
  have hx1 := (hs.ok.mm x (List.mem_of_getElem? hx)).1
  have hgd : s.memo.getD ar 0 = x := by rw [List.getD_eq_getElem?_getD, hx]; rfl
  rw [hgd] at hm
  obtain rfl : x = -1 := by omega
  obtain ⟨gm, hM, hm1, hm2, hcm, hfm⟩ := h2.own.m.atJ hx
  obtain ⟨e0, e1, e2, e3, e4, f0, f1, f2, f3, f4⟩ := h2.c
  rw [hM] at e3
  have d0 := lo.cell 0
  have d1 := lo.cell 1
  simp only [List.getElem?_toArray, List.getElem?_cons_zero, List.getElem?_cons_succ] at d0 d1
  have hj0 : (0 : Int) ≤ (ar : Int) := by omega
  have hj1 : (ar : Int) < (s.memo.length : Int) := by omega
  clear h hs h2 hx hgd hml hM lo hm hx1
  go_enter Tryd.func37, Tryd.ntmps37
  go_upto_region 1 with fail
  generalize w.alloc (.cells #[.int .i64 16, .int .i64 (ar : Int)] 38) = W at hB e0 e1 e2 e3 e4 f0 f1 f2 f3 f4 d0 d1 hcm hfm hm2 ⊢
  go_quiet (fail)
  go_wp2
  go_ret
  exact ⟨rfl, below_drewN hB.out _⟩

end Go.Proofs.YtgjokdfjngpmcaaDoor

namespace Go.Proofs.YtgjokdfjngpmcaaDoor
open Go.RowKit
set_option linter.unusedVariables false


/-- a row behind an owned int slice -/
theorem OwnI.row {w : World} {base g : Nat} {c : Nat} {xs : List Int} (h : OwnI w base (some ⟨g, 0, none⟩) c xs) :
    ∃ (cap : Nat) (f : Nat → Value), w.rowIs g 3 cap f ∧ xs.length ≤ cap ∧ cap ≤ maxLen ∧ c = cap ∧ base ≤ g := by
  rcases h.own.2 with ⟨h1, _⟩ | ⟨g', cap, cur, hv, hg, hh, hn, hm, hs, _⟩
  · injection h1 with h1
    cases h1
  · injection hv with hv _ hc
    obtain rfl : g = g' := by simpa using hv
    refine ⟨cap, fun i => (cur[i]?).getD undef, ⟨cur, hh, by simpa using hs, fun i hi => ?_⟩, hn, hm, hc, hg⟩
    have : i < cur.size := by rw [hs]; omega
    show _ = some ((cur[i]?).getD undef)
    rw [Array.getElem?_eq_getElem this]; rfl

theorem OwnI.of_row {w : World} {base g cap : Nat} {f : Nat → Value} {xs : List Int} (h : w.rowIs g 3 cap f) (hl : xs.length ≤ cap) (hm : cap ≤ maxLen) (hb : base ≤ g) (hf : ∀ i x, xs[i]? = some x → f i = .int .i64 x) :
    OwnI w base (some ⟨g, 0, none⟩) cap xs := by
  obtain ⟨cur, hh, hs, hc⟩ := h
  refine ⟨⟨by simp, .inr ⟨g, cap, cur, rfl, hb, hh, hl, hm, by simpa using hs, ?_⟩⟩⟩
  apply List.ext_getElem?
  intro i
  rw [List.getElem?_take, List.getElem?_map]
  by_cases hi : i < xs.length
  · rw [if_pos (by omega), Array.getElem?_toList, hc i (by omega), List.getElem?_eq_getElem hi]
    simp [hf i _ (List.getElem?_eq_getElem hi)]
  · rw [if_neg (by omega), List.getElem?_eq_none (by omega)]
    rfl

end Go.Proofs.YtgjokdfjngpmcaaDoor
