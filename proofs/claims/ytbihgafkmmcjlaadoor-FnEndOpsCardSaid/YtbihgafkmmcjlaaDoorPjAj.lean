/-
  Lemmas, several texts in one: Forms, FormsL, NeedsL, TabL, SpecD, ShpM, MkL, EndL, EndK, ChkH, JoO, EoM.
-/
import Derived.Test.YtbihgafkmmcjlaaDoorPjAb
import Derived.Test.YtbihgafkmmcjlaaDoorPjAa
import Derived.LaidMore
import Derived.Test.YtbihgafkmmcjlaaDoorRows
import Derived.ProofKit
import Derived.OpenShut
import Derived.ChangeVars
import Derived.Stop.Joined
import Derived.Test.YtbihgafkmmcjlaaDoorPjAh
import Derived.Test.YtbihgafkmmcjlaaDoorPjAi
import Derived.StillTailTactics
import Derived.Test.YtbihgafkmmcjlaaDoorShpMa
import Derived.Test.YtbihgafkmmcjlaaDoorShpMb
import Derived.Test.YtbihgafkmmcjlaaDoorShpMc
import Derived.Test.YtbihgafkmmcjlaaDoorShpMd
import Derived.Test.YtbihgafkmmcjlaaDoorPjAg
import Derived.Test.YtbihgafkmmcjlaaDoorPjAe
import Derived.Deep.QuietTactic
import Derived.BigQuiet
namespace Go.Proofs.YtbihgafkmmcjlaaDoor
open Go.RowKit Go.ChangeShapes
def takesOf (c : Nat) : Int := [0, 0, 0, -1, 0, 1, 2, 0, 1, -1, 0, 2, -1, 0, 1, 0, 0, 1, -1, 0].getD c 0
def pushesOf (c : Nat) : Int := [1, 1, 1, 1, 1, 1, 1, 1, 0, 0, 1, 0, 0, 1, 0, 0, 1, 0, 0, 0].getD c 0
structure FormsAt (w : World) (B : Nat) : Prop where
  lt : 0 < B
  takes : ∀ c : Nat, c < 20 → w.cell? ⟨0, c * 3, none⟩ = some (.int .i64 (takesOf c))
  pushes : ∀ c : Nat, c < 20 → w.cell? ⟨0, c * 3 + 1, none⟩ = some (.int .i64 (pushesOf c))
  arg : ∀ c : Nat, c < 20 → w.cell? ⟨0, c * 3 + 2, none⟩ = some (.int .i64 (argTop c))
theorem FormsAt.below {w w' : World} {B : Nat} (h : FormsAt w B) (hb : Below B w w') : FormsAt w' B :=
  ⟨h.lt, fun c hc => (hb.cell (p := ⟨0, c * 3, none⟩) h.lt).trans (h.takes c hc), fun c hc => (hb.cell (p := ⟨0, c * 3 + 1, none⟩) h.lt).trans (h.pushes c hc), fun c hc => (hb.cell (p := ⟨0, c * 3 + 2, none⟩) h.lt).trans (h.arg c hc)⟩
theorem FormsAt.more {w : World} {B B' : Nat} (h : FormsAt w B) (hB : B ≤ B') : FormsAt w B' := ⟨Nat.lt_of_lt_of_le h.lt hB, h.takes, h.pushes, h.arg⟩
theorem FormsAt.later {w w' : World} {B : Nat} (h : FormsAt w B) (hb : Below B w w') (hB : B ≤ w.heap.size) : FormsAt w' w'.heap.size :=
  (h.below hb).more (Nat.le_trans hB hb.size)
end Go.Proofs.YtbihgafkmmcjlaaDoor

namespace Go.Proofs.YtbihgafkmmcjlaaDoor
open Go.ChangeShapes Go.WideShapes Go.ChangeAt Go.WideElems Go.RowKit
set_option linter.unusedVariables false
theorem gForms : Tryd.prog.globalNamed "loop.example/graphcode/impl.forms" = some 0 := by kernel_rfl
theorem tForms : (Tryd.prog.globals[0]?).map (·.type) = some 62 := by kernel_rfl
theorem cForm : Tryd.prog.cellsOf 61 = 3 := by kernel_rfl
theorem cForms : Tryd.prog.cellsOf 62 = 60 := by kernel_rfl
theorem cFormI : Tryd.prog.cellsOf 3 = 1 := by kernel_rfl
def formsD {H : Type} : DataW H := .agg ((List.range 20).map fun (c : Nat) => .agg [.lit (.int .i64 (takesOf c)), .lit (.int .i64 (pushesOf c)), .lit (.int .i64 (argTop c))])
theorem formsD_laid {H : Type} : (Rows.laid_loop_example_graphcode_impl_forms : DataW H) = formsD := rfl
theorem list3f {α : Type} (l : List α) (h : l.length = 3) : ∃ a b c, l = [a, b, c] := by
  match l, h with
  | [a, b, c], _ => exact ⟨a, b, c, rfl⟩
theorem formCells {H : Type} {enc : TypeId × Value → H} {W : World} {base : Nat} {spare : Nat → Bool} {held : Bool} {fuel : Nat} {cs : List Value} {y : DataW H × List MemPlace} (h : DataW.trod enc Tryd.prog W base spare held fuel 62 cs = some y) (hy : y.1 = formsD) :
    ∀ c : Nat, c < 20 → cs[c * 3]? = some (.int .i64 (takesOf c)) ∧ cs[c * 3 + 1]? = some (.int .i64 (pushesOf c)) ∧ cs[c * 3 + 2]? = some (.int .i64 (argTop c)) := by
  intro c hc
  obtain ⟨xs, m1, rfl, rfl, hlen, hn, hel⟩ := DataW.trod_array Tryd.underlying62 h
  rw [cForms] at hlen
  have h1 := hel c hc
  rw [cForm] at h1
  have hxs : ∃ x, xs[c]? = some x := ⟨_, List.getElem?_eq_getElem (by omega)⟩
  obtain ⟨x, hx⟩ := hxs
  rw [hx] at h1
  have hd : x.1 = .agg [.lit (.int .i64 (takesOf c)), .lit (.int .i64 (pushesOf c)), .lit (.int .i64 (argTop c))] := by
    simp only [formsD, DataW.agg.injEq] at hy
    have := congrArg (fun l => l[c]?) hy
    simp [hx, hc] at this
    exact this
  obtain ⟨ys, m2, _, rfl, hcl, hyl, hf⟩ := DataW.trod_struct Tryd.underlying61 h1
  obtain ⟨v0, v1, v2, hv⟩ := list3f _ (hcl.trans cForm)
  rw [hv] at hf
  have h0 : DataW.trod enc Tryd.prog W base spare held m2 3 (([v0, v1, v2].drop 0).take (Tryd.prog.cellsOf 3)) = ys[0]? := hf 0 _ rfl
  have h2 : DataW.trod enc Tryd.prog W base spare held m2 3 (([v0, v1, v2].drop 1).take (Tryd.prog.cellsOf 3)) = ys[1]? := hf 1 _ rfl
  have h3 : DataW.trod enc Tryd.prog W base spare held m2 3 (([v0, v1, v2].drop 2).take (Tryd.prog.cellsOf 3)) = ys[2]? := hf 2 _ rfl
  rw [cFormI] at h0 h2 h3
  simp only [List.drop_zero, List.drop_succ_cons, List.take_succ_cons, List.take_zero] at h0 h2 h3
  obtain ⟨z0, z1, z2, rfl⟩ := list3f ys hyl
  obtain ⟨a, ha, ha2, _⟩ := DataW.trod_int Tryd.underlying3 (show DataW.trod enc Tryd.prog W base spare held m2 3 [v0] = some z0 from h0)
  obtain ⟨b, hb, hb2, _⟩ := DataW.trod_int Tryd.underlying3 (show DataW.trod enc Tryd.prog W base spare held m2 3 [v1] = some z1 from h2)
  obtain ⟨d, hd3, hd2, _⟩ := DataW.trod_int Tryd.underlying3 (show DataW.trod enc Tryd.prog W base spare held m2 3 [v2] = some z2 from h3)
  simp at ha hb hd3
  subst ha
  subst hb
  subst hd3
  simp [ha2, hb2, hd2] at hd
  obtain ⟨rfl, rfl, rfl⟩ := hd
  have g0 : ((cs.drop (c * 3)).take 3)[0]? = some (.int .i64 (takesOf c)) := by rw [hv]; rfl
  have g1 : ((cs.drop (c * 3)).take 3)[1]? = some (.int .i64 (pushesOf c)) := by rw [hv]; rfl
  have g2 : ((cs.drop (c * 3)).take 3)[2]? = some (.int .i64 (argTop c)) := by rw [hv]; rfl
  rw [List.getElem?_take_of_lt (by omega), List.getElem?_drop] at g0 g1 g2
  exact ⟨g0, g1, g2⟩
theorem forms_of_var {W : World} {cs : Array Value} (hvar : W.var? Tryd.prog "loop.example/graphcode/impl.forms" = some cs) (h : ∀ c : Nat, c < 20 → cs.toList[c * 3]? = some (.int .i64 (takesOf c)) ∧ cs.toList[c * 3 + 1]? = some (.int .i64 (pushesOf c)) ∧ cs.toList[c * 3 + 2]? = some (.int .i64 (argTop c))) :
    FormsAt W W.heap.size := by
  have hc : ∀ i, W.cell? ⟨0, i, none⟩ = cs[i]? := World.var?_cell gForms hvar
  have h0 := (h 0 (by omega)).1
  refine ⟨World.block_lt_of_cell? (u := .int .i64 (takesOf 0)) W ⟨0, 0, none⟩ ?_, fun c hcl => ?_, fun c hcl => ?_, fun c hcl => ?_⟩
  · rw [hc, ← Array.getElem?_toList]; exact h0
  · rw [hc, ← Array.getElem?_toList]; exact (h c hcl).1
  · rw [hc, ← Array.getElem?_toList]; exact (h c hcl).2.1
  · rw [hc, ← Array.getElem?_toList]; exact (h c hcl).2.2
end Go.Proofs.YtbihgafkmmcjlaaDoor

namespace Go.Proofs.YtbihgafkmmcjlaaDoor
open Go.ChangeShapes Go.WideShapes Go.ChangeAt Go.WideElems Go.RowKit
set_option linter.unusedVariables false
theorem gNeeds : Tryd.prog.globalNamed "loop.example/graphcode/impl.needs" = some 1 := by kernel_rfl
theorem tNeeds : (Tryd.prog.globals[1]?).map (·.type) = some 79 := by kernel_rfl
theorem cView : Tryd.prog.cellsOf 78 = 3 := by kernel_rfl
theorem cNeeds : Tryd.prog.cellsOf 79 = 60 := by kernel_rfl
theorem cViewI : Tryd.prog.cellsOf 3 = 1 := by kernel_rfl
def needsD {H : Type} : DataW H := .agg ((List.range 20).map fun (c : Nat) => .agg [.lit (.int .i64 (need0 (c : Int) : Int)), .lit (.int .i64 (need1 (c : Int) : Int)), .lit (.int .i64 (need2 (c : Int) : Int))])
theorem needsD_laid {H : Type} : (Rows.laid_loop_example_graphcode_impl_needs : DataW H) = needsD := rfl
theorem list3n {α : Type} (l : List α) (h : l.length = 3) : ∃ a b c, l = [a, b, c] := by
  match l, h with
  | [a, b, c], _ => exact ⟨a, b, c, rfl⟩
set_option maxRecDepth 100000 in
theorem needCells {H : Type} {enc : TypeId × Value → H} {W : World} {base : Nat} {spare : Nat → Bool} {held : Bool} {fuel : Nat} {cs : List Value} {y : DataW H × List MemPlace} (h : DataW.trod enc Tryd.prog W base spare held fuel 79 cs = some y) (hy : y.1 = needsD) :
    ∀ c : Nat, c < 20 → cs[c * 3]? = some (.int .i64 (need0 (c : Int) : Int)) ∧ cs[c * 3 + 1]? = some (.int .i64 (need1 (c : Int) : Int)) ∧ cs[c * 3 + 2]? = some (.int .i64 (need2 (c : Int) : Int)) := by
  intro c hc
  obtain ⟨xs, m1, rfl, rfl, hlen, hn, hel⟩ := DataW.trod_array Tryd.underlying79 h
  rw [cNeeds] at hlen
  have h1 := hel c hc
  rw [cView] at h1
  have hxs : ∃ x, xs[c]? = some x := ⟨_, List.getElem?_eq_getElem (by omega)⟩
  obtain ⟨x, hx⟩ := hxs
  rw [hx] at h1
  have hd : x.1 = .agg [.lit (.int .i64 (need0 (c : Int) : Int)), .lit (.int .i64 (need1 (c : Int) : Int)), .lit (.int .i64 (need2 (c : Int) : Int))] := by
    simp only [needsD, DataW.agg.injEq] at hy
    have := congrArg (fun l => l[c]?) hy
    simp [hx, hc] at this
    exact this
  obtain ⟨ys, m2, rfl, rfl, hcl, hyl, hf⟩ := DataW.trod_array Tryd.underlying78 h1
  obtain ⟨v0, v1, v2, hv⟩ := list3n _ (hcl.trans cView)
  rw [hv] at hf
  have h0 := hf 0 (by omega)
  have h2 := hf 1 (by omega)
  have h3 := hf 2 (by omega)
  rw [cViewI] at h0 h2 h3
  simp only [Nat.mul_one] at h0 h2 h3
  simp only [List.drop_zero, List.drop_succ_cons, List.take_succ_cons, List.take_zero] at h0 h2 h3
  obtain ⟨z0, z1, z2, rfl⟩ := list3n ys hyl
  obtain ⟨a, ha, ha2, _⟩ := DataW.trod_int Tryd.underlying3 (show DataW.trod enc Tryd.prog W base spare held m2 3 [v0] = some z0 from h0)
  obtain ⟨b, hb, hb2, _⟩ := DataW.trod_int Tryd.underlying3 (show DataW.trod enc Tryd.prog W base spare held m2 3 [v1] = some z1 from h2)
  obtain ⟨d, hd3, hd2, _⟩ := DataW.trod_int Tryd.underlying3 (show DataW.trod enc Tryd.prog W base spare held m2 3 [v2] = some z2 from h3)
  simp at ha hb hd3
  subst ha
  subst hb
  subst hd3
  simp [ha2, hb2, hd2] at hd
  obtain ⟨rfl, rfl, rfl⟩ := hd
  have g0 : ((cs.drop (c * 3)).take 3)[0]? = some (.int .i64 (need0 (c : Int) : Int)) := by rw [hv]; rfl
  have g1 : ((cs.drop (c * 3)).take 3)[1]? = some (.int .i64 (need1 (c : Int) : Int)) := by rw [hv]; rfl
  have g2 : ((cs.drop (c * 3)).take 3)[2]? = some (.int .i64 (need2 (c : Int) : Int)) := by rw [hv]; rfl
  rw [List.getElem?_take_of_lt (by omega), List.getElem?_drop] at g0 g1 g2
  exact ⟨g0, g1, g2⟩
theorem needs_of_var {W : World} {cs : Array Value} (hvar : W.var? Tryd.prog "loop.example/graphcode/impl.needs" = some cs) (h : ∀ c : Nat, c < 20 → cs.toList[c * 3]? = some (.int .i64 (need0 (c : Int) : Int)) ∧ cs.toList[c * 3 + 1]? = some (.int .i64 (need1 (c : Int) : Int)) ∧ cs.toList[c * 3 + 2]? = some (.int .i64 (need2 (c : Int) : Int))) :
    NeedsAt W W.heap.size := by
  have hc : ∀ i, W.cell? ⟨1, i, none⟩ = cs[i]? := World.var?_cell gNeeds hvar
  have h0 := (h 0 (by omega)).1
  refine ⟨World.block_lt_of_cell? (u := .int .i64 (need0 (0 : Nat) : Int)) W ⟨1, 0, none⟩ ?_, fun c hcl => ?_, fun c hcl => ?_, fun c hcl => ?_⟩
  · rw [hc, ← Array.getElem?_toList]; exact h0
  · rw [hc, ← Array.getElem?_toList]; exact (h c hcl).1
  · rw [hc, ← Array.getElem?_toList]; exact (h c hcl).2.1
  · rw [hc, ← Array.getElem?_toList]; exact (h c hcl).2.2
end Go.Proofs.YtbihgafkmmcjlaaDoor

namespace Go.Proofs.YtbihgafkmmcjlaaDoor
open Go.ChangeShapes Go.WideShapes Go.ChangeAt Go.WideElems Go.RowKit
set_option linter.unusedVariables false
theorem tables_of_laid {W : World} (h : laidMetH Tryd.prog [("loop.example/graphcode/impl.forms", Rows.laid_loop_example_graphcode_impl_forms), ("loop.example/graphcode/impl.needs", Rows.laid_loop_example_graphcode_impl_needs)] W) : FormsAt W W.heap.size ∧ NeedsAt W W.heap.size := by
  rw [MakeChecks.laidMetH_plain _ _ _ (by kernel_rfl)] at h
  obtain ⟨ps, ⟨g0, t0, cs0, f0, p0, q0, hg0, ht0, hv0, hd0, ⟨g1, t1, cs1, f1, p1, q1, hg1, ht1, hv1, hd1, _⟩, _⟩, _⟩ := h
  obtain rfl := Option.some.inj (gForms.symm.trans hg0)
  obtain rfl := Option.some.inj (tForms.symm.trans ht0)
  obtain rfl := Option.some.inj (gNeeds.symm.trans hg1)
  obtain rfl := Option.some.inj (tNeeds.symm.trans ht1)
  exact ⟨forms_of_var hv0 (formCells hd0 formsD_laid), needs_of_var hv1 (needCells hd1 needsD_laid)⟩
end Go.Proofs.YtbihgafkmmcjlaaDoor

namespace Go.Proofs.YtbihgafkmmcjlaaDoor
open Go.RowKit
set_option linter.unusedVariables false
def GivesReach (w : World) (ns : List Nd) (i : Int) (e : Ending) (w' : World) : Prop :=
  ∃ A c out, e = .returned (.slice A out.length c) ∧ OwnI w' w.heap.size A c out ∧ Below w.heap.size w w' ∧ (∀ x, x ∈ out ↔ TReach ns i x) ∧ (∀ x ∈ out, 0 ≤ x ∧ x < ns.length) ∧ out.length ≤ ns.length
def KidsOk (ns : List Nd) : Prop := ns.length ≤ 12 ∧ ∀ n ∈ ns, n.kids.length ≤ 6 ∧ ∀ x ∈ n.kids, 0 ≤ x ∧ x < ns.length
theorem in64_of_range {ns : List Nd} {out : List Int} (h12 : ns.length ≤ 12) (h : ∀ x ∈ out, 0 ≤ x ∧ x < ns.length) : ∀ x ∈ out, In64 x := fun x hx => by
  have := h x hx
  constructor <;> omega
set_option maxRecDepth 100000 in
set_option maxHeartbeats 4000000 in
theorem tupleReach_any (A : Option Addr) (ns : List Nd) (c : Nat) (r : Int) (i : Nat) (w : World) (hr : NdsAt w w.heap.size A ns) (hko : KidsOk ns) (hi : i < ns.length) :
    Calls Tryd.prog 69 #[.agg #[.slice A ns.length c, .int .i64 r], .int .i64 (i : Int)] w (GivesReach w ns i) := by
  obtain ⟨h12, hkids0⟩ := hko
  have hkids := hide hkids0
  clear hkids0
  have hB : Below w.heap.size w ((w.alloc (.cells #[.slice A ns.length c, .int .i64 r] 49)).alloc (.cells #[] 3)) := ((Below.refl _ _).alloc (Nat.le_refl _) _).alloc (by simp) _
  have l1 := (Lies.new w #[.slice A ns.length c, .int .i64 r] 49).alloc (.cells #[] 3)
  have hr2 := hr.below hB
  have hbare := OwnI.bare (w.alloc (.cells #[.slice A ns.length c, .int .i64 r] 49))
  simp only [World.size_alloc] at hbare
  clear hr
  have hi1 : (0 : Int) ≤ (i : Int) := by omega
  have hi2 : (i : Int) < (ns.length : Int) := by omega
  obtain ⟨b, off, n, rfl, hbl, hat, hmem, hN⟩ := hr2.at_ hi
  obtain ⟨hn_k, hn_v, ⟨A1, c1, hn_s, hI1', hnil1⟩, _, _⟩ := hN
  have hI1 := hI1'.more hB.size
  clear hI1'
  obtain ⟨hkn, hkr0⟩ := hkids.out n hmem
  have hkr := hide hkr0
  have hki := hide (kidsOf_at hat)
  clear hat hmem hn_k hn_v hkr0
  go_enter Tryd.func69, Tryd.ntmps69
  go_wp2_with fail
  generalize hWd : (w.alloc (.cells #[.slice (some ⟨b, off, none⟩) ns.length c, .int .i64 r] 49)).alloc (.cells #[] 3) = W at hB l1 hr2 hbl hn_s hI1 hbare ⊢
  have hWs : w.heap.size + 2 = W.heap.size := by rw [← hWd]; simp
  have HWs := hide hWs
  clear hWd hWs
  refine (copyInts_any A1 n.kids c1 W hI1 hnil1 (by omega)).mono ?_
  rintro e w1 ⟨Al, cl, rfl, hlist, hb1⟩
  go_wp2_with fail
  go_loopw [5, 6, 7] (fun o l iv wr => ∃ (out list : List Int) (Ao Al : Option Addr) (co cl k : Nat), o = .slice Ao out.length co ∧ l = .slice Al list.length cl ∧ iv = .int .i64 k ∧ k ≤ list.length ∧
      OwnI wr (w.heap.size + 1) Ao co out ∧ OwnI wr (w.heap.size + 1) Al cl list ∧ Below (w.heap.size + 1) W wr ∧ (∀ g, blockOf Ao = some g → blockOf Al ≠ some g) ∧ TInv ns i out list k) (fun _ _ iv _ => 79 - (intOf iv).toNat)
  case atStart =>
    refine ⟨[], n.kids, _, Al, _, cl, 0, rfl, rfl, rfl, Nat.zero_le _, hbare.below hb1, hlist.mono (by have := HWs.out; omega), hb1.mono (by have := HWs.out; omega), ?_, ?_⟩
    · intro g hg hg2
      simp [blockOf] at hg
      have := hlist.blocks g hg2
      have := HWs.out
      omega
    · have := TInv.start (ns := ns) (i := i) (by rw [hki.out]; exact hkn) (by rw [hki.out]; exact hkr.out)
      rw [hki.out] at this
      exact this
  case round =>
    obtain ⟨out, list, Ao, Al', co, cl', k, rfl, rfl, rfl, hkl, hout, hli, hb, hap0, hinv⟩ := hrel
    clear hlist hbare hb1 hn_s hI1
    have hap := hide hap0
    clear hap0
    have hsz : w.heap.size + 2 ≤ wr.heap.size := by have := hb.size; have := HWs.out; omega
    have Hinv := hide hinv
    have hk78 := hinv.listLen h12
    have ho12 := hinv.outLen
    have wfo : ∀ x ∈ out, In64 x := in64_of_range h12 fun x hx => hinv.range x (hinv.sub x hx)
    have wfl : ∀ x ∈ list, In64 x := in64_of_range h12 hinv.range
    have hio := hout.ints wfo (by omega)
    have hil := hli.ints wfl (by omega)
    have Wfo := hide wfo
    have Wfl := hide wfl
    clear hinv wfo wfl
    have l1r := l1.below hb (by omega)
    have e0 := l1r.cell 0
    simp at e0
    by_cases hlt : k < list.length
    · obtain ⟨b2, off2, x, rfl, hbl2, hx, hxm, hcx⟩ := hil.at_ hlt
      obtain ⟨hx0, hx1⟩ := Hinv.out.range x hxm
      obtain ⟨y, rfl⟩ := Int.eq_ofNat_of_zero_le hx0
      have Hx := hide hx
      clear hx hxm
      have hk1 : (0 : Int) ≤ (k : Int) := by omega
      have hk2 : (k : Int) < (list.length : Int) := by omega
      go_wp2_with fail
      refine (placeIn_any Ao out co y wr hio).mono ?_
      rintro e w' ⟨rfl, rfl⟩
      by_cases hmem : (y : Int) ∈ out
      · have hp := place_lt hmem
        have hd : decide (place out y < 0) = false := by simp; omega
        generalize place out y = pl at hp hd ⊢
        have Hn := hide (Hinv.out.seen Hx.out hmem)
        clear hmem
        go_wp2
        go_roundw
        case rel => exact ⟨out, list, Ao, _, co, cl', k + 1, rfl, rfl, by go_num, by omega, hout, hli, hb, hap.out, Hn.out⟩
        case measure => simp [intOf]; omega
      · rw [place_neg hmem]
        have hIone := IntsAt.one wr y (by constructor <;> omega)
        go_wp2_with (at_builtin; refine append_ints rfl (.tmp 29) (.tmp 34) rfl (w.heap.size + 1) Ao co out rfl (hout.alloc _) (wr.heap.size + 1) _ 1 [(y : Int)] rfl (fun e => by cases e) hIone (by simp; omega) (by simp; omega) ?_; intro zs A' c' w2 hz hown2 hg2 hat2)
        have hb2 : Below (w.heap.size + 1) W w2 := below_grown (hb.alloc (by omega) _) hg2 (by simp; omega) (fun k hk => (hout.blocks k hk).1)
        have hli2 : OwnI w2 (w.heap.size + 1) (some ⟨b2, off2, none⟩) cl' list := (hli.alloc _).kept hg2 (.inr (fun e => hap.out b2 (by rw [← e]; simp [blockOf]) (by simp [blockOf])))
        have hap2 : Hid (∀ g, blockOf A' = some g → blockOf (some (⟨b2, off2, none⟩ : Addr)) ≠ some g) := by
          intro g hg e
          rcases hat2 with h | h
          · exact hap.out g (by rw [← h]; exact hg) e
          · simp only [World.size_alloc] at h
            have := hli.blocks b2 (by simp [blockOf])
            rw [hg] at h
            simp [blockOf] at e h
            omega
        clear hat2 hg2 hio hIone hap hout hli hil e0 l1r
        have hil2 := hli2.ints Wfl.out (by omega)
        have e0 := (l1.below hb2 (by omega)).cell 0
        simp at e0
        obtain ⟨_, _, _, he2, _, hx2, _, hcx2⟩ := hil2.at_ hlt
        simp only [Option.some.injEq, Addr.mk.injEq, and_true] at he2
        obtain ⟨rfl, rfl⟩ := he2
        obtain rfl := Option.some.inj (hx2.symm.trans Hx.out)
        obtain ⟨b3, off3, m, he3, hbl3, hat3, hmm, hM⟩ := (hr2.below (hb2.mono (by omega))).at_ (k := y) (by omega)
        simp only [Option.some.injEq, Addr.mk.injEq, and_true] at he3
        obtain ⟨rfl, rfl⟩ := he3
        obtain ⟨hm_k, hm_v, ⟨A2, c2, hm_s, hI2', hnil2⟩, _, _⟩ := hM
        have hI2 := hI2'.more (show w.heap.size ≤ w2.heap.size by have := hB.size; have := hb2.size; omega)
        clear hI2'
        obtain ⟨hkm, hkr0'⟩ := hkids.out m hmm
        have hkr2 := hide hkr0'
        have hkk := hide (kindOf_at hat3)
        have hkk2 := hide (kidsOf_at hat3)
        clear hx2 hat3 hmm hkr0' hm_v hcx
        have hy1 : (0 : Int) ≤ (y : Int) := by omega
        have hb3 : Below (w.heap.size + 1) W w2.drew := hb2.drew
        have hown3 := hown2.drew
        have hli3 := hli2.drew
        have hI3 : IntsAt w2.drew w2.drew.heap.size A2 m.kids := hI2.later (Below.refl _ _).drew (Nat.le_refl _)
        have f0 : w2.drew.cell? ⟨w.heap.size, 0, none⟩ = some (.slice (some ⟨b, off, none⟩) ns.length c) := e0
        have f1 : w2.drew.cell? ⟨b2, off2 + k, none⟩ = some (.int .i64 (y : Int)) := hcx2
        have f2 : w2.drew.cell? ⟨b, off + y * 3 + 2, none⟩ = some (.slice A2 m.kids.length c2) := hm_s
        have f3 : w2.drew.cell? ⟨b, off + y * 3, none⟩ = some (.int .i64 m.kind) := hm_k
        by_cases h2 : m.kind = 2
        · have t2 : (m.kind == 2) = true := by rw [beq_iff_eq]; exact h2
          have Hn := hide (Hinv.out.tuple Hx.out hmem (by rw [hkk.out]; exact h2) (by rw [hkk2.out]; exact hkm) (by rw [hkk2.out]; exact hkr2.out))
          clear hmem h2
          go_wp2_with fail
          go_still_tail 9, (by kernel_rfl)
          change wpList _ _ _ _ _ w2.drew
          generalize w2.drew = w3 at hb3 hown3 hli3 hI3 f0 f1 f2 f3 ⊢
          clear hb2 hown2 hli2 hI2 e0 hcx2 hm_s hm_k hil2
          have hb4 : Below (w.heap.size + 1) W w3.drew := hb3.drew
          have hown4 := hown3.drew
          have hli4 := hli3.drew
          have hI4 : IntsAt w3.drew w3.drew.heap.size A2 m.kids := hI3.later (Below.refl _ _).drew (Nat.le_refl _)
          go_wp2_with fail
          go_still_tail 10, (by kernel_rfl)
          change wpList _ _ _ _ _ w3.drew
          generalize w3.drew = w4 at hb4 hown4 hli4 hI4 ⊢
          clear hb3 hown3 hli3 hI3 f0 f1 f2 f3
          go_wp2_with (at_builtin; refine append_ints rfl (.tmp 46) (.tmp 55) rfl (w.heap.size + 1) _ cl' list rfl hli4 _ A2 c2 m.kids rfl hnil2 hI4 (by omega) (by have := hb4.size; have := HWs.out; omega) ?_; intro ls Al2 cl2 w5 hls hown5 hg5 hat5)
          go_roundw
          case rel =>
            refine ⟨zs, ls, A', Al2, c', cl2, k + 1, rfl, rfl, by go_num, ?_, ?_, hown5, ?_, ?_, ?_⟩
            · rw [hls.out]; simp; omega
            · exact hown4.kept hg5 (by
                cases hA : blockOf A' with
                | none => exact .inl rfl
                | some g => exact .inr (fun e => hap2.out g hA e.symm))
            · exact below_grown hb4 hg5 (by have := hb4.size; have := HWs.out; omega) (fun k hk => (hli4.blocks k hk).1)
            · intro g hg e
              rcases hat5 with h | h
              · exact hap2.out g hg (by rw [← h]; exact e)
              · rw [h] at e
                have := hown4.blocks g hg
                simp at e
                omega
            · rw [hz.out, hls.out, ← hkk2.out]
              exact Hn.out
          case measure => simp [intOf]; omega
        · have t2 : (m.kind == 2) = false := by rw [beq_eq_false_iff_ne]; exact h2
          have Hn := hide (Hinv.out.leaf Hx.out hmem (by rw [hkk.out]; exact h2))
          clear hmem h2
          go_wp2_with fail
          go_still_tail 9, (by kernel_rfl)
          change wpList _ _ _ _ _ w2.drew
          generalize w2.drew = w3 at hb3 hown3 hli3 ⊢
          clear hb2 hown2 hli2 hI2 e0 hcx2 hm_s hm_k hil2 f0 f1 f2 f3
          go_wp2
          go_roundw
          case rel => exact ⟨zs, list, A', _, c', cl', k + 1, rfl, rfl, by go_num, by omega, hown3, hli3, hb3, hap2.out, by rw [hz.out]; exact Hn.out⟩
          case measure => simp [intOf]; omega
    · obtain rfl : k = list.length := by omega
      have HF := hide Hinv.out.all
      have HR := hide (show ∀ x ∈ out, 0 ≤ x ∧ x < (ns.length : Int) from fun x hx => Hinv.out.range x (Hinv.out.sub x hx))
      clear hlt hil hio
      go_wp2
      go_ret
      exact ⟨Ao, co, out, rfl, hout.mono (by omega), hB.trans (hb.mono (by omega)), HF.out, HR.out, ho12⟩
end Go.Proofs.YtbihgafkmmcjlaaDoor

namespace Go.Proofs.YtbihgafkmmcjlaaDoor
open Go.RowKit
theorem markShapes_any (p : ShPtr) (s : Shp) (c : Int) (base : Nat) (w : World) (h : ShOwn w base p s) (hbase : base ≤ w.heap.size) (hs : s.Small) (hc : IsMarkOp c) :
    Calls Tryd.prog 52 #[shVal p s, .int .i64 c] w (TriesSh w p base (markStep s c)) := by
  rcases hc with rfl | rfl | rfl | rfl
  · exact markShapes_3 p s base w h hbase hs
  · exact markShapes_9 p s base w h hbase hs
  · exact markShapes_12 p s base w h hbase hs
  · exact markShapes_18 p s base w h hbase hs
end Go.Proofs.YtbihgafkmmcjlaaDoor

namespace Go.Proofs.YtbihgafkmmcjlaaDoor
set_option linter.unusedVariables false
set_option linter.unusedSimpArgs false
theorem marksIn_append (a b : List Int) : marksIn (a ++ b) = marksIn a + marksIn b := by simp [marksIn]
theorem marksIn_free {l : List Int} (h : ∀ x ∈ l, 0 ≤ x) : marksIn l = 0 := by
  unfold marksIn
  rw [List.length_eq_zero_iff, List.filter_eq_nil_iff]
  intro x hx
  have := h x hx
  simp
  omega
theorem marksIn_one (x : Int) : marksIn [x] = if x < 0 then 1 else 0 := by
  unfold marksIn
  by_cases h : x < 0 <;> simp [h]
theorem marks_above {l : List Int} {a : Nat} (h : above l = a + 1) : marksIn l = marksIn (l.take a) + 1 := by
  have hle := above_le l
  have hm := above_mark h
  have hlt : a < l.length := by omega
  have e : l = l.take a ++ ([l[a]] ++ l.drop (a + 1)) := by
    rw [List.singleton_append, ← List.drop_eq_getElem_cons hlt, List.take_append_drop]
  have hg : l.getD a 0 = l[a] := by rw [List.getD_eq_getElem?_getD, List.getElem?_eq_getElem hlt]; rfl
  have hf : marksIn (l.drop (a + 1)) = 0 := marksIn_free fun x hx => by
    obtain ⟨i, hi, he⟩ := List.getElem_of_mem hx
    rw [List.length_drop] at hi
    have := above_free (l := l) (j := a + 1 + i) (by omega) (by omega)
    rw [List.getElem_drop] at he
    rw [List.getD_eq_getElem?_getD, List.getElem?_eq_getElem (by omega)] at this
    simp only [Option.getD_some, he] at this
    exact this
  conv => { lhs; rw [e] }
  rw [marksIn_append, marksIn_append, marksIn_one, hf, if_pos (by rw [← hg]; exact hm)]
def dMark (c : Int) : Int := if c = 2 then 1 else if c = 3 ∨ c = 9 ∨ c = 12 ∨ c = 18 then -1 else 0
end Go.Proofs.YtbihgafkmmcjlaaDoor

namespace Go.Proofs.YtbihgafkmmcjlaaDoor
set_option linter.unusedVariables false
open Classical in
noncomputable def endOp (l : List Int) : Od := if ∃ x ∈ l, x < 0 then ⟨3, 0⟩ else if 1 < l.length then ⟨6, 0⟩ else if l.length = 0 then ⟨4, 0⟩ else ⟨19, 0⟩
theorem negs_marks (l : List Int) : ∀ k, k ≤ l.length → negs l k = marksIn (l.take k)
  | 0, _ => by simp [negs, marksIn]
  | k + 1, hk => by
    have hlt : k < l.length := by omega
    rw [negs, negs_marks l k (by omega), List.take_succ_eq_append_getElem hlt, marksIn_append, marksIn_one, List.getD_eq_getElem?_getD, List.getElem?_eq_getElem hlt]
    rfl
theorem negs_all (l : List Int) : negs l l.length = marksIn l := by rw [negs_marks l _ (Nat.le_refl _), List.take_length]
theorem marksIn_pos {l : List Int} : 0 < marksIn l ↔ ∃ x ∈ l, x < 0 := by
  unfold marksIn
  rw [List.length_pos_iff_exists_mem]
  constructor
  · rintro ⟨x, hx⟩
    rw [List.mem_filter] at hx
    exact ⟨x, hx.1, by simpa using hx.2⟩
  · rintro ⟨x, hx, h⟩
    exact ⟨x, List.mem_filter.2 ⟨hx, by simpa using h⟩⟩
theorem free_pos {a : List Int} (b : List Int) (h : ∀ x ∈ a, 0 ≤ x) : free (a ++ b) = a.length + free b := by
  induction a with
  | nil => simp
  | cons x a ih =>
    rw [List.cons_append, free, if_pos (h x (by simp)), ih (fun y hy => h y (by simp [hy])), List.length_cons]
    omega
theorem free_neg {a : List Int} (b : List Int) (h : ∃ x ∈ a, x < 0) : free (a ++ b) = free a := by
  induction a with
  | nil => obtain ⟨x, hx, _⟩ := h; cases hx
  | cons x a ih =>
    rw [List.cons_append, free, free]
    by_cases hx : 0 ≤ x
    · rw [if_pos hx, if_pos hx, ih]
      obtain ⟨y, hy, h2⟩ := h
      rcases List.mem_cons.1 hy with rfl | hy
      · omega
      · exact ⟨y, hy, h2⟩
    · rw [if_neg hx, if_neg hx]
theorem free_own {a : List Int} (h : ∀ x ∈ a, 0 ≤ x) : free a = a.length := by
  have := free_pos [] h
  simpa [free] using this
def things (l : List Int) : Nat := free l + (if 0 < marksIn l then 1 else 0)
theorem tailOps_is (l : List Int) : tailOps l = List.replicate (marksIn l) ⟨3, 0⟩ ++ List.replicate (things l - 1) ⟨6, 0⟩ ++ (if things l = 0 then [⟨4, 0⟩] else []) ++ [⟨19, 0⟩] := by
  unfold tailOps things
  rw [negs_all]
theorem no_marks {l : List Int} (h : ¬ ∃ x ∈ l, x < 0) : marksIn l = 0 ∧ things l = l.length ∧ ∀ x ∈ l, 0 ≤ x := by
  have h0 : ∀ x ∈ l, 0 ≤ x := fun x hx => by
    rcases Int.lt_or_le x 0 with h2 | h2
    · exact absurd ⟨x, hx, h2⟩ h
    · exact h2
  have hm := marksIn_free h0
  refine ⟨hm, ?_, h0⟩
  unfold things
  rw [hm, free_own h0, if_neg (by omega), Nat.add_zero]
theorem close_mark {l : List Int} {a : Nat} (h : above l = a + 1) {x : Int} (hx : 0 ≤ x) : marksIn l = marksIn (l.take a ++ [x]) + 1 ∧ things (l.take a ++ [x]) = things l := by
  have hm := marks_above h
  have h1 : marksIn (l.take a ++ [x]) = marksIn (l.take a) := by rw [marksIn_append, marksIn_one, if_neg (by omega), Nat.add_zero]
  refine ⟨by rw [h1, hm], ?_⟩
  have hle := above_le l
  have hlt : a < l.length := by omega
  have hmk := above_mark h
  have hsplit : l = l.take a ++ l.drop a := (List.take_append_drop a l).symm
  have hd : free (l.drop a) = 0 := by
    rw [List.drop_eq_getElem_cons hlt, free, if_neg]
    rw [List.getD_eq_getElem?_getD, List.getElem?_eq_getElem hlt] at hmk
    simp only [Option.getD_some] at hmk
    omega
  unfold things
  rw [h1, hm]
  by_cases hc : ∃ y ∈ l.take a, y < 0
  · rw [free_neg [x] hc, if_pos (marksIn_pos.2 hc), if_pos (by omega)]
    conv => { rhs; rw [hsplit] }
    rw [free_neg _ hc]
  · obtain ⟨h2, _, h4⟩ := no_marks hc
    rw [free_pos [x] h4, h2, if_neg (by omega), if_pos (by omega)]
    conv => { rhs; rw [hsplit] }
    rw [free_pos _ h4, hd]
    have : free [x] = 1 := by rw [free, if_pos hx]; rfl
    rw [this]
theorem tail_mark {l : List Int} {a : Nat} (h : above l = a + 1) {x : Int} (hx : 0 ≤ x) : tailOps l = ⟨3, 0⟩ :: tailOps (l.take a ++ [x]) := by
  obtain ⟨h1, h2⟩ := close_mark h hx
  rw [tailOps_is, tailOps_is, h1, h2, List.replicate_succ]
  rfl
theorem tail_two {l : List Int} (h : ¬ ∃ x ∈ l, x < 0) (h1 : 1 < l.length) {x : Int} (hx : 0 ≤ x) : tailOps l = ⟨6, 0⟩ :: tailOps (l.take (l.length - 2) ++ [x]) := by
  obtain ⟨m1, t1, p1⟩ := no_marks h
  have hn : ¬ ∃ y ∈ l.take (l.length - 2) ++ [x], y < 0 := by
    rintro ⟨y, hy, h2⟩
    rcases List.mem_append.1 hy with hy | hy
    · exact h ⟨y, List.mem_of_mem_take hy, h2⟩
    · simp at hy; omega
  obtain ⟨m2, t2, _⟩ := no_marks hn
  have hl : (l.take (l.length - 2) ++ [x]).length = l.length - 1 := by simp; omega
  rw [tailOps_is, tailOps_is, m1, m2, t1, t2, hl, if_neg (by omega), if_neg (by omega)]
  have e : l.length - 1 = (l.length - 1 - 1) + 1 := by omega
  conv => { lhs; rw [e, List.replicate_succ] }
  rfl
theorem tail_none {x : Int} (hx : 0 ≤ x) : tailOps [] = ⟨4, 0⟩ :: tailOps [x] := by
  have hn : ¬ ∃ y ∈ [x], y < 0 := by rintro ⟨y, hy, h2⟩; simp at hy; omega
  obtain ⟨m2, t2, _⟩ := no_marks hn
  have hn0 : ¬ ∃ y ∈ ([] : List Int), y < 0 := by rintro ⟨y, hy, h2⟩; cases hy
  obtain ⟨m1, t1, _⟩ := no_marks hn0
  rw [tailOps_is, tailOps_is, m1, m2, t1, t2]
  rfl
theorem tail_one {l : List Int} (h : ¬ ∃ x ∈ l, x < 0) (h1 : l.length = 1) : tailOps l = [⟨19, 0⟩] := by
  obtain ⟨m1, t1, _⟩ := no_marks h
  rw [tailOps_is, m1, t1, h1]
  rfl
end Go.Proofs.YtbihgafkmmcjlaaDoor

namespace Go.Proofs.YtbihgafkmmcjlaaDoor
set_option linter.unusedVariables false
theorem thing_free {s : Shp} (h : ∀ x ∈ s.stack, 0 ≤ x) {d : Nat} (hd : d < s.stack.length) : 0 ≤ s.thing d := by
  unfold Shp.thing
  rw [if_pos hd, List.getD_eq_getElem?_getD, List.getElem?_eq_getElem (by omega)]
  exact h _ (List.getElem_mem _)
theorem above_has {l : List Int} (h : ∃ x ∈ l, x < 0) : above l ≠ 0 := by
  intro h0
  obtain ⟨x, hx, hn⟩ := h
  obtain ⟨j, hj, e⟩ := List.getElem_of_mem hx
  have := above_free (l := l) (j := j) (by omega) hj
  rw [List.getD_eq_getElem?_getD, List.getElem?_eq_getElem hj] at this
  simp only [Option.getD_some] at this
  omega
theorem end_step {s : Shp} (h : s.Ok) (hd : s.done = false) : ∃ t, stepFree s (endOp s.stack) = some t ∧
    ((t.done = true ∧ tailOps s.stack = [endOp s.stack]) ∨ (t.done = false ∧ tailOps s.stack = endOp s.stack :: tailOps t.stack)) := by
  have hnd : ¬ s.done = true := by rw [hd]; decide
  by_cases hm : ∃ x ∈ s.stack, x < 0
  · have ha := above_has hm
    obtain ⟨a, haa⟩ : ∃ a, above s.stack = a + 1 := ⟨above s.stack - 1, by omega⟩
    have e : endOp s.stack = ⟨3, 0⟩ := by unfold endOp; rw [if_pos hm]
    rw [e]
    refine ⟨(s.cutTo (above s.stack - 1)).push 2, ?_, .inr ⟨hd, ?_⟩⟩
    · unfold stepFree
      rw [if_neg hnd, if_neg (by decide), if_neg (by decide), if_neg (by decide), if_pos (show IsMarkOp 3 from .inl rfl)]
      unfold markStep
      rw [if_neg ha, if_pos rfl]
    · rw [tail_mark haa (x := (s.kinds.length : Int)) (by omega), haa]
      rfl
  · obtain ⟨_, _, hp⟩ := no_marks hm
    by_cases h1 : 1 < s.stack.length
    · have e : endOp s.stack = ⟨6, 0⟩ := by unfold endOp; rw [if_neg hm, if_pos h1]
      rw [e]
      have k0 : ¬ s.kindAt 0 < 0 := fun hk => by have := (h.kindAt 0).2.2.1 hk; have := thing_free hp (d := 0) (by omega); omega
      have k1 : ¬ s.kindAt 1 < 0 := fun hk => by have := (h.kindAt 1).2.2.1 hk; have := thing_free hp (d := 1) (by omega); omega
      refine ⟨(s.cutTo (s.stack.length - 2)).push 2, ?_, .inr ⟨hd, ?_⟩⟩
      · unfold stepFree
        rw [if_neg hnd, if_neg (by decide), if_neg (by decide), if_neg (by decide), if_neg (by unfold IsMarkOp; decide)]
        unfold takeStep
        rw [if_neg k0, if_neg (by decide), if_pos rfl, if_neg k1]
      · rw [tail_two hm h1 (x := (s.kinds.length : Int)) (by omega)]
        rfl
    · by_cases h0 : s.stack.length = 0
      · have e : endOp s.stack = ⟨4, 0⟩ := by unfold endOp; rw [if_neg hm, if_neg h1, if_pos h0]
        rw [e]
        have hs : s.stack = [] := List.length_eq_zero_iff.1 h0
        refine ⟨s.push 2, ?_, .inr ⟨hd, ?_⟩⟩
        · unfold stepFree
          rw [if_neg hnd, if_pos (by decide)]
          rfl
        · have e2 : (s.push 2).stack = [(s.kinds.length : Int)] := by
            show s.stack ++ [(s.kinds.length : Int)] = _
            rw [hs]
            rfl
          rw [hs, e2]
          exact tail_none (by omega)
      · have h2 : s.stack.length = 1 := by omega
        have e : endOp s.stack = ⟨19, 0⟩ := by unfold endOp; rw [if_neg hm, if_neg h1, if_neg h0]
        rw [e]
        have k0 : ¬ s.kindAt 0 < 0 := fun hk => by have := (h.kindAt 0).2.2.1 hk; have := thing_free hp (d := 0) (by omega); omega
        refine ⟨{ s with done := true }, ?_, .inl ⟨rfl, tail_one hm h2⟩⟩
        unfold stepFree
        rw [if_neg hnd, if_neg (by decide), if_neg (by decide), if_neg (by decide), if_neg (by unfold IsMarkOp; decide)]
        unfold takeStep
        rw [if_neg k0, if_neg (by decide), if_neg (by decide), if_neg (by decide), if_neg (by decide), if_neg (by decide), if_neg (by decide), if_pos rfl, if_pos h2]
theorem endOp_ok (l : List Int) : OdOk (endOp l) := by
  unfold endOp
  split
  · exact od_fix (by omega) (by omega) (by simp [argMost])
  · split
    · exact od_fix (by omega) (by omega) (by simp [argMost])
    · split
      · exact od_fix (by omega) (by omega) (by simp [argMost])
      · exact od_fix (by omega) (by omega) (by simp [argMost])
theorem end_run : ∀ (m : Nat) {s : Shp} (h : s.Ok) (hd : s.done = false) {K : Nat} (hk : s.kinds.length ≤ K) (ht : s.stack.length ≤ K) (hm : (tailOps s.stack).length = m) (hl : K + m ≤ 300), (runShp s (tailOps s.stack)).2 = m
  | 0, s, h, hd, K, hk, ht, hm, hl => by
    obtain ⟨t, _, hh⟩ := end_step h hd
    rcases hh with ⟨_, e⟩ | ⟨_, e⟩ <;> rw [e] at hm <;> simp at hm
  | m + 1, s, h, hd, K, hk, ht, hm, hl => by
    obtain ⟨t, h1, hh⟩ := end_step h hd
    obtain ⟨o1, o2, o3, _⟩ := stepFree_ok h h1 (endOp_ok _).get
    have hst : stepShp s (endOp s.stack) = some t := by
      unfold stepShp
      rw [h1, Option.filter_some, if_pos (by simp only [decide_eq_true_eq]; exact ⟨by omega, by omega⟩)]
    rcases hh with ⟨_, e⟩ | ⟨hd2, e⟩
    · rw [e] at hm ⊢
      rw [runShp_go hst, runShp_end]
      simpa using hm
    · rw [e] at hm ⊢
      rw [runShp_go hst]
      have := end_run m (s := t) o1 hd2 (K := K + 1) (by omega) (by omega) (by simpa using hm) (by omega)
      show (runShp t (tailOps t.stack)).2 + 1 = m + 1
      rw [this]
theorem run_app {s : Shp} {a b : List Od} (h : (runShp s a).2 = a.length) : (runShp s (a ++ b)).2 = a.length + (runShp (runShp s a).1 b).2 := by
  induction a generalizing s with
  | nil => rw [List.nil_append, runShp_end]; simp
  | cons o a ih =>
    cases hst : stepShp s o with
    | none => rw [runShp_stop hst] at h; simp at h
    | some t =>
      rw [runShp_go hst] at h
      rw [List.cons_append, runShp_go hst, runShp_go hst]
      simp only [List.length_cons] at h ⊢
      rw [ih (s := t) (by omega)]
      omega
theorem run_pre {os : List Od} : ∀ {s : Shp}, runShp s (os.take (runShp s os).2) = runShp s os := by
  induction os with
  | nil => intro s; rfl
  | cons o os ih =>
    intro s
    cases hst : stepShp s o with
    | none => rw [runShp_stop hst, List.take_zero, runShp_end]
    | some t => rw [runShp_go hst, List.take_succ_cons, runShp_go hst, ih]
theorem run_few {os : List Od} : ∀ {s : Shp}, s.Ok → (∀ o ∈ os, OdOk o) → (runShp s os).1.Ok ∧ (runShp s os).1.kinds.length ≤ s.kinds.length + (runShp s os).2 ∧ (runShp s os).1.stack.length ≤ s.stack.length + (runShp s os).2 := by
  induction os with
  | nil => intro s h _; exact ⟨h, Nat.le_refl _, Nat.le_refl _⟩
  | cons o os ih =>
    intro s h ho
    cases hst : stepShp s o with
    | none => rw [runShp_stop hst]; exact ⟨h, Nat.le_refl _, Nat.le_refl _⟩
    | some t =>
      obtain ⟨o1, o2, o3, _⟩ := stepFree_ok h (stepShp_some hst).1 (ho o (by simp)).get
      rw [runShp_go hst]
      obtain ⟨q1, q2, q3⟩ := ih (s := t) o1 (fun x hx => ho x (by simp [hx]))
      exact ⟨q1, by show (runShp t os).1.kinds.length ≤ s.kinds.length + ((runShp t os).2 + 1); omega, by show (runShp t os).1.stack.length ≤ s.stack.length + ((runShp t os).2 + 1); omega⟩
theorem end_of {os : List Od} (hok : OpsOk os) : endOf os = if (runShp Shp.new os).1.done = true then some [] else if (runShp Shp.new os).2 + (tailOps (runShp Shp.new os).1.stack).length ≤ 300 then some (tailOps (runShp Shp.new os).1.stack) else none := by
  unfold endOf
  rw [if_pos hok]
  by_cases hd : (runShp Shp.new os).1.done = true
  · rw [if_pos hd, if_pos hd]
  · rw [if_neg hd, if_neg hd]
    obtain ⟨q1, q2, q3⟩ := run_few (s := Shp.new) (os := os) Shp.new_ok hok.2
    have q2 : (runShp Shp.new os).1.kinds.length ≤ (runShp Shp.new os).2 := by simpa [Shp.new] using q2
    have q3 : (runShp Shp.new os).1.stack.length ≤ (runShp Shp.new os).2 := by simpa [Shp.new] using q3
    have hn := run_le hok.2
    have hlt : (os.take (runShp Shp.new os).2).length = (runShp Shp.new os).2 := by simp; omega
    have hpre := run_pre (os := os) (s := Shp.new)
    have hd2 : (runShp Shp.new os).1.done = false := by simpa using hd
    generalize hR : runShp Shp.new os = R at *
    by_cases hl : R.2 + (tailOps R.1.stack).length ≤ 300
    · rw [if_pos hl, if_pos]
      refine ⟨⟨by rw [List.length_append, hlt]; exact hl, fun o ho => ?_⟩, ?_⟩
      · rcases List.mem_append.1 ho with ho | ho
        · exact hok.2 o (List.mem_of_mem_take ho)
        · exact tailOps_mem _ o ho
      · rw [run_app (by rw [hpre, hlt]), hpre, end_run _ q1 hd2 q2 q3 rfl hl, List.length_append]
    · rw [if_neg hl, if_neg]
      intro hh
      have := hh.1.1
      rw [List.length_append, hlt] at this
      omega
theorem end_bad {os : List Od} (h : ¬ OpsOk os) : endOf os = none := by unfold endOf; rw [if_neg h]
end Go.Proofs.YtbihgafkmmcjlaaDoor

namespace Go.Proofs.YtbihgafkmmcjlaaDoor
open Go.RowKit
set_option linter.unusedVariables false
theorem takes_same : ∀ c : Nat, c < 20 → takesOf c = takesN (c : Int) := by
  decide
theorem use_small (s : Shp) (a : Int) : s.useAt a < 1000 := by
  rcases s.use_bits a with h | h | h | h | h | h | h <;> omega
theorem from_small (s : Shp) (a : Nat) : s.useFrom a < 1000 := by unfold Shp.useFrom; split <;> omega
theorem view_small (s : Shp) (c : Int) : s.view0 c < 1000 ∧ s.view1 c < 1000 ∧ s.view2 c < 1000 := by
  unfold Shp.view0 Shp.view1 Shp.view2
  refine ⟨?_, ?_, ?_⟩ <;> split <;> first | exact use_small _ _ | exact from_small _ _
theorem need_small (c : Int) : need0 c < 1000 ∧ need1 c < 1000 ∧ need2 c < 1000 := by
  unfold need0 need1 need2
  refine ⟨?_, ?_, ?_⟩ <;> (repeat' split) <;> omega
theorem viewOf_code (q base off : Nat) (p : ShPtr) (s : Shp) (c : Nat) (w : World) (h : SbAt w base q off p s) (hs : s.Small) (hc : c < 20) :
    Calls Tryd.prog 44 #[.pointer (some ⟨q, off, none⟩), .int .i64 (takesOf c)] w (GivesV w (s.view0 (c : Int)) (s.view1 (c : Int)) (s.view2 (c : Int))) := by
  rw [takes_same c hc]
  unfold Shp.view0 Shp.view1 Shp.view2
  by_cases ht : takesN (c : Int) = -1
  · rw [if_pos ht, if_pos ht, if_pos ht, ht]
    exact viewOf_all q base off p s _ _ _ w h hs rfl rfl rfl
  · rw [if_neg ht, if_neg ht, if_neg ht]
    exact viewOf_top q base off p s _ _ _ _ w h hs ht rfl rfl rfl
set_option maxRecDepth 100000 in
set_option maxHeartbeats 4000000 in
theorem hasNeeded_no (q base off : Nat) (p : ShPtr) (s : Shp) (ar : Nat) (w : World) (h : SbAt w base q off p s) (hs : s.Small) (ha : ar < 20) (hm : s.memo.getD ar 0 < 0) :
    Calls Tryd.prog 28 #[.pointer (some ⟨q, off, none⟩), .agg #[.int .i64 16, .int .i64 (ar : Int)]] w fun e w' => e = .returned (.bool false) ∧ Below w.heap.size w w' := by
  have hB := hide ((Below.refl w.heap.size w).alloc (Nat.le_refl _) (.cells #[.int .i64 16, .int .i64 (ar : Int)] 42))
  have lo := Lies.new w #[.int .i64 16, .int .i64 (ar : Int)] 42
  have h2 := h.alloc (.cells #[.int .i64 16, .int .i64 (ar : Int)] 42)
  have hml := hs.ok.ml
  obtain ⟨x, hx⟩ : ∃ x, s.memo[ar]? = some x := ⟨_, List.getElem?_eq_getElem (by omega)⟩
  have hx1 := (hs.ok.mm x (List.mem_of_getElem? hx)).1
  have hgd : s.memo.getD ar 0 = x := by rw [List.getD_eq_getElem?_getD, hx]; rfl
  rw [hgd] at hm
  obtain rfl : x = -1 := by omega
  obtain ⟨gm, hM, hm1, hm2, hcm, hfm⟩ := h2.own.m.atJ hx
  obtain ⟨e0, e1, e2, e3, e4, f0, f1, f2, f3, f4⟩ := h2.c
  rw [hM] at e3
  have d0 := lo.cell 0
  have d1 := lo.cell 1
  simp only [jD, jE, jF] at d0 d1
  have hj0 : (0 : Int) ≤ (ar : Int) := by omega
  have hj1 : (ar : Int) < (s.memo.length : Int) := by omega
  clear h hs h2 hx hgd hml hM lo hm hx1
  go_enter Tryd.func28, Tryd.ntmps28
  go_upto_region 1 with fail
  generalize w.alloc (.cells #[.int .i64 16, .int .i64 (ar : Int)] 42) = W at hB e0 e1 e2 e3 e4 f0 f1 f2 f3 f4 d0 d1 hcm hfm hm2 ⊢
  go_quiet (fail)
  go_wp2
  go_ret
  exact ⟨rfl, below_drewN hB.out _⟩
end Go.Proofs.YtbihgafkmmcjlaaDoor

namespace Go.Proofs.YtbihgafkmmcjlaaDoor
open Go.RowKit
set_option linter.unusedVariables false
set_option maxHeartbeats 1000000 in
theorem joinOps_any (A B : Option Addr) (xs ys : List Od) (c d : Nat) (w : World) (h : OpsAt w w.heap.size A xs) (hn : A = none → c = 0) (h2 : OpsAt w w.heap.size B ys) (hn2 : B = none → d = 0) (hl : xs.length ≤ 100000) (hl2 : ys.length ≤ 100000) :
    Calls Tryd.prog 9 #[.slice A xs.length c, .slice B ys.length d] w (GivesOps w (xs ++ ys)) := by
  have Hn := hide hn
  have Hn2 := hide hn2
  have HO := hide (OwnO.bare w)
  have HB := hide ((Below.refl w.heap.size w).alloc (Nat.le_refl _) (.cells #[] 42))
  clear hn hn2
  go_enter Tryd.func9, Tryd.ntmps9
  go_wp2_with (at_builtin; first
    | (refine append_ops rfl (.tmp 5) (.tmp 6) rfl w.heap.size _ 0 [] rfl HO.out w.heap.size A c xs rfl Hn.out (h.below HB.out) (by simp; omega) HB.out.size ?_; intro zs A7 c7 w7 e7 own7 hg7 _; have HB7 := hide (below_grown HB.out hg7 HB.out.size (fun q hq => (HO.out.blocks q hq).1)); have HO7 := hide own7; have hz7 : zs.length ≤ xs.length := (by rw [e7.out]; simp); clear own7 hg7)
    | (refine append_ops rfl (.tmp 7) (.tmp 8) rfl w.heap.size A7 c7 zs rfl HO7.out w.heap.size B d ys rfl Hn2.out (h2.below HB7.out) (by omega) HB7.out.size ?_; intro us A9 c9 w9 e9 own9 hg9 _; have HB9 := hide (below_grown HB7.out hg9 HB7.out.size (fun q hq => (HO7.out.blocks q hq).1)); have HO9 := hide own9; clear own9 hg9))
  go_ret
  have e : us = xs ++ ys := by rw [e9.out, e7.out, List.nil_append]
  subst e
  exact ⟨A9, c9, rfl, HO9.out, HB9.out⟩
end Go.Proofs.YtbihgafkmmcjlaaDoor

namespace Go.Proofs.YtbihgafkmmcjlaaDoor
set_option linter.unusedVariables false
theorem stop_done {s t : Shp} {o : Od} (hc : o.code = 19) (h : stepShp s o = some t) : t.done = true := by
  have h1 := (stepShp_some h).1
  unfold stepFree at h1
  split at h1
  · cases h1
  · rw [hc] at h1
    rw [if_neg (by decide), if_neg (by decide), if_neg (by decide), if_neg (by unfold IsMarkOp; decide)] at h1
    unfold takeStep at h1
    split at h1
    · cases h1
    · rw [hc] at h1
      rw [if_neg (by decide), if_neg (by decide), if_neg (by decide), if_neg (by decide), if_neg (by decide), if_neg (by decide)] at h1
      split at h1
      · injection h1 with h1
        rw [← h1]
      · cases h1
theorem run_done {o : Od} (hc : o.code = 19) : ∀ {l : List Od} {s : Shp}, (runShp s (l ++ [o])).2 = l.length + 1 → (runShp s (l ++ [o])).1.done = true := by
  intro l
  induction l with
  | nil =>
    intro s h
    rw [List.nil_append] at h ⊢
    cases hst : stepShp s o with
    | none => rw [runShp_stop hst] at h; simp at h
    | some t => rw [runShp_go hst, runShp_end]; exact stop_done hc hst
  | cons a l ih =>
    intro s h
    rw [List.cons_append] at h ⊢
    cases hst : stepShp s a with
    | none => rw [runShp_stop hst] at h; simp at h
    | some t =>
      rw [runShp_go hst] at h ⊢
      exact ih (by simp only [List.length_cons] at h; omega)
theorem endOf_okE (os : List Od) : OpsOk ((endOf os).getD []) := by
  have hnil : OpsOk [] := ⟨by simp, fun o ho => by cases ho⟩
  unfold endOf
  split
  · split
    · exact hnil
    · split
      · rename_i h
        exact ⟨Nat.le_trans (by simp) h.1.1, fun o ho => h.1.2 o (List.mem_append_right _ ho)⟩
      · exact hnil
  · exact hnil
theorem ok_64 {os : List Od} (h : OpsOk os) : ∀ o ∈ os, In64 o.code ∧ In64 o.arg := by
  intro o ho
  have h1 := od_64 (h.2 o ho)
  exact h1
theorem end_whole {os out : List Od} (h : endOf os = some out) : OpsOk os ∧ Whole (cutOf os ++ out) ∧ (out.length = 0 ↔ Whole (cutOf os)) := by
  have hok : OpsOk os := by
    by_cases hok : OpsOk os
    · exact hok
    · rw [end_bad hok] at h; cases h
  have hle := run_le hok.2
  have hpre := run_pre (os := os) (s := Shp.new)
  have hlt : (os.take (runShp Shp.new os).2).length = (runShp Shp.new os).2 := by simp; omega
  have hcok : OpsOk (os.take (runShp Shp.new os).2) := ⟨by have := hok.1; omega, fun o ho => hok.2 o (List.mem_of_mem_take ho)⟩
  refine ⟨hok, ?_⟩
  rw [cutOf_ok hok]
  unfold endOf at h
  rw [if_pos hok] at h
  by_cases hd : (runShp Shp.new os).1.done = true
  · rw [if_pos hd] at h
    injection h with h
    subst h
    have hw : Whole (os.take (runShp Shp.new os).2) := ⟨hcok, by rw [hpre, hlt], by rw [hpre]; exact hd⟩
    exact ⟨by rw [List.append_nil]; exact hw, fun _ => hw, fun _ => rfl⟩
  · rw [if_neg hd] at h
    split at h
    · rename_i h1
      injection h with h
      subst h
      obtain ⟨l, hl⟩ : ∃ l, tailOps (runShp Shp.new os).1.stack = l ++ [⟨19, 0⟩] := ⟨_, rfl⟩
      refine ⟨⟨h1.1, h1.2, ?_⟩, ?_, ?_⟩
      · have h2 := h1.2
        rw [hl, ← List.append_assoc] at h2 ⊢
        exact run_done rfl (by rw [h2, List.length_append]; rfl)
      · intro h0
        rw [hl] at h0
        simp at h0
      · intro hw
        have := hw.2.2
        rw [hpre] at this
        exact absurd this hd
    · cases h
end Go.Proofs.YtbihgafkmmcjlaaDoor
