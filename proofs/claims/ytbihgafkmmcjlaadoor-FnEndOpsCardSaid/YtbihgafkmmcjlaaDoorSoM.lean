import Derived.Test.YtbihgafkmmcjlaaDoorWrit
import Derived.Test.YtbihgafkmmcjlaaDoorLk
namespace Go.Proofs.YtbihgafkmmcjlaaDoor
open Go.RowKit
set_option linter.unusedVariables false
theorem opVals_setCode : ∀ {os : List Od} {j : Nat} {o : Od} (x : Int), os[j]? = some o → (opVals os).set (j * 2) (.int .i64 x) = opVals (os.set j ⟨x, o.arg⟩)
  | [], _, _, _, h => by simp at h
  | p :: os, 0, o, x, h => by
    simp at h
    subst h
    rfl
  | p :: os, j + 1, o, x, h => by
    rw [opVals_cons p os, show (j + 1) * 2 = j * 2 + 1 + 1 by omega, jC, jC, opVals_setCode x (by simpa using h), jC, opVals_cons]
theorem opVals_setArg : ∀ {os : List Od} {j : Nat} {o : Od} (x : Int), os[j]? = some o → (opVals os).set (j * 2 + 1) (.int .i64 x) = opVals (os.set j ⟨o.code, x⟩)
  | [], _, _, _, h => by simp at h
  | p :: os, 0, o, x, h => by
    simp at h
    subst h
    rfl
  | p :: os, j + 1, o, x, h => by
    rw [opVals_cons p os, show (j + 1) * 2 + 1 = j * 2 + 1 + 1 + 1 by omega, jC, jC, opVals_setArg x (by simpa using h), jC, opVals_cons]
theorem opVals_take (os : List Od) (k : Nat) : (opVals os).take (k * 2) = opVals (os.take k) := by
  induction os generalizing k with
  | nil => simp [opVals]
  | cons o os ih =>
    cases k with
    | zero => simp [opVals]
    | succ k =>
      rw [opVals_cons, List.take_succ_cons, opVals_cons, show (k + 1) * 2 = k * 2 + 1 + 1 by omega, List.take_succ_cons, List.take_succ_cons, ih]
theorem OwnO.setCode {w : World} {base g c : Nat} {os : List Od} (h : OwnO w base (some ⟨g, 0, none⟩) c os) {j : Nat} {o : Od} (hj : os[j]? = some o) (x : Int) :
    OwnO (w.setCell ⟨g, j * 2, none⟩ (.int .i64 x)) base (some ⟨g, 0, none⟩) c (os.set j ⟨x, o.arg⟩) := by
  have := (h.own.stored (j * 2) (.int .i64 x)).1
  refine ⟨?_⟩
  rw [List.length_set, ← opVals_setCode x hj]
  exact this
theorem OwnO.setArg {w : World} {base g c : Nat} {os : List Od} (h : OwnO w base (some ⟨g, 0, none⟩) c os) {j : Nat} {o : Od} (hj : os[j]? = some o) (x : Int) :
    OwnO (w.setCell ⟨g, j * 2 + 1, none⟩ (.int .i64 x)) base (some ⟨g, 0, none⟩) c (os.set j ⟨o.code, x⟩) := by
  have := (h.own.stored (j * 2 + 1) (.int .i64 x)).1
  refine ⟨?_⟩
  rw [List.length_set, ← opVals_setArg x hj]
  exact this
theorem OwnO.cut {w : World} {base g c : Nat} {os : List Od} (h : OwnO w base (some ⟨g, 0, none⟩) c os) {k : Nat} (hk : k ≤ os.length) : OwnO w base (some ⟨g, 0, none⟩) c (os.take k) := by
  refine ⟨by rw [opVals_len], ?_⟩
  have hl : (os.take k).length = k := by simp; omega
  rcases h.own.2 with ⟨h1, _⟩ | ⟨g', cap, cur, hv, hg, hh, h4, h5, h6, h7⟩
  · cases h1
  · injection hv with hv _ hv2
    subst hv2
    refine .inr ⟨g', c, cur, by rw [hv], hg, hh, by omega, h5, h6, ?_⟩
    rw [hl, ← opVals_take, ← h7, List.take_take]
    congr 1
    omega
structure SoS (w wr : World) (rb : Nat) (A : Option Addr) (n c P : Nat) (B : Option Addr) (cb : Nat) (os : List Od) : Prop where
  grew : Grew rb w wr
  rd : ∃ p', p' ≤ P ∧ Rd wr rb A n c p'
  own : OwnO wr w.heap.size B cb os
  wf : ∀ o ∈ os, In64 o.code ∧ In64 o.arg
  few : os.length ≤ 2000
  nr : rb < w.heap.size
section
variable {w wr w1 : World} {rb n c P P' cb : Nat} {A B : Option Addr} {os : List Od}
theorem SoS.turned (h : SoS w wr rb A n c P B cb os) {p1 : Nat} (hg : Grew rb wr w1) (hr : Rd w1 rb A n c p1) (hp : p1 ≤ P') : SoS w w1 rb A n c P' B cb os := by
  have hn := h.nr
  exact ⟨h.grew.trans hg, ⟨p1, hp, hr⟩, h.own.of_block (fun g hg1 => hg.block g (h.own.blocks g hg1).2 (by have := (h.own.blocks g hg1).1; omega)), h.wf, h.few, h.nr⟩
theorem SoS.later (h : SoS w wr rb A n c P B cb os) (hb : Below wr.heap.size wr w1) : SoS w w1 rb A n c P B cb os := by
  obtain ⟨p1, hp1, hr⟩ := h.rd
  exact h.turned (Grew.of_below hb) (hr.below hb) hp1
theorem SoS.row (h : SoS w wr rb A n c P B cb os) (hz : 0 < os.length) : ∃ g, B = some ⟨g, 0, none⟩ ∧ w.heap.size ≤ g ∧ g < wr.heap.size := by
  rcases h.own.form with ⟨_, _, h2⟩ | h
  · rw [h2] at hz; simp at hz
  · exact h
theorem SoS.store {g : Nat} (h : SoS w wr rb A n c P (some ⟨g, 0, none⟩) cb os) {os' : List Od} {q : Nat} {v : Value} (ho : OwnO (wr.setCell ⟨g, q, none⟩ v) w.heap.size (some ⟨g, 0, none⟩) cb os') (hwf : ∀ o ∈ os', In64 o.code ∧ In64 o.arg) (hl : os'.length ≤ 2000) :
    SoS w (wr.setCell ⟨g, q, none⟩ v) rb A n c P (some ⟨g, 0, none⟩) cb os' := by
  obtain ⟨p1, hp1, hr⟩ := h.rd
  have hg := (h.own.blocks g rfl).1
  have hn := h.nr
  exact ⟨grew_set1 h.grew hg v, ⟨p1, hp1, hr.far1 (by omega) v⟩, ho, hwf, hl, h.nr⟩
theorem SoS.setCode {g j : Nat} {o : Od} {x : Int} (h : SoS w wr rb A n c P (some ⟨g, 0, none⟩) cb os) (hj : os[j]? = some o) (hx : In64 x) : SoS w (wr.setCell ⟨g, j * 2, none⟩ (.int .i64 x)) rb A n c P (some ⟨g, 0, none⟩) cb (os.set j ⟨x, o.arg⟩) := by
  refine h.store (h.own.setCode hj x) (fun p hp => ?_) (by rw [List.length_set]; exact h.few)
  rcases List.mem_or_eq_of_mem_set hp with hp | rfl
  · exact h.wf p hp
  · exact ⟨hx, (h.wf o (List.mem_of_getElem? hj)).2⟩
theorem SoS.setArg {g j : Nat} {o : Od} {x : Int} (h : SoS w wr rb A n c P (some ⟨g, 0, none⟩) cb os) (hj : os[j]? = some o) (hx : In64 x) : SoS w (wr.setCell ⟨g, j * 2 + 1, none⟩ (.int .i64 x)) rb A n c P (some ⟨g, 0, none⟩) cb (os.set j ⟨o.code, x⟩) := by
  refine h.store (h.own.setArg hj x) (fun p hp => ?_) (by rw [List.length_set]; exact h.few)
  rcases List.mem_or_eq_of_mem_set hp with hp | rfl
  · exact h.wf p hp
  · exact ⟨(h.wf o (List.mem_of_getElem? hj)).1, hx⟩
theorem SoS.cut {g k : Nat} (h : SoS w wr rb A n c P (some ⟨g, 0, none⟩) cb os) (hk : k ≤ os.length) : SoS w wr rb A n c P (some ⟨g, 0, none⟩) cb (os.take k) :=
  ⟨h.grew, h.rd, h.own.cut hk, fun o ho => h.wf o (List.mem_of_mem_take ho), by have := h.few; simp; omega, h.nr⟩
theorem SoS.cells {g j : Nat} {o : Od} (h : SoS w wr rb A n c P (some ⟨g, 0, none⟩) cb os) (hj : os[j]? = some o) :
    wr.cell? ⟨g, j * 2, none⟩ = some (.int .i64 o.code) ∧ wr.cell? ⟨g, j * 2 + 1, none⟩ = some (.int .i64 o.arg) ∧ wr.frozen? ⟨g, j * 2, none⟩ = false ∧ wr.frozen? ⟨g, j * 2 + 1, none⟩ = false := by
  have hjl : j < os.length := (List.getElem?_eq_some_iff.1 hj).1
  refine ⟨?_, ?_, h.own.own.frozenAt _, h.own.own.frozenAt _⟩
  · rw [h.own.own.cellAt (j * 2) (by omega)]; exact opVals_code hj
  · rw [h.own.own.cellAt (j * 2 + 1) (by omega)]; exact opVals_arg hj
end
def Ops2 (rb : Nat) (A : Option Addr) (n c P : Nat) (w : World) (e : Ending) (w' : World) : Prop :=
  ∃ (os : List Od) (B : Option Addr) (cb : Nat), e = .returned (.slice B os.length cb) ∧ SoS w w' rb A n c P B cb os
theorem GenG.gr {w : World} {g rb cap : Nat} {ns : List Nd} (h : GenG w g rb cap ns) : GrAt w (some ⟨g, 0, none⟩) ns := by
  refine ⟨h.nds, fun b off e => ?_⟩
  injection e with e
  injection e with e1 e2
  subst e1 e2
  refine ⟨h.lt, fun j n hj A' k c' hc => ?_⟩
  obtain ⟨A, c, h1, h2, _⟩ := (h.nd j n hj).kids
  rw [Nat.zero_add] at hc
  rw [h1] at hc
  injection hc with hc
  injection hc with _ _ hc
  subst hc
  rcases h2.own.2 with ⟨h3, h4⟩ | ⟨_, cap, _, hv, _, _, h4, _⟩
  · rw [h4]; exact Nat.zero_le _
  · injection hv with _ _ hv
    rw [hv]; exact h4
end Go.Proofs.YtbihgafkmmcjlaaDoor
