/-
  Lemmas, several texts in one: WatM, ChkJ.
-/
import Derived.Test.YtilopekdeehaoabDoorSb
import Derived.Test.YtilopekdeehaoabDoorPjAa
import Derived.Test.YtilopekdeehaoabDoorChkI
namespace Go.Proofs.YtilopekdeehaoabDoor
open Go.RowKit
set_option linter.unusedVariables false

theorem runShp_snoc {s t : Shp} {l : List Od} {o : Od} (h : (runShp s l).2 = l.length) (hs : stepShp (runShp s l).1 o = some t) : runShp s (l ++ [o]) = (t, l.length + 1) := by
  induction l generalizing s with
  | nil =>
    rw [runShp_end] at hs
    rw [List.nil_append, runShp_go hs, runShp_end]
    rfl
  | cons x l ih =>
    cases hx : stepShp s x with
    | none =>
      rw [runShp_stop hx] at h
      simp at h
    | some u =>
      rw [runShp_go hx] at h hs
      simp at h hs
      rw [List.cons_append, runShp_go hx, ih h hs]
      rfl

/-- the stack after as many orders -/
noncomputable def stk (os : List Od) (j : Nat) : List Int := (runShp Shp.new (os.take j)).1.stack

theorem run_take {os : List Od} {k : Nat} {s t : Shp} {o : Od} (h : runShp Shp.new (os.take k) = (s, k)) (hk : k < os.length) (ho : os[k]? = some o) (hs : stepShp s o = some t) : runShp Shp.new (os.take (k + 1)) = (t, k + 1) := by
  have hl : (os.take k).length = k := by simp; omega
  have e : os.take (k + 1) = os.take k ++ [o] := by
    rw [List.take_add_one, ho]; rfl
  rw [e]
  have := runShp_snoc (s := Shp.new) (t := t) (l := os.take k) (o := o) (by rw [h, hl]) (by rw [h]; exact hs)
  rw [this, hl]

/-- how far a run has come -/
structure Came (os : List Od) (R : Shp × Nat) (k : Nat) (s : Shp) : Prop where
  le : k ≤ os.length
  ok : s.Ok
  kl : s.kinds.length ≤ k
  tl : s.stack.length ≤ k
  tk : runShp Shp.new (os.take k) = (s, k)
  r : R = ((runShp s (os.drop k)).1, k + (runShp s (os.drop k)).2)

theorem Came.start (os : List Od) : Came os (runShp Shp.new os) 0 Shp.new :=
  ⟨Nat.zero_le _, Shp.new_ok, Nat.zero_le _, Nat.zero_le _, rfl, by simp⟩

theorem Came.small {os : List Od} {R : Shp × Nat} {k : Nat} {s : Shp} (h : Came os R k s) (hl : os.length ≤ 300) : s.Small := ⟨by have := h.kl; have := h.le; omega, by have := h.tl; have := h.le; omega, h.ok⟩

theorem Came.stop {os : List Od} {R : Shp × Nat} {k : Nat} {s : Shp} {o : Od} (h : Came os R k s) (ho : os[k]? = some o) (hs : stepFree s o = none) : R = (s, k) := by
  rw [h.r, drop_at ho, runShp_stop (stepShp_none hs)]
  rfl

theorem Came.all {os : List Od} {R : Shp × Nat} {s : Shp} (h : Came os R os.length s) : R = (s, os.length) := by
  rw [h.r, List.drop_length, runShp_end]
  rfl

theorem Came.next {os : List Od} {R : Shp × Nat} {k : Nat} {s t : Shp} {o : Od} (h : Came os R k s) (hl : os.length ≤ 300) (ho : os[k]? = some o) (hok : OdOk o) (hs : stepFree s o = some t) : Came os R (k + 1) t ∧ t.stack = stk os (k + 1) := by
  have hk := (List.getElem?_eq_some_iff.1 ho).1
  obtain ⟨h1, h2, h3, _⟩ := stepFree_ok h.ok hs hok.get
  have hkl := h.kl
  have htl := h.tl
  have hst : stepShp s o = some t := stepShp_of hs ⟨by omega, by omega⟩
  have htk := run_take h.tk hk ho hst
  refine ⟨⟨hk, h1, by omega, by omega, htk, ?_⟩, by unfold stk; rw [htk]⟩
  rw [h.r, drop_at ho, runShp_go hst]
  simp only [Prod.mk.injEq, true_and]
  omega

/-- nothing that was there has changed but what lies in the blocks D -/
structure WFr (w w' : World) (D : Nat → Prop) : Prop where
  os : w'.os = w.os
  tape : w'.tape = w.tape
  output : w'.output = w.output
  size : w.heap.size ≤ w'.heap.size
  blk : ∀ k, k < w.heap.size → ¬ D k → w'.heap[k]? = w.heap[k]?

theorem WFr.refl (w : World) (D : Nat → Prop) : WFr w w D := ⟨rfl, rfl, rfl, Nat.le_refl _, fun _ _ _ => rfl⟩
theorem WFr.of_below {w w' : World} (D : Nat → Prop) (h : Below w.heap.size w w') : WFr w w' D := ⟨h.os, h.tape, h.output, h.size, fun k hk _ => h.block k hk⟩
theorem WFr.below {w w' : World} (h : WFr w w' (fun _ => False)) : Below w.heap.size w w' := ⟨h.os, h.tape, h.output, h.size, fun k hk => h.blk k hk (fun h => h)⟩

/-- what one watches a run with: a function, what it has captured, and what is known of memory, and of the blocks that are its own, after as many orders -/
structure Watcher (f : Nat) (caps : Array Value) (os : List Od) (J : Nat → (Nat → Prop) → World → Prop) : Prop where
  kept : ∀ k D W W', J k D W → (∀ b, D b → W'.heap[b]? = W.heap[b]?) → W.heap.size ≤ W'.heap.size → J k D W'
  lt : ∀ k D W, J k D W → ∀ b, D b → b < W.heap.size

/-- what a call of the function has done -/
def Watched (W : World) (k : Nat) (D : Nat → Prop) (J : Nat → (Nat → Prop) → World → Prop) (e : Ending) (W' : World) : Prop := e = .returned (.tuple #[]) ∧ ∃ D', J k D' W' ∧ (∀ b, b < W.heap.size → D' b → D b) ∧ WFr W W' D

/-- the memory while a run is watched -/
structure WatS (w wr : World) (D0 : Nat → Prop) (q q2 : Nat) (p : ShPtr) (s : Shp) (k : Nat) (D : Nat → Prop) (J : Nat → (Nat → Prop) → World → Prop) : Prop where
  sb : SbAt wr w.heap.size q 0 p s
  res : Lies wr q2 zero5 32
  off2 : p.Off q2
  ne : q ≠ q2
  h1 : w.heap.size ≤ q
  h2 : w.heap.size ≤ q2
  j : J k D wr
  dq : ∀ b, D b → b ≠ q ∧ b ≠ q2 ∧ p.Off b
  d0 : ∀ b, b < w.heap.size → D b → D0 b
  fr : WFr w wr D0

section
variable {w wr w' : World} {D0 D : Nat → Prop} {q q2 k f : Nat} {p p' : ShPtr} {s t : Shp} {J : Nat → (Nat → Prop) → World → Prop} {caps : Array Value} {os : List Od}

theorem WatS.below (h : WatS w wr D0 q q2 p s k D J) (hw : Watcher f caps os J) (hb : Below wr.heap.size wr w') : WatS w w' D0 q q2 p s k D J :=
  ⟨h.sb.below hb, h.res.below hb h.res.lt, h.off2, h.ne, h.h1, h.h2, hw.kept _ _ _ _ h.j (fun b hd => hb.block b (hw.lt _ _ _ h.j b hd)) hb.size, h.dq, h.d0,
    ⟨hb.os.trans h.fr.os, hb.tape.trans h.fr.tape, hb.output.trans h.fr.output, Nat.le_trans h.fr.size hb.size, fun b hb1 hb2 => (hb.block b (Nat.lt_of_lt_of_le hb1 h.fr.size)).trans (h.fr.blk b hb1 hb2)⟩⟩

/-- a step is done -/
theorem WatS.step (h : WatS w wr D0 q q2 p s k D J) (hw : Watcher f caps os J) (hs : SbAt w' w.heap.size q 0 p' t) (hf : SbFr wr w' q 0 p p') : WatS w w' D0 q q2 p' t k D J := by
  have hd : ∀ b, D b → w'.heap[b]? = wr.heap[b]? := fun b hb => hf.blk b (hw.lt _ _ _ h.j b hb) (h.dq b hb).1 (h.dq b hb).2.2
  refine ⟨hs, (hf.blk q2 h.res.lt h.ne.symm h.off2).trans h.res, hf.offs q2 h.res.lt h.off2, h.ne, h.h1, h.h2, hw.kept _ _ _ _ h.j hd hf.size, fun b hb => ⟨(h.dq b hb).1, (h.dq b hb).2.1, hf.offs b (hw.lt _ _ _ h.j b hb) (h.dq b hb).2.2⟩, h.d0, ?_⟩
  have hb := hf.below h.sb (Nat.le_refl _) h.h1
  exact ⟨hb.os.trans h.fr.os, hb.tape.trans h.fr.tape, hb.output.trans h.fr.output, Nat.le_trans h.fr.size hb.size, fun b hb1 hb2 => (hb.block b hb1).trans (h.fr.blk b hb1 hb2)⟩

/-- the function was called -/
theorem WatS.watched (h : WatS w wr D0 q q2 p s k D J) (hw : Watcher f caps os J) {k' : Nat} {D' : Nat → Prop} (hJ : J k' D' w') (hd : ∀ b, b < wr.heap.size → D' b → D b) (hf : WFr wr w' D) : WatS w w' D0 q q2 p s k' D' J := by
  have hk : ∀ b, b < wr.heap.size → ¬ D b → w'.heap[b]? = wr.heap[b]? := hf.blk
  have hnq : ¬ D q := fun hd => (h.dq q hd).1 rfl
  have hnq2 : ¬ D q2 := fun hd => (h.dq q2 hd).2.1 rfl
  have hown : ShOwn w' w.heap.size p s := ⟨h.sb.own.k.ofB fun g hg => hk g (h.sb.own.k.blocks g hg).2 (fun hd => (h.dq g hd).2.2.k hg), h.sb.own.f.ofB fun g hg => hk g (h.sb.own.f.blocks g hg).2 (fun hd => (h.dq g hd).2.2.f hg),
    h.sb.own.t.ofB fun g hg => hk g (h.sb.own.t.blocks g hg).2 (fun hd => (h.dq g hd).2.2.t hg), h.sb.own.m.ofB fun g hg => hk g (h.sb.own.m.blocks g hg).2 (fun hd => (h.dq g hd).2.2.m hg), h.sb.own.kf, h.sb.own.kt, h.sb.own.km, h.sb.own.ft, h.sb.own.fm, h.sb.own.tm⟩
  refine ⟨⟨h.sb.c.ofB (hk q h.sb.lt hnq), hown, h.sb.off_, Nat.lt_of_lt_of_le h.sb.lt hf.size⟩, (hk q2 h.res.lt hnq2).trans h.res, h.off2, h.ne, h.h1, h.h2, hJ, fun b hb => ?_, fun b hb1 hb2 => h.d0 b hb1 (hd b (Nat.lt_of_lt_of_le hb1 h.fr.size) hb2), ?_⟩
  · by_cases hl : b < wr.heap.size
    · exact h.dq b (hd b hl hb)
    · have h1 := h.sb.lt
      have h2 := h.res.lt
      exact ⟨by omega, by omega, h.sb.own.off (.inr (by omega))⟩
  · exact ⟨hf.os.trans h.fr.os, hf.tape.trans h.fr.tape, hf.output.trans h.fr.output, Nat.le_trans h.fr.size hf.size, fun b hb1 hb2 => (hk b (Nat.lt_of_lt_of_le hb1 h.fr.size) (fun hd => hb2 (h.d0 b hb1 hd))).trans (h.fr.blk b hb1 hb2)⟩
end

/-- what a watched run hands back -/
def GivesWat (w : World) (D0 : Nat → Prop) (J : Nat → (Nat → Prop) → World → Prop) (r : Shp × Nat) (e : Ending) (w' : World) : Prop :=
  ∃ p D, e = .returned (.tuple #[shVal p r.1, .int .i64 (r.2 : Int)]) ∧ ShOwn w' w.heap.size p r.1 ∧ J r.2 D w' ∧ (∀ b, D b → p.Off b) ∧ (∀ b, b < w.heap.size → D b → D0 b) ∧ WFr w w' D0

end Go.Proofs.YtilopekdeehaoabDoor

namespace Go.Proofs.YtilopekdeehaoabDoor
open Go.RowKit
set_option linter.unusedVariables false
set_option linter.unusedSimpArgs false

/-- what a possible order finds -/
theorem stepFree_facts {s t : Shp} {o : Od} (h : s.Ok) (hd : s.done = false) (ho : 0 ≤ o.code ∧ o.code ≤ 19) (he : stepFree s o = some t) :
    (takesN o.code = -1 → ∃ a, above s.stack = a + 1) ∧ (takesN o.code ≠ -1 → 0 ≤ takesN o.code ∧ takesN o.code ≤ s.stack.length) ∧ (o.code = 14 → 0 ≤ (s.took o.code).thing 0) ∧ (o.code = 15 → 0 < s.stack.length) := by
  obtain ⟨cd, ar⟩ := o
  simp only at ho he ⊢
  have hk0 := h.kindAt 0
  have hk1 := h.kindAt 1
  have l0 : ¬ s.kindAt 0 < 0 → 0 < s.stack.length := fun hn => Shp.kind_lt hn
  have l1 : ¬ s.kindAt 1 < 0 → 1 < s.stack.length := fun hn => Shp.kind_lt hn
  have hma : above s.stack ≠ 0 → ∃ a, above s.stack = a + 1 := fun hn => ⟨above s.stack - 1, by omega⟩
  have h20 : cd = 0 ∨ cd = 1 ∨ cd = 2 ∨ cd = 3 ∨ cd = 4 ∨ cd = 5 ∨ cd = 6 ∨ cd = 7 ∨ cd = 8 ∨ cd = 9 ∨ cd = 10 ∨ cd = 11 ∨ cd = 12 ∨ cd = 13 ∨ cd = 14 ∨ cd = 15 ∨ cd = 16 ∨ cd = 17 ∨ cd = 18 ∨ cd = 19 := by omega
  rcases h20 with rfl | rfl | rfl | rfl | rfl | rfl | rfl | rfl | rfl | rfl | rfl | rfl | rfl | rfl | rfl | rfl | rfl | rfl | rfl | rfl
  case inr.inr.inr.inr.inr.inr.inr.inr.inr.inr.inr.inr.inr.inr.inl =>
    have hh : ¬ s.kindAt 0 < 0 ∧ s.kindAt 1 = 5 := by
      simp [stepFree, newK, hd, IsMarkOp, takeStep] at he
      omega
    have hl := l1 (by omega)
    refine ⟨fun hh => by simp [takesN] at hh, fun _ => by simp [takesN]; omega, fun _ => ?_, fun hh => by omega⟩
    have hth : 0 ≤ s.thing 1 := by have := hk1.2.2; omega
    have hlc : (s.cutTo (s.stack.length - 1)).stack.length = s.stack.length - 1 := by unfold Shp.cutTo; simp
    have e : (s.took 14).thing 0 = s.thing 1 := by
      have e0 : s.took 14 = s.cutTo (s.stack.length - 1) := by unfold Shp.took; simp [takesN]
      rw [e0]
      unfold Shp.thing
      rw [hlc, if_pos (by omega), if_pos (by omega)]
      unfold Shp.cutTo
      rw [List.getD_eq_getElem?_getD, List.getD_eq_getElem?_getD, List.getElem?_take, if_pos (by omega)]
      congr 2
    rw [e]
    exact hth
  all_goals
    simp [stepFree, newK, hd, IsMarkOp, takeStep, markStep] at he
    refine ⟨fun hh => ?_, fun hh => ?_, fun hh => by clear hma; omega, fun hh => ?_⟩
    · first | (simp [takesN] at hh; done) | (exact hma (by omega)) | (exact hma he.1)
    · clear hma; first | (simp [takesN] at hh; done) | (simp [takesN]; done) | (simp [takesN]; omega) | (have hky := he.2.1.1; unfold KeyK at hky; simp [takesN]; omega)
    · clear hma; first | omega | (exact l0 (by omega))

theorem took_small {s : Shp} (h : s.Small) (c : Int) : (s.took c).Small := by
  unfold Shp.took
  have : ∀ n, (s.cutTo n).Small := fun n => ⟨h.k, by have := h.t; unfold Shp.cutTo; simp; omega, h.ok.cut n⟩
  split <;> exact this _

theorem take_code (q base off : Nat) (p : ShPtr) (s : Shp) (c : Nat) (w : World) (h : SbAt w base q off p s) (hs : s.Small) (hc : c < 20) (h1 : takesN (c : Int) = -1 → ∃ a, above s.stack = a + 1) (h2 : takesN (c : Int) ≠ -1 → 0 ≤ takesN (c : Int) ∧ takesN (c : Int) ≤ s.stack.length) :
    Calls Tryd.prog 35 #[.pointer (some ⟨q, off, none⟩), .int .i64 (takesOf c)] w (TurnsSb w base q off p (s.took (c : Int))) := by
  rw [takes_same c hc]
  unfold Shp.took
  by_cases ht : takesN (c : Int) = -1
  · rw [if_pos ht, ht]
    obtain ⟨a, ha⟩ := h1 ht
    rw [show above s.stack - 1 = a by omega]
    exact take_all q base off p s a w h hs ha
  · rw [if_neg ht]
    obtain ⟨h3, h4⟩ := h2 ht
    exact take_any q base off p s (takesN (c : Int)) _ w h hs (by omega) ht (by omega) h3

theorem act_code (q base off : Nat) (p : ShPtr) (s : Shp) (c : Nat) (ar : Int) (w : World) (h : SbAt w base q off p s) (hs : s.Small) (hbase : base ≤ w.heap.size) (hc : c < 20) (ha : c = 15 ∨ c = 16 → 0 ≤ ar ∧ ar < 20) (h14 : c = 14 → 0 ≤ s.thing 0) (h15 : c = 15 → 0 < s.stack.length) :
    Calls Tryd.prog 36 #[.pointer (some ⟨q, off, none⟩), .agg #[.int .i64 (c : Int), .int .i64 ar]] w (TurnsSb w base q off p (s.acted ⟨(c : Int), ar⟩)) := by
  match c, hc, ha, h14, h15 with
  | 0, _, _, _, _ => exact act_new q base off p s 0 ar 0 w h hs hbase (by unfold IsNewOp; omega)
  | 1, _, _, _, _ => exact act_new q base off p s 1 ar 1 w h hs hbase (by unfold IsNewOp; omega)
  | 2, _, _, _, _ => exact act_mark q base off p s ar w h hs hbase
  | 3, _, _, _, _ => exact act_new q base off p s 3 ar 2 w h hs hbase (by unfold IsNewOp; omega)
  | 4, _, _, _, _ => exact act_new q base off p s 4 ar 2 w h hs hbase (by unfold IsNewOp; omega)
  | 5, _, _, _, _ => exact act_new q base off p s 5 ar 2 w h hs hbase (by unfold IsNewOp; omega)
  | 6, _, _, _, _ => exact act_new q base off p s 6 ar 2 w h hs hbase (by unfold IsNewOp; omega)
  | 7, _, _, _, _ => exact act_new q base off p s 7 ar 3 w h hs hbase (by unfold IsNewOp; omega)
  | 8, _, _, _, _ => exact act_idle q base off p s 8 ar w h hs hbase (by unfold IsIdleOp; omega)
  | 9, _, _, _, _ => exact act_idle q base off p s 9 ar w h hs hbase (by unfold IsIdleOp; omega)
  | 10, _, _, _, _ => exact act_new q base off p s 10 ar 4 w h hs hbase (by unfold IsNewOp; omega)
  | 11, _, _, _, _ => exact act_idle q base off p s 11 ar w h hs hbase (by unfold IsIdleOp; omega)
  | 12, _, _, _, _ => exact act_idle q base off p s 12 ar w h hs hbase (by unfold IsIdleOp; omega)
  | 13, _, _, _, _ => exact act_new q base off p s 13 ar 5 w h hs hbase (by unfold IsNewOp; omega)
  | 14, _, _, h14, _ => exact act_state q base off p s ar w h hs hbase (h14 rfl)
  | 15, _, ha, _, h15 =>
    obtain ⟨h1, h2⟩ := ha (.inl rfl)
    obtain ⟨j, rfl⟩ := Int.eq_ofNat_of_zero_le h1
    exact act_put q base off p s j w h hs hbase (by omega) (h15 rfl)
  | 16, _, ha, _, _ =>
    obtain ⟨h1, h2⟩ := ha (.inr rfl)
    obtain ⟨j, rfl⟩ := Int.eq_ofNat_of_zero_le h1
    exact act_get q base off p s j w h hs hbase (by omega)
  | 17, _, _, _, _ => exact act_idle q base off p s 17 ar w h hs hbase (by unfold IsIdleOp; omega)
  | 18, _, _, _, _ => exact act_idle q base off p s 18 ar w h hs hbase (by unfold IsIdleOp; omega)
  | 19, _, _, _, _ => exact act_stop q base off p s ar w h hs hbase
  | n + 20, hc, _, _, _ => omega

end Go.Proofs.YtilopekdeehaoabDoor
