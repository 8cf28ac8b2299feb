/-
  Lemmas, several texts in one: WatM, Rep.
-/
import Derived.Test.YtgkbblaaodcmnaaDoorSb
import Derived.Test.YtgkbblaaodcmnaaDoorPjAa
import Derived.Test.YtgkbblaaodcmnaaDoorPjAd
import Derived.Laws.CopyOwn
import Derived.Laws.OwnMore
import Derived.Deep.RegionLaw
import Derived.Deep.LoopGhost
import Derived.Deep.Cut
namespace Go.Proofs.YtgkbblaaodcmnaaDoor
open Go.RowKit
set_option linter.unusedVariables false

theorem runShp_snoc {s t : Shp} {l : List Od} {o : Od} (h : (runShp s l).2 = l.length) (hs : stepShp (runShp s l).1 o = some t) : runShp s (l ++ [o]) = (t, l.length + 1) := by
  induction l generalizing s with
  | nil =>
    rw [runShp_end] at hs
    rw [List.nil_append, runShp_go hs, runShp_end]
    rfl
  | cons x l ih =>
    cases hx : stepShp s x with
    | none =>
      rw [runShp_stop hx] at h
      simp at h
    | some u =>
      rw [runShp_go hx] at h hs
      simp at h hs
      rw [List.cons_append, runShp_go hx, ih h hs]
      rfl

/-- the stack after as many orders -/
noncomputable def stk (os : List Od) (j : Nat) : List Int := (runShp Shp.new (os.take j)).1.stack

theorem run_take {os : List Od} {k : Nat} {s t : Shp} {o : Od} (h : runShp Shp.new (os.take k) = (s, k)) (hk : k < os.length) (ho : os[k]? = some o) (hs : stepShp s o = some t) : runShp Shp.new (os.take (k + 1)) = (t, k + 1) := by
  have hl : (os.take k).length = k := by simp; omega
  have e : os.take (k + 1) = os.take k ++ [o] := by
    rw [List.take_add_one, ho]; rfl
  rw [e]
  have := runShp_snoc (s := Shp.new) (t := t) (l := os.take k) (o := o) (by rw [h, hl]) (by rw [h]; exact hs)
  rw [this, hl]

/-- how far a run has come -/
structure Came (os : List Od) (R : Shp × Nat) (k : Nat) (s : Shp) : Prop where
  le : k ≤ os.length
  ok : s.Ok
  kl : s.kinds.length ≤ k
  tl : s.stack.length ≤ k
  tk : runShp Shp.new (os.take k) = (s, k)
  r : R = ((runShp s (os.drop k)).1, k + (runShp s (os.drop k)).2)

theorem Came.start (os : List Od) : Came os (runShp Shp.new os) 0 Shp.new :=
  ⟨Nat.zero_le _, Shp.new_ok, Nat.zero_le _, Nat.zero_le _, rfl, by simp⟩

theorem Came.small {os : List Od} {R : Shp × Nat} {k : Nat} {s : Shp} (h : Came os R k s) (hl : os.length ≤ 300) : s.Small := ⟨by have := h.kl; have := h.le; omega, by have := h.tl; have := h.le; omega, h.ok⟩

theorem Came.stop {os : List Od} {R : Shp × Nat} {k : Nat} {s : Shp} {o : Od} (h : Came os R k s) (ho : os[k]? = some o) (hs : stepFree s o = none) : R = (s, k) := by
  rw [h.r, drop_at ho, runShp_stop (stepShp_none hs)]
  rfl

theorem Came.all {os : List Od} {R : Shp × Nat} {s : Shp} (h : Came os R os.length s) : R = (s, os.length) := by
  rw [h.r, List.drop_length, runShp_end]
  rfl

theorem Came.next {os : List Od} {R : Shp × Nat} {k : Nat} {s t : Shp} {o : Od} (h : Came os R k s) (hl : os.length ≤ 300) (ho : os[k]? = some o) (hok : OdOk o) (hs : stepFree s o = some t) : Came os R (k + 1) t ∧ t.stack = stk os (k + 1) := by
  have hk := (List.getElem?_eq_some_iff.1 ho).1
  obtain ⟨h1, h2, h3, _⟩ := stepFree_ok h.ok hs hok.get
  have hkl := h.kl
  have htl := h.tl
  have hst : stepShp s o = some t := stepShp_of hs ⟨by omega, by omega⟩
  have htk := run_take h.tk hk ho hst
  refine ⟨⟨hk, h1, by omega, by omega, htk, ?_⟩, by unfold stk; rw [htk]⟩
  rw [h.r, drop_at ho, runShp_go hst]
  simp only [Prod.mk.injEq, true_and]
  omega

/-- nothing that was there has changed but what lies in the blocks D -/
structure WFr (w w' : World) (D : Nat → Prop) : Prop where
  os : w'.os = w.os
  tape : w'.tape = w.tape
  output : w'.output = w.output
  size : w.heap.size ≤ w'.heap.size
  blk : ∀ k, k < w.heap.size → ¬ D k → w'.heap[k]? = w.heap[k]?

theorem WFr.refl (w : World) (D : Nat → Prop) : WFr w w D := ⟨rfl, rfl, rfl, Nat.le_refl _, fun _ _ _ => rfl⟩
theorem WFr.of_below {w w' : World} (D : Nat → Prop) (h : Below w.heap.size w w') : WFr w w' D := ⟨h.os, h.tape, h.output, h.size, fun k hk _ => h.block k hk⟩
theorem WFr.below {w w' : World} (h : WFr w w' (fun _ => False)) : Below w.heap.size w w' := ⟨h.os, h.tape, h.output, h.size, fun k hk => h.blk k hk (fun h => h)⟩

/-- what one watches a run with: a function, what it has captured, and what is known of memory, and of the blocks that are its own, after as many orders -/
structure Watcher (f : Nat) (caps : Array Value) (os : List Od) (J : Nat → (Nat → Prop) → World → Prop) : Prop where
  kept : ∀ k D W W', J k D W → (∀ b, D b → W'.heap[b]? = W.heap[b]?) → W.heap.size ≤ W'.heap.size → J k D W'
  lt : ∀ k D W, J k D W → ∀ b, D b → b < W.heap.size

/-- what a call of the function has done -/
def Watched (W : World) (k : Nat) (D : Nat → Prop) (J : Nat → (Nat → Prop) → World → Prop) (e : Ending) (W' : World) : Prop := e = .returned (.tuple #[]) ∧ ∃ D', J k D' W' ∧ (∀ b, b < W.heap.size → D' b → D b) ∧ WFr W W' D

/-- the memory while a run is watched -/
structure WatS (w wr : World) (D0 : Nat → Prop) (q q2 : Nat) (p : ShPtr) (s : Shp) (k : Nat) (D : Nat → Prop) (J : Nat → (Nat → Prop) → World → Prop) : Prop where
  sb : SbAt wr w.heap.size q 0 p s
  res : Lies wr q2 zero5 36
  off2 : p.Off q2
  ne : q ≠ q2
  h1 : w.heap.size ≤ q
  h2 : w.heap.size ≤ q2
  j : J k D wr
  dq : ∀ b, D b → b ≠ q ∧ b ≠ q2 ∧ p.Off b
  d0 : ∀ b, b < w.heap.size → D b → D0 b
  fr : WFr w wr D0

section
variable {w wr w' : World} {D0 D : Nat → Prop} {q q2 k f : Nat} {p p' : ShPtr} {s t : Shp} {J : Nat → (Nat → Prop) → World → Prop} {caps : Array Value} {os : List Od}

theorem WatS.below (h : WatS w wr D0 q q2 p s k D J) (hw : Watcher f caps os J) (hb : Below wr.heap.size wr w') : WatS w w' D0 q q2 p s k D J :=
  ⟨h.sb.below hb, h.res.below hb h.res.lt, h.off2, h.ne, h.h1, h.h2, hw.kept _ _ _ _ h.j (fun b hd => hb.block b (hw.lt _ _ _ h.j b hd)) hb.size, h.dq, h.d0,
    ⟨hb.os.trans h.fr.os, hb.tape.trans h.fr.tape, hb.output.trans h.fr.output, Nat.le_trans h.fr.size hb.size, fun b hb1 hb2 => (hb.block b (Nat.lt_of_lt_of_le hb1 h.fr.size)).trans (h.fr.blk b hb1 hb2)⟩⟩

/-- a step is done -/
theorem WatS.step (h : WatS w wr D0 q q2 p s k D J) (hw : Watcher f caps os J) (hs : SbAt w' w.heap.size q 0 p' t) (hf : SbFr wr w' q 0 p p') : WatS w w' D0 q q2 p' t k D J := by
  have hd : ∀ b, D b → w'.heap[b]? = wr.heap[b]? := fun b hb => hf.blk b (hw.lt _ _ _ h.j b hb) (h.dq b hb).1 (h.dq b hb).2.2
  refine ⟨hs, (hf.blk q2 h.res.lt h.ne.symm h.off2).trans h.res, hf.offs q2 h.res.lt h.off2, h.ne, h.h1, h.h2, hw.kept _ _ _ _ h.j hd hf.size, fun b hb => ⟨(h.dq b hb).1, (h.dq b hb).2.1, hf.offs b (hw.lt _ _ _ h.j b hb) (h.dq b hb).2.2⟩, h.d0, ?_⟩
  have hb := hf.below h.sb (Nat.le_refl _) h.h1
  exact ⟨hb.os.trans h.fr.os, hb.tape.trans h.fr.tape, hb.output.trans h.fr.output, Nat.le_trans h.fr.size hb.size, fun b hb1 hb2 => (hb.block b hb1).trans (h.fr.blk b hb1 hb2)⟩

/-- the function was called -/
theorem WatS.watched (h : WatS w wr D0 q q2 p s k D J) (hw : Watcher f caps os J) {k' : Nat} {D' : Nat → Prop} (hJ : J k' D' w') (hd : ∀ b, b < wr.heap.size → D' b → D b) (hf : WFr wr w' D) : WatS w w' D0 q q2 p s k' D' J := by
  have hk : ∀ b, b < wr.heap.size → ¬ D b → w'.heap[b]? = wr.heap[b]? := hf.blk
  have hnq : ¬ D q := fun hd => (h.dq q hd).1 rfl
  have hnq2 : ¬ D q2 := fun hd => (h.dq q2 hd).2.1 rfl
  have hown : ShOwn w' w.heap.size p s := ⟨h.sb.own.k.ofB fun g hg => hk g (h.sb.own.k.blocks g hg).2 (fun hd => (h.dq g hd).2.2.k hg), h.sb.own.f.ofB fun g hg => hk g (h.sb.own.f.blocks g hg).2 (fun hd => (h.dq g hd).2.2.f hg),
    h.sb.own.t.ofB fun g hg => hk g (h.sb.own.t.blocks g hg).2 (fun hd => (h.dq g hd).2.2.t hg), h.sb.own.m.ofB fun g hg => hk g (h.sb.own.m.blocks g hg).2 (fun hd => (h.dq g hd).2.2.m hg), h.sb.own.kf, h.sb.own.kt, h.sb.own.km, h.sb.own.ft, h.sb.own.fm, h.sb.own.tm⟩
  refine ⟨⟨h.sb.c.ofB (hk q h.sb.lt hnq), hown, h.sb.off_, Nat.lt_of_lt_of_le h.sb.lt hf.size⟩, (hk q2 h.res.lt hnq2).trans h.res, h.off2, h.ne, h.h1, h.h2, hJ, fun b hb => ?_, fun b hb1 hb2 => h.d0 b hb1 (hd b (Nat.lt_of_lt_of_le hb1 h.fr.size) hb2), ?_⟩
  · by_cases hl : b < wr.heap.size
    · exact h.dq b (hd b hl hb)
    · have h1 := h.sb.lt
      have h2 := h.res.lt
      exact ⟨by omega, by omega, h.sb.own.off (.inr (by omega))⟩
  · exact ⟨hf.os.trans h.fr.os, hf.tape.trans h.fr.tape, hf.output.trans h.fr.output, Nat.le_trans h.fr.size hf.size, fun b hb1 hb2 => (hk b (Nat.lt_of_lt_of_le hb1 h.fr.size) (fun hd => hb2 (h.d0 b hb1 hd))).trans (h.fr.blk b hb1 hb2)⟩
end

/-- what a watched run hands back -/
def GivesWat (w : World) (D0 : Nat → Prop) (J : Nat → (Nat → Prop) → World → Prop) (r : Shp × Nat) (e : Ending) (w' : World) : Prop :=
  ∃ p D, e = .returned (.tuple #[shVal p r.1, .int .i64 (r.2 : Int)]) ∧ ShOwn w' w.heap.size p r.1 ∧ J r.2 D w' ∧ (∀ b, D b → p.Off b) ∧ (∀ b, b < w.heap.size → D b → D0 b) ∧ WFr w w' D0

end Go.Proofs.YtgkbblaaodcmnaaDoor

namespace Go.Proofs.YtgkbblaaodcmnaaDoor
open Go.RowKit
set_option linter.unusedVariables false

set_option maxRecDepth 100000 in
set_option maxHeartbeats 1000000 in
theorem mul64_one (w : World) : Calls Tryd.prog 46 #[.int .u64 1, .int .u64 20] w fun e w' => e = .returned (.tuple #[.int .u64 0, .int .u64 20]) ∧ w = w' := by
  go_enter Tryd.func46, Tryd.ntmps46
  go_wp2
  go_ret2
  exact ⟨rfl, rfl⟩

set_option maxRecDepth 100000 in
set_option maxHeartbeats 1000000 in
theorem mul_one' (w : World) : Calls Tryd.prog 40 #[.int .u64 1, .int .u64 20] w fun e w' => e = .returned (.tuple #[.int .u64 0, .int .u64 20]) ∧ w = w' := by
  go_enter Tryd.func40, Tryd.ntmps40
  go_wp2_with (go_at_call 46; refine (mul64_one _).mono ?_; rintro e w' ⟨rfl, rfl⟩)
  go_ret2
  exact ⟨rfl, rfl⟩

/-- k numbers x, and zeros behind them -/
def rowL (x : Int) (k : Nat) : List Value := List.replicate k (.int .i64 x) ++ List.replicate (20 - k) (.int .i64 0)
theorem rowL_len (x : Int) {k : Nat} (h : k ≤ 20) : (rowL x k).length = 20 := by unfold rowL; simp; omega
theorem rowL_splice (x : Int) {k m : Nat} (h : k + m ≤ 20) : splice (rowL x k) k (List.replicate m (.int .i64 x)) = rowL x (k + m) := by
  unfold splice rowL
  rw [List.take_left' (by simp), List.length_replicate, List.drop_append, List.drop_eq_nil_of_le (by simp), List.nil_append, List.length_replicate, List.drop_replicate, ← List.append_assoc, List.replicate_append_replicate]
  congr 2
  omega
theorem rowL_at (x : Int) {k j : Nat} (h : j < k) : (rowL x k)[j]? = some (.int .i64 x) := by
  unfold rowL
  rw [List.getElem?_append_left (by simpa using h), List.getElem?_replicate, if_pos h]

theorem made20 (x : Int) : madeCells (Value.int .i64 0).cells (20 * 1) = (rowL x 0).toArray := by
  apply Array.ext'
  rw [show (Value.int .i64 0).cells = #[.int .i64 0] from rfl, toList_madeCells_one]
  rfl

theorem LieL.cell {w : World} {g : Nat} {L : List Value} {t : TypeId} (h : w.heap[g]? = some (.cells L.toArray t (0, 0))) {j : Nat} {v : Value} (hj : L[j]? = some v) : w.cell? ⟨g, j, none⟩ = some v := by
  have := Lies.cell h j
  rw [this]
  simpa using hj

theorem rowL_src {w : World} {g k m : Nat} {x : Int} {t : TypeId} (h : w.heap[g]? = some (.cells (rowL x k).toArray t (0, 0))) (hm : m ≤ k) : ∀ j v, (List.replicate m (Value.int .i64 x))[j]? = some v → w.drew.cell? ((⟨g, 0, none⟩ : Addr).add j) = some v := by
  intro j v hv
  rw [List.getElem?_replicate] at hv
  split at hv
  · next hj =>
    have hadd : (⟨g, 0, none⟩ : Addr).add j = ⟨g, j, none⟩ := by
      unfold Addr.add
      split
      · rename_i h0; subst h0; rfl
      · simp
    rw [hadd]
    rw [← hv]
    exact LieL.cell (w := w) h (rowL_at x (by omega))
  · cases hv

set_option maxRecDepth 100000 in
set_option maxHeartbeats 1000000 in
theorem repeat_20 (b : Nat) (x : Int) (c : Nat) (w : World) (hb : b < w.heap.size) (hx : w.cell? ⟨b, 0, none⟩ = some (.int .i64 x)) (hx64 : In64 x) :
    Calls Tryd.prog 34 #[.slice (some ⟨b, 0, none⟩) 1 c, .int .i64 20] w (GivesInts w (List.replicate 20 x)) := by
  obtain ⟨R, hR⟩ : ∃ R, R = List.replicate 20 x := ⟨_, rfl⟩
  rw [← hR]
  have HR := hide hR
  clear hR
  have hmk : ∀ w' : World, (Instr.makeSlice 24 (.int .i64 20) (.int .i64 20)).run Tryd.prog w' = .ok (.slice (some ⟨w'.heap.size, 0, none⟩) 20 20) (w'.alloc (.cells (rowL x 0).toArray 3)) := fun w' =>
    (run_make_rows 24 3 (.int .i64 0) 1 8 Tryd.underlying24 infoI .i64 .i64 20 (by omega) (by omega) w').trans (by rw [made20 x])
  go_enter Tryd.func34, Tryd.ntmps34
  go_upto_region 7 with (go_at_call 40; refine (mul_one' _).mono ?_; rintro e w' ⟨rfl, rfl⟩)
  have hlie : (w.alloc (.cells (rowL x 0).toArray 3)).heap[w.heap.size]? = some (.cells (rowL x 0).toArray 3 (0, 0)) := heap_alloc_new w _
  have hB0 := (Below.refl w.heap.size w).alloc (Nat.le_refl _) (.cells (rowL x 0).toArray 3)
  have hx2 := (hB0.cell (p := ⟨b, 0, none⟩) hb).trans hx
  have HL0 := hide hlie
  have HB0 := hide hB0
  clear hlie hB0 hmk
  generalize w.alloc (.cells (rowL x 0).toArray 3) = W at HL0 HB0 hx2 ⊢
  generalize hG : w.heap.size = g at HL0 ⊢
  have HG := hide hG
  clear hG hx
  have hc1 : ∀ j v, [Value.int .i64 x][j]? = some v → W.cell? ((⟨b, 0, none⟩ : Addr).add j) = some v := by
    intro j v hv
    match j, hv with
    | 0, hv =>
      simp at hv
      subst hv
      exact hx2
  have hc2 : 0 + [Value.int .i64 x].length ≤ (rowL x 0).length := by rw [rowL_len x (by omega)]; simp
  have hc3 : ∀ v ∈ [Value.int .i64 x], v.oneCell' = true := by intro v hv; simp at hv; subst hv; rfl
  have HC1 := hide hc1
  have HC3 := hide hc3
  clear hc1 hc3
  go_upto_region 8 with (with_reducible refine wpList_copy_splice rfl (.tmp 31) (.tmp 32) 24 24 rfl 3 Tryd.underlying24 (by kernel_rfl) (some ⟨g, 0, none⟩) (some ⟨b, 0, none⟩) 20 20 1 c rfl rfl g 0 (rowL x 0) 3 HL0.out [.int .i64 x] rfl (fun _ => ⟨rfl, _, rfl, HC1.out⟩) hc2 HC3.out w.heap.size w HB0.out (by rw [HG.out]; exact Nat.le_refl _) ?_; intro w2 hL2 hB2)
  have HL2 := hide (show w2.heap[g]? = some (.cells (rowL x 1).toArray 3 (0, 0)) from by
    have h := hL2.out
    rw [show splice (rowL x 0) 0 [Value.int .i64 x] = rowL x (0 + 1) from rowL_splice x (k := 0) (m := 1) (by omega)] at h
    exact h)
  clear hL2 HL0 HB0 hc2 HC1 HC3 hx2
  have HB2 := hide hB2
  clear hB2
  go_wp2_with fail
  go_loopg [8] 19 (fun gk nv wr => ∃ k : Nat, 1 ≤ k ∧ k ≤ 20 ∧ gk = 20 - k ∧ nv = .int .i64 (k : Int) ∧ wr.heap[g]? = some (.cells (rowL x k).toArray 3 (0, 0)) ∧ Below w.heap.size w wr)
  case atStart => exact ⟨1, by omega, by omega, by omega, by go_num, HL2.out, HB2.out⟩
  case round =>
    clear HL2 HB2
    obtain ⟨k, hk1, hk2, rfl, rfl, hL, hB⟩ := hrel
    have HL := hide hL
    have HB := hide hB
    clear hL hB
    by_cases hlt : k < 20
    · have hlt2 : (k : Int) < 20 := by omega
      have hk0 : (0 : Int) ≤ (k : Int) := by omega
      have hle2 : (k : Int) ≤ 20 := by omega
      have hn20 : ¬ k = 20 := by omega
      have hn20' : ¬ 20 = k := by omega
      obtain ⟨d, hd⟩ : ∃ d, 20 - k = d := ⟨_, rfl⟩
      obtain ⟨m, hm⟩ : ∃ m, min k d = m := ⟨_, rfl⟩
      have Hm := hide hm
      have hm1 : 1 ≤ m := by omega
      have hm2 : m ≤ k := by omega
      have hm3 : m ≤ d := by omega
      clear hm
      have hkd1 : k + d ≤ 20 := by omega
      have hkd2 : 20 ≤ k + d := by omega
      have hwr : IntKind.i64.wrap ((k : Int) + (m : Int)) = (k : Int) + (m : Int) := by rw [IntKind.wrap_i64]; omega
      go_wp2_with fail
      go_region_law (first
        | (refine step_copy_splice (by rfl) (.tmp 41) (.tmp 44) 24 24 (by rfl) 3 Tryd.underlying24 (by kernel_rfl) (some ⟨g, k, none⟩) (some ⟨g, 0, none⟩) d d k 20 (by simp [Act.eval, Act.put]) (by simp [Act.eval, Act.put]) g k (rowL x k) 3 HL.out (List.replicate m (.int .i64 x)) (by rw [List.length_replicate]; exact Hm.out.symm) (fun _ => ⟨rfl, _, rfl, rowL_src HL.out hm2⟩) (by rw [rowL_len x (by omega)]; simp; omega) (by intro v hv; rw [List.eq_of_mem_replicate hv]; rfl) w.heap.size w HB.out.drew (by rw [HG.out]; exact Nat.le_refl _) ?_; intro w3 hL3 hB3))
      all_goals
        have HL3 := hide (show w3.heap[g]? = some (.cells (rowL x (k + m)).toArray 3 (0, 0)) from by
          have h := hL3.out
          rw [rowL_splice x (by omega)] at h
          exact h)
        have HB3 := hide hB3
        clear hL3 hB3 hd hwr
        go_wp2
        go_roundg (20 - (k + m))
        case measure => omega
        case rel => exact ⟨k + m, by omega, by omega, rfl, by go_num, HL3.out, HB3.out⟩
    · obtain rfl : k = 20 := by omega
      rw [show ((20 : Nat) : Int) = 20 from rfl]
      go_wp2
      go_ret
      rw [HR.out]
      exact ⟨some ⟨g, 0, none⟩, 20, rfl, ⟨⟨by simp, .inr ⟨g, 20, (rowL x 20).toArray, rfl, by rw [HG.out]; exact Nat.le_refl _, HL.out, by simp, by unfold maxLen; omega, by simp [rowL], by simp [rowL]⟩⟩⟩, HB.out⟩

end Go.Proofs.YtgkbblaaodcmnaaDoor
