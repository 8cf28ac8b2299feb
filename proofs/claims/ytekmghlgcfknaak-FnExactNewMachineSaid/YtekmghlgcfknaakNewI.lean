/-
  The program's NewMachine: what it returns.
-/
import Derived.Test.YtekmghlgcfknaakNewS
import Derived.Deep.RegionLaw
namespace Go.Proofs.Ytekmghlgcfknaak
open Go.RowKit
set_option linter.unusedVariables false

theorem makeInts20m : ∀ w : World, (Instr.makeSlice 23 (.int .i64 20) (.int .i64 20)).run Try.prog w = .ok (.slice (some ⟨w.heap.size, 0, none⟩) 20 20) (w.alloc (.cells (madeCells #[.int .i64 0] 20) 3)) :=
  run_make_row' (P := Try.prog) 23 3 (.int .i64 0) 8 Try.underlying23 infoI rfl .i64 .i64 20 (by omega) (by omega)
theorem makeNodesN (f : Nat) (hf : f ≤ 1) : ∀ w : World, (Instr.makeSlice 22 (.int .i64 (f : Int)) (.int .i64 (f : Int))).run Try.prog w = .ok (.slice (some ⟨w.heap.size, 0, none⟩) f f) (w.alloc (.cells (madeCells (Value.agg #[.int .i64 0, .int .i64 0, .slice none 0 0]).cells (f * 3)) 33)) :=
  run_make_rows (P := Try.prog) 22 33 (.agg #[.int .i64 0, .int .i64 0, .slice none 0 0]) 3 40 Try.underlying22 infoNdA .i64 .i64 f (by omega) (by omega)

/-- the memory behind the first statement of NewMachine: nodes, a memo of zeros, and the machine itself, in whatever order they were made -/
structure NM (w X : World) (f gN gM gB : Nat) : Prop where
  node : OwnRow X gN (gN + 1) gN f (List.replicate f ⟨0, 0, []⟩)
  memo : OwnI X gM (some ⟨gM, 0, none⟩) 20 (List.replicate 20 0)
  box : Lies X gB #[.slice (some ⟨gN, 0, none⟩) f f, .slice none 0 0, .slice (some ⟨gM, 0, none⟩) 20 20, .bool false] 25
  res : Lies X w.heap.size #[.slice none 0 0, .slice none 0 0, .slice none 0 0, .bool false] 25
  below : Below w.heap.size w X
  nm : gN ≠ gM
  nb : gN ≠ gB
  mb : gM ≠ gB
  n0 : w.heap.size < gN
  m0 : w.heap.size < gM
  b0 : w.heap.size < gB

theorem made3 (i : Nat) (h : i < 3) : (madeCells (Value.agg #[.int .i64 0, .int .i64 0, .slice none 0 0]).cells (1 * 3))[i]? = (#[.int .i64 0, .int .i64 0, .slice none 0 0] : Array Value)[i]? := by
  rcases i with _ | _ | _ | i
  · simp [madeCells, Value.cells]
  · simp [madeCells, Value.cells]
  · simp [madeCells, Value.cells]
  · omega

theorem NM.of {w w1 X : World} {f gN gM gB : Nat} (hf : f ≤ 1) (hB : Below w.heap.size w w1) (l0 : Lies w1 w.heap.size #[.slice none 0 0, .slice none 0 0, .slice none 0 0, .bool false] 25) (hX : Below w1.heap.size w1 X)
    (hN : X.heap[gN]? = some (.cells (madeCells (Value.agg #[.int .i64 0, .int .i64 0, .slice none 0 0]).cells (f * 3)) 33 (0, 0))) (hM : X.heap[gM]? = some (.cells (madeCells #[.int .i64 0] 20) 3 (0, 0)))
    (hb : X.heap[gB]? = some (.cells #[.slice (some ⟨gN, 0, none⟩) f f, .slice none 0 0, .slice (some ⟨gM, 0, none⟩) 20 20, .bool false] 25 (0, 0)))
    (h1 : gN ≠ gM) (h2 : gN ≠ gB) (h3 : gM ≠ gB) (h4 : w1.heap.size ≤ gN) (h5 : w1.heap.size ≤ gM) (h6 : w1.heap.size ≤ gB) : NM w X f gN gM gB := by
  have hl := l0.lt
  refine ⟨?_, ?_, hb, l0.below hX hl, hB.trans (hX.mono hB.size), h1, h2, h3, by omega, by omega, by omega⟩
  · rcases f with _ | _ | f
    · exact OwnRow.zero (f := fun _ => undef) ⟨_, hN, size_madeCells _ _, fun i hi => absurd hi (by omega)⟩
    · exact OwnRow.one (f := fun i => ((#[.int .i64 0, .int .i64 0, .slice none 0 0] : Array Value)[i]?).getD undef) 0 0 ⟨_, hN, size_madeCells _ _, fun i hi => by
        rw [made3 i (by omega)]
        rcases i with _ | _ | _ | i
        · rfl
        · rfl
        · rfl
        · omega⟩ (Nat.le_refl _) rfl rfl rfl
    · omega
  · exact OwnI.of_row (f := fun _ => .int .i64 0) ⟨_, hM, size_madeCells _ _, fun i hi => by simp [madeCells, hi, Nat.mod_one]⟩ (by simp) (by unfold maxLen; omega) (Nat.le_refl _) (fun i x hx => by
      have := List.eq_of_mem_replicate (List.mem_of_getElem? hx)
      rw [this])

theorem NM.drew {w X : World} {f gN gM gB : Nat} (h : NM w X f gN gM gB) : NM w X.drew f gN gM gB :=
  ⟨h.node.kept (fun _ _ _ => rfl), h.memo.of_blk (fun _ _ => rfl), h.box, h.res, h.below.drew, h.nm, h.nb, h.mb, h.n0, h.m0, h.b0⟩

theorem three_heap (w1 : World) (a b c : Obj) : (((w1.alloc a).alloc b).alloc c).heap[w1.heap.size]? = ((w1.alloc a)).heap[w1.heap.size]? ∧ (((w1.alloc a).alloc b).alloc c).heap[w1.heap.size + 1]? = ((w1.alloc a).alloc b).heap[(w1.alloc a).heap.size]? ∧ (((w1.alloc a).alloc b).alloc c).heap[w1.heap.size + 1 + 1]? = (((w1.alloc a).alloc b).alloc c).heap[((w1.alloc a).alloc b).heap.size]? := by
  refine ⟨?_, ?_, ?_⟩
  · rw [Below.heap_alloc _ _ _ (by simp; omega), Below.heap_alloc _ _ _ (by simp)]
  · rw [Below.heap_alloc _ _ _ (by simp), World.size_alloc]
  · rw [World.size_alloc, World.size_alloc]

theorem three_below (w1 : World) (a b c : Obj) : Below w1.heap.size w1 (((w1.alloc a).alloc b).alloc c) := (((Below.refl _ _).alloc (Nat.le_refl _) _).alloc (by simp) _).alloc (by simp; omega) _

theorem NM.pa {w w1 : World} {f : Nat} (hf : f ≤ 1) (hB : Below w.heap.size w w1) (l0 : Lies w1 w.heap.size #[.slice none 0 0, .slice none 0 0, .slice none 0 0, .bool false] 25) : NM w (((w1.alloc (.cells (madeCells #[.int .i64 0, .int .i64 0, .slice none 0 0] (f * 3)) 33)).alloc (.cells (madeCells #[.int .i64 0] 20) 3)).alloc (.cells #[.slice (some ⟨w1.heap.size, 0, none⟩) f f, .slice none 0 0, .slice (some ⟨w1.heap.size + 1, 0, none⟩) 20 20, .bool false] 25)) f (w1.heap.size) (w1.heap.size + 1) (w1.heap.size + 1 + 1) := by
  have h := three_heap w1 (.cells (madeCells #[.int .i64 0, .int .i64 0, .slice none 0 0] (f * 3)) 33) (.cells (madeCells #[.int .i64 0] 20) 3) (.cells #[.slice (some ⟨w1.heap.size, 0, none⟩) f f, .slice none 0 0, .slice (some ⟨w1.heap.size + 1, 0, none⟩) 20 20, .bool false] 25)
  exact NM.of hf hB l0 (three_below _ _ _ _) (h.1.trans (heap_alloc_new _ _)) (h.2.1.trans (heap_alloc_new _ _)) (h.2.2.trans (heap_alloc_new _ _)) (by omega) (by omega) (by omega) (by omega) (by omega) (by omega)

theorem NM.pb {w w1 : World} {f : Nat} (hf : f ≤ 1) (hB : Below w.heap.size w w1) (l0 : Lies w1 w.heap.size #[.slice none 0 0, .slice none 0 0, .slice none 0 0, .bool false] 25) : NM w (((w1.alloc (.cells (madeCells #[.int .i64 0, .int .i64 0, .slice none 0 0] (f * 3)) 33)).alloc (.cells #[.slice (some ⟨w1.heap.size, 0, none⟩) f f, .slice none 0 0, .slice (some ⟨w1.heap.size + 1 + 1, 0, none⟩) 20 20, .bool false] 25)).alloc (.cells (madeCells #[.int .i64 0] 20) 3)) f (w1.heap.size) (w1.heap.size + 1 + 1) (w1.heap.size + 1) := by
  have h := three_heap w1 (.cells (madeCells #[.int .i64 0, .int .i64 0, .slice none 0 0] (f * 3)) 33) (.cells #[.slice (some ⟨w1.heap.size, 0, none⟩) f f, .slice none 0 0, .slice (some ⟨w1.heap.size + 1 + 1, 0, none⟩) 20 20, .bool false] 25) (.cells (madeCells #[.int .i64 0] 20) 3)
  exact NM.of hf hB l0 (three_below _ _ _ _) (h.1.trans (heap_alloc_new _ _)) (h.2.2.trans (heap_alloc_new _ _)) (h.2.1.trans (heap_alloc_new _ _)) (by omega) (by omega) (by omega) (by omega) (by omega) (by omega)

theorem NM.pc {w w1 : World} {f : Nat} (hf : f ≤ 1) (hB : Below w.heap.size w w1) (l0 : Lies w1 w.heap.size #[.slice none 0 0, .slice none 0 0, .slice none 0 0, .bool false] 25) : NM w (((w1.alloc (.cells (madeCells #[.int .i64 0] 20) 3)).alloc (.cells (madeCells #[.int .i64 0, .int .i64 0, .slice none 0 0] (f * 3)) 33)).alloc (.cells #[.slice (some ⟨w1.heap.size + 1, 0, none⟩) f f, .slice none 0 0, .slice (some ⟨w1.heap.size, 0, none⟩) 20 20, .bool false] 25)) f (w1.heap.size + 1) (w1.heap.size) (w1.heap.size + 1 + 1) := by
  have h := three_heap w1 (.cells (madeCells #[.int .i64 0] 20) 3) (.cells (madeCells #[.int .i64 0, .int .i64 0, .slice none 0 0] (f * 3)) 33) (.cells #[.slice (some ⟨w1.heap.size + 1, 0, none⟩) f f, .slice none 0 0, .slice (some ⟨w1.heap.size, 0, none⟩) 20 20, .bool false] 25)
  exact NM.of hf hB l0 (three_below _ _ _ _) (h.2.1.trans (heap_alloc_new _ _)) (h.1.trans (heap_alloc_new _ _)) (h.2.2.trans (heap_alloc_new _ _)) (by omega) (by omega) (by omega) (by omega) (by omega) (by omega)

theorem NM.pd {w w1 : World} {f : Nat} (hf : f ≤ 1) (hB : Below w.heap.size w w1) (l0 : Lies w1 w.heap.size #[.slice none 0 0, .slice none 0 0, .slice none 0 0, .bool false] 25) : NM w (((w1.alloc (.cells #[.slice (some ⟨w1.heap.size + 1, 0, none⟩) f f, .slice none 0 0, .slice (some ⟨w1.heap.size + 1 + 1, 0, none⟩) 20 20, .bool false] 25)).alloc (.cells (madeCells #[.int .i64 0, .int .i64 0, .slice none 0 0] (f * 3)) 33)).alloc (.cells (madeCells #[.int .i64 0] 20) 3)) f (w1.heap.size + 1) (w1.heap.size + 1 + 1) (w1.heap.size) := by
  have h := three_heap w1 (.cells #[.slice (some ⟨w1.heap.size + 1, 0, none⟩) f f, .slice none 0 0, .slice (some ⟨w1.heap.size + 1 + 1, 0, none⟩) 20 20, .bool false] 25) (.cells (madeCells #[.int .i64 0, .int .i64 0, .slice none 0 0] (f * 3)) 33) (.cells (madeCells #[.int .i64 0] 20) 3)
  exact NM.of hf hB l0 (three_below _ _ _ _) (h.2.1.trans (heap_alloc_new _ _)) (h.2.2.trans (heap_alloc_new _ _)) (h.1.trans (heap_alloc_new _ _)) (by omega) (by omega) (by omega) (by omega) (by omega) (by omega)

theorem NM.pe {w w1 : World} {f : Nat} (hf : f ≤ 1) (hB : Below w.heap.size w w1) (l0 : Lies w1 w.heap.size #[.slice none 0 0, .slice none 0 0, .slice none 0 0, .bool false] 25) : NM w (((w1.alloc (.cells (madeCells #[.int .i64 0] 20) 3)).alloc (.cells #[.slice (some ⟨w1.heap.size + 1 + 1, 0, none⟩) f f, .slice none 0 0, .slice (some ⟨w1.heap.size, 0, none⟩) 20 20, .bool false] 25)).alloc (.cells (madeCells #[.int .i64 0, .int .i64 0, .slice none 0 0] (f * 3)) 33)) f (w1.heap.size + 1 + 1) (w1.heap.size) (w1.heap.size + 1) := by
  have h := three_heap w1 (.cells (madeCells #[.int .i64 0] 20) 3) (.cells #[.slice (some ⟨w1.heap.size + 1 + 1, 0, none⟩) f f, .slice none 0 0, .slice (some ⟨w1.heap.size, 0, none⟩) 20 20, .bool false] 25) (.cells (madeCells #[.int .i64 0, .int .i64 0, .slice none 0 0] (f * 3)) 33)
  exact NM.of hf hB l0 (three_below _ _ _ _) (h.2.2.trans (heap_alloc_new _ _)) (h.1.trans (heap_alloc_new _ _)) (h.2.1.trans (heap_alloc_new _ _)) (by omega) (by omega) (by omega) (by omega) (by omega) (by omega)

theorem NM.pf {w w1 : World} {f : Nat} (hf : f ≤ 1) (hB : Below w.heap.size w w1) (l0 : Lies w1 w.heap.size #[.slice none 0 0, .slice none 0 0, .slice none 0 0, .bool false] 25) : NM w (((w1.alloc (.cells #[.slice (some ⟨w1.heap.size + 1 + 1, 0, none⟩) f f, .slice none 0 0, .slice (some ⟨w1.heap.size + 1, 0, none⟩) 20 20, .bool false] 25)).alloc (.cells (madeCells #[.int .i64 0] 20) 3)).alloc (.cells (madeCells #[.int .i64 0, .int .i64 0, .slice none 0 0] (f * 3)) 33)) f (w1.heap.size + 1 + 1) (w1.heap.size + 1) (w1.heap.size) := by
  have h := three_heap w1 (.cells #[.slice (some ⟨w1.heap.size + 1 + 1, 0, none⟩) f f, .slice none 0 0, .slice (some ⟨w1.heap.size + 1, 0, none⟩) 20 20, .bool false] 25) (.cells (madeCells #[.int .i64 0] 20) 3) (.cells (madeCells #[.int .i64 0, .int .i64 0, .slice none 0 0] (f * 3)) 33)
  exact NM.of hf hB l0 (three_below _ _ _ _) (h.2.2.trans (heap_alloc_new _ _)) (h.2.1.trans (heap_alloc_new _ _)) (h.1.trans (heap_alloc_new _ _)) (by omega) (by omega) (by omega) (by omega) (by omega) (by omega)

/-- the memo while it is filled: k places are done -/
def memL (f k : Nat) : List Int := List.replicate f 0 ++ List.replicate (k - f) (-1) ++ List.replicate (20 - k) 0

theorem memL_start : ∀ f, f < 2 → List.replicate 20 (0 : Int) = memL f f := by decide
theorem memL_step : ∀ f, f < 2 → ∀ k, k < 20 → f ≤ k → (memL f k).set k (-1) = memL f (k + 1) := by decide
theorem memL_len : ∀ f, f < 2 → ∀ k, k < 21 → f ≤ k → (memL f k).length = 20 := by decide
theorem memL_end : ∀ f, f < 2 → memL f 20 = List.replicate f 0 ++ List.replicate (20 - f) (-1) := by decide

set_option maxRecDepth 100000 in
set_option maxHeartbeats 4000000 in
theorem implNewMachine_yes (f : Nat) (hf : f ≤ 1) (w : World) :
    Calls Try.prog 5 #[.int .i64 (f : Int)] w (GivesM w (List.replicate f ⟨0, 0, []⟩) (List.replicate f 0 ++ List.replicate (20 - f) (-1))) := by
  have hB : Below w.heap.size w (w.alloc (.cells #[.slice none 0 0, .slice none 0 0, .slice none 0 0, .bool false] 25)) := (Below.refl _ _).alloc (Nat.le_refl _) _
  have l0 := Lies.new w #[.slice none 0 0, .slice none 0 0, .slice none 0 0, .bool false] 25
  have hm1 := makeInts20m
  have hm2 := makeNodesN f hf
  have hu := isUpTo_yes (f : Int) 1
  go_enter Try.func5, Try.ntmps5
  go_wp2_with fail
  refine (hu _ (by omega) (by omega)).mono ?_
  clear hu
  rintro e w' ⟨rfl, rfl⟩
  go_wp2_with fail
  generalize w.alloc (.cells #[.slice none 0 0, .slice none 0 0, .slice none 0 0, .bool false] 25) = w1 at hB l0 ⊢
  go_region
  all_goals first
    | (change Exit.then _ _ _ _ ((((w1.alloc (.cells (madeCells #[.int .i64 0, .int .i64 0, .slice none 0 0] (f * 3)) 33)).alloc (.cells (madeCells #[.int .i64 0] 20) 3)).alloc (.cells #[.slice (some ⟨w1.heap.size, 0, none⟩) f f, .slice none 0 0, .slice (some ⟨w1.heap.size + 1, 0, none⟩) 20 20, .bool false] 25))).drew; have H := hide (NM.pa hf hB l0).drew; generalize ((((w1.alloc (.cells (madeCells #[.int .i64 0, .int .i64 0, .slice none 0 0] (f * 3)) 33)).alloc (.cells (madeCells #[.int .i64 0] 20) 3)).alloc (.cells #[.slice (some ⟨w1.heap.size, 0, none⟩) f f, .slice none 0 0, .slice (some ⟨w1.heap.size + 1, 0, none⟩) 20 20, .bool false] 25))).drew = X at H ⊢; generalize w1.heap.size + 1 + 1 = gB at H ⊢; generalize w1.heap.size + 1 = gM at H ⊢; generalize w1.heap.size = gN at H ⊢)
    | (change Exit.then _ _ _ _ ((((w1.alloc (.cells (madeCells #[.int .i64 0, .int .i64 0, .slice none 0 0] (f * 3)) 33)).alloc (.cells #[.slice (some ⟨w1.heap.size, 0, none⟩) f f, .slice none 0 0, .slice (some ⟨w1.heap.size + 1 + 1, 0, none⟩) 20 20, .bool false] 25)).alloc (.cells (madeCells #[.int .i64 0] 20) 3))).drew; have H := hide (NM.pb hf hB l0).drew; generalize ((((w1.alloc (.cells (madeCells #[.int .i64 0, .int .i64 0, .slice none 0 0] (f * 3)) 33)).alloc (.cells #[.slice (some ⟨w1.heap.size, 0, none⟩) f f, .slice none 0 0, .slice (some ⟨w1.heap.size + 1 + 1, 0, none⟩) 20 20, .bool false] 25)).alloc (.cells (madeCells #[.int .i64 0] 20) 3))).drew = X at H ⊢; generalize w1.heap.size + 1 + 1 = gM at H ⊢; generalize w1.heap.size + 1 = gB at H ⊢; generalize w1.heap.size = gN at H ⊢)
    | (change Exit.then _ _ _ _ ((((w1.alloc (.cells (madeCells #[.int .i64 0] 20) 3)).alloc (.cells (madeCells #[.int .i64 0, .int .i64 0, .slice none 0 0] (f * 3)) 33)).alloc (.cells #[.slice (some ⟨w1.heap.size + 1, 0, none⟩) f f, .slice none 0 0, .slice (some ⟨w1.heap.size, 0, none⟩) 20 20, .bool false] 25))).drew; have H := hide (NM.pc hf hB l0).drew; generalize ((((w1.alloc (.cells (madeCells #[.int .i64 0] 20) 3)).alloc (.cells (madeCells #[.int .i64 0, .int .i64 0, .slice none 0 0] (f * 3)) 33)).alloc (.cells #[.slice (some ⟨w1.heap.size + 1, 0, none⟩) f f, .slice none 0 0, .slice (some ⟨w1.heap.size, 0, none⟩) 20 20, .bool false] 25))).drew = X at H ⊢; generalize w1.heap.size + 1 + 1 = gB at H ⊢; generalize w1.heap.size + 1 = gN at H ⊢; generalize w1.heap.size = gM at H ⊢)
    | (change Exit.then _ _ _ _ ((((w1.alloc (.cells #[.slice (some ⟨w1.heap.size + 1, 0, none⟩) f f, .slice none 0 0, .slice (some ⟨w1.heap.size + 1 + 1, 0, none⟩) 20 20, .bool false] 25)).alloc (.cells (madeCells #[.int .i64 0, .int .i64 0, .slice none 0 0] (f * 3)) 33)).alloc (.cells (madeCells #[.int .i64 0] 20) 3))).drew; have H := hide (NM.pd hf hB l0).drew; generalize ((((w1.alloc (.cells #[.slice (some ⟨w1.heap.size + 1, 0, none⟩) f f, .slice none 0 0, .slice (some ⟨w1.heap.size + 1 + 1, 0, none⟩) 20 20, .bool false] 25)).alloc (.cells (madeCells #[.int .i64 0, .int .i64 0, .slice none 0 0] (f * 3)) 33)).alloc (.cells (madeCells #[.int .i64 0] 20) 3))).drew = X at H ⊢; generalize w1.heap.size + 1 + 1 = gM at H ⊢; generalize w1.heap.size + 1 = gN at H ⊢; generalize w1.heap.size = gB at H ⊢)
    | (change Exit.then _ _ _ _ ((((w1.alloc (.cells (madeCells #[.int .i64 0] 20) 3)).alloc (.cells #[.slice (some ⟨w1.heap.size + 1 + 1, 0, none⟩) f f, .slice none 0 0, .slice (some ⟨w1.heap.size, 0, none⟩) 20 20, .bool false] 25)).alloc (.cells (madeCells #[.int .i64 0, .int .i64 0, .slice none 0 0] (f * 3)) 33))).drew; have H := hide (NM.pe hf hB l0).drew; generalize ((((w1.alloc (.cells (madeCells #[.int .i64 0] 20) 3)).alloc (.cells #[.slice (some ⟨w1.heap.size + 1 + 1, 0, none⟩) f f, .slice none 0 0, .slice (some ⟨w1.heap.size, 0, none⟩) 20 20, .bool false] 25)).alloc (.cells (madeCells #[.int .i64 0, .int .i64 0, .slice none 0 0] (f * 3)) 33))).drew = X at H ⊢; generalize w1.heap.size + 1 + 1 = gN at H ⊢; generalize w1.heap.size + 1 = gB at H ⊢; generalize w1.heap.size = gM at H ⊢)
    | (change Exit.then _ _ _ _ ((((w1.alloc (.cells #[.slice (some ⟨w1.heap.size + 1 + 1, 0, none⟩) f f, .slice none 0 0, .slice (some ⟨w1.heap.size + 1, 0, none⟩) 20 20, .bool false] 25)).alloc (.cells (madeCells #[.int .i64 0] 20) 3)).alloc (.cells (madeCells #[.int .i64 0, .int .i64 0, .slice none 0 0] (f * 3)) 33))).drew; have H := hide (NM.pf hf hB l0).drew; generalize ((((w1.alloc (.cells #[.slice (some ⟨w1.heap.size + 1 + 1, 0, none⟩) f f, .slice none 0 0, .slice (some ⟨w1.heap.size + 1, 0, none⟩) 20 20, .bool false] 25)).alloc (.cells (madeCells #[.int .i64 0] 20) 3)).alloc (.cells (madeCells #[.int .i64 0, .int .i64 0, .slice none 0 0] (f * 3)) 33))).drew = X at H ⊢; generalize w1.heap.size + 1 + 1 = gN at H ⊢; generalize w1.heap.size + 1 = gM at H ⊢; generalize w1.heap.size = gB at H ⊢)
  all_goals
    clear l0 hB hm1 hm2
    go_wp2_with fail
    go_loopw [4] (fun iv wr => ∃ k : Nat, f ≤ k ∧ k ≤ 20 ∧ iv = .int .i64 (k : Int) ∧ OwnI wr gM (some ⟨gM, 0, none⟩) 20 (memL f k) ∧ Only gM (gM + 1) X wr) (fun iv _ => 20 - (intOf iv).toNat)
    case atStart => exact ⟨f, Nat.le_refl _, by omega, rfl, by rw [← memL_start f (by omega)]; exact H.out.memo, Only.refl _ _ _⟩
    case round =>
      obtain ⟨k, hfk, hk, rfl, hown, ho⟩ := hrel
      have hnm := H.out.nm
      have hnb := H.out.nb
      have hmb := H.out.mb
      have hn0 := H.out.n0
      have hm0 := H.out.m0
      have hb0 := H.out.b0
      have lb : Lies wr gB _ _ := (ho.block gB (by omega)).trans H.out.box
      by_cases hlt : k < 20
      · have hd : decide ((k : Int) < 20) = true := by simp; omega
        have hl := memL_len f (by omega) k (by omega) hfk
        have e2 := lb.cell 2
        simp at e2
        have hk1 : (0 : Int) ≤ (k : Int) := by omega
        have hk2 : (k : Int) < 20 := by omega
        have q0 := hown.own.cellAt k (by omega)
        have hx : ∃ u, ((memL f k).map (Value.int .i64))[k]? = some u := ⟨_, List.getElem?_eq_getElem (by simp; omega)⟩
        obtain ⟨u, hu⟩ := hx
        rw [hu] at q0
        have q1 := hown.own.frozenAt k
        have hst := (hown.own.stored k (.int .i64 (-1))).1
        have hS := hide (show OwnI (wr.setCell ⟨gM, k, none⟩ (.int .i64 (-1))) gM (some ⟨gM, 0, none⟩) 20 (memL f (k + 1)) from by
          have h2 := memL_step f (by omega) k hlt hfk
          rw [← h2]
          refine ⟨?_⟩
          rw [List.length_set, List.map_set]
          exact hst)
        have HO := hide (ho.setCell (p := ⟨gM, k, none⟩) (Nat.le_refl _) (Nat.lt_succ_self _) (.int .i64 (-1)))
        clear hl hu hst hown ho lb
        go_wp2
        go_roundw
        case rel => exact ⟨k + 1, by omega, by omega, by go_num, hS.out, HO.out⟩
        case measure => simp [intOf]; omega
      · obtain rfl : k = 20 := by omega
        clear hlt
        rw [memL_end f (by omega)] at hown
        have e0 := lb.cell 0
        have e1 := lb.cell 1
        have e2 := lb.cell 2
        have e3 := lb.cell 3
        simp only [List.getElem?_toArray, List.getElem?_cons_zero, List.getElem?_cons_succ] at e0 e1 e2 e3
        have lr : Lies wr w.heap.size _ _ := (ho.block w.heap.size (by omega)).trans H.out.res
        obtain ⟨c0, f0, c1, f1, c2, f2, c3, f3, s0, s1, s2, s3⟩ := St4.of lr (.slice (some ⟨gN, 0, none⟩) f f) (.slice none 0 0) (.slice (some ⟨gM, 0, none⟩) 20 20) (.bool false)
        have hml : (List.replicate f (0 : Int) ++ List.replicate (20 - f) (-1)).length = 20 := by simp; omega
        have HML := hide hml
        have HOw := hide hown
        have HO := hide ho
        clear lb lr hml hown ho
        rw [show ((20 : Nat) : Int) = (20 : Int) from rfl]
        go_wp2
        refine bodyPost_ret (v := machV (some ⟨gN, 0, none⟩) f f none 0 0 (some ⟨gM, 0, none⟩) 20 20 false) (by simp [machV, results, Try.results5, go_sem, s0, s1, s2, s3]) rfl ?_
        have hB2 : Below w.heap.size w wr := H.out.below.trans (HO.out.below.mono (by omega))
        have hgNs := H.out.node.lt
        have hszr : X.heap.size = wr.heap.size := HO.out.size.symm
        have hgM := (HOw.out.blocks gM rfl).2
        have hMach : OwnMach wr (w.heap.size + 1) wr.heap.size (some ⟨gN, 0, none⟩) f (List.replicate f ⟨0, 0, []⟩) none 0 [] (some ⟨gM, 0, none⟩) 20 (List.replicate f 0 ++ List.replicate (20 - f) (-1)) :=
          ⟨⟨gN, gN + 1, by omega, by omega, by omega, .inr ⟨gN, rfl, H.out.node.kept (fun b h1 h2 => HO.out.block b (by omega))⟩, noBlock, fun b hb => by simp [blockOf] at hb; omega⟩, OwnI.empty _ _, HOw.out.mono (by omega), noBlock, fun b hb => ⟨by simp [blockOf] at hb; omega, by simp [blockOf]⟩⟩
        refine ⟨some ⟨gN, 0, none⟩, f, some ⟨gM, 0, none⟩, 20, by rw [HML.out]; simp, ((hMach.put4 (by omega) _ _ _ _).low (by omega)).high (by show _ ≤ (put4 _ _ _ _ _ _).heap.size; rw [put4_size]; exact Nat.le_refl _), put4_below hB2 (Nat.le_refl _)⟩

set_option maxRecDepth 100000 in
set_option maxHeartbeats 2000000 in
theorem implNewMachine_zero (f : Int) (w : World) (hin : ¬ (0 ≤ f ∧ f ≤ 1)) :
    Calls Try.prog 5 #[.int .i64 f] w (GivesM w [] []) := by
  have hB : Below w.heap.size w (w.alloc (.cells #[.slice none 0 0, .slice none 0 0, .slice none 0 0, .bool false] 25)) := (Below.refl _ _).alloc (Nat.le_refl _) _
  have l0 := Lies.new w #[.slice none 0 0, .slice none 0 0, .slice none 0 0, .bool false] 25
  have hin' : f < 0 ∨ 1 < f := by omega
  go_enter Try.func5, Try.ntmps5
  go_wp2_with fail
  generalize w.alloc (.cells #[.slice none 0 0, .slice none 0 0, .slice none 0 0, .bool false] 25) = w1 at hB l0 ⊢
  refine (isUpTo_no f 1 _ hin').mono ?_
  rintro e w' ⟨rfl, rfl⟩
  obtain ⟨c0, f0, c1, f1, c2, f2, c3, f3, s0, s1, s2, s3⟩ := St4.of l0 (.slice none 0 0) (.slice none 0 0) (.slice none 0 0) (.bool false)
  clear l0 hin hin'
  go_wp2
  refine bodyPost_ret (v := machV none 0 0 none 0 0 none 0 0 false) (by simp [machV, results, Try.results5, go_sem, s0, s1, s2, s3]) rfl ?_
  exact GivesM.zero w _ (put4_below hB (Nat.le_refl _))

theorem implNewMachine_any (f : Int) (w : World) :
    Calls Try.prog 5 #[.int .i64 f] w (GivesM w (newNs f) (newMs f)) := by
  by_cases h0 : f = 0
  · subst h0
    exact implNewMachine_yes 0 (by omega) w
  · by_cases h1 : f = 1
    · subst h1
      exact implNewMachine_yes 1 (by omega) w
    · have e1 : newNs f = [] := by unfold newNs; rw [if_neg h1]
      have e2 : newMs f = [] := by unfold newMs; rw [if_neg h0, if_neg h1]
      rw [e1, e2]
      exact implNewMachine_zero f w (by omega)

end Go.Proofs.Ytekmghlgcfknaak
