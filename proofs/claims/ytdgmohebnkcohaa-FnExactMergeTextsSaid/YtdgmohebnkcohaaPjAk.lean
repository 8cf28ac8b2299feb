/-
  Lemmas, several texts in one: ClnA, RwL.
-/
import Derived.Test.YtdgmohebnkcohaaOwnNB
import Derived.Test.YtdgmohebnkcohaaPjAa
import Derived.Deep.LoopGhost
namespace Go.Proofs.Ytdgmohebnkcohaa
open Go.RowKit Go.Maps
set_option linter.unusedVariables false

theorem makeNodesC (n : Nat) (hn : n ≤ 1000) : ∀ w : World, (Instr.makeSlice 26 (.int .i64 (n : Int)) (.int .i64 (n : Int))).run Try.prog w = .ok (.slice (some ⟨w.heap.size, 0, none⟩) n n) (w.alloc (.cells (madeCells (Value.agg #[.int .i64 0, .int .i64 0, .slice none 0 0]).cells (n * 3)) 38)) :=
  run_make_rows (P := Try.prog) 26 38 (.agg #[.int .i64 0, .int .i64 0, .slice none 0 0]) 3 40 Try.underlying26 infoNdA .i64 .i64 n (by omega) (by omega)

/-- the answer: a row of the call's own that holds the nodes -/
def GivesNs (w : World) (ns : List Nd) (e : Ending) (w' : World) : Prop :=
  ∃ g, e = .returned (.slice (some ⟨g, 0, none⟩) ns.length ns.length) ∧ OwnRow w' w.heap.size w'.heap.size g ns.length ns ∧ Below w.heap.size w w'

structure ClA (w wr : World) (ns : List Nd) (k : Nat) : Prop where
  bel : Below w.heap.size w wr
  row : OwnRow wr w.heap.size wr.heap.size w.heap.size ns.length (ns.take k)

theorem ClA.start (w : World) (ns : List Nd) : ClA w (w.alloc (.cells (madeCells #[.int .i64 0, .int .i64 0, .slice none 0 0] (ns.length * 3)) 38)) ns 0 := by
  refine ⟨(Below.refl _ _).alloc (Nat.le_refl _) _, ?_⟩
  have hrow : (w.alloc (.cells (madeCells #[.int .i64 0, .int .i64 0, .slice none 0 0] (ns.length * 3)) 38)).rowIs w.heap.size 38 (ns.length * 3) (fun i => ((madeCells #[.int .i64 0, .int .i64 0, .slice none 0 0] (ns.length * 3))[i]?).getD undef) :=
    ⟨_, Lies.new w _ _, size_madeCells _ _, fun i hi => by
      show (madeCells #[.int .i64 0, .int .i64 0, .slice none 0 0] (ns.length * 3))[i]? = some (((madeCells #[.int .i64 0, .int .i64 0, .slice none 0 0] (ns.length * 3))[i]?).getD undef)
      rw [Array.getElem?_eq_getElem (by rw [size_madeCells]; exact hi)]
      rfl⟩
  have := (OwnRow.zero hrow).high (hi2 := (w.alloc (.cells (madeCells #[.int .i64 0, .int .i64 0, .slice none 0 0] (ns.length * 3)) 38)).heap.size) (by simp)
  simpa using this

theorem ClA.step {w wr w2 wi : World} {ns : List Nd} {k c : Nat} {n : Nd} {Ak : Option Addr} (h : ClA w wr ns k) (hn : ns[k]? = some n) (h2 : Below wr.heap.size wr w2) (hi : Below w2.heap.size w2 wi)
    (hown : OwnI wi w2.heap.size Ak c n.kids) : ClA w (setN wi w.heap.size k (.int .i64 n.kind) (.int .i64 n.value) (.slice Ak n.kids.length c)) ns (k + 1) := by
  have hkl := (List.getElem?_eq_some_iff.1 hn).1
  have hb := h2.trans (hi.mono h2.size)
  have hlen : (ns.take k).length = k := by simp; omega
  refine ⟨setN_below (h.bel.trans (hb.mono h.bel.size)) (Nat.le_refl _), ?_⟩
  have hr : OwnRow wi w.heap.size wr.heap.size w.heap.size ns.length (ns.take k) := h.row.kept (fun b _ hb' => hb.block b hb')
  have := hr.snoc (n := n) (hi2 := wi.heap.size) (c := c) (A := Ak) (by omega) (hown.lowB h2.size) (by have := hb.size; omega) (fun b hb' => (hown.blocks b hb').2)
  rw [hlen] at this
  rw [List.take_add_one, hn, setN_size]
  exact this

end Go.Proofs.Ytdgmohebnkcohaa

namespace Go.Proofs.Ytdgmohebnkcohaa
open Go.RowKit
set_option linter.unusedVariables false

/-- the block g holds just these numbers -/
def RowL (w : World) (g : Nat) (xs : List Int) : Prop := Lies w g (xs.map (fun x => Value.int .i64 x)).toArray 3

theorem RowL.lt {w : World} {g : Nat} {xs : List Int} (h : RowL w g xs) : g < w.heap.size := Lies.lt h
theorem RowL.cell {w : World} {g j : Nat} {xs : List Int} {x : Int} (h : RowL w g xs) (hj : xs[j]? = some x) : w.cell? ⟨g, j, none⟩ = some (.int .i64 x) := by
  have := Lies.cell h j
  rw [this]
  simp [hj]
theorem RowL.frozen {w : World} {g : Nat} {xs : List Int} (h : RowL w g xs) (j : Nat) : w.frozen? ⟨g, j, none⟩ = false := Lies.frozen h j
theorem RowL.set {w : World} {g : Nat} {xs : List Int} (h : RowL w g xs) (j : Nat) (x : Int) : RowL (w.setCell ⟨g, j, none⟩ (.int .i64 x)) g (xs.set j x) := by
  have := Lies.set h j (.int .i64 x)
  unfold RowL
  rw [List.map_set]
  simpa using this
theorem RowL.block {w w' : World} {g : Nat} {xs : List Int} (h : RowL w g xs) (hb : w'.heap[g]? = w.heap[g]?) : RowL w' g xs := hb.trans h
theorem RowL.below {w w' : World} {g B : Nat} {xs : List Int} (h : RowL w g xs) (hb : Below B w w') (hg : g < B) : RowL w' g xs := h.block (hb.block g hg)
theorem RowL.later {w w' : World} {g : Nat} {xs : List Int} (h : RowL w g xs) (hb : Below w.heap.size w w') : RowL w' g xs := h.below hb h.lt
theorem RowL.far {w : World} {g q j : Nat} {v : Value} {xs : List Int} (h : RowL w g xs) (hq : g ≠ q) : RowL (w.setCell ⟨q, j, none⟩ v) g xs := h.block (Below.heap_setCell _ _ _ _ hq)
theorem RowL.ints {w : World} {g : Nat} {xs : List Int} (h : RowL w g xs) (hwf : ∀ x ∈ xs, In64 x) (hl : xs.length ≤ 9223372036854775807) : IntsAt w w.heap.size (some ⟨g, 0, none⟩) xs :=
  ⟨fun _ => ⟨g, 0, rfl, h.lt, fun j x hj => by rw [Nat.zero_add]; exact h.cell hj⟩, hwf, hl⟩
theorem RowL.own {w : World} {g base : Nat} {xs : List Int} (h : RowL w g xs) (hb : base ≤ g) (hl : xs.length ≤ maxLen) : OwnI w base (some ⟨g, 0, none⟩) xs.length xs :=
  ⟨⟨by simp, .inr ⟨g, xs.length, _, rfl, hb, h, Nat.le_refl _, hl, by simp, by simp [List.take_of_length_le]⟩⟩⟩
theorem RowL.of_row {w : World} {g : Nat} {xs : List Int} {f : Nat → Value} (h : w.rowIs g 3 xs.length f) (hf : ∀ i x, xs[i]? = some x → f i = .int .i64 x) : RowL w g xs := by
  obtain ⟨cur, hh, hs, hc⟩ := h
  have : cur = (xs.map (fun x => Value.int .i64 x)).toArray := by
    apply Array.ext
    · simpa using hs
    · intro i h1 h2
      have hi : i < xs.length := by simpa using h2
      have h3 := hc i hi
      rw [Array.getElem?_eq_getElem h1, hf i _ (List.getElem?_eq_getElem hi)] at h3
      simpa using h3
  unfold RowL
  rw [← this]
  exact hh
theorem RowL.made (w : World) (n : Nat) : RowL (w.alloc (.cells (madeCells #[.int .i64 0] n) 3)) w.heap.size (List.replicate n 0) := by
  have h := World.rowIs_made w (.int .i64 0) n 3
  refine RowL.of_row (f := fun _ => .int .i64 0) (by rw [List.length_replicate]; exact h) (fun i x hx => ?_)
  rw [List.getElem?_replicate] at hx
  split at hx
  · injection hx with hx
    rw [hx]
  · cases hx

/-- the first i of a list, then those of another one -/
def mixL (xs ys : List Int) (i : Nat) : List Int := xs.take i ++ ys.drop i
theorem mixL_len {xs ys : List Int} {i : Nat} (h : xs.length = ys.length) : (mixL xs ys i).length = ys.length := by
  unfold mixL
  rw [List.length_append, List.length_take, List.length_drop]
  omega
theorem mixL_zero (xs ys : List Int) : mixL xs ys 0 = ys := by simp [mixL]
theorem mixL_all {xs ys : List Int} (h : xs.length = ys.length) : mixL xs ys ys.length = xs := by simp [mixL, ← h]
theorem mixL_set {xs ys : List Int} {i : Nat} {v : Int} (h : xs.length = ys.length) (hv : xs[i]? = some v) : (mixL xs ys i).set i v = mixL xs ys (i + 1) := by
  have hi := (List.getElem?_eq_some_iff.1 hv).1
  unfold mixL
  have hl : (xs.take i).length = i := by simp; omega
  have hd : ys.drop i = ys[i] :: ys.drop (i + 1) := List.drop_eq_getElem_cons (by omega)
  rw [List.set_append, if_neg (by omega), hl, Nat.sub_self, hd, List.set_cons_zero, List.take_add_one, hv]
  simp

end Go.Proofs.Ytdgmohebnkcohaa
