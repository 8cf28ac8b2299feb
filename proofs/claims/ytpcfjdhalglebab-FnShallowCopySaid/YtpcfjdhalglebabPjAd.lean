/-
  Lemmas, several texts in one: OwnNA, OwnNB, RwL.
-/
import Derived.Test.YtpcfjdhalglebabOwnN
import Derived.Deep.AppendLies
import Derived.Test.YtpcfjdhalglebabPjAc
import Derived.Test.YtpcfjdhalglebabPjAa
namespace Go.Proofs.Ytpcfjdhalglebab
open Go.RowKit
set_option linter.unusedVariables false

/-- a row of one node without kids -/
theorem OwnRow.one {w : World} {g cap : Nat} {f : Nat → Value} (a b : Int) (h : w.rowIs g 33 (cap * 3) f) (hc : 1 ≤ cap) (h0 : f 0 = .int .i64 a) (h1 : f 1 = .int .i64 b) (h2 : f 2 = .slice none 0 0) :
    OwnRow w g (g + 1) g cap [⟨a, b, []⟩] := by
  have c0 := World.rowIs.cell h (i := 0) (by omega)
  have c1 := World.rowIs.cell h (i := 1) (by omega)
  have c2 := World.rowIs.cell h (i := 2) (by omega)
  rw [h0] at c0
  rw [h1] at c1
  rw [h2] at c2
  refine ⟨⟨f, h⟩, by simpa using hc, Nat.le_refl _, Nat.lt_succ_self _, fun j n hj => ?_, fun i j A A' n n' c c' hij hi hj => by simp at hi hj; omega⟩
  match j, hj with
  | 0, hj =>
    simp at hj
    subst hj
    exact ⟨c0, c1, ⟨none, 0, c2, OwnI.empty _ _, fun b hb => by cases hb⟩⟩
  | j + 1, hj => simp at hj

/-- a row of no node -/
theorem OwnRow.zero {w : World} {g cap : Nat} {f : Nat → Value} (h : w.rowIs g 33 (cap * 3) f) : OwnRow w g (g + 1) g cap [] :=
  ⟨⟨f, h⟩, Nat.zero_le _, Nat.le_refl _, Nat.lt_succ_self _, fun j n hj => by simp at hj, fun i j A A' n n' c c' _ hi => by simp at hi⟩

theorem infoNdA : (Try.prog.info? 33).map (fun i => (i.zero, i.size, i.bytes)) = some (some (.agg #[.int .i64 0, .int .i64 0, .slice none 0 0]), 3, 40) := by kernel_rfl

/-- append(nil, n) of one node without kids, which lies in a block of its own -/
theorem append_nd1 {w : World} {ops : Array Oper} {rest : List Oper} {o : Oper} {a : Act} {Q : Exit → Act → World → Prop} (hgd : o.guard = none) (s x : Operand)
    (ho : o.op = .call { callee := .builtin .append, args := #[s, x], argTypes := #[23, 23] })
    (base : Nat) (hs : a.eval s = .slice none 0 0) (b : Nat) (k v : Int) (t : TypeId) (hx : a.eval x = .slice (some ⟨b, 0, none⟩) 1 1) (hr : w.heap[b]? = some (.cells #[.int .i64 k, .int .i64 v, .slice none 0 0] t (0, 0)))
    (hbase : base ≤ w.heap.size)
    (h : ∀ (g cap : Nat) (w' : World), base ≤ g → g < w'.heap.size → OwnRow w' g (g + 1) g cap [⟨k, v, []⟩] → w.grownBy w' none → g = w.heap.size →
      wpList Try.prog ops Q rest (a.put o.dst (.slice (some ⟨g, 0, none⟩) 1 cap)) w') : wpList Try.prog ops Q (o :: rest) a w := by
  obtain ⟨i0, hi, hz0, hz1, hz2⟩ := info_parts infoNdA
  refine wpList_append_own_at w hgd s x 23 ho base 33 i0 _ 3 40 Try.underlying23 hi hz0 hz1 hz2 rfl (by omega) _ 0 [] hs (World.ownsRow_nil _ _ _ _) ⟨b, 0, none⟩ 1 1 [.int .i64 k, .int .i64 v, .slice none 0 0] hx (by simp) (World.news_of_block hr) (by
      intro u hu
      simp at hu
      rcases hu with rfl | rfl | rfl <;> rfl)
    (by unfold maxLen; omega) (by omega) hbase ?_
  intro v' w' h2 h3 _ h5
  rcases h2.2 with ⟨_, h6⟩ | ⟨g, cap, cur, rfl, hg, hh, hn, hm, hsz, htk⟩
  · omega
  · have hat : ∀ i u, i < 3 → ([.int .i64 k, .int .i64 v, .slice none 0 0] : List Value)[i]? = some u → cur[i]? = some u := by
      intro i u hi' hu
      rw [List.nil_append] at htk
      rw [← htk, List.getElem?_take, if_pos (by omega), Array.getElem?_toList] at hu
      exact hu
    have hrow : w'.rowIs g 33 (cap * 3) (fun i => (cur[i]?).getD undef) := ⟨cur, hh, by simpa using hsz, fun i hi' => by
      have : i < cur.size := by rw [hsz]; omega
      show _ = some ((cur[i]?).getD undef)
      rw [Array.getElem?_eq_getElem this]; rfl⟩
    refine h g cap w' hg hrow.lt (OwnRow.one k v hrow (by omega) ?_ ?_ ?_) h3 ?_
    · show (cur[0]?).getD undef = _
      rw [hat 0 _ (by omega) rfl]; rfl
    · show (cur[1]?).getD undef = _
      rw [hat 1 _ (by omega) rfl]; rfl
    · show (cur[2]?).getD undef = _
      rw [hat 2 _ (by omega) rfl]; rfl
    · rcases h5 with h5 | h5
      · cases h5
      · simpa [Value.ownBlock] using h5

end Go.Proofs.Ytpcfjdhalglebab

namespace Go.Proofs.Ytpcfjdhalglebab
open Go.RowKit
set_option linter.unusedVariables false

/-- the world behind a store to the node j -/
def setN (w : World) (g j : Nat) (v0 v1 v2 : Value) : World := ((w.setCell ⟨g, j * 3, none⟩ v0).setCell ⟨g, j * 3 + 1, none⟩ v1).setCell ⟨g, j * 3 + 2, none⟩ v2

theorem setN_block {w : World} {g j k : Nat} {v0 v1 v2 : Value} (hk : k ≠ g) : (setN w g j v0 v1 v2).heap[k]? = w.heap[k]? := by
  unfold setN
  rw [Below.heap_setCell _ _ _ _ (by show k ≠ g; exact hk), Below.heap_setCell _ _ _ _ (by show k ≠ g; exact hk), Below.heap_setCell _ _ _ _ (by show k ≠ g; exact hk)]
theorem setN_size {w : World} {g j : Nat} {v0 v1 v2 : Value} : (setN w g j v0 v1 v2).heap.size = w.heap.size := by unfold setN; simp
theorem setN_far {w : World} {g j q : Nat} {v0 v1 v2 : Value} (hq : q < j * 3 ∨ j * 3 + 2 < q) : (setN w g j v0 v1 v2).cell? ⟨g, q, none⟩ = w.cell? ⟨g, q, none⟩ := by
  unfold setN
  rw [World.cell?_setCell_other, World.cell?_setCell_other, World.cell?_setCell_other] <;> (intro e; injection e with _ e; omega)
theorem setN_row {w : World} {g j n : Nat} {t : TypeId} {f : Nat → Value} (h : w.rowIs g t n f) (v0 v1 v2 : Value) : ∃ f', (setN w g j v0 v1 v2).rowIs g t n f' := ⟨_, ((h.set _ _).set _ _).set _ _⟩
theorem setN_at {w : World} {g j n : Nat} {t : TypeId} {f : Nat → Value} (h : w.rowIs g t n f) (hn : j * 3 + 2 < n) (v0 v1 v2 : Value) : (setN w g j v0 v1 v2).cell? ⟨g, j * 3, none⟩ = some v0 ∧ (setN w g j v0 v1 v2).cell? ⟨g, j * 3 + 1, none⟩ = some v1 ∧ (setN w g j v0 v1 v2).cell? ⟨g, j * 3 + 2, none⟩ = some v2 := by
  have hr := ((h.set (j * 3) v0).set (j * 3 + 1) v1).set (j * 3 + 2) v2
  unfold setN
  refine ⟨?_, ?_, ?_⟩
  · have := hr.cell (i := j * 3) (by omega)
    simpa using this
  · have := hr.cell (i := j * 3 + 1) (by omega)
    simpa using this
  · have := hr.cell (i := j * 3 + 2) (by omega)
    simpa using this
theorem setN_below {w w' : World} {B g j : Nat} {v0 v1 v2 : Value} (h : Below B w w') (hg : B ≤ g) : Below B w (setN w' g j v0 v1 v2) :=
  ((h.setCell (p := ⟨g, j * 3, none⟩) hg v0).setCell (p := ⟨g, j * 3 + 1, none⟩) hg v1).setCell (p := ⟨g, j * 3 + 2, none⟩) hg v2

theorem OwnI.lowB {w : World} {base base' : Nat} {A : Option Addr} {c : Nat} {xs : List Int} (h : OwnI w base A c xs) (hb : base' ≤ base) : OwnI w base' A c xs := by
  refine ⟨h.own.1, ?_⟩
  rcases h.own.2 with h2 | ⟨g, cap, cur, hv, hg, r⟩
  · exact .inl h2
  · exact .inr ⟨g, cap, cur, hv, by omega, r⟩

/-- a node is written behind the others; its kids' row is new -/
theorem OwnRow.snoc {w : World} {lo hi hi2 g cap c : Nat} {A : Option Addr} {ns : List Nd} {n : Nd} (h : OwnRow w lo hi g cap ns) (hcap : ns.length < cap) (hown : OwnI w hi A c n.kids) (h2 : hi ≤ hi2) (hA : ∀ b, blockOf A = some b → b < hi2) :
    OwnRow (setN w g ns.length (.int .i64 n.kind) (.int .i64 n.value) (.slice A n.kids.length c)) lo hi2 g cap (ns ++ [n]) := by
  obtain ⟨f, hf⟩ := h.row
  have hlo := h.hlo
  have hhi := h.hhi
  have hat := setN_at (j := ns.length) hf (by omega) (.int .i64 n.kind) (.int .i64 n.value) (.slice A n.kids.length c)
  have hAb : ∀ b, blockOf A = some b → hi ≤ b := fun b hb => (hown.blocks b hb).1
  have hgA : ∀ b, blockOf A = some b → b ≠ g := fun b hb => by have := hAb b hb; omega
  have hown2 : OwnI (setN w g ns.length (.int .i64 n.kind) (.int .i64 n.value) (.slice A n.kids.length c)) lo A c n.kids := (hown.of_blk (fun b hb => setN_block (hgA b hb))).lowB (by omega)
  refine ⟨setN_row hf _ _ _, by simp; omega, hlo, by omega, fun j m hj => ?_, fun i j A1 A2 k1 k2 c1 c2 hij hi' hj' e1 e2 b hb => ?_⟩
  · rw [List.getElem?_append] at hj
    split at hj
    next hlt =>
      have hn := h.nd j m hj
      obtain ⟨A1, c1, h1, h3, h4⟩ := hn.kids
      exact ⟨(setN_far (by omega)).trans hn.kind, (setN_far (by omega)).trans hn.value, ⟨A1, c1, (setN_far (by omega)).trans h1, h3.of_blk (fun b hb => setN_block (h4 b hb).2), fun b hb => ⟨by have := (h4 b hb).1; omega, (h4 b hb).2⟩⟩⟩
    next hlt =>
      have hjl := (List.getElem?_eq_some_iff.1 hj).1
      simp at hjl
      obtain rfl : j = ns.length := by omega
      simp at hj
      subst hj
      exact ⟨hat.1, hat.2.1, ⟨A, c, hat.2.2, hown2, fun b hb => ⟨hA b hb, hgA b hb⟩⟩⟩
  · simp at hi' hj'
    by_cases ei : i = ns.length
    · subst ei
      rw [hat.2.2] at e1
      injection e1 with e1
      injection e1 with e1 _ _
      subst e1
      have hj2 : j < ns.length := by omega
      rw [setN_far (by omega)] at e2
      intro e3
      obtain ⟨A3, c3, g1, _, g3⟩ := (h.nd j _ (List.getElem?_eq_getElem hj2)).kids
      rw [e2] at g1
      injection g1 with g1
      injection g1 with g1 _ _
      subst g1
      have := (g3 b e3).1
      have := hAb b hb
      omega
    · have hi2' : i < ns.length := by omega
      rw [setN_far (by omega)] at e1
      obtain ⟨A3, c3, g1, _, g3⟩ := (h.nd i _ (List.getElem?_eq_getElem hi2')).kids
      have e1' := e1
      rw [e1'] at g1
      injection g1 with g1
      injection g1 with g1 _ _
      subst g1
      by_cases ej : j = ns.length
      · subst ej
        rw [hat.2.2] at e2
        injection e2 with e2
        injection e2 with e2 _ _
        subst e2
        intro e3
        have := (g3 b hb).1
        have := hAb b e3
        omega
      · rw [setN_far (by omega)] at e2
        exact h.dis i j A1 A2 k1 k2 c1 c2 hij hi2' (by omega) e1 e2 b hb

/-- a row may be said to reach further up -/
theorem OwnRow.high {w : World} {lo hi hi2 g cap : Nat} {ns : List Nd} (h : OwnRow w lo hi g cap ns) (h2 : hi ≤ hi2) : OwnRow w lo hi2 g cap ns :=
  ⟨h.row, h.le, h.hlo, by have := h.hhi; omega, fun j n hj => by
    have hn := h.nd j n hj
    obtain ⟨A, c, h1, h3, h4⟩ := hn.kids
    exact ⟨hn.kind, hn.value, ⟨A, c, h1, h3, fun b hb => ⟨by have := (h4 b hb).1; omega, (h4 b hb).2⟩⟩⟩, h.dis⟩

theorem OwnRow.low {w : World} {lo lo2 hi g cap : Nat} {ns : List Nd} (h : OwnRow w lo hi g cap ns) (h2 : lo2 ≤ lo) : OwnRow w lo2 hi g cap ns :=
  ⟨h.row, h.le, by have := h.hlo; omega, h.hhi, fun j n hj => by
    have hn := h.nd j n hj
    obtain ⟨A, c, h1, h3, h4⟩ := hn.kids
    exact ⟨hn.kind, hn.value, ⟨A, c, h1, h3.lowB h2, h4⟩⟩, h.dis⟩

/-- the node x of ns, its kids by their places in L -/
def pickN (ns : List Nd) (L : List Int) (x : Int) : Nd := match ns[x.toNat]? with | some n => ⟨n.kind, n.value, n.kids.map (place L)⟩ | none => ⟨0, 0, []⟩

theorem pickN_at {ns : List Nd} {L : List Int} {i : Nat} {n : Nd} (h : ns[i]? = some n) : pickN ns L (i : Int) = ⟨n.kind, n.value, n.kids.map (place L)⟩ := by
  unfold pickN
  rw [Int.toNat_natCast, h]

/-- the nodes of L, in its order -/
def pickNs (ns : List Nd) (L : List Int) : List Nd := L.map (pickN ns L)

theorem pickNs_len (ns : List Nd) (L : List Int) : (pickNs ns L).length = L.length := by simp [pickNs]

theorem pickNs_take {ns : List Nd} {L : List Int} {k i : Nat} {n : Nd} (hk : L[k]? = some (i : Int)) (h : ns[i]? = some n) : (pickNs ns L).take (k + 1) = (pickNs ns L).take k ++ [⟨n.kind, n.value, n.kids.map (place L)⟩] := by
  have : (pickNs ns L)[k]? = some ⟨n.kind, n.value, n.kids.map (place L)⟩ := by
    unfold pickNs
    rw [List.getElem?_map, hk]
    simp [pickN_at h]
  rw [List.take_add_one, this]
  rfl

theorem place_in64 {L : List Int} (hl : L.length ≤ 1000) (x : Int) : In64 (place L x) := by
  by_cases h : x ∈ L
  · rw [place_pos h]
    have := List.idxOf_lt_length_of_mem h
    constructor <;> omega
  · rw [place_neg h]
    constructor <;> omega

/-- a graph of the call's own comes back -/
def GivesG (w : World) (ms : List Nd) (r : Int) (e : Ending) (w' : World) : Prop :=
  ∃ A c, e = .returned (.agg #[.slice A ms.length c, .int .i64 r]) ∧ OwnNs w' w.heap.size w'.heap.size A c ms ∧ Below w.heap.size w w'

end Go.Proofs.Ytpcfjdhalglebab

namespace Go.Proofs.Ytpcfjdhalglebab
open Go.RowKit
set_option linter.unusedVariables false

/-- the block g holds just these numbers -/
def RowL (w : World) (g : Nat) (xs : List Int) : Prop := Lies w g (xs.map (fun x => Value.int .i64 x)).toArray 3

theorem RowL.lt {w : World} {g : Nat} {xs : List Int} (h : RowL w g xs) : g < w.heap.size := Lies.lt h
theorem RowL.cell {w : World} {g j : Nat} {xs : List Int} {x : Int} (h : RowL w g xs) (hj : xs[j]? = some x) : w.cell? ⟨g, j, none⟩ = some (.int .i64 x) := by
  have := Lies.cell h j
  rw [this]
  simp [hj]
theorem RowL.frozen {w : World} {g : Nat} {xs : List Int} (h : RowL w g xs) (j : Nat) : w.frozen? ⟨g, j, none⟩ = false := Lies.frozen h j
theorem RowL.set {w : World} {g : Nat} {xs : List Int} (h : RowL w g xs) (j : Nat) (x : Int) : RowL (w.setCell ⟨g, j, none⟩ (.int .i64 x)) g (xs.set j x) := by
  have := Lies.set h j (.int .i64 x)
  unfold RowL
  rw [List.map_set]
  simpa using this
theorem RowL.block {w w' : World} {g : Nat} {xs : List Int} (h : RowL w g xs) (hb : w'.heap[g]? = w.heap[g]?) : RowL w' g xs := hb.trans h
theorem RowL.below {w w' : World} {g B : Nat} {xs : List Int} (h : RowL w g xs) (hb : Below B w w') (hg : g < B) : RowL w' g xs := h.block (hb.block g hg)
theorem RowL.later {w w' : World} {g : Nat} {xs : List Int} (h : RowL w g xs) (hb : Below w.heap.size w w') : RowL w' g xs := h.below hb h.lt
theorem RowL.far {w : World} {g q j : Nat} {v : Value} {xs : List Int} (h : RowL w g xs) (hq : g ≠ q) : RowL (w.setCell ⟨q, j, none⟩ v) g xs := h.block (Below.heap_setCell _ _ _ _ hq)
theorem RowL.ints {w : World} {g : Nat} {xs : List Int} (h : RowL w g xs) (hwf : ∀ x ∈ xs, In64 x) (hl : xs.length ≤ 9223372036854775807) : IntsAt w w.heap.size (some ⟨g, 0, none⟩) xs :=
  ⟨fun _ => ⟨g, 0, rfl, h.lt, fun j x hj => by rw [Nat.zero_add]; exact h.cell hj⟩, hwf, hl⟩
theorem RowL.own {w : World} {g base : Nat} {xs : List Int} (h : RowL w g xs) (hb : base ≤ g) (hl : xs.length ≤ maxLen) : OwnI w base (some ⟨g, 0, none⟩) xs.length xs :=
  ⟨⟨by simp, .inr ⟨g, xs.length, _, rfl, hb, h, Nat.le_refl _, hl, by simp, by simp [List.take_of_length_le]⟩⟩⟩
theorem RowL.of_row {w : World} {g : Nat} {xs : List Int} {f : Nat → Value} (h : w.rowIs g 3 xs.length f) (hf : ∀ i x, xs[i]? = some x → f i = .int .i64 x) : RowL w g xs := by
  obtain ⟨cur, hh, hs, hc⟩ := h
  have : cur = (xs.map (fun x => Value.int .i64 x)).toArray := by
    apply Array.ext
    · simpa using hs
    · intro i h1 h2
      have hi : i < xs.length := by simpa using h2
      have h3 := hc i hi
      rw [Array.getElem?_eq_getElem h1, hf i _ (List.getElem?_eq_getElem hi)] at h3
      simpa using h3
  unfold RowL
  rw [← this]
  exact hh
theorem RowL.made (w : World) (n : Nat) : RowL (w.alloc (.cells (madeCells #[.int .i64 0] n) 3)) w.heap.size (List.replicate n 0) := by
  have h := World.rowIs_made w (.int .i64 0) n 3
  refine RowL.of_row (f := fun _ => .int .i64 0) (by rw [List.length_replicate]; exact h) (fun i x hx => ?_)
  rw [List.getElem?_replicate] at hx
  split at hx
  · injection hx with hx
    rw [hx]
  · cases hx

/-- the first i of a list, then those of another one -/
def mixL (xs ys : List Int) (i : Nat) : List Int := xs.take i ++ ys.drop i
theorem mixL_len {xs ys : List Int} {i : Nat} (h : xs.length = ys.length) : (mixL xs ys i).length = ys.length := by
  unfold mixL
  rw [List.length_append, List.length_take, List.length_drop]
  omega
theorem mixL_zero (xs ys : List Int) : mixL xs ys 0 = ys := by simp [mixL]
theorem mixL_all {xs ys : List Int} (h : xs.length = ys.length) : mixL xs ys ys.length = xs := by simp [mixL, ← h]
theorem mixL_set {xs ys : List Int} {i : Nat} {v : Int} (h : xs.length = ys.length) (hv : xs[i]? = some v) : (mixL xs ys i).set i v = mixL xs ys (i + 1) := by
  have hi := (List.getElem?_eq_some_iff.1 hv).1
  unfold mixL
  have hl : (xs.take i).length = i := by simp; omega
  have hd : ys.drop i = ys[i] :: ys.drop (i + 1) := List.drop_eq_getElem_cons (by omega)
  rw [List.set_append, if_neg (by omega), hl, Nat.sub_self, hd, List.set_cons_zero, List.take_add_one, hv]
  simp

end Go.Proofs.Ytpcfjdhalglebab
