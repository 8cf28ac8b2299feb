/-
  Lemmas, several texts in one: OwnN, OwnNA, RwL.
-/
import Derived.Test.YtkgnijbdbkopkabPjAb
import Derived.Test.YtkgnijbdbkopkabPjAa
import Derived.Deep.AppendLies
namespace Go.Proofs.Ytkgnijbdbkopkab
open Go.RowKit
set_option linter.unusedVariables false

/-- the three cells of the node j in the row of the block g; its kids lie in a row of the call's own, in blocks from lo on and below hi -/
structure NdO (w : World) (lo hi g j : Nat) (n : Nd) : Prop where
  kind : w.cell? ⟨g, j * 3, none⟩ = some (.int .i64 n.kind)
  value : w.cell? ⟨g, j * 3 + 1, none⟩ = some (.int .i64 n.value)
  kids : ∃ A c, w.cell? ⟨g, j * 3 + 2, none⟩ = some (.slice A n.kids.length c) ∧ OwnI w lo A c n.kids ∧ ∀ b, blockOf A = some b → b < hi ∧ b ≠ g

structure OwnRow (w : World) (lo hi g cap : Nat) (ns : List Nd) : Prop where
  row : ∃ f, w.rowIs g 45 (cap * 3) f
  le : ns.length ≤ cap
  hlo : lo ≤ g
  hhi : g < hi
  nd : ∀ j n, ns[j]? = some n → NdO w lo hi g j n
  dis : ∀ (i j : Nat) (A A' : Option Addr) (n n' c c' : Nat), i ≠ j → i < ns.length → j < ns.length → w.cell? ⟨g, i * 3 + 2, none⟩ = some (.slice A n c) → w.cell? ⟨g, j * 3 + 2, none⟩ = some (.slice A' n' c') → ∀ b, blockOf A = some b → blockOf A' ≠ some b

/-- the slice value (A, length of ns, c) owns the nodes ns, all in blocks from lo on and below hi -/
def OwnNs (w : World) (lo hi : Nat) (A : Option Addr) (c : Nat) (ns : List Nd) : Prop :=
  (A = none ∧ c = 0 ∧ ns = []) ∨ ∃ g, A = some ⟨g, 0, none⟩ ∧ OwnRow w lo hi g c ns

/-- all numbers of nodes are ints -/
def WfN (ns : List Nd) : Prop := ∀ n ∈ ns, In64 n.kind ∧ In64 n.value ∧ (∀ x ∈ n.kids, In64 x) ∧ n.kids.length ≤ 9223372036854775807

theorem OwnI.of_blk {w w' : World} {base : Nat} {A : Option Addr} {c : Nat} {xs : List Int} (h : OwnI w base A c xs) (hA : ∀ g, blockOf A = some g → w'.heap[g]? = w.heap[g]?) : OwnI w' base A c xs := by
  refine ⟨h.own.1, ?_⟩
  rcases h.own.2 with h2 | ⟨g, cap, cur, hv, hg, hh, r⟩
  · exact .inl h2
  · refine .inr ⟨g, cap, cur, hv, hg, ?_, r⟩
    rw [hA g (by injection hv with hv; rw [hv]; rfl)]
    exact hh

theorem OwnRow.lt {w : World} {lo hi g cap : Nat} {ns : List Nd} (h : OwnRow w lo hi g cap ns) : g < w.heap.size := by
  obtain ⟨f, hf⟩ := h.row
  exact hf.lt

theorem OwnRow.nds {w : World} {lo hi g cap : Nat} {ns : List Nd} (h : OwnRow w lo hi g cap ns) (hwf : WfN ns) (hl : ns.length ≤ 9223372036854775807) : NdsAt w w.heap.size (some ⟨g, 0, none⟩) ns :=
  ⟨fun _ => ⟨g, 0, rfl, h.lt, fun j n hj => by
    have hn := h.nd j n hj
    obtain ⟨A, c, h1, h2, _⟩ := hn.kids
    obtain ⟨w1, w2, w3, w4⟩ := hwf n (List.mem_of_getElem? hj)
    rw [Nat.zero_add]
    exact ⟨hn.kind, hn.value, ⟨A, c, h1, h2.ints w3 w4, h2.nil⟩, w1, w2⟩⟩, hl⟩

theorem OwnNs.nds {w : World} {lo hi : Nat} {A : Option Addr} {c : Nat} {ns : List Nd} (h : OwnNs w lo hi A c ns) (hwf : WfN ns) (hl : ns.length ≤ 9223372036854775807) : NdsAt w w.heap.size A ns := by
  rcases h with ⟨rfl, _, rfl⟩ | ⟨g, rfl, h⟩
  · exact ⟨fun hx => absurd rfl hx, by simp⟩
  · exact h.nds hwf hl

/-- the blocks from lo on and below hi are as they were -/
theorem OwnRow.kept {w w' : World} {lo hi g cap : Nat} {ns : List Nd} (h : OwnRow w lo hi g cap ns) (hb : ∀ b, lo ≤ b → b < hi → w'.heap[b]? = w.heap[b]?) : OwnRow w' lo hi g cap ns := by
  have hg := hb g h.hlo h.hhi
  have hc : ∀ q, w'.cell? ⟨g, q, none⟩ = w.cell? ⟨g, q, none⟩ := fun q => World.cell?_of_block (w := w) hg
  obtain ⟨f, hf⟩ := h.row
  refine ⟨⟨f, hf.of_block hg⟩, h.le, h.hlo, h.hhi, fun j n hj => ?_, fun i j A A' n n' c c' hij hi hj h1 h2 => h.dis i j A A' n n' c c' hij hi hj ((hc _).symm.trans h1) ((hc _).symm.trans h2)⟩
  have hn := h.nd j n hj
  obtain ⟨A, c, h1, h2, h3⟩ := hn.kids
  exact ⟨(hc _).trans hn.kind, (hc _).trans hn.value, ⟨A, c, (hc _).trans h1, h2.of_blk (fun b hb' => hb b (h2.blocks b hb').1 (h3 b hb').1), h3⟩⟩

theorem OwnNs.kept {w w' : World} {lo hi : Nat} {A : Option Addr} {c : Nat} {ns : List Nd} (h : OwnNs w lo hi A c ns) (hb : ∀ b, lo ≤ b → b < hi → w'.heap[b]? = w.heap[b]?) : OwnNs w' lo hi A c ns := by
  rcases h with h | ⟨g, e, h⟩
  · exact .inl h
  · exact .inr ⟨g, e, h.kept hb⟩

theorem OwnNs.below {w w' : World} {lo hi B : Nat} {A : Option Addr} {c : Nat} {ns : List Nd} (h : OwnNs w lo hi A c ns) (hb : Below B w w') (hB : hi ≤ B) : OwnNs w' lo hi A c ns :=
  h.kept (fun b _ h2 => hb.block b (by omega))

theorem OwnNs.only {w w' : World} {lo hi l2 h2 : Nat} {A : Option Addr} {c : Nat} {ns : List Nd} (h : OwnNs w lo hi A c ns) (ho : Only l2 h2 w w') (hB : hi ≤ l2 ∨ h2 ≤ lo) : OwnNs w' lo hi A c ns :=
  h.kept (fun b h3 h4 => ho.block b (by omega))

/-- a node's kind and value are written -/
theorem OwnRow.set2 {w : World} {lo hi g cap j : Nat} {ns : List Nd} {n : Nd} (h : OwnRow w lo hi g cap ns) (hj : ns[j]? = some n) (a b : Int) :
    OwnRow ((w.setCell ⟨g, j * 3, none⟩ (.int .i64 a)).setCell ⟨g, j * 3 + 1, none⟩ (.int .i64 b)) lo hi g cap (ns.set j ⟨a, b, n.kids⟩) := by
  obtain ⟨f, hf⟩ := h.row
  have hjl := (List.getElem?_eq_some_iff.1 hj).1
  have hcap := h.le
  have hrow := (hf.set (j * 3) (.int .i64 a)).set (j * 3 + 1) (.int .i64 b)
  have hbl : ∀ q, q ≠ g → ((w.setCell ⟨g, j * 3, none⟩ (.int .i64 a)).setCell ⟨g, j * 3 + 1, none⟩ (.int .i64 b)).heap[q]? = w.heap[q]? := fun q hq => (Below.heap_setCell _ _ _ _ hq).trans (Below.heap_setCell _ _ _ _ hq)
  have hc : ∀ q, q ≠ j * 3 → q ≠ j * 3 + 1 → ((w.setCell ⟨g, j * 3, none⟩ (.int .i64 a)).setCell ⟨g, j * 3 + 1, none⟩ (.int .i64 b)).cell? ⟨g, q, none⟩ = w.cell? ⟨g, q, none⟩ := fun q h1 h2 => by
    rw [World.cell?_setCell_other, World.cell?_setCell_other] <;> (intro e; injection e with _ e; omega)
  refine ⟨⟨_, hrow⟩, by rw [List.length_set]; exact hcap, h.hlo, h.hhi, fun i m hi' => ?_, fun i k A A' n1 n2 c c' hik hi' hk h1 h2 => ?_⟩
  · rw [List.getElem?_set] at hi'
    by_cases e : j = i
    · subst e
      rw [if_pos rfl, if_pos hjl] at hi'
      injection hi' with hi'
      subst hi'
      obtain ⟨A, c, h1, h2, h3⟩ := (h.nd j n hj).kids
      have c0 := World.rowIs.cell hrow (i := j * 3) (by omega)
      have c1 := World.rowIs.cell hrow (i := j * 3 + 1) (by omega)
      simp at c0 c1
      exact ⟨c0, c1, ⟨A, c, (hc _ (by omega) (by omega)).trans h1, h2.of_blk (fun q hq => hbl q (h3 q hq).2), h3⟩⟩
    · rw [if_neg e] at hi'
      have hn := h.nd i m hi'
      obtain ⟨A, c, h1, h2, h3⟩ := hn.kids
      exact ⟨(hc _ (by omega) (by omega)).trans hn.kind, (hc _ (by omega) (by omega)).trans hn.value, ⟨A, c, (hc _ (by omega) (by omega)).trans h1, h2.of_blk (fun q hq => hbl q (h3 q hq).2), h3⟩⟩
  · rw [List.length_set] at hi' hk
    exact h.dis i k A A' n1 n2 c c' hik hi' hk ((hc _ (by omega) (by omega)).symm.trans h1) ((hc _ (by omega) (by omega)).symm.trans h2)

/-- the kids of a node are written, in the row where they lie -/
theorem OwnRow.setKids {w w' : World} {lo hi g cap j cj : Nat} {ns : List Nd} {n : Nd} {Aj : Option Addr} {ks : List Int} (h : OwnRow w lo hi g cap ns) (hj : ns[j]? = some n) (hcell : w.cell? ⟨g, j * 3 + 2, none⟩ = some (.slice Aj n.kids.length cj)) (hl : ks.length = n.kids.length)
    (hown : OwnI w' lo Aj cj ks) (hb : ∀ b, blockOf Aj ≠ some b → w'.heap[b]? = w.heap[b]?) :
    OwnRow w' lo hi g cap (ns.set j ⟨n.kind, n.value, ks⟩) := by
  obtain ⟨f, hf⟩ := h.row
  have hjl := (List.getElem?_eq_some_iff.1 hj).1
  obtain ⟨A, c, h1, h2, h3⟩ := (h.nd j n hj).kids
  rw [hcell] at h1
  injection h1 with h1
  injection h1 with e1 _ e2
  subst e1 e2
  have hg := hb g (fun e => (h3 g e).2 rfl)
  have hc : ∀ q, w'.cell? ⟨g, q, none⟩ = w.cell? ⟨g, q, none⟩ := fun q => World.cell?_of_block (w := w) hg
  refine ⟨⟨f, hf.of_block hg⟩, by rw [List.length_set]; exact h.le, h.hlo, h.hhi, fun i m hi' => ?_, fun i k A A' n1 n2 c c' hik hi' hk h1 h2 => ?_⟩
  · rw [List.getElem?_set] at hi'
    by_cases e : j = i
    · subst e
      rw [if_pos rfl, if_pos hjl] at hi'
      injection hi' with hi'
      subst hi'
      have hn := h.nd j n hj
      exact ⟨(hc _).trans hn.kind, (hc _).trans hn.value, ⟨Aj, cj, by rw [hl]; exact (hc _).trans hcell, hown, h3⟩⟩
    · rw [if_neg e] at hi'
      have hil := (List.getElem?_eq_some_iff.1 hi').1
      have hn := h.nd i m hi'
      obtain ⟨A2, c2, g1, g2, g3⟩ := hn.kids
      exact ⟨(hc _).trans hn.kind, (hc _).trans hn.value, ⟨A2, c2, (hc _).trans g1, g2.of_blk (fun q hq => hb q (h.dis i j A2 Aj _ _ _ _ (fun e2 => e e2.symm) hil hjl g1 hcell q hq)), g3⟩⟩
  · rw [List.length_set] at hi' hk
    exact h.dis i k A A' n1 n2 c c' hik hi' hk ((hc _).symm.trans h1) ((hc _).symm.trans h2)

end Go.Proofs.Ytkgnijbdbkopkab

namespace Go.Proofs.Ytkgnijbdbkopkab
open Go.RowKit
set_option linter.unusedVariables false

/-- a row of one node without kids -/
theorem OwnRow.one {w : World} {g cap : Nat} {f : Nat → Value} (a b : Int) (h : w.rowIs g 45 (cap * 3) f) (hc : 1 ≤ cap) (h0 : f 0 = .int .i64 a) (h1 : f 1 = .int .i64 b) (h2 : f 2 = .slice none 0 0) :
    OwnRow w g (g + 1) g cap [⟨a, b, []⟩] := by
  have c0 := World.rowIs.cell h (i := 0) (by omega)
  have c1 := World.rowIs.cell h (i := 1) (by omega)
  have c2 := World.rowIs.cell h (i := 2) (by omega)
  rw [h0] at c0
  rw [h1] at c1
  rw [h2] at c2
  refine ⟨⟨f, h⟩, by simpa using hc, Nat.le_refl _, Nat.lt_succ_self _, fun j n hj => ?_, fun i j A A' n n' c c' hij hi hj => by simp at hi hj; omega⟩
  match j, hj with
  | 0, hj =>
    simp at hj
    subst hj
    exact ⟨c0, c1, ⟨none, 0, c2, OwnI.empty _ _, fun b hb => by cases hb⟩⟩
  | j + 1, hj => simp at hj

/-- a row of no node -/
theorem OwnRow.zero {w : World} {g cap : Nat} {f : Nat → Value} (h : w.rowIs g 45 (cap * 3) f) : OwnRow w g (g + 1) g cap [] :=
  ⟨⟨f, h⟩, Nat.zero_le _, Nat.le_refl _, Nat.lt_succ_self _, fun j n hj => by simp at hj, fun i j A A' n n' c c' _ hi => by simp at hi⟩

theorem infoNdA : (Try.prog.info? 45).map (fun i => (i.zero, i.size, i.bytes)) = some (some (.agg #[.int .i64 0, .int .i64 0, .slice none 0 0]), 3, 40) := by kernel_rfl

/-- append(nil, n) of one node without kids, which lies in a block of its own -/
theorem append_nd1 {w : World} {ops : Array Oper} {rest : List Oper} {o : Oper} {a : Act} {Q : Exit → Act → World → Prop} (hgd : o.guard = none) (s x : Operand)
    (ho : o.op = .call { callee := .builtin .append, args := #[s, x], argTypes := #[23, 23] })
    (base : Nat) (hs : a.eval s = .slice none 0 0) (b : Nat) (k v : Int) (t : TypeId) (hx : a.eval x = .slice (some ⟨b, 0, none⟩) 1 1) (hr : w.heap[b]? = some (.cells #[.int .i64 k, .int .i64 v, .slice none 0 0] t (0, 0)))
    (hbase : base ≤ w.heap.size)
    (h : ∀ (g cap : Nat) (w' : World), base ≤ g → g < w'.heap.size → OwnRow w' g (g + 1) g cap [⟨k, v, []⟩] → w.grownBy w' none → g = w.heap.size →
      wpList Try.prog ops Q rest (a.put o.dst (.slice (some ⟨g, 0, none⟩) 1 cap)) w') : wpList Try.prog ops Q (o :: rest) a w := by
  obtain ⟨i0, hi, hz0, hz1, hz2⟩ := info_parts infoNdA
  refine wpList_append_own_at w hgd s x 23 ho base 45 i0 _ 3 40 Try.underlying23 hi hz0 hz1 hz2 rfl (by omega) _ 0 [] hs (World.ownsRow_nil _ _ _ _) ⟨b, 0, none⟩ 1 1 [.int .i64 k, .int .i64 v, .slice none 0 0] hx (by simp) (World.news_of_block hr) (by
      intro u hu
      simp at hu
      rcases hu with rfl | rfl | rfl <;> rfl)
    (by unfold maxLen; omega) (by omega) hbase ?_
  intro v' w' h2 h3 _ h5
  rcases h2.2 with ⟨_, h6⟩ | ⟨g, cap, cur, rfl, hg, hh, hn, hm, hsz, htk⟩
  · omega
  · have hat : ∀ i u, i < 3 → ([.int .i64 k, .int .i64 v, .slice none 0 0] : List Value)[i]? = some u → cur[i]? = some u := by
      intro i u hi' hu
      rw [List.nil_append] at htk
      rw [← htk, List.getElem?_take, if_pos (by omega), Array.getElem?_toList] at hu
      exact hu
    have hrow : w'.rowIs g 45 (cap * 3) (fun i => (cur[i]?).getD undef) := ⟨cur, hh, by simpa using hsz, fun i hi' => by
      have : i < cur.size := by rw [hsz]; omega
      show _ = some ((cur[i]?).getD undef)
      rw [Array.getElem?_eq_getElem this]; rfl⟩
    refine h g cap w' hg hrow.lt (OwnRow.one k v hrow (by omega) ?_ ?_ ?_) h3 ?_
    · show (cur[0]?).getD undef = _
      rw [hat 0 _ (by omega) rfl]; rfl
    · show (cur[1]?).getD undef = _
      rw [hat 1 _ (by omega) rfl]; rfl
    · show (cur[2]?).getD undef = _
      rw [hat 2 _ (by omega) rfl]; rfl
    · rcases h5 with h5 | h5
      · cases h5
      · simpa [Value.ownBlock] using h5

end Go.Proofs.Ytkgnijbdbkopkab

namespace Go.Proofs.Ytkgnijbdbkopkab
open Go.RowKit
set_option linter.unusedVariables false

/-- the block g holds just these numbers -/
def RowL (w : World) (g : Nat) (xs : List Int) : Prop := Lies w g (xs.map (fun x => Value.int .i64 x)).toArray 3

theorem RowL.lt {w : World} {g : Nat} {xs : List Int} (h : RowL w g xs) : g < w.heap.size := Lies.lt h
theorem RowL.cell {w : World} {g j : Nat} {xs : List Int} {x : Int} (h : RowL w g xs) (hj : xs[j]? = some x) : w.cell? ⟨g, j, none⟩ = some (.int .i64 x) := by
  have := Lies.cell h j
  rw [this]
  simp [hj]
theorem RowL.frozen {w : World} {g : Nat} {xs : List Int} (h : RowL w g xs) (j : Nat) : w.frozen? ⟨g, j, none⟩ = false := Lies.frozen h j
theorem RowL.set {w : World} {g : Nat} {xs : List Int} (h : RowL w g xs) (j : Nat) (x : Int) : RowL (w.setCell ⟨g, j, none⟩ (.int .i64 x)) g (xs.set j x) := by
  have := Lies.set h j (.int .i64 x)
  unfold RowL
  rw [List.map_set]
  simpa using this
theorem RowL.block {w w' : World} {g : Nat} {xs : List Int} (h : RowL w g xs) (hb : w'.heap[g]? = w.heap[g]?) : RowL w' g xs := hb.trans h
theorem RowL.below {w w' : World} {g B : Nat} {xs : List Int} (h : RowL w g xs) (hb : Below B w w') (hg : g < B) : RowL w' g xs := h.block (hb.block g hg)
theorem RowL.later {w w' : World} {g : Nat} {xs : List Int} (h : RowL w g xs) (hb : Below w.heap.size w w') : RowL w' g xs := h.below hb h.lt
theorem RowL.far {w : World} {g q j : Nat} {v : Value} {xs : List Int} (h : RowL w g xs) (hq : g ≠ q) : RowL (w.setCell ⟨q, j, none⟩ v) g xs := h.block (Below.heap_setCell _ _ _ _ hq)
theorem RowL.ints {w : World} {g : Nat} {xs : List Int} (h : RowL w g xs) (hwf : ∀ x ∈ xs, In64 x) (hl : xs.length ≤ 9223372036854775807) : IntsAt w w.heap.size (some ⟨g, 0, none⟩) xs :=
  ⟨fun _ => ⟨g, 0, rfl, h.lt, fun j x hj => by rw [Nat.zero_add]; exact h.cell hj⟩, hwf, hl⟩
theorem RowL.own {w : World} {g base : Nat} {xs : List Int} (h : RowL w g xs) (hb : base ≤ g) (hl : xs.length ≤ maxLen) : OwnI w base (some ⟨g, 0, none⟩) xs.length xs :=
  ⟨⟨by simp, .inr ⟨g, xs.length, _, rfl, hb, h, Nat.le_refl _, hl, by simp, by simp [List.take_of_length_le]⟩⟩⟩
theorem RowL.of_row {w : World} {g : Nat} {xs : List Int} {f : Nat → Value} (h : w.rowIs g 3 xs.length f) (hf : ∀ i x, xs[i]? = some x → f i = .int .i64 x) : RowL w g xs := by
  obtain ⟨cur, hh, hs, hc⟩ := h
  have : cur = (xs.map (fun x => Value.int .i64 x)).toArray := by
    apply Array.ext
    · simpa using hs
    · intro i h1 h2
      have hi : i < xs.length := by simpa using h2
      have h3 := hc i hi
      rw [Array.getElem?_eq_getElem h1, hf i _ (List.getElem?_eq_getElem hi)] at h3
      simpa using h3
  unfold RowL
  rw [← this]
  exact hh
theorem RowL.made (w : World) (n : Nat) : RowL (w.alloc (.cells (madeCells #[.int .i64 0] n) 3)) w.heap.size (List.replicate n 0) := by
  have h := World.rowIs_made w (.int .i64 0) n 3
  refine RowL.of_row (f := fun _ => .int .i64 0) (by rw [List.length_replicate]; exact h) (fun i x hx => ?_)
  rw [List.getElem?_replicate] at hx
  split at hx
  · injection hx with hx
    rw [hx]
  · cases hx

/-- the first i of a list, then those of another one -/
def mixL (xs ys : List Int) (i : Nat) : List Int := xs.take i ++ ys.drop i
theorem mixL_len {xs ys : List Int} {i : Nat} (h : xs.length = ys.length) : (mixL xs ys i).length = ys.length := by
  unfold mixL
  rw [List.length_append, List.length_take, List.length_drop]
  omega
theorem mixL_zero (xs ys : List Int) : mixL xs ys 0 = ys := by simp [mixL]
theorem mixL_all {xs ys : List Int} (h : xs.length = ys.length) : mixL xs ys ys.length = xs := by simp [mixL, ← h]
theorem mixL_set {xs ys : List Int} {i : Nat} {v : Int} (h : xs.length = ys.length) (hv : xs[i]? = some v) : (mixL xs ys i).set i v = mixL xs ys (i + 1) := by
  have hi := (List.getElem?_eq_some_iff.1 hv).1
  unfold mixL
  have hl : (xs.take i).length = i := by simp; omega
  have hd : ys.drop i = ys[i] :: ys.drop (i + 1) := List.drop_eq_getElem_cons (by omega)
  rw [List.set_append, if_neg (by omega), hl, Nat.sub_self, hd, List.set_cons_zero, List.take_add_one, hv]
  simp

end Go.Proofs.Ytkgnijbdbkopkab
