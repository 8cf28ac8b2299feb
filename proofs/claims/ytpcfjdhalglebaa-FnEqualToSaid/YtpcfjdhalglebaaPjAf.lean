/-
  Lemmas, several texts in one: Tup, OwnNA, OwnNB, Dfs, Cod.
-/
import Derived.Test.YtpcfjdhalglebaaMem
import Derived.Test.YtpcfjdhalglebaaPjAe
import Derived.Deep.AppendLies
namespace Go.Proofs.Ytpcfjdhalglebaa

/-- a nodup list of numbers below N is no longer than N -/
theorem nodup_le : ∀ (N : Nat) (l : List Int), l.Nodup → (∀ x ∈ l, 0 ≤ x ∧ x < N) → l.length ≤ N
  | 0, l, _, h => by
    cases l with
    | nil => simp
    | cons x l => have := h x (by simp); omega
  | N + 1, l, hd, h => by
    have h1 : (l.erase (N : Int)).length ≤ N := nodup_le N _ (hd.erase _) (fun x hx => by
      have hx2 := (List.Nodup.mem_erase_iff hd).1 hx
      have := h x hx2.2
      have hne := hx2.1
      omega)
    have h2 := List.length_erase (a := (N : Int)) (l := l)
    split at h2 <;> omega

def kidsOf (ns : List Nd) (x : Int) : List Int := ((ns[x.toNat]?).map Nd.kids).getD []
def kindOf (ns : List Nd) (x : Int) : Int := ((ns[x.toNat]?).map Nd.kind).getD (-1)

theorem kidsOf_at {ns : List Nd} {k : Nat} {n : Nd} (h : ns[k]? = some n) : kidsOf ns (k : Int) = n.kids := by
  unfold kidsOf
  rw [Int.toNat_natCast, h]; rfl
theorem kindOf_at {ns : List Nd} {k : Nat} {n : Nd} (h : ns[k]? = some n) : kindOf ns (k : Int) = n.kind := by
  unfold kindOf
  rw [Int.toNat_natCast, h]; rfl

/-- ways from the node i over tuples -/
inductive TReach (ns : List Nd) (i : Int) : Int → Prop
  | kid (x : Int) : x ∈ kidsOf ns i → TReach ns i x
  | step (y x : Int) : TReach ns i y → kindOf ns y = 2 → x ∈ kidsOf ns y → TReach ns i x

/-- what the search has found when it has come to place k of its list -/
structure TInv (ns : List Nd) (i : Int) (out list : List Int) (k : Nat) : Prop where
  sound : ∀ x ∈ list, TReach ns i x
  range : ∀ x ∈ list, 0 ≤ x ∧ x < ns.length
  sub : ∀ x ∈ out, x ∈ list
  done : ∀ j x, j < k → list[j]? = some x → x ∈ out
  nodup : out.Nodup
  kids : ∀ x ∈ kidsOf ns i, x ∈ list
  closed : ∀ y ∈ out, kindOf ns y = 2 → ∀ x ∈ kidsOf ns y, x ∈ list
  len : list.length ≤ 6 * (1 + out.length)

theorem TInv.start {ns : List Nd} {i : Int} (h6 : (kidsOf ns i).length ≤ 6) (hr : ∀ x ∈ kidsOf ns i, 0 ≤ x ∧ x < ns.length) : TInv ns i [] (kidsOf ns i) 0 :=
  ⟨fun x hx => .kid x hx, hr, fun x hx => (by cases hx), fun j x hj => absurd hj (by omega), List.nodup_nil, fun x hx => hx, fun y hy => (by cases hy), by simp; omega⟩

theorem TInv.seen {ns : List Nd} {i : Int} {out list : List Int} {k : Nat} {x : Int} (h : TInv ns i out list k) (hx : list[k]? = some x) (hm : x ∈ out) : TInv ns i out list (k + 1) :=
  ⟨h.sound, h.range, h.sub, fun j y hj hy => by
    by_cases e : j = k
    · subst e; rw [hx] at hy; injection hy with hy; subst hy; exact hm
    · exact h.done j y (by omega) hy, h.nodup, h.kids, h.closed, h.len⟩

theorem TInv.outLen {ns : List Nd} {i : Int} {out list : List Int} {k : Nat} (h : TInv ns i out list k) : out.length ≤ ns.length :=
  nodup_le ns.length out h.nodup fun x hx => h.range x (h.sub x hx)

theorem TInv.listLen {ns : List Nd} {i : Int} {out list : List Int} {k : Nat} (h : TInv ns i out list k) (h12 : ns.length ≤ 12) : list.length ≤ 78 := by
  have := h.outLen
  have := h.len
  omega

theorem TInv.leaf {ns : List Nd} {i : Int} {out list : List Int} {k : Nat} {x : Int} (h : TInv ns i out list k) (hx : list[k]? = some x) (hm : x ∉ out) (hk : kindOf ns x ≠ 2) : TInv ns i (out ++ [x]) list (k + 1) := by
  have hmem : x ∈ list := List.mem_of_getElem? hx
  refine ⟨h.sound, h.range, fun y hy => ?_, fun j y hj hy => ?_, ?_, h.kids, fun y hy h2 z hz => ?_, ?_⟩
  · rcases List.mem_append.1 hy with hy | hy
    · exact h.sub y hy
    · simp at hy; subst hy; exact hmem
  · by_cases e : j = k
    · subst e; rw [hx] at hy; injection hy with hy; subst hy; simp
    · exact List.mem_append_left _ (h.done j y (by omega) hy)
  · rw [List.nodup_append]
    exact ⟨h.nodup, by simp, fun a ha b hb => by simp at hb; subst hb; intro e; subst e; exact hm ha⟩
  · rcases List.mem_append.1 hy with hy | hy
    · exact h.closed y hy h2 z hz
    · simp at hy; subst hy; exact absurd h2 hk
  · have := h.len
    simp only [List.length_append, List.length_singleton]
    omega

theorem TInv.tuple {ns : List Nd} {i : Int} {out list : List Int} {k : Nat} {x : Int} (h : TInv ns i out list k) (hx : list[k]? = some x) (hm : x ∉ out) (hk : kindOf ns x = 2) (h6 : (kidsOf ns x).length ≤ 6)
    (hr : ∀ z ∈ kidsOf ns x, 0 ≤ z ∧ z < ns.length) : TInv ns i (out ++ [x]) (list ++ kidsOf ns x) (k + 1) := by
  have hmem : x ∈ list := List.mem_of_getElem? hx
  have hkl : k < list.length := (List.getElem?_eq_some_iff.1 hx).1
  refine ⟨fun y hy => ?_, fun y hy => ?_, fun y hy => ?_, fun j y hj hy => ?_, ?_, fun y hy => List.mem_append_left _ (h.kids y hy), fun y hy h2 z hz => ?_, ?_⟩
  · rcases List.mem_append.1 hy with hy | hy
    · exact h.sound y hy
    · exact .step x y (h.sound x hmem) hk hy
  · rcases List.mem_append.1 hy with hy | hy
    · exact h.range y hy
    · exact hr y hy
  · rcases List.mem_append.1 hy with hy | hy
    · exact List.mem_append_left _ (h.sub y hy)
    · simp at hy; subst hy; exact List.mem_append_left _ hmem
  · rw [List.getElem?_append_left (by omega)] at hy
    by_cases e : j = k
    · subst e; rw [hx] at hy; injection hy with hy; subst hy; simp
    · exact List.mem_append_left _ (h.done j y (by omega) hy)
  · rw [List.nodup_append]
    exact ⟨h.nodup, by simp, fun a ha b hb => by simp at hb; subst hb; intro e; subst e; exact hm ha⟩
  · rcases List.mem_append.1 hy with hy | hy
    · exact List.mem_append_left _ (h.closed y hy h2 z hz)
    · simp at hy; subst hy; exact List.mem_append_right _ hz
  · have := h.len
    simp only [List.length_append, List.length_singleton]
    omega

theorem TInv.all {ns : List Nd} {i : Int} {out list : List Int} (h : TInv ns i out list list.length) (x : Int) : x ∈ out ↔ TReach ns i x := by
  have hall : ∀ y ∈ list, y ∈ out := fun y hy => by
    obtain ⟨j, hj, rfl⟩ := List.getElem_of_mem hy
    exact h.done j _ hj (List.getElem?_eq_getElem hj)
  constructor
  · exact fun hx => h.sound x (h.sub x hx)
  · intro hx
    induction hx with
    | kid x hx => exact hall x (h.kids x hx)
    | step y x _ h2 hx ih => exact hall x (h.closed y ih h2 x hx)

end Go.Proofs.Ytpcfjdhalglebaa

namespace Go.Proofs.Ytpcfjdhalglebaa
open Go.RowKit
set_option linter.unusedVariables false

/-- a row of one node without kids -/
theorem OwnRow.one {w : World} {g cap : Nat} {f : Nat → Value} (a b : Int) (h : w.rowIs g 50 (cap * 3) f) (hc : 1 ≤ cap) (h0 : f 0 = .int .i64 a) (h1 : f 1 = .int .i64 b) (h2 : f 2 = .slice none 0 0) :
    OwnRow w g (g + 1) g cap [⟨a, b, []⟩] := by
  have c0 := World.rowIs.cell h (i := 0) (by omega)
  have c1 := World.rowIs.cell h (i := 1) (by omega)
  have c2 := World.rowIs.cell h (i := 2) (by omega)
  rw [h0] at c0
  rw [h1] at c1
  rw [h2] at c2
  refine ⟨⟨f, h⟩, by simpa using hc, Nat.le_refl _, Nat.lt_succ_self _, fun j n hj => ?_, fun i j A A' n n' c c' hij hi hj => by simp at hi hj; omega⟩
  match j, hj with
  | 0, hj =>
    simp at hj
    subst hj
    exact ⟨c0, c1, ⟨none, 0, c2, OwnI.empty _ _, fun b hb => by cases hb⟩⟩
  | j + 1, hj => simp at hj

/-- a row of no node -/
theorem OwnRow.zero {w : World} {g cap : Nat} {f : Nat → Value} (h : w.rowIs g 50 (cap * 3) f) : OwnRow w g (g + 1) g cap [] :=
  ⟨⟨f, h⟩, Nat.zero_le _, Nat.le_refl _, Nat.lt_succ_self _, fun j n hj => by simp at hj, fun i j A A' n n' c c' _ hi => by simp at hi⟩

theorem infoNdA : (Try.prog.info? 50).map (fun i => (i.zero, i.size, i.bytes)) = some (some (.agg #[.int .i64 0, .int .i64 0, .slice none 0 0]), 3, 40) := by kernel_rfl

/-- append(nil, n) of one node without kids, which lies in a block of its own -/
theorem append_nd1 {w : World} {ops : Array Oper} {rest : List Oper} {o : Oper} {a : Act} {Q : Exit → Act → World → Prop} (hgd : o.guard = none) (s x : Operand)
    (ho : o.op = .call { callee := .builtin .append, args := #[s, x], argTypes := #[23, 23] })
    (base : Nat) (hs : a.eval s = .slice none 0 0) (b : Nat) (k v : Int) (t : TypeId) (hx : a.eval x = .slice (some ⟨b, 0, none⟩) 1 1) (hr : w.heap[b]? = some (.cells #[.int .i64 k, .int .i64 v, .slice none 0 0] t (0, 0)))
    (hbase : base ≤ w.heap.size)
    (h : ∀ (g cap : Nat) (w' : World), base ≤ g → g < w'.heap.size → OwnRow w' g (g + 1) g cap [⟨k, v, []⟩] → w.grownBy w' none → g = w.heap.size →
      wpList Try.prog ops Q rest (a.put o.dst (.slice (some ⟨g, 0, none⟩) 1 cap)) w') : wpList Try.prog ops Q (o :: rest) a w := by
  obtain ⟨i0, hi, hz0, hz1, hz2⟩ := info_parts infoNdA
  refine wpList_append_own_at w hgd s x 23 ho base 50 i0 _ 3 40 Try.underlying23 hi hz0 hz1 hz2 rfl (by omega) _ 0 [] hs (World.ownsRow_nil _ _ _ _) ⟨b, 0, none⟩ 1 1 [.int .i64 k, .int .i64 v, .slice none 0 0] hx (by simp) (World.news_of_block hr) (by
      intro u hu
      simp at hu
      rcases hu with rfl | rfl | rfl <;> rfl)
    (by unfold maxLen; omega) (by omega) hbase ?_
  intro v' w' h2 h3 _ h5
  rcases h2.2 with ⟨_, h6⟩ | ⟨g, cap, cur, rfl, hg, hh, hn, hm, hsz, htk⟩
  · omega
  · have hat : ∀ i u, i < 3 → ([.int .i64 k, .int .i64 v, .slice none 0 0] : List Value)[i]? = some u → cur[i]? = some u := by
      intro i u hi' hu
      rw [List.nil_append] at htk
      rw [← htk, List.getElem?_take, if_pos (by omega), Array.getElem?_toList] at hu
      exact hu
    have hrow : w'.rowIs g 50 (cap * 3) (fun i => (cur[i]?).getD undef) := ⟨cur, hh, by simpa using hsz, fun i hi' => by
      have : i < cur.size := by rw [hsz]; omega
      show _ = some ((cur[i]?).getD undef)
      rw [Array.getElem?_eq_getElem this]; rfl⟩
    refine h g cap w' hg hrow.lt (OwnRow.one k v hrow (by omega) ?_ ?_ ?_) h3 ?_
    · show (cur[0]?).getD undef = _
      rw [hat 0 _ (by omega) rfl]; rfl
    · show (cur[1]?).getD undef = _
      rw [hat 1 _ (by omega) rfl]; rfl
    · show (cur[2]?).getD undef = _
      rw [hat 2 _ (by omega) rfl]; rfl
    · rcases h5 with h5 | h5
      · cases h5
      · simpa [Value.ownBlock] using h5

end Go.Proofs.Ytpcfjdhalglebaa

namespace Go.Proofs.Ytpcfjdhalglebaa
open Go.RowKit
set_option linter.unusedVariables false

/-- the world behind a store to the node j -/
def setN (w : World) (g j : Nat) (v0 v1 v2 : Value) : World := ((w.setCell ⟨g, j * 3, none⟩ v0).setCell ⟨g, j * 3 + 1, none⟩ v1).setCell ⟨g, j * 3 + 2, none⟩ v2

theorem setN_block {w : World} {g j k : Nat} {v0 v1 v2 : Value} (hk : k ≠ g) : (setN w g j v0 v1 v2).heap[k]? = w.heap[k]? := by
  unfold setN
  rw [Below.heap_setCell _ _ _ _ (by show k ≠ g; exact hk), Below.heap_setCell _ _ _ _ (by show k ≠ g; exact hk), Below.heap_setCell _ _ _ _ (by show k ≠ g; exact hk)]
theorem setN_size {w : World} {g j : Nat} {v0 v1 v2 : Value} : (setN w g j v0 v1 v2).heap.size = w.heap.size := by unfold setN; simp
theorem setN_far {w : World} {g j q : Nat} {v0 v1 v2 : Value} (hq : q < j * 3 ∨ j * 3 + 2 < q) : (setN w g j v0 v1 v2).cell? ⟨g, q, none⟩ = w.cell? ⟨g, q, none⟩ := by
  unfold setN
  rw [World.cell?_setCell_other, World.cell?_setCell_other, World.cell?_setCell_other] <;> (intro e; injection e with _ e; omega)
theorem setN_row {w : World} {g j n : Nat} {t : TypeId} {f : Nat → Value} (h : w.rowIs g t n f) (v0 v1 v2 : Value) : ∃ f', (setN w g j v0 v1 v2).rowIs g t n f' := ⟨_, ((h.set _ _).set _ _).set _ _⟩
theorem setN_at {w : World} {g j n : Nat} {t : TypeId} {f : Nat → Value} (h : w.rowIs g t n f) (hn : j * 3 + 2 < n) (v0 v1 v2 : Value) : (setN w g j v0 v1 v2).cell? ⟨g, j * 3, none⟩ = some v0 ∧ (setN w g j v0 v1 v2).cell? ⟨g, j * 3 + 1, none⟩ = some v1 ∧ (setN w g j v0 v1 v2).cell? ⟨g, j * 3 + 2, none⟩ = some v2 := by
  have hr := ((h.set (j * 3) v0).set (j * 3 + 1) v1).set (j * 3 + 2) v2
  unfold setN
  refine ⟨?_, ?_, ?_⟩
  · have := hr.cell (i := j * 3) (by omega)
    simpa using this
  · have := hr.cell (i := j * 3 + 1) (by omega)
    simpa using this
  · have := hr.cell (i := j * 3 + 2) (by omega)
    simpa using this
theorem setN_below {w w' : World} {B g j : Nat} {v0 v1 v2 : Value} (h : Below B w w') (hg : B ≤ g) : Below B w (setN w' g j v0 v1 v2) :=
  ((h.setCell (p := ⟨g, j * 3, none⟩) hg v0).setCell (p := ⟨g, j * 3 + 1, none⟩) hg v1).setCell (p := ⟨g, j * 3 + 2, none⟩) hg v2

theorem OwnI.lowB {w : World} {base base' : Nat} {A : Option Addr} {c : Nat} {xs : List Int} (h : OwnI w base A c xs) (hb : base' ≤ base) : OwnI w base' A c xs := by
  refine ⟨h.own.1, ?_⟩
  rcases h.own.2 with h2 | ⟨g, cap, cur, hv, hg, r⟩
  · exact .inl h2
  · exact .inr ⟨g, cap, cur, hv, by omega, r⟩

/-- a node is written behind the others; its kids' row is new -/
theorem OwnRow.snoc {w : World} {lo hi hi2 g cap c : Nat} {A : Option Addr} {ns : List Nd} {n : Nd} (h : OwnRow w lo hi g cap ns) (hcap : ns.length < cap) (hown : OwnI w hi A c n.kids) (h2 : hi ≤ hi2) (hA : ∀ b, blockOf A = some b → b < hi2) :
    OwnRow (setN w g ns.length (.int .i64 n.kind) (.int .i64 n.value) (.slice A n.kids.length c)) lo hi2 g cap (ns ++ [n]) := by
  obtain ⟨f, hf⟩ := h.row
  have hlo := h.hlo
  have hhi := h.hhi
  have hat := setN_at (j := ns.length) hf (by omega) (.int .i64 n.kind) (.int .i64 n.value) (.slice A n.kids.length c)
  have hAb : ∀ b, blockOf A = some b → hi ≤ b := fun b hb => (hown.blocks b hb).1
  have hgA : ∀ b, blockOf A = some b → b ≠ g := fun b hb => by have := hAb b hb; omega
  have hown2 : OwnI (setN w g ns.length (.int .i64 n.kind) (.int .i64 n.value) (.slice A n.kids.length c)) lo A c n.kids := (hown.of_blk (fun b hb => setN_block (hgA b hb))).lowB (by omega)
  refine ⟨setN_row hf _ _ _, by simp; omega, hlo, by omega, fun j m hj => ?_, fun i j A1 A2 k1 k2 c1 c2 hij hi' hj' e1 e2 b hb => ?_⟩
  · rw [List.getElem?_append] at hj
    split at hj
    next hlt =>
      have hn := h.nd j m hj
      obtain ⟨A1, c1, h1, h3, h4⟩ := hn.kids
      exact ⟨(setN_far (by omega)).trans hn.kind, (setN_far (by omega)).trans hn.value, ⟨A1, c1, (setN_far (by omega)).trans h1, h3.of_blk (fun b hb => setN_block (h4 b hb).2), fun b hb => ⟨by have := (h4 b hb).1; omega, (h4 b hb).2⟩⟩⟩
    next hlt =>
      have hjl := (List.getElem?_eq_some_iff.1 hj).1
      simp at hjl
      obtain rfl : j = ns.length := by omega
      simp at hj
      subst hj
      exact ⟨hat.1, hat.2.1, ⟨A, c, hat.2.2, hown2, fun b hb => ⟨hA b hb, hgA b hb⟩⟩⟩
  · simp at hi' hj'
    by_cases ei : i = ns.length
    · subst ei
      rw [hat.2.2] at e1
      injection e1 with e1
      injection e1 with e1 _ _
      subst e1
      have hj2 : j < ns.length := by omega
      rw [setN_far (by omega)] at e2
      intro e3
      obtain ⟨A3, c3, g1, _, g3⟩ := (h.nd j _ (List.getElem?_eq_getElem hj2)).kids
      rw [e2] at g1
      injection g1 with g1
      injection g1 with g1 _ _
      subst g1
      have := (g3 b e3).1
      have := hAb b hb
      omega
    · have hi2' : i < ns.length := by omega
      rw [setN_far (by omega)] at e1
      obtain ⟨A3, c3, g1, _, g3⟩ := (h.nd i _ (List.getElem?_eq_getElem hi2')).kids
      have e1' := e1
      rw [e1'] at g1
      injection g1 with g1
      injection g1 with g1 _ _
      subst g1
      by_cases ej : j = ns.length
      · subst ej
        rw [hat.2.2] at e2
        injection e2 with e2
        injection e2 with e2 _ _
        subst e2
        intro e3
        have := (g3 b hb).1
        have := hAb b e3
        omega
      · rw [setN_far (by omega)] at e2
        exact h.dis i j A1 A2 k1 k2 c1 c2 hij hi2' (by omega) e1 e2 b hb

/-- a row may be said to reach further up -/
theorem OwnRow.high {w : World} {lo hi hi2 g cap : Nat} {ns : List Nd} (h : OwnRow w lo hi g cap ns) (h2 : hi ≤ hi2) : OwnRow w lo hi2 g cap ns :=
  ⟨h.row, h.le, h.hlo, by have := h.hhi; omega, fun j n hj => by
    have hn := h.nd j n hj
    obtain ⟨A, c, h1, h3, h4⟩ := hn.kids
    exact ⟨hn.kind, hn.value, ⟨A, c, h1, h3, fun b hb => ⟨by have := (h4 b hb).1; omega, (h4 b hb).2⟩⟩⟩, h.dis⟩

theorem OwnRow.low {w : World} {lo lo2 hi g cap : Nat} {ns : List Nd} (h : OwnRow w lo hi g cap ns) (h2 : lo2 ≤ lo) : OwnRow w lo2 hi g cap ns :=
  ⟨h.row, h.le, by have := h.hlo; omega, h.hhi, fun j n hj => by
    have hn := h.nd j n hj
    obtain ⟨A, c, h1, h3, h4⟩ := hn.kids
    exact ⟨hn.kind, hn.value, ⟨A, c, h1, h3.lowB h2, h4⟩⟩, h.dis⟩

/-- the node x of ns, its kids by their places in L -/
def pickN (ns : List Nd) (L : List Int) (x : Int) : Nd := match ns[x.toNat]? with | some n => ⟨n.kind, n.value, n.kids.map (place L)⟩ | none => ⟨0, 0, []⟩

theorem pickN_at {ns : List Nd} {L : List Int} {i : Nat} {n : Nd} (h : ns[i]? = some n) : pickN ns L (i : Int) = ⟨n.kind, n.value, n.kids.map (place L)⟩ := by
  unfold pickN
  rw [Int.toNat_natCast, h]

/-- the nodes of L, in its order -/
def pickNs (ns : List Nd) (L : List Int) : List Nd := L.map (pickN ns L)

theorem pickNs_len (ns : List Nd) (L : List Int) : (pickNs ns L).length = L.length := by simp [pickNs]

theorem pickNs_take {ns : List Nd} {L : List Int} {k i : Nat} {n : Nd} (hk : L[k]? = some (i : Int)) (h : ns[i]? = some n) : (pickNs ns L).take (k + 1) = (pickNs ns L).take k ++ [⟨n.kind, n.value, n.kids.map (place L)⟩] := by
  have : (pickNs ns L)[k]? = some ⟨n.kind, n.value, n.kids.map (place L)⟩ := by
    unfold pickNs
    rw [List.getElem?_map, hk]
    simp [pickN_at h]
  rw [List.take_add_one, this]
  rfl

theorem place_in64 {L : List Int} (hl : L.length ≤ 1000) (x : Int) : In64 (place L x) := by
  by_cases h : x ∈ L
  · rw [place_pos h]
    have := List.idxOf_lt_length_of_mem h
    constructor <;> omega
  · rw [place_neg h]
    constructor <;> omega

/-- a graph of the call's own comes back -/
def GivesG (w : World) (ms : List Nd) (r : Int) (e : Ending) (w' : World) : Prop :=
  ∃ A c, e = .returned (.agg #[.slice A ms.length c, .int .i64 r]) ∧ OwnNs w' w.heap.size w'.heap.size A c ms ∧ Below w.heap.size w w'

end Go.Proofs.Ytpcfjdhalglebaa

namespace Go.Proofs.Ytpcfjdhalglebaa

/-- the walk from x, where the nodes of L have been met; only nodes that may be entered are met -/
def dfs (ns : List Nd) (ent : Int → Bool) : Nat → Int → List Int → List Int
  | 0, _, L => L
  | f + 1, x, L => if ent x = false ∨ x ∈ L then L else (kidsOf ns x).foldl (fun M k => dfs ns ent f k M) (L ++ [x])

def dfsL (ns : List Nd) (ent : Int → Bool) (f : Nat) (xs : List Int) (L : List Int) : List Int := xs.foldl (fun M k => dfs ns ent f k M) L

theorem dfs_stop {ns : List Nd} {ent : Int → Bool} {f : Nat} {x : Int} {L : List Int} (h : ent x = false ∨ x ∈ L) : dfs ns ent (f + 1) x L = L := by
  rw [dfs, if_pos h]

theorem dfs_go {ns : List Nd} {ent : Int → Bool} {f : Nat} {x : Int} {L : List Int} (h1 : ent x = true) (h2 : x ∉ L) : dfs ns ent (f + 1) x L = dfsL ns ent f (kidsOf ns x) (L ++ [x]) := by
  rw [dfs, if_neg (by simp [h1, h2])]
  rfl

theorem dfsL_nil (ns : List Nd) (ent : Int → Bool) (f : Nat) (L : List Int) : dfsL ns ent f [] L = L := rfl
theorem dfsL_cons (ns : List Nd) (ent : Int → Bool) (f : Nat) (x : Int) (xs L : List Int) : dfsL ns ent f (x :: xs) L = dfsL ns ent f xs (dfs ns ent f x L) := rfl
theorem dfsL_snoc (ns : List Nd) (ent : Int → Bool) (f : Nat) (xs : List Int) (x : Int) (L : List Int) : dfsL ns ent f (xs ++ [x]) L = dfs ns ent f x (dfsL ns ent f xs L) := by
  simp [dfsL]

/-- the kids of each node are nodes -/
def KidsIn (ns : List Nd) : Prop := ∀ n ∈ ns, ∀ x ∈ n.kids, 0 ≤ x ∧ x < ns.length

theorem KidsIn.of {ns : List Nd} (h : KidsIn ns) (x : Int) : ∀ k ∈ kidsOf ns x, 0 ≤ k ∧ k < ns.length := by
  intro k hk
  unfold kidsOf at hk
  cases hn : ns[x.toNat]? with
  | none => rw [hn] at hk; simp at hk
  | some n =>
    rw [hn] at hk
    exact h n (List.mem_of_getElem? hn) k (by simpa using hk)

/-- what has been met: different nodes -/
structure Met (ns : List Nd) (L : List Int) : Prop where
  nodup : L.Nodup
  range : ∀ x ∈ L, 0 ≤ x ∧ x < ns.length

theorem Met.nil (ns : List Nd) : Met ns [] := ⟨List.nodup_nil, fun x hx => by cases hx⟩
theorem Met.len {ns : List Nd} {L : List Int} (h : Met ns L) : L.length ≤ ns.length := nodup_le _ _ h.nodup h.range
theorem Met.snoc {ns : List Nd} {L : List Int} {x : Int} (h : Met ns L) (hx : 0 ≤ x ∧ x < ns.length) (hno : x ∉ L) : Met ns (L ++ [x]) := by
  refine ⟨?_, fun y hy => ?_⟩
  · rw [List.nodup_append]
    exact ⟨h.nodup, by simp, fun a ha b hb => by simp at hb; subst hb; intro e; subst e; exact hno ha⟩
  · rcases List.mem_append.1 hy with hy | hy
    · exact h.range y hy
    · simp at hy; subst hy; exact hx

/-- all that the walk gives -/
structure Walked (ns : List Nd) (ent : Int → Bool) (xs : List Int) (L R : List Int) : Prop where
  met : Met ns R
  sub : ∀ y ∈ L, y ∈ R
  len : L.length ≤ R.length
  starts : ∀ x ∈ xs, ent x = true → x ∈ R
  closed : ∀ y ∈ R, y ∉ L → ∀ k ∈ kidsOf ns y, ent k = true → k ∈ R
  from_ : ∀ y ∈ R, y ∈ L ∨ (ent y = true ∧ (y ∈ xs ∨ ∃ z ∈ R, z ∉ L ∧ y ∈ kidsOf ns z))

theorem walkedL (ns : List Nd) (ent : Int → Bool) (f : Nat)
    (ih : ∀ (x : Int) (L : List Int), Met ns L → 0 ≤ x → x < ns.length → ns.length < f + L.length → Walked ns ent [x] L (dfs ns ent f x L)) :
    ∀ (xs : List Int) (L : List Int), Met ns L → (∀ x ∈ xs, 0 ≤ x ∧ x < ns.length) → ns.length < f + L.length → Walked ns ent xs L (dfsL ns ent f xs L)
  | [], L, hL, _, _ => ⟨hL, fun y hy => hy, Nat.le_refl _, fun x hx => (by cases hx), fun y hy hno => absurd hy hno, fun y hy => .inl hy⟩
  | x :: xs, L, hL, hx, hf => by
    have h1 := ih x L hL (hx x (by simp)).1 (hx x (by simp)).2 hf
    have h2 := walkedL ns ent f ih xs (dfs ns ent f x L) h1.met (fun y hy => hx y (by simp [hy])) (by have := h1.len; omega)
    rw [dfsL_cons]
    refine ⟨h2.met, fun y hy => h2.sub y (h1.sub y hy), Nat.le_trans h1.len h2.len, fun y hy he => ?_, fun y hy hno k hk he => ?_, fun y hy => ?_⟩
    · rcases List.mem_cons.1 hy with rfl | hy
      · exact h2.sub _ (h1.starts _ (by simp) he)
      · exact h2.starts y hy he
    · by_cases hm : y ∈ dfs ns ent f x L
      · exact h2.sub _ (h1.closed y hm hno k hk he)
      · exact h2.closed y hy hm k hk he
    · rcases h2.from_ y hy with h | ⟨he, h | ⟨z, hz, hzn, hk⟩⟩
      · rcases h1.from_ y h with h | ⟨he, h | ⟨z, hz, hzn, hk⟩⟩
        · exact .inl h
        · exact .inr ⟨he, .inl (by simp at h; simp [h])⟩
        · exact .inr ⟨he, .inr ⟨z, h2.sub z hz, hzn, hk⟩⟩
      · exact .inr ⟨he, .inl (by simp [h])⟩
      · exact .inr ⟨he, .inr ⟨z, hz, fun h => hzn (h1.sub z h), hk⟩⟩

theorem walked (ns : List Nd) (ent : Int → Bool) (hk : KidsIn ns) : ∀ (f : Nat) (x : Int) (L : List Int), Met ns L → 0 ≤ x → x < ns.length → ns.length < f + L.length → Walked ns ent [x] L (dfs ns ent f x L)
  | 0, x, L, hL, _, _, hf => by have := hL.len; omega
  | f + 1, x, L, hL, h0, h1, hf => by
    by_cases hs : ent x = false ∨ x ∈ L
    · rw [dfs_stop hs]
      exact ⟨hL, fun y hy => hy, Nat.le_refl _, fun y hy he => by
        simp at hy
        subst hy
        rcases hs with h | h
        · rw [h] at he; cases he
        · exact h, fun y hy hno => absurd hy hno, fun y hy => .inl hy⟩
    · have he : ent x = true := by
        cases h : ent x
        · exact absurd (.inl h) hs
        · rfl
      have hno : x ∉ L := fun h => hs (.inr h)
      rw [dfs_go he hno]
      have h := walkedL ns ent f (walked ns ent hk f) (kidsOf ns x) (L ++ [x]) (hL.snoc ⟨h0, h1⟩ hno) (hk.of x) (by simp; omega)
      refine ⟨h.met, fun y hy => h.sub y (List.mem_append_left _ hy), by have := h.len; simp at this; omega, fun y hy _ => ?_, fun y hy hyn k hkk hek => ?_, fun y hy => ?_⟩
      · simp at hy
        subst hy
        exact h.sub y (by simp)
      · by_cases hyx : y = x
        · subst hyx
          exact h.starts k hkk hek
        · exact h.closed y hy (by simp [hyn, hyx]) k hkk hek
      · by_cases hyL : y ∈ L
        · exact .inl hyL
        · refine .inr ?_
          by_cases hyx : y = x
          · subst hyx
            exact ⟨he, .inl (by simp)⟩
          · rcases h.from_ y hy with hm | ⟨hey, hm | ⟨z, hz, hzn, hm⟩⟩
            · exact absurd hm (by simp [hyL, hyx])
            · exact ⟨hey, .inr ⟨x, h.sub x (by simp), hno, hm⟩⟩
            · exact ⟨hey, .inr ⟨z, hz, fun hzL => hzn (List.mem_append_left _ hzL), hm⟩⟩

/-- a walk over all of a list of starts -/
theorem walkedAll (ns : List Nd) (ent : Int → Bool) (hk : KidsIn ns) (xs L : List Int) (f : Nat) (hL : Met ns L) (hx : ∀ x ∈ xs, 0 ≤ x ∧ x < ns.length) (hf : ns.length < f + L.length) : Walked ns ent xs L (dfsL ns ent f xs L) :=
  walkedL ns ent f (walked ns ent hk f) xs L hL hx hf

theorem dfs_met (ns : List Nd) (ent : Int → Bool) (hk : KidsIn ns) : ∀ (f : Nat) (x : Int) (L : List Int), Met ns L → (0 ≤ x ∧ x < ns.length) → Met ns (dfs ns ent f x L)
  | 0, x, L, hL, _ => hL
  | f + 1, x, L, hL, hx => by
    by_cases hs : ent x = false ∨ x ∈ L
    · rw [dfs_stop hs]; exact hL
    · have he : ent x = true := by
        cases h : ent x
        · exact absurd (.inl h) hs
        · rfl
      have hno : x ∉ L := fun h => hs (.inr h)
      rw [dfs_go he hno]
      have hl : ∀ (xs M : List Int), Met ns M → (∀ y ∈ xs, 0 ≤ y ∧ y < ns.length) → Met ns (dfsL ns ent f xs M) := by
        intro xs
        induction xs with
        | nil => intro M hM _; exact hM
        | cons a xs ih => intro M hM hr; rw [dfsL_cons]; exact ih _ (dfs_met ns ent hk f a M hM (hr a (by simp))) (fun y hy => hr y (by simp [hy]))
      exact hl _ _ (hL.snoc hx hno) (hk.of x)

/-- the nodes that are tuples -/
def isTup (ns : List Nd) (x : Int) : Bool := kindOf ns x == 2

/-- a walk over tuples from a tuple's kids comes back to it just if a way over tuples does -/
theorem tuple_back (ns : List Nd) (hk : KidsIn ns) (i : Int) (h2 : kindOf ns i = 2) (f : Nat) (hf : ns.length < f) : i ∈ dfsL ns (isTup ns) f (kidsOf ns i) [] ↔ TReach ns i i := by
  have h := walkedAll ns (isTup ns) hk (kidsOf ns i) [] f (Met.nil ns) (hk.of i) (by simpa using hf)
  have hall : ∀ x, TReach ns i x → isTup ns x = true → x ∈ dfsL ns (isTup ns) f (kidsOf ns i) [] := by
    intro x hx
    induction hx with
    | kid x hx => exact fun he => h.starts x hx he
    | step y x _ hy2 hx ih => exact fun he => h.closed y (ih (by simp [isTup, hy2])) (by simp) x hx he
  constructor
  · intro hi
    have hs : ∀ (g : Nat) (xs L : List Int), Met ns L → (∀ x ∈ xs, 0 ≤ x ∧ x < ns.length) → (∀ x ∈ xs, TReach ns i x) → (∀ x ∈ L, TReach ns i x) → ∀ x ∈ dfsL ns (isTup ns) g xs L, TReach ns i x := by
      intro g
      induction g with
      | zero =>
        intro xs
        induction xs with
        | nil => intro L _ _ _ hL x hx; exact hL x hx
        | cons a xs ihx => intro L hM hr hxs hL x hx; exact ihx L hM (fun y hy => hr y (by simp [hy])) (fun y hy => hxs y (by simp [hy])) hL x hx
      | succ g ihg =>
        intro xs
        induction xs with
        | nil => intro L _ _ _ hL x hx; exact hL x hx
        | cons a xs ihx =>
          intro L hM hr hxs hL x hx
          rw [dfsL_cons] at hx
          by_cases hst : isTup ns a = false ∨ a ∈ L
          · rw [dfs_stop hst] at hx
            exact ihx L hM (fun y hy => hr y (by simp [hy])) (fun y hy => hxs y (by simp [hy])) hL x hx
          · have hea : isTup ns a = true := by
              cases hq : isTup ns a
              · exact absurd (.inl hq) hst
              · rfl
            have hna : a ∉ L := fun hq => hst (.inr hq)
            have hMa := hM.snoc (hr a (by simp)) hna
            have hsub : ∀ y ∈ dfs ns (isTup ns) (g + 1) a L, TReach ns i y := by
              rw [dfs_go hea hna]
              refine ihg (kidsOf ns a) (L ++ [a]) hMa (hk.of a) (fun y hy => .step a y (hxs a (by simp)) (by simpa [isTup] using hea) hy) (fun y hy => ?_)
              rcases List.mem_append.1 hy with hy | hy
              · exact hL y hy
              · simp at hy; subst hy; exact hxs y (by simp)
            by_cases hlen : ns.length < (g + 1) + L.length
            · have hw := walked ns (isTup ns) hk (g + 1) a L hM (hr a (by simp)).1 (hr a (by simp)).2 hlen
              exact ihx _ hw.met (fun y hy => hr y (by simp [hy])) (fun y hy => hxs y (by simp [hy])) hsub x hx
            · exact ihx _ (dfs_met ns (isTup ns) hk (g + 1) a L hM (hr a (by simp))) (fun y hy => hr y (by simp [hy])) (fun y hy => hxs y (by simp [hy])) hsub x hx
    exact hs f (kidsOf ns i) [] (Met.nil ns) (hk.of i) (fun x hx => .kid x hx) (fun x hx => by cases hx) i hi
  · intro ht
    exact hall i ht (by simp [isTup, h2])

end Go.Proofs.Ytpcfjdhalglebaa

namespace Go.Proofs.Ytpcfjdhalglebaa

/-- the value of a node -/
def valueOf (ns : List Nd) (x : Int) : Int := ((ns[x.toNat]?).map Nd.value).getD 0
theorem valueOf_at {ns : List Nd} {k : Nat} {n : Nd} (h : ns[k]? = some n) : valueOf ns (k : Int) = n.value := by
  unfold valueOf
  rw [Int.toNat_natCast, h]; rfl

/-- what was written, and what was met -/
abbrev CM := List Int × List Int

/-- what is written and met behind the first visit of x -/
def codPut (ns : List Nd) (x : Int) (p : CM) : CM :=
  (p.1 ++ [kindOf ns x, valueOf ns x, ((kidsOf ns x).length : Int)], if kindOf ns x = 0 then p.2 else p.2 ++ [x])

def cod (ns : List Nd) : Nat → Int → CM → CM
  | 0, _, p => p
  | f + 1, x, p => if x ∈ p.2 then (p.1 ++ [-1, place p.2 x], p.2) else (kidsOf ns x).foldl (fun q k => cod ns f k q) (codPut ns x p)

def codL (ns : List Nd) (f : Nat) (xs : List Int) (p : CM) : CM := xs.foldl (fun q k => cod ns f k q) p

theorem cod_seen {ns : List Nd} {f : Nat} {x : Int} {p : CM} (h : x ∈ p.2) : cod ns (f + 1) x p = (p.1 ++ [-1, place p.2 x], p.2) := by
  rw [cod, if_pos h]
theorem cod_new {ns : List Nd} {f : Nat} {x : Int} {p : CM} (h : x ∉ p.2) : cod ns (f + 1) x p = codL ns f (kidsOf ns x) (codPut ns x p) := by
  rw [cod, if_neg h]; rfl
theorem codL_nil (ns : List Nd) (f : Nat) (p : CM) : codL ns f [] p = p := rfl
theorem codL_snoc (ns : List Nd) (f : Nat) (xs : List Int) (x : Int) (p : CM) : codL ns f (xs ++ [x]) p = cod ns f x (codL ns f xs p) := by
  simp [codL]

/-- what the walk may rely on: kids are nodes, at most K of them, and numbers have none -/
structure CodG (ns : List Nd) (K : Nat) : Prop where
  kin : KidsIn ns
  few : ∀ n ∈ ns, n.kids.length ≤ K
  leaf : ∀ n ∈ ns, n.kind = 0 → n.kids = []
  wf : Wf ns

structure CInv (ns : List Nd) (p : CM) : Prop where
  met : Met ns p.2
  kinds : ∀ x ∈ p.2, kindOf ns x ≠ 0
  wf : ∀ x ∈ p.1, In64 x

structure Coded (ns : List Nd) (K n : Nat) (p q : CM) : Prop where
  inv : CInv ns q
  grow : p.2.length ≤ q.2.length
  len : q.1.length + 3 * (K * p.2.length) ≤ p.1.length + 3 * n + 3 * (K * q.2.length)

theorem CInv.seen {ns : List Nd} {p : CM} {x : Int} (h : CInv ns p) (hx : x ∈ p.2) (hl : ns.length ≤ 1048576) : CInv ns (p.1 ++ [-1, place p.2 x], p.2) := by
  refine ⟨h.met, h.kinds, fun y hy => ?_⟩
  rcases List.mem_append.1 hy with hy | hy
  · exact h.wf y hy
  · have h1 := place_lt hx
    have h2 := h.met.len
    simp at hy
    rcases hy with rfl | rfl <;> constructor <;> omega

theorem CInv.put {ns : List Nd} {K : Nat} {p : CM} {k : Nat} {n : Nd} (hg : CodG ns K) (h : CInv ns p) (hat : ns[k]? = some n) (hx : (k : Int) ∉ p.2) : CInv ns (codPut ns k p) := by
  have hmem := List.mem_of_getElem? hat
  obtain ⟨w1, w2, _, w4⟩ := hg.wf n hmem
  have hkl : k < ns.length := (List.getElem?_eq_some_iff.1 hat).1
  unfold codPut
  rw [kindOf_at hat, valueOf_at hat, kidsOf_at hat]
  refine ⟨?_, fun y hy => ?_, fun y hy => ?_⟩
  · show Met ns (if n.kind = 0 then p.2 else p.2 ++ [(k : Int)])
    split
    · exact h.met
    · exact h.met.snoc ⟨by omega, by omega⟩ hx
  · replace hy : y ∈ (if n.kind = 0 then p.2 else p.2 ++ [(k : Int)]) := hy
    split at hy
    · exact h.kinds y hy
    · rename_i hne
      rcases List.mem_append.1 hy with hy | hy
      · exact h.kinds y hy
      · simp at hy; subst hy; rw [kindOf_at hat]; exact hne
  · rcases List.mem_append.1 hy with hy | hy
    · exact h.wf y hy
    · simp at hy
      rcases hy with rfl | rfl | rfl
      · exact w1
      · exact w2
      · constructor <;> omega

theorem codedL (ns : List Nd) (K f : Nat) (ih : ∀ (x : Int) (p : CM), CInv ns p → 0 ≤ x → x < ns.length → ns.length < f + p.2.length → Coded ns K 1 p (cod ns f x p)) :
    ∀ (xs : List Int) (p : CM), CInv ns p → (∀ x ∈ xs, 0 ≤ x ∧ x < ns.length) → (xs ≠ [] → ns.length < f + p.2.length) → Coded ns K xs.length p (codL ns f xs p)
  | [], p, hp, _, _ => ⟨hp, Nat.le_refl _, by simp [codL]⟩
  | x :: xs, p, hp, hx, hf => by
    have h1 := ih x p hp (hx x (by simp)).1 (hx x (by simp)).2 (hf (by simp))
    have h2 := codedL ns K f ih xs (cod ns f x p) h1.inv (fun y hy => hx y (by simp [hy])) (fun _ => by have := h1.grow; have := hf (by simp); omega)
    have e : codL ns f (x :: xs) p = codL ns f xs (cod ns f x p) := rfl
    rw [e]
    refine ⟨h2.inv, Nat.le_trans h1.grow h2.grow, ?_⟩
    have a := h1.len
    have b := h2.len
    simp only [List.length_cons]
    omega

theorem coded (ns : List Nd) (K : Nat) (hg : CodG ns K) (hl : ns.length ≤ 1048576) : ∀ (f : Nat) (x : Int) (p : CM), CInv ns p → 0 ≤ x → x < ns.length → ns.length < f + p.2.length → Coded ns K 1 p (cod ns f x p)
  | 0, _, p, hp, _, _, hf => by have := hp.met.len; omega
  | f + 1, x, p, hp, h0, h1, hf => by
    obtain ⟨k, rfl⟩ := Int.eq_ofNat_of_zero_le h0
    have hat : ns[k]? = some ns[k] := List.getElem?_eq_getElem (by omega)
    by_cases hx : (k : Int) ∈ p.2
    · rw [cod_seen hx]
      refine ⟨hp.seen hx hl, Nat.le_refl _, ?_⟩
      simp
    · rw [cod_new hx]
      have hput := CInv.put hg hp hat hx
      generalize ns[k] = n at hat
      have hmem := List.mem_of_getElem? hat
      have hkf := hg.few n hmem
      have hlen : (codPut ns k p).1.length = p.1.length + 3 := by simp [codPut]
      have hkin : ∀ y ∈ kidsOf ns (k : Int), 0 ≤ y ∧ y < ns.length := hg.kin.of _
      by_cases hz : n.kind = 0
      · have hm : (codPut ns k p).2 = p.2 := by unfold codPut; rw [kindOf_at hat, if_pos hz]
        have hk0 : kidsOf ns (k : Int) = [] := by rw [kidsOf_at hat]; exact hg.leaf n hmem hz
        rw [hk0, codL_nil]
        exact ⟨hput, by rw [hm]; exact Nat.le_refl _, by rw [hm, hlen]; omega⟩
      · have hm : (codPut ns k p).2.length = p.2.length + 1 := by unfold codPut; rw [kindOf_at hat, if_neg hz]; simp
        have h := codedL ns K f (fun x p a b c d => coded ns K hg hl f x p a b c d) (kidsOf ns (k : Int)) (codPut ns k p) hput hkin (fun _ => by omega)
        refine ⟨h.inv, by have := h.grow; omega, ?_⟩
        have a := h.len
        rw [hm, hlen, Nat.mul_succ] at a
        rw [kidsOf_at hat] at a ⊢
        omega

theorem codedAll (ns : List Nd) (K : Nat) (hg : CodG ns K) (hl : ns.length ≤ 1048576) (f : Nat) (xs : List Int) (p : CM) (hp : CInv ns p) (hx : ∀ x ∈ xs, 0 ≤ x ∧ x < ns.length) (hf : xs ≠ [] → ns.length < f + p.2.length) : Coded ns K xs.length p (codL ns f xs p) :=
  codedL ns K f (fun x p a b c d => coded ns K hg hl f x p a b c d) xs p hp hx hf

theorem cod_bound {K N l q o z p k M : Nat} (hl : l ≤ N) (hq : q ≤ N) (h0 : o + 3 + 3 * (K * (N - l)) ≤ M) (hz : z = o + 3) (hp : p + 3 * (K * (l + 1)) ≤ z + 3 * k + 3 * (K * q)) (hk : k < K) :
    p + 3 + 3 * (K * (N - q)) ≤ M := by
  have e1 : K * (N - l) + K * l = K * N := by rw [← Nat.mul_add, Nat.sub_add_cancel hl]
  have e2 : K * (N - q) + K * q = K * N := by rw [← Nat.mul_add, Nat.sub_add_cancel hq]
  rw [Nat.mul_succ] at hp
  omega

end Go.Proofs.Ytpcfjdhalglebaa
