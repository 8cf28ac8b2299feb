/-
  Lemmas, several texts in one: Tup, InfoO, OwnO, ApA, EqI, RdO2, VB, DecN.
-/
import Derived.Test.YtmilbhhlbjcodaaDoorPjAa
import Derived.Test.YtmilbhhlbjcodaaDoorPjAc
import Derived.Test.YtmilbhhlbjcodaaDoorPjAe
import Derived.Deep.RegionLaw
import Derived.Deep.AppendLies
import Derived.Test.YtmilbhhlbjcodaaDoorPjAf
import Derived.IntWalk
namespace Go.Proofs.YtmilbhhlbjcodaaDoor
theorem nodup_le : ∀ (N : Nat) (l : List Int), l.Nodup → (∀ x ∈ l, 0 ≤ x ∧ x < N) → l.length ≤ N
  | 0, l, _, h => by
    cases l with
    | nil => simp
    | cons x l => have := h x (by simp); omega
  | N + 1, l, hd, h => by
    have h1 : (l.erase (N : Int)).length ≤ N := nodup_le N _ (hd.erase _) (fun x hx => by
      have hx2 := (List.Nodup.mem_erase_iff hd).1 hx
      have := h x hx2.2
      have hne := hx2.1
      omega)
    have h2 := List.length_erase (a := (N : Int)) (l := l)
    split at h2 <;> omega
def kidsOf (ns : List Nd) (x : Int) : List Int := ((ns[x.toNat]?).map Nd.kids).getD []
def kindOf (ns : List Nd) (x : Int) : Int := ((ns[x.toNat]?).map Nd.kind).getD (-1)
theorem kidsOf_at {ns : List Nd} {k : Nat} {n : Nd} (h : ns[k]? = some n) : kidsOf ns (k : Int) = n.kids := by
  unfold kidsOf
  rw [Int.toNat_natCast, h]; rfl
theorem kindOf_at {ns : List Nd} {k : Nat} {n : Nd} (h : ns[k]? = some n) : kindOf ns (k : Int) = n.kind := by
  unfold kindOf
  rw [Int.toNat_natCast, h]; rfl
inductive TReach (ns : List Nd) (i : Int) : Int → Prop
  | kid (x : Int) : x ∈ kidsOf ns i → TReach ns i x
  | step (y x : Int) : TReach ns i y → kindOf ns y = 2 → x ∈ kidsOf ns y → TReach ns i x
structure TInv (ns : List Nd) (i : Int) (out list : List Int) (k : Nat) : Prop where
  sound : ∀ x ∈ list, TReach ns i x
  range : ∀ x ∈ list, 0 ≤ x ∧ x < ns.length
  sub : ∀ x ∈ out, x ∈ list
  done : ∀ j x, j < k → list[j]? = some x → x ∈ out
  nodup : out.Nodup
  kids : ∀ x ∈ kidsOf ns i, x ∈ list
  closed : ∀ y ∈ out, kindOf ns y = 2 → ∀ x ∈ kidsOf ns y, x ∈ list
  len : list.length ≤ 6 * (1 + out.length)
theorem TInv.start {ns : List Nd} {i : Int} (h6 : (kidsOf ns i).length ≤ 6) (hr : ∀ x ∈ kidsOf ns i, 0 ≤ x ∧ x < ns.length) : TInv ns i [] (kidsOf ns i) 0 :=
  ⟨fun x hx => .kid x hx, hr, fun x hx => (by cases hx), fun j x hj => absurd hj (by omega), List.nodup_nil, fun x hx => hx, fun y hy => (by cases hy), by simp; omega⟩
theorem TInv.seen {ns : List Nd} {i : Int} {out list : List Int} {k : Nat} {x : Int} (h : TInv ns i out list k) (hx : list[k]? = some x) (hm : x ∈ out) : TInv ns i out list (k + 1) :=
  ⟨h.sound, h.range, h.sub, fun j y hj hy => by
    by_cases e : j = k
    · subst e; rw [hx] at hy; injection hy with hy; subst hy; exact hm
    · exact h.done j y (by omega) hy, h.nodup, h.kids, h.closed, h.len⟩
theorem TInv.outLen {ns : List Nd} {i : Int} {out list : List Int} {k : Nat} (h : TInv ns i out list k) : out.length ≤ ns.length :=
  nodup_le ns.length out h.nodup fun x hx => h.range x (h.sub x hx)
theorem TInv.listLen {ns : List Nd} {i : Int} {out list : List Int} {k : Nat} (h : TInv ns i out list k) (h12 : ns.length ≤ 12) : list.length ≤ 78 := by
  have := h.outLen
  have := h.len
  omega
theorem TInv.leaf {ns : List Nd} {i : Int} {out list : List Int} {k : Nat} {x : Int} (h : TInv ns i out list k) (hx : list[k]? = some x) (hm : x ∉ out) (hk : kindOf ns x ≠ 2) : TInv ns i (out ++ [x]) list (k + 1) := by
  have hmem : x ∈ list := List.mem_of_getElem? hx
  refine ⟨h.sound, h.range, fun y hy => ?_, fun j y hj hy => ?_, ?_, h.kids, fun y hy h2 z hz => ?_, ?_⟩
  · rcases List.mem_append.1 hy with hy | hy
    · exact h.sub y hy
    · simp at hy; subst hy; exact hmem
  · by_cases e : j = k
    · subst e; rw [hx] at hy; injection hy with hy; subst hy; simp
    · exact List.mem_append_left _ (h.done j y (by omega) hy)
  · rw [List.nodup_append]
    exact ⟨h.nodup, by simp, fun a ha b hb => by simp at hb; subst hb; intro e; subst e; exact hm ha⟩
  · rcases List.mem_append.1 hy with hy | hy
    · exact h.closed y hy h2 z hz
    · simp at hy; subst hy; exact absurd h2 hk
  · have := h.len
    simp only [List.length_append, List.length_singleton]
    omega
theorem TInv.tuple {ns : List Nd} {i : Int} {out list : List Int} {k : Nat} {x : Int} (h : TInv ns i out list k) (hx : list[k]? = some x) (hm : x ∉ out) (hk : kindOf ns x = 2) (h6 : (kidsOf ns x).length ≤ 6)
    (hr : ∀ z ∈ kidsOf ns x, 0 ≤ z ∧ z < ns.length) : TInv ns i (out ++ [x]) (list ++ kidsOf ns x) (k + 1) := by
  have hmem : x ∈ list := List.mem_of_getElem? hx
  have hkl : k < list.length := (List.getElem?_eq_some_iff.1 hx).1
  refine ⟨fun y hy => ?_, fun y hy => ?_, fun y hy => ?_, fun j y hj hy => ?_, ?_, fun y hy => List.mem_append_left _ (h.kids y hy), fun y hy h2 z hz => ?_, ?_⟩
  · rcases List.mem_append.1 hy with hy | hy
    · exact h.sound y hy
    · exact .step x y (h.sound x hmem) hk hy
  · rcases List.mem_append.1 hy with hy | hy
    · exact h.range y hy
    · exact hr y hy
  · rcases List.mem_append.1 hy with hy | hy
    · exact List.mem_append_left _ (h.sub y hy)
    · simp at hy; subst hy; exact List.mem_append_left _ hmem
  · rw [List.getElem?_append_left (by omega)] at hy
    by_cases e : j = k
    · subst e; rw [hx] at hy; injection hy with hy; subst hy; simp
    · exact List.mem_append_left _ (h.done j y (by omega) hy)
  · rw [List.nodup_append]
    exact ⟨h.nodup, by simp, fun a ha b hb => by simp at hb; subst hb; intro e; subst e; exact hm ha⟩
  · rcases List.mem_append.1 hy with hy | hy
    · exact List.mem_append_left _ (h.closed y hy h2 z hz)
    · simp at hy; subst hy; exact List.mem_append_right _ hz
  · have := h.len
    simp only [List.length_append, List.length_singleton]
    omega
theorem TInv.all {ns : List Nd} {i : Int} {out list : List Int} (h : TInv ns i out list list.length) (x : Int) : x ∈ out ↔ TReach ns i x := by
  have hall : ∀ y ∈ list, y ∈ out := fun y hy => by
    obtain ⟨j, hj, rfl⟩ := List.getElem_of_mem hy
    exact h.done j _ hj (List.getElem?_eq_getElem hj)
  constructor
  · exact fun hx => h.sound x (h.sub x hx)
  · intro hx
    induction hx with
    | kid x hx => exact hall x (h.kids x hx)
    | step y x _ h2 hx ih => exact hall x (h.closed y ih h2 x hx)
end Go.Proofs.YtmilbhhlbjcodaaDoor

namespace Go.Proofs.YtmilbhhlbjcodaaDoor
theorem infoOp : (Tryd.prog.info? 39).map (fun i => (i.zero, i.size, i.bytes)) = some (some (.agg #[.int .i64 0, .int .i64 0]), 2, 16) := by kernel_rfl
end Go.Proofs.YtmilbhhlbjcodaaDoor

namespace Go.Proofs.YtmilbhhlbjcodaaDoor
open Go.RowKit
set_option linter.unusedVariables false
def opVals (os : List Od) : List Value := os.flatMap fun o => [.int .i64 o.code, .int .i64 o.arg]
theorem opVals_cons (o : Od) (os : List Od) : opVals (o :: os) = .int .i64 o.code :: .int .i64 o.arg :: opVals os := by simp [opVals]
theorem opVals_snoc (os : List Od) (o : Od) : opVals (os ++ [o]) = opVals os ++ [.int .i64 o.code, .int .i64 o.arg] := by simp [opVals]
theorem opVals_len (os : List Od) : (opVals os).length = os.length * 2 := by
  induction os with
  | nil => rfl
  | cons o os ih => rw [opVals_cons]; simp [ih]; omega
theorem opVals_code {os : List Od} {k : Nat} {o : Od} (h : os[k]? = some o) : (opVals os)[k * 2]? = some (.int .i64 o.code) := by
  induction os generalizing k with
  | nil => simp at h
  | cons p os ih =>
    rw [opVals_cons]
    cases k with
    | zero => simp at h; subst h; rfl
    | succ k =>
      rw [show (k + 1) * 2 = k * 2 + 1 + 1 by omega, List.getElem?_cons_succ, List.getElem?_cons_succ]
      exact ih (by simpa using h)
theorem opVals_arg {os : List Od} {k : Nat} {o : Od} (h : os[k]? = some o) : (opVals os)[k * 2 + 1]? = some (.int .i64 o.arg) := by
  induction os generalizing k with
  | nil => simp at h
  | cons p os ih =>
    rw [opVals_cons]
    cases k with
    | zero => simp at h; subst h; rfl
    | succ k =>
      rw [show (k + 1) * 2 + 1 = k * 2 + 1 + 1 + 1 by omega, List.getElem?_cons_succ, List.getElem?_cons_succ]
      exact ih (by simpa using h)
structure OwnO (w : World) (base : Nat) (A : Option Addr) (c : Nat) (os : List Od) : Prop where
  own : w.ownsRow base 39 2 (.slice A os.length c) os.length (opVals os)
theorem OwnO.empty (w : World) (base : Nat) : OwnO w base none 0 [] := ⟨World.ownsRow_nil _ _ _ _⟩
theorem OwnO.bare (w : World) : OwnO (w.alloc (.cells #[] 39)) w.heap.size (some ⟨w.heap.size, 0, none⟩) 0 [] :=
  ⟨World.ownsRow_lit w #[] 0 (Nat.le_refl _) (by unfold maxLen; omega) rfl⟩
theorem OwnO.form {w : World} {base : Nat} {A : Option Addr} {c : Nat} {os : List Od} (h : OwnO w base A c os) :
    (A = none ∧ c = 0 ∧ os = []) ∨ ∃ g, A = some ⟨g, 0, none⟩ ∧ base ≤ g ∧ g < w.heap.size := by
  rcases h.own.2 with ⟨h1, h2⟩ | ⟨g, cap, cur, hv, hg, hh, _⟩
  · injection h1 with h1 _ h3
    exact .inl ⟨h1, h3, List.eq_nil_of_length_eq_zero h2⟩
  · injection hv with hv
    exact .inr ⟨g, hv, hg, lt_of_block hh⟩
theorem OwnO.ops {w : World} {base : Nat} {A : Option Addr} {c : Nat} {os : List Od} (h : OwnO w base A c os) (hwf : ∀ o ∈ os, In64 o.code ∧ In64 o.arg) (hl : os.length ≤ 9223372036854775807) : OpsAt w w.heap.size A os := by
  refine ⟨fun hx => ?_, hwf, hl⟩
  rcases h.form with ⟨_, _, h2⟩ | ⟨g, rfl, _, hlt⟩
  · exact absurd h2 hx
  · refine ⟨g, 0, rfl, hlt, fun j o hj => ?_⟩
    have hjl : j < os.length := (List.getElem?_eq_some_iff.1 hj).1
    rw [Nat.zero_add, h.own.cellAt (j * 2) (by omega), h.own.cellAt (j * 2 + 1) (by omega)]
    exact ⟨opVals_code hj, opVals_arg hj⟩
theorem OwnO.blocks {w : World} {base : Nat} {A : Option Addr} {c : Nat} {os : List Od} (h : OwnO w base A c os) : ∀ k, blockOf A = some k → base ≤ k ∧ k < w.heap.size := by
  intro k hk
  rcases h.form with ⟨rfl, _, _⟩ | ⟨g, rfl, h1, h2⟩
  · cases hk
  · simp [blockOf] at hk
    omega
theorem OwnO.alloc {w : World} {base : Nat} {A : Option Addr} {c : Nat} {os : List Od} (h : OwnO w base A c os) (o : Obj) : OwnO (w.alloc o) base A c os := ⟨h.own.alloc o⟩
theorem OwnO.drew {w : World} {base : Nat} {A : Option Addr} {c : Nat} {os : List Od} (h : OwnO w base A c os) : OwnO w.drew base A c os := ⟨h.own⟩
theorem OwnO.kept {w w' : World} {base : Nat} {A : Option Addr} {c : Nat} {os : List Od} {row : Option Nat} (h : OwnO w base A c os) (hg : w.grownBy w' row) (hne : blockOf A = none ∨ blockOf A ≠ row) : OwnO w' base A c os :=
  ⟨h.own.kept hg (by rw [ownBlock_slice]; exact hne)⟩
theorem OwnO.below {w w' : World} {base : Nat} {A : Option Addr} {c : Nat} {os : List Od} (h : OwnO w base A c os) (hb : Below w.heap.size w w') : OwnO w' base A c os :=
  h.kept (grownBy_of_below hb) (by cases hA : blockOf A <;> simp)
theorem OwnO.mono {w : World} {base base' : Nat} {A : Option Addr} {c : Nat} {os : List Od} (h : OwnO w base A c os) (hb : base' ≤ base) : OwnO w base' A c os := by
  refine ⟨h.own.1, ?_⟩
  rcases h.own.2 with h2 | ⟨g, cap, cur, hv, hg, r⟩
  · exact .inl h2
  · exact .inr ⟨g, cap, cur, hv, Nat.le_trans hb hg, r⟩
theorem OwnO.only {w w' : World} {base lo hi : Nat} {A : Option Addr} {c : Nat} {os : List Od} (h : OwnO w base A c os) (ho : Only lo hi w w') (hA : ∀ g, blockOf A = some g → g < lo ∨ hi ≤ g) : OwnO w' base A c os := by
  refine ⟨h.own.1, ?_⟩
  rcases h.own.2 with h2 | ⟨g, cap, cur, hv, hg, hh, r⟩
  · exact .inl h2
  · refine .inr ⟨g, cap, cur, hv, hg, ?_, r⟩
    rw [ho.block g]
    · exact hh
    · apply hA g
      injection hv with hv
      rw [hv]
      rfl
theorem OwnO.of_block {w w' : World} {base : Nat} {A : Option Addr} {c : Nat} {os : List Od} (h : OwnO w base A c os) (hA : ∀ g, blockOf A = some g → w'.heap[g]? = w.heap[g]?) : OwnO w' base A c os := by
  refine ⟨h.own.1, ?_⟩
  rcases h.own.2 with h2 | ⟨g, cap, cur, hv, hg, hh, r⟩
  · exact .inl h2
  · refine .inr ⟨g, cap, cur, hv, hg, ?_, r⟩
    rw [hA g (by injection hv with hv; rw [hv]; rfl)]
    exact hh
theorem OwnI.of_block {w w' : World} {base : Nat} {A : Option Addr} {c : Nat} {xs : List Int} (h : OwnI w base A c xs) (hA : ∀ g, blockOf A = some g → w'.heap[g]? = w.heap[g]?) : OwnI w' base A c xs := by
  refine ⟨h.own.1, ?_⟩
  rcases h.own.2 with h2 | ⟨g, cap, cur, hv, hg, hh, r⟩
  · exact .inl h2
  · refine .inr ⟨g, cap, cur, hv, hg, ?_, r⟩
    rw [hA g (by injection hv with hv; rw [hv]; rfl)]
    exact hh
theorem OwnI.set {w : World} {base g : Nat} {c : Nat} {xs : List Int} (h : OwnI w base (some ⟨g, 0, none⟩) c xs) (j : Nat) (x : Int) :
    OwnI (w.setCell ⟨g, j, none⟩ (.int .i64 x)) base (some ⟨g, 0, none⟩) c (xs.set j x) := by
  have := (h.own.stored j (.int .i64 x)).1
  refine ⟨?_⟩
  rw [List.length_set, List.map_set]
  exact this
theorem OwnI.cellAt {w : World} {base g : Nat} {c : Nat} {xs : List Int} (h : OwnI w base (some ⟨g, 0, none⟩) c xs) {j : Nat} {x : Int} (hj : xs[j]? = some x) : w.cell? ⟨g, j, none⟩ = some (.int .i64 x) := by
  rw [h.own.cellAt j (by have := (List.getElem?_eq_some_iff.1 hj).1; omega), List.getElem?_map, hj]
  rfl
theorem OwnO.row {w : World} {base g : Nat} {c : Nat} {os : List Od} (h : OwnO w base (some ⟨g, 0, none⟩) c os) :
    ∃ (cap : Nat) (f : Nat → Value), w.rowIs g 39 (cap * 2) f ∧ os.length ≤ cap ∧ cap ≤ maxLen ∧ c = cap ∧ base ≤ g := by
  rcases h.own.2 with ⟨h1, _⟩ | ⟨g', cap, cur, hv, hg, hh, hn, hm, hs, _⟩
  · injection h1 with h1
    cases h1
  · injection hv with hv _ hc
    obtain rfl : g = g' := by simpa using hv
    refine ⟨cap, fun i => (cur[i]?).getD undef, ⟨cur, hh, by simpa using hs, fun i hi => ?_⟩, hn, hm, hc, hg⟩
    have : i < cur.size := by rw [hs]; omega
    show _ = some ((cur[i]?).getD undef)
    rw [Array.getElem?_eq_getElem this]; rfl
theorem OwnO.of_row {w : World} {base g cap : Nat} {f : Nat → Value} {os : List Od} (h : w.rowIs g 39 (cap * 2) f) (hl : os.length ≤ cap) (hm : cap ≤ maxLen) (hb : base ≤ g) (hf : ∀ i, i < os.length * 2 → (opVals os)[i]? = some (f i)) :
    OwnO w base (some ⟨g, 0, none⟩) cap os := by
  obtain ⟨cur, hh, hs, hc⟩ := h
  refine ⟨⟨opVals_len os, .inr ⟨g, cap, cur, rfl, hb, hh, hl, hm, by simpa using hs, ?_⟩⟩⟩
  apply List.ext_getElem?
  intro i
  rw [List.getElem?_take]
  by_cases hi : i < os.length * 2
  · rw [if_pos hi, Array.getElem?_toList, hc i (by omega), hf i hi]
  · rw [if_neg hi, List.getElem?_eq_none (by rw [opVals_len]; omega)]
theorem vals_one (o : Od) : ∀ u ∈ [Value.int .i64 o.code, Value.int .i64 o.arg], u.oneCell' = true := by
  intro u hu
  simp at hu
  rcases hu with rfl | rfl <;> rfl
theorem append_op {w : World} {ops : Array Oper} {rest : List Oper} {o : Oper} {a : Act} {Q : Exit → Act → World → Prop} (hgd : o.guard = none) (s x : Operand)
    (ho : o.op = .call { callee := .builtin .append, args := #[s, x], argTypes := #[25, 25] })
    (base : Nat) (A : Option Addr) (c : Nat) (os : List Od) (hs : a.eval s = .slice A os.length c) (hown : OwnO w base A c os)
    (b : Nat) (d : Od) (t : TypeId) (hx : a.eval x = .slice (some ⟨b, 0, none⟩) 1 1) (hr : Lies w b #[.int .i64 d.code, .int .i64 d.arg] t)
    (hsum : os.length + 1 ≤ 16777216) (hbase : base ≤ w.heap.size)
    (h : ∀ (zs : List Od) (A' : Option Addr) (c' : Nat) (w' : World), Hid (zs = os ++ [d]) → OwnO w' base A' c' zs → w.grownBy w' (blockOf A) → (blockOf A' = blockOf A ∨ blockOf A' = some w.heap.size) →
      wpList Tryd.prog ops Q rest (a.put o.dst (.slice A' zs.length c')) w') : wpList Tryd.prog ops Q (o :: rest) a w := by
  obtain ⟨i0, hi, hz0, hz1, hz2⟩ := info_parts infoOp
  refine wpList_append_own_at w hgd s x 25 ho base 39 i0 _ 2 16 Tryd.underlying25 hi hz0 hz1 hz2 rfl (by omega) _ _ _ hs hown.own ⟨b, 0, none⟩ 1 1 [.int .i64 d.code, .int .i64 d.arg] hx (by simp) (World.news_of_block hr) (vals_one d)
    (by unfold maxLen; omega) (by omega) hbase ?_
  intro v' w' h2 h3 _ h5
  have hlen : os.length + 1 = (os ++ [d]).length := by simp
  rw [ownBlock_slice] at h3 h5
  rw [← opVals_snoc, hlen] at h2
  rcases h2.2 with ⟨_, h6⟩ | ⟨g, cap, cur, rfl, _⟩
  · simp at h6
  · exact h (os ++ [d]) _ _ w' (by simp [Hid]) ⟨h2⟩ h3 (by simpa [ownBlock_slice] using h5)
def GivesOps (w : World) (os : List Od) (e : Ending) (w' : World) : Prop := ∃ A c, e = .returned (.slice A os.length c) ∧ OwnO w' w.heap.size A c os ∧ Below w.heap.size w w'
end Go.Proofs.YtmilbhhlbjcodaaDoor

namespace Go.Proofs.YtmilbhhlbjcodaaDoor
open Go.RowKit
set_option linter.unusedVariables false
def GrowsI (base : Nat) (A : Option Addr) (w : World) (zs : List Int) (e : Ending) (w' : World) : Prop := ∃ A' c', e = .returned (.slice A' zs.length c') ∧ OwnI w' base A' c' zs ∧ Below base w w' ∧ (∀ k, k < w.heap.size → blockOf A ≠ some k → w'.heap[k]? = w.heap[k]?)
set_option maxHeartbeats 1000000 in
theorem appendArg_any (base : Nat) (A : Option Addr) (c : Nat) (xs : List Int) (a : Int) (w : World) (h : OwnI w base A c xs) (hbase : base ≤ w.heap.size) (h1 : 0 ≤ a) (h2 : a ≤ 999) (hl : xs.length ≤ 100000) :
    Calls Tryd.prog 20 #[.slice A xs.length c, .int .i64 a] w (GrowsI base A w (xs ++ encA a)) := by
  have HO := hide h
  have hbl := hide (h.blocks)
  clear h
  by_cases hs : a < 128
  · rw [encA_short hs]
    have d : decide (a < 128) = true := by simpa using hs
    go_enter Tryd.func20, Tryd.ntmps20
    go_wp2_with (at_builtin; refine append_ints rfl (.tmp 7) (.tmp 9) rfl base A c xs rfl (HO.out.alloc _) _ _ 1 [a] rfl (fun e => by cases e) (IntsAt.one w a (by constructor <;> omega)) (by simp; omega) (by simp; omega) ?_; intro zs A3 c3 w3 e3 own3 hg3 _; have HG3 := hide hg3; have HO3 := hide own3; clear hg3 own3)
    go_ret
    have e3 := e3.out
    subst e3
    exact ⟨A3, c3, rfl, HO3.out, below_grown ((Below.refl _ _).alloc hbase _) HG3.out (by simp; omega) (fun q hq => (hbl.out q hq).1), fun k hk hne => (HG3.out.block k (by simp; omega) (Ne.symm hne)).trans (Below.heap_alloc w _ k hk)⟩
  · rw [encA_long hs]
    have d : decide (a < 128) = false := by simpa using hs
    go_enter Tryd.func20, Tryd.ntmps20
    go_wp2_with (at_builtin; refine append_ints rfl (.tmp 11) (.tmp 17) rfl base A c xs rfl (HO.out.alloc _) _ _ 2 [128 + a % 128, a / 128] rfl (fun e => by cases e) (by simpa using IntsAt.lit w [128 + a % 128, a / 128] (by intro x hx; simp at hx; rcases hx with rfl | rfl <;> constructor <;> omega) (by simp)) (by simp; omega) (by simp; omega) ?_; intro zs A3 c3 w3 e3 own3 hg3 _; have HG3 := hide hg3; have HO3 := hide own3; clear hg3 own3)
    go_ret
    have e3 := e3.out
    subst e3
    exact ⟨A3, c3, rfl, HO3.out, below_grown ((Below.refl _ _).alloc hbase _) HG3.out (by simp; omega) (fun q hq => (hbl.out q hq).1), fun k hk hne => (HG3.out.block k (by simp; omega) (Ne.symm hne)).trans (Below.heap_alloc w _ k hk)⟩
end Go.Proofs.YtmilbhhlbjcodaaDoor

namespace Go.Proofs.YtmilbhhlbjcodaaDoor
theorem eq_of_prefix {α : Type} [DecidableEq α] {xs ys : List α} (h : xs.length = ys.length) {k : Nat} (hk : k = xs.length) (he : ∀ j, j < k → xs[j]? = ys[j]?) : xs = ys := by
  apply List.ext_getElem?
  intro j
  by_cases hj : j < k
  · exact he j hj
  · rw [List.getElem?_eq_none (by omega), List.getElem?_eq_none (by omega)]
end Go.Proofs.YtmilbhhlbjcodaaDoor

namespace Go.Proofs.YtmilbhhlbjcodaaDoor
open Go.RowKit
set_option linter.unusedVariables false
set_option maxRecDepth 100000 in
set_option maxHeartbeats 2000000 in
theorem readOp_one (b0 off : Nat) (y : Int) (c : Nat) (w : World) (h : IntsAt w w.heap.size (some ⟨b0, off, none⟩) ([y])) (hb : ∀ x ∈ ([y]), 0 ≤ x ∧ x ≤ 255) (hl : ([y]).length ≤ 1000) (hneg : ¬ argMost y < 0) :
    Calls Tryd.prog 29 #[.slice (some ⟨b0, off, none⟩) ([y]).length c] w (GivesOpM w (fstO ([y]))) := by
  have hy := hb y (by simp)
  rw [fstO_one hy.1 hneg]
  obtain ⟨b1, off1, v0, e0, hbl0, hv0, _, hc0⟩ := h.at_ (k := 0) (by simp)
  injection e0 with e0
  injection e0 with ea0 eb0
  subst ea0 eb0
  obtain rfl : y = v0 := by simpa using hv0
  rw [Nat.add_zero] at hc0
  have l0 := Lies.new w #[.int .i64 0, .int .i64 0] 39
  have HB := hide ((Below.refl w.heap.size w).alloc (Nat.le_refl _) (.cells #[.int .i64 0, .int .i64 0] 39))
  have d0 := (HB.out.cell (p := ⟨b0, off, none⟩) hbl0).trans hc0
  have HN := hide hneg
  clear h hb hneg hv0 hc0
  rw [show ([y] : List Int).length = 1 from rfl]
  go_enter Tryd.func29, Tryd.ntmps29
  go_upto_region 1 with fail
  have hlW : w.heap.size < (w.alloc (.cells #[.int .i64 0, .int .i64 0] 39)).heap.size := l0.lt
  generalize w.alloc (.cells #[.int .i64 0, .int .i64 0] 39) = W at HB l0 hlW d0 ⊢
  go_upto_region 5 with fail
  obtain ⟨hB4, l04, l4, hgg⟩ := box_made HB.out l0 y
  have hWW := (Below.refl W.heap.size W).alloc (Nat.le_refl _) (.cells #[.int .i64 y, .int .i64 0] 39)
  have m0 := (hWW.cell (p := ⟨b0, off, none⟩) (Nat.lt_trans hbl0 hlW)).trans d0
  clear hWW d0
  generalize W.alloc (.cells #[.int .i64 y, .int .i64 0] 39) = W3 at hB4 l04 l4 m0 ⊢
  generalize W.heap.size = g4 at l4 hgg hlW ⊢
  have HB3 := hide hB4
  have z0 := l4.cell 0
  have z1 := l4.cell 1
  have zf := l4.frozen 1
  simp at z0 z1
  clear hB4 l0
  go_wp2_with fail
  refine (argOf_any y W3).mono ?_
  rintro e w' ⟨rfl, rfl⟩
  have dneg : decide (0 ≤ argMost y) = true := by have := HN.out; simp; omega
  have hm := argMost_range y
  generalize argMost y = M at dneg hm ⊢
  have f0 := l04.frozen 0
  have f1 := l04.frozen 1
  have x0 := l04.cell 0
  have x1 := l04.cell 1
  simp at x0 x1
  obtain ⟨s0, s1⟩ := lies2m l04 (.int .i64 0) (.int .i64 0)
  have HE := hide ((HB3.out.setCell (p := ⟨w.heap.size, 0, none⟩) (Nat.le_refl _) (.int .i64 0)).setCell (p := ⟨w.heap.size, 1, none⟩) (Nat.le_refl _) (.int .i64 0))
  go_wp2
  exact bodyPost_ret (v := .tuple #[.agg #[.int .i64 0, .int .i64 0], .int .i64 0]) (by simp [results, Tryd.results29, go_sem, s0, s1]) rfl ⟨rfl, HE.out⟩
set_option maxRecDepth 100000 in
set_option maxHeartbeats 2000000 in
theorem readOp_short (b0 off : Nat) (y a : Int) (t : List Int) (c : Nat) (w : World) (h : IntsAt w w.heap.size (some ⟨b0, off, none⟩) (y :: a :: t)) (hb : ∀ x ∈ (y :: a :: t), 0 ≤ x ∧ x ≤ 255) (hl : (y :: a :: t).length ≤ 1000) (hneg : ¬ argMost y < 0) (ha : a < 128) :
    Calls Tryd.prog 29 #[.slice (some ⟨b0, off, none⟩) (y :: a :: t).length c] w (GivesOpM w (fstO (y :: a :: t))) := by
  have hy := hb y (by simp)
  have hya := hb a (by simp)
  rw [fstO_short hy.1 hneg hya.1 ha]
  have da : decide (128 ≤ a) = false := by simp; omega
  obtain ⟨b1, off1, v0, e0, hbl0, hv0, _, hc0⟩ := h.at_ (k := 0) (by simp)
  injection e0 with e0
  injection e0 with ea0 eb0
  subst ea0 eb0
  obtain rfl : y = v0 := by simpa using hv0
  obtain ⟨b2, off2, v1, e1, hbl1, hv1, _, hc1⟩ := h.at_ (k := 1) (by simp)
  injection e1 with e1
  injection e1 with ea1 eb1
  subst ea1 eb1
  obtain rfl : a = v1 := by simpa using hv1
  rw [Nat.add_zero] at hc0
  have l0 := Lies.new w #[.int .i64 0, .int .i64 0] 39
  have HB := hide ((Below.refl w.heap.size w).alloc (Nat.le_refl _) (.cells #[.int .i64 0, .int .i64 0] 39))
  have d0 := (HB.out.cell (p := ⟨b0, off, none⟩) hbl0).trans hc0
  have d1 := (HB.out.cell (p := ⟨b0, off + 1, none⟩) hbl0).trans hc1
  have HN := hide hneg
  clear h hb hneg hv0 hc0 hv1 hc1
  have hlt : t.length + 2 ≤ 1000 := by simpa using hl
  have hlen : ((y :: a :: t) : List Int).length = t.length + 2 := by simp
  rw [hlen]
  clear hl hlen
  have hz1 : (((t.length + 2 : Nat) : Int) == 0) = false := by simp only [beq_eq_false_iff_ne, ne_eq]; omega
  have hz2 : (0 : Int) < ((t.length + 2 : Nat) : Int) := by omega
  have hz3 : (1 : Int) < ((t.length + 2 : Nat) : Int) := by omega
  have hz4 : ¬ ((t.length + 2 : Nat) : Int) < 2 := by omega
  go_enter Tryd.func29, Tryd.ntmps29
  go_upto_region 1 with fail
  have hlW : w.heap.size < (w.alloc (.cells #[.int .i64 0, .int .i64 0] 39)).heap.size := l0.lt
  generalize w.alloc (.cells #[.int .i64 0, .int .i64 0] 39) = W at HB l0 hlW d0 d1 ⊢
  go_upto_region 5 with fail
  obtain ⟨hB4, l04, l4, hgg⟩ := box_made HB.out l0 y
  have hWW := (Below.refl W.heap.size W).alloc (Nat.le_refl _) (.cells #[.int .i64 y, .int .i64 0] 39)
  have m0 := (hWW.cell (p := ⟨b0, off, none⟩) (Nat.lt_trans hbl0 hlW)).trans d0
  have m1 := (hWW.cell (p := ⟨b0, off + 1, none⟩) (Nat.lt_trans hbl0 hlW)).trans d1
  clear hWW d0 d1
  generalize W.alloc (.cells #[.int .i64 y, .int .i64 0] 39) = W3 at hB4 l04 l4 m0 m1 ⊢
  generalize W.heap.size = g4 at l4 hgg hlW ⊢
  have HB3 := hide hB4
  have z0 := l4.cell 0
  have z1 := l4.cell 1
  have zf := l4.frozen 1
  simp at z0 z1
  clear hB4 l0
  go_wp2_with fail
  refine (argOf_any y W3).mono ?_
  rintro e w' ⟨rfl, rfl⟩
  have dneg : decide (0 ≤ argMost y) = true := by have := HN.out; simp; omega
  have hm := argMost_range y
  generalize argMost y = M at dneg hm ⊢
  go_upto_region 10 with fail
  obtain ⟨hB4, l04', l4'⟩ := box_set HB3.out l04 l4 hgg a
  have hm1 : (W3.setCell ⟨g4, 1, none⟩ (.int .i64 a)).cell? ⟨b0, off + 1, none⟩ = some (.int .i64 a) := by
    rw [World.cell?_setCell_other]
    · exact m1
    · intro e; injection e with e; omega
  clear m0 m1 l04 l4 z0 z1 zf
  generalize W3.setCell ⟨g4, 1, none⟩ (.int .i64 a) = W4 at hB4 l04' l4' hm1 ⊢
  have HB4 := hide hB4
  have l04 := l04'
  have l4 := l4'
  clear l04' l4' hB4
  have z0 := l4.cell 0
  have z1 := l4.cell 1
  simp at z0 z1
  go_wp2_with fail
  by_cases hv : OdOk ⟨y, a⟩
  · have ht := hide (tf_true hv)
    have HV := hide hv
    obtain ⟨ln, hln⟩ : ∃ ln, ln = (encO ⟨y, a⟩).length := ⟨_, rfl⟩
    have Hln := hide hln
    have hl3 := (encO_len ⟨y, a⟩).2
    rw [← hln] at hl3
    clear hv hln
    refine (validOp_any ⟨y, a⟩ W4).mono ?_
    rintro e w5 ⟨rfl, hb5⟩
    rw [ht.out]
    have l05 := l04.below hb5 l04.lt
    have l45 := l4.below hb5 l4.lt
    have HB5 := hide (HB4.out.trans (hb5.mono HB4.out.size))
    clear hb5 l04 l4 z0 z1
    have z0 := l45.cell 0
    have z1 := l45.cell 1
    simp only [List.getElem?_toArray, List.getElem?_cons_zero, List.getElem?_cons_succ] at z0 z1
    go_wp2_with fail
    refine (bytesOf_any ⟨y, a⟩ w5 HV.out).mono ?_
    rintro e w6 ⟨A6, c6, rfl, _, _, hb6⟩
    rw [← Hln.out]
    have l06 := l05.below hb6 l05.lt
    have l46 := l45.below hb6 l45.lt
    have HB6 := hide (HB5.out.trans (hb6.mono HB5.out.size))
    clear hb6 l05 l45 z0 z1
    have z0 := l46.cell 0
    have z1 := l46.cell 1
    simp only [List.getElem?_toArray, List.getElem?_cons_zero, List.getElem?_cons_succ] at z0 z1
    by_cases hn : ln = 2
    · have HF := hide (lastO_yes (o := ⟨y, a⟩) (n := 2) HV.out (Hln.out.symm.trans hn))
      subst hn
      have f0 := l06.frozen 0
      have f1 := l06.frozen 1
      have x0 := l06.cell 0
      have x1 := l06.cell 1
      simp at x0 x1
      obtain ⟨s0, s1⟩ := lies2m l06 (.int .i64 y) (.int .i64 (a))
      have HE := hide ((HB6.out.setCell (p := ⟨w.heap.size, 0, none⟩) (Nat.le_refl _) (.int .i64 y)).setCell (p := ⟨w.heap.size, 1, none⟩) (Nat.le_refl _) (.int .i64 (a)))
      clear l06 l46
      go_wp2
      exact bodyPost_ret (v := .tuple #[.agg #[.int .i64 y, .int .i64 (a)], .int .i64 2]) (by simp [results, Tryd.results29, go_sem, s0, s1]) rfl ⟨by rw [HF.out]; try rfl, HE.out⟩
    · have HF := hide (lastO_no (o := ⟨y, a⟩) (n := 2) (fun h => hn (Hln.out.trans h.2)))
      have dn : ((ln : Int) != 2) = true := by simp; omega
      clear hn
      have f0 := l06.frozen 0
      have f1 := l06.frozen 1
      have x0 := l06.cell 0
      have x1 := l06.cell 1
      simp at x0 x1
      obtain ⟨s0, s1⟩ := lies2m l06 (.int .i64 0) (.int .i64 0)
      have HE := hide ((HB6.out.setCell (p := ⟨w.heap.size, 0, none⟩) (Nat.le_refl _) (.int .i64 0)).setCell (p := ⟨w.heap.size, 1, none⟩) (Nat.le_refl _) (.int .i64 0))
      go_wp2
      exact bodyPost_ret (v := .tuple #[.agg #[.int .i64 0, .int .i64 0], .int .i64 0]) (by simp [results, Tryd.results29, go_sem, s0, s1]) rfl ⟨by rw [HF.out]; try rfl, HE.out⟩
  · have ht := hide (tf_false hv)
    have HF := hide (lastO_no (o := ⟨y, a⟩) (n := 2) (fun h => hv h.1))
    clear hv
    refine (validOp_any ⟨y, a⟩ W4).mono ?_
    rintro e w5 ⟨rfl, hb5⟩
    rw [ht.out]
    have l05 := l04.below hb5 l04.lt
    have HB5 := hide (HB4.out.trans (hb5.mono HB4.out.size))
    clear hb5 l04 l4 z0 z1
    have f0 := l05.frozen 0
    have f1 := l05.frozen 1
    have x0 := l05.cell 0
    have x1 := l05.cell 1
    simp at x0 x1
    obtain ⟨s0, s1⟩ := lies2m l05 (.int .i64 0) (.int .i64 0)
    have HE := hide ((HB5.out.setCell (p := ⟨w.heap.size, 0, none⟩) (Nat.le_refl _) (.int .i64 0)).setCell (p := ⟨w.heap.size, 1, none⟩) (Nat.le_refl _) (.int .i64 0))
    go_wp2
    exact bodyPost_ret (v := .tuple #[.agg #[.int .i64 0, .int .i64 0], .int .i64 0]) (by simp [results, Tryd.results29, go_sem, s0, s1]) rfl ⟨by rw [HF.out]; try rfl, HE.out⟩
set_option maxRecDepth 100000 in
set_option maxHeartbeats 2000000 in
theorem readOp_cut (b0 off : Nat) (y a : Int) (c : Nat) (w : World) (h : IntsAt w w.heap.size (some ⟨b0, off, none⟩) ([y, a])) (hb : ∀ x ∈ ([y, a]), 0 ≤ x ∧ x ≤ 255) (hl : ([y, a]).length ≤ 1000) (hneg : ¬ argMost y < 0) (ha : ¬ a < 128) :
    Calls Tryd.prog 29 #[.slice (some ⟨b0, off, none⟩) ([y, a]).length c] w (GivesOpM w (fstO ([y, a]))) := by
  have hy := hb y (by simp)
  have hya := hb a (by simp)
  rw [fstO_cut hy.1 hneg ha]
  have da : decide (128 ≤ a) = true := by simp; omega
  obtain ⟨b1, off1, v0, e0, hbl0, hv0, _, hc0⟩ := h.at_ (k := 0) (by simp)
  injection e0 with e0
  injection e0 with ea0 eb0
  subst ea0 eb0
  obtain rfl : y = v0 := by simpa using hv0
  obtain ⟨b2, off2, v1, e1, hbl1, hv1, _, hc1⟩ := h.at_ (k := 1) (by simp)
  injection e1 with e1
  injection e1 with ea1 eb1
  subst ea1 eb1
  obtain rfl : a = v1 := by simpa using hv1
  rw [Nat.add_zero] at hc0
  have l0 := Lies.new w #[.int .i64 0, .int .i64 0] 39
  have HB := hide ((Below.refl w.heap.size w).alloc (Nat.le_refl _) (.cells #[.int .i64 0, .int .i64 0] 39))
  have d0 := (HB.out.cell (p := ⟨b0, off, none⟩) hbl0).trans hc0
  have d1 := (HB.out.cell (p := ⟨b0, off + 1, none⟩) hbl0).trans hc1
  have HN := hide hneg
  clear h hb hneg hv0 hc0 hv1 hc1
  rw [show ([y, a] : List Int).length = 2 from rfl]
  go_enter Tryd.func29, Tryd.ntmps29
  go_upto_region 1 with fail
  have hlW : w.heap.size < (w.alloc (.cells #[.int .i64 0, .int .i64 0] 39)).heap.size := l0.lt
  generalize w.alloc (.cells #[.int .i64 0, .int .i64 0] 39) = W at HB l0 hlW d0 d1 ⊢
  go_upto_region 5 with fail
  obtain ⟨hB4, l04, l4, hgg⟩ := box_made HB.out l0 y
  have hWW := (Below.refl W.heap.size W).alloc (Nat.le_refl _) (.cells #[.int .i64 y, .int .i64 0] 39)
  have m0 := (hWW.cell (p := ⟨b0, off, none⟩) (Nat.lt_trans hbl0 hlW)).trans d0
  have m1 := (hWW.cell (p := ⟨b0, off + 1, none⟩) (Nat.lt_trans hbl0 hlW)).trans d1
  clear hWW d0 d1
  generalize W.alloc (.cells #[.int .i64 y, .int .i64 0] 39) = W3 at hB4 l04 l4 m0 m1 ⊢
  generalize W.heap.size = g4 at l4 hgg hlW ⊢
  have HB3 := hide hB4
  have z0 := l4.cell 0
  have z1 := l4.cell 1
  have zf := l4.frozen 1
  simp at z0 z1
  clear hB4 l0
  go_wp2_with fail
  refine (argOf_any y W3).mono ?_
  rintro e w' ⟨rfl, rfl⟩
  have dneg : decide (0 ≤ argMost y) = true := by have := HN.out; simp; omega
  have hm := argMost_range y
  generalize argMost y = M at dneg hm ⊢
  go_upto_region 10 with fail
  obtain ⟨hB4, l04', l4'⟩ := box_set HB3.out l04 l4 hgg a
  have hm1 : (W3.setCell ⟨g4, 1, none⟩ (.int .i64 a)).cell? ⟨b0, off + 1, none⟩ = some (.int .i64 a) := by
    rw [World.cell?_setCell_other]
    · exact m1
    · intro e; injection e with e; omega
  clear m0 m1 l04 l4 z0 z1 zf
  generalize W3.setCell ⟨g4, 1, none⟩ (.int .i64 a) = W4 at hB4 l04' l4' hm1 ⊢
  have f0 := l04'.frozen 0
  have f1 := l04'.frozen 1
  have x0 := l04'.cell 0
  have x1 := l04'.cell 1
  simp at x0 x1
  obtain ⟨s0, s1⟩ := lies2m l04' (.int .i64 0) (.int .i64 0)
  have HE := hide ((hB4.setCell (p := ⟨w.heap.size, 0, none⟩) (Nat.le_refl _) (.int .i64 0)).setCell (p := ⟨w.heap.size, 1, none⟩) (Nat.le_refl _) (.int .i64 0))
  go_wp2
  exact bodyPost_ret (v := .tuple #[.agg #[.int .i64 0, .int .i64 0], .int .i64 0]) (by simp [results, Tryd.results29, go_sem, s0, s1]) rfl ⟨rfl, HE.out⟩
set_option maxRecDepth 100000 in
set_option maxHeartbeats 2000000 in
theorem readOp_long (b0 off : Nat) (y a b : Int) (t : List Int) (c : Nat) (w : World) (h : IntsAt w w.heap.size (some ⟨b0, off, none⟩) (y :: a :: b :: t)) (hb : ∀ x ∈ (y :: a :: b :: t), 0 ≤ x ∧ x ≤ 255) (hl : (y :: a :: b :: t).length ≤ 1000) (hneg : ¬ argMost y < 0) (ha : ¬ a < 128) :
    Calls Tryd.prog 29 #[.slice (some ⟨b0, off, none⟩) (y :: a :: b :: t).length c] w (GivesOpM w (fstO (y :: a :: b :: t))) := by
  have hy := hb y (by simp)
  have hya := hb a (by simp)
  have hyb := hb b (by simp)
  rw [fstO_long hy.1 hneg ha hya.2 hyb.1]
  have da : decide (128 ≤ a) = true := by simp; omega
  obtain ⟨b1, off1, v0, e0, hbl0, hv0, _, hc0⟩ := h.at_ (k := 0) (by simp)
  injection e0 with e0
  injection e0 with ea0 eb0
  subst ea0 eb0
  obtain rfl : y = v0 := by simpa using hv0
  obtain ⟨b2, off2, v1, e1, hbl1, hv1, _, hc1⟩ := h.at_ (k := 1) (by simp)
  injection e1 with e1
  injection e1 with ea1 eb1
  subst ea1 eb1
  obtain rfl : a = v1 := by simpa using hv1
  obtain ⟨b3, off3, v2, e2, hbl2, hv2, _, hc2⟩ := h.at_ (k := 2) (by simp)
  injection e2 with e2
  injection e2 with ea2 eb2
  subst ea2 eb2
  obtain rfl : b = v2 := by simpa using hv2
  rw [Nat.add_zero] at hc0
  have l0 := Lies.new w #[.int .i64 0, .int .i64 0] 39
  have HB := hide ((Below.refl w.heap.size w).alloc (Nat.le_refl _) (.cells #[.int .i64 0, .int .i64 0] 39))
  have d0 := (HB.out.cell (p := ⟨b0, off, none⟩) hbl0).trans hc0
  have d1 := (HB.out.cell (p := ⟨b0, off + 1, none⟩) hbl0).trans hc1
  have d2 := (HB.out.cell (p := ⟨b0, off + 2, none⟩) hbl0).trans hc2
  have HN := hide hneg
  clear h hb hneg hv0 hc0 hv1 hc1 hv2 hc2
  have hlt : t.length + 3 ≤ 1000 := by simpa using hl
  have hlen : ((y :: a :: b :: t) : List Int).length = t.length + 3 := by simp
  rw [hlen]
  clear hl hlen
  have hz1 : (((t.length + 3 : Nat) : Int) == 0) = false := by simp only [beq_eq_false_iff_ne, ne_eq]; omega
  have hz2 : (0 : Int) < ((t.length + 3 : Nat) : Int) := by omega
  have hz3 : (1 : Int) < ((t.length + 3 : Nat) : Int) := by omega
  have hz4 : ¬ ((t.length + 3 : Nat) : Int) < 2 := by omega
  have hz5 : (2 : Int) < ((t.length + 3 : Nat) : Int) := by omega
  have hz6 : ¬ ((t.length + 3 : Nat) : Int) < 3 := by omega
  go_enter Tryd.func29, Tryd.ntmps29
  go_upto_region 1 with fail
  have hlW : w.heap.size < (w.alloc (.cells #[.int .i64 0, .int .i64 0] 39)).heap.size := l0.lt
  generalize w.alloc (.cells #[.int .i64 0, .int .i64 0] 39) = W at HB l0 hlW d0 d1 d2 ⊢
  go_upto_region 5 with fail
  obtain ⟨hB4, l04, l4, hgg⟩ := box_made HB.out l0 y
  have hWW := (Below.refl W.heap.size W).alloc (Nat.le_refl _) (.cells #[.int .i64 y, .int .i64 0] 39)
  have m0 := (hWW.cell (p := ⟨b0, off, none⟩) (Nat.lt_trans hbl0 hlW)).trans d0
  have m1 := (hWW.cell (p := ⟨b0, off + 1, none⟩) (Nat.lt_trans hbl0 hlW)).trans d1
  have m2 := (hWW.cell (p := ⟨b0, off + 2, none⟩) (Nat.lt_trans hbl0 hlW)).trans d2
  clear hWW d0 d1 d2
  generalize W.alloc (.cells #[.int .i64 y, .int .i64 0] 39) = W3 at hB4 l04 l4 m0 m1 m2 ⊢
  generalize W.heap.size = g4 at l4 hgg hlW ⊢
  have HB3 := hide hB4
  have z0 := l4.cell 0
  have z1 := l4.cell 1
  have zf := l4.frozen 1
  simp at z0 z1
  clear hB4 l0
  go_wp2_with fail
  refine (argOf_any y W3).mono ?_
  rintro e w' ⟨rfl, rfl⟩
  have dneg : decide (0 ≤ argMost y) = true := by have := HN.out; simp; omega
  have hm := argMost_range y
  generalize argMost y = M at dneg hm ⊢
  go_upto_region 10 with fail
  obtain ⟨hB4, l04', l4'⟩ := box_set HB3.out l04 l4 hgg a
  have hm1 : (W3.setCell ⟨g4, 1, none⟩ (.int .i64 a)).cell? ⟨b0, off + 1, none⟩ = some (.int .i64 a) := by
    rw [World.cell?_setCell_other]
    · exact m1
    · intro e; injection e with e; omega
  have hm2 : (W3.setCell ⟨g4, 1, none⟩ (.int .i64 a)).cell? ⟨b0, off + 2, none⟩ = some (.int .i64 b) := by
    rw [World.cell?_setCell_other]
    · exact m2
    · intro e; injection e with e; omega
  clear m0 m1 m2 l04 l4 z0 z1 zf
  generalize W3.setCell ⟨g4, 1, none⟩ (.int .i64 a) = W5 at hB4 l04' l4' hm1 hm2 ⊢
  have z0 := l4'.cell 0
  have z1 := l4'.cell 1
  have z2 := l4'.frozen 1
  simp at z0 z1
  go_upto_region 13 with fail
  have hw1 : IntKind.i64.wrap (a - 128) = a - 128 := IntWalk.i64_in _ (by omega)
  have hw2 : IntKind.i64.wrap (128 * b) = 128 * b := IntWalk.i64_in _ (by omega)
  have hw3 : IntKind.i64.wrap (a - 128 + 128 * b) = a - 128 + 128 * b := IntWalk.i64_in _ (by omega)
  have hq1 : (1 : Int) < (t.length : Int) + 3 := by omega
  have hq2 : (2 : Int) < (t.length : Int) + 3 := by omega
  have HD6 := hide (show Below w.heap.size w W5.drew from hB4.drew)
  have l0d : Lies W5.drew w.heap.size #[.int .i64 0, .int .i64 0] 39 := l04'
  have l4d : Lies W5.drew g4 #[.int .i64 y, .int .i64 a] 39 := l4'
  clear hB4 l04' l4'
  go_still_tail 10, (by kernel_rfl)
  change wpList _ _ _ _ _ W5.drew
  clear hm1 hm2 z0 z1 z2 hw1 hw2 hw3 hq1 hq2
  generalize W5.drew = W6 at HD6 l0d l4d ⊢
  obtain ⟨hB6, l06', l46'⟩ := box_set HD6.out l0d l4d hgg (a - 128 + 128 * b)
  have hfd := l4d.frozen 1
  have hfc := l4d.cell 1
  simp only [List.getElem?_toArray, List.getElem?_cons_zero, List.getElem?_cons_succ] at hfc
  clear l0d l4d
  go_upto_region 14 with fail
  clear hfd hfc
  generalize W6.setCell ⟨g4, 1, none⟩ (.int .i64 (a - 128 + 128 * b)) = W4 at hB6 l06' l46' ⊢
  have HB4 := hide hB6
  have l04 := l06'
  have l4 := l46'
  clear l06' l46' hB6
  have z0 := l4.cell 0
  have z1 := l4.cell 1
  simp only [List.getElem?_toArray, List.getElem?_cons_zero, List.getElem?_cons_succ] at z0 z1
  go_wp2_with fail
  by_cases hv : OdOk ⟨y, a - 128 + 128 * b⟩
  · have ht := hide (tf_true hv)
    have HV := hide hv
    obtain ⟨ln, hln⟩ : ∃ ln, ln = (encO ⟨y, a - 128 + 128 * b⟩).length := ⟨_, rfl⟩
    have Hln := hide hln
    have hl3 := (encO_len ⟨y, a - 128 + 128 * b⟩).2
    rw [← hln] at hl3
    clear hv hln
    refine (validOp_any ⟨y, a - 128 + 128 * b⟩ W4).mono ?_
    rintro e w5 ⟨rfl, hb5⟩
    rw [ht.out]
    have l05 := l04.below hb5 l04.lt
    have l45 := l4.below hb5 l4.lt
    have HB5 := hide (HB4.out.trans (hb5.mono HB4.out.size))
    clear hb5 l04 l4 z0 z1
    have z0 := l45.cell 0
    have z1 := l45.cell 1
    simp only [List.getElem?_toArray, List.getElem?_cons_zero, List.getElem?_cons_succ] at z0 z1
    go_wp2_with fail
    refine (bytesOf_any ⟨y, a - 128 + 128 * b⟩ w5 HV.out).mono ?_
    rintro e w6 ⟨A6, c6, rfl, _, _, hb6⟩
    rw [← Hln.out]
    have l06 := l05.below hb6 l05.lt
    have l46 := l45.below hb6 l45.lt
    have HB6 := hide (HB5.out.trans (hb6.mono HB5.out.size))
    clear hb6 l05 l45 z0 z1
    have z0 := l46.cell 0
    have z1 := l46.cell 1
    simp only [List.getElem?_toArray, List.getElem?_cons_zero, List.getElem?_cons_succ] at z0 z1
    by_cases hn : ln = 3
    · have HF := hide (lastO_yes (o := ⟨y, a - 128 + 128 * b⟩) (n := 3) HV.out (Hln.out.symm.trans hn))
      subst hn
      have f0 := l06.frozen 0
      have f1 := l06.frozen 1
      have x0 := l06.cell 0
      have x1 := l06.cell 1
      simp at x0 x1
      obtain ⟨s0, s1⟩ := lies2m l06 (.int .i64 y) (.int .i64 (a - 128 + 128 * b))
      have HE := hide ((HB6.out.setCell (p := ⟨w.heap.size, 0, none⟩) (Nat.le_refl _) (.int .i64 y)).setCell (p := ⟨w.heap.size, 1, none⟩) (Nat.le_refl _) (.int .i64 (a - 128 + 128 * b)))
      clear l06 l46
      go_wp2
      exact bodyPost_ret (v := .tuple #[.agg #[.int .i64 y, .int .i64 (a - 128 + 128 * b)], .int .i64 3]) (by simp [results, Tryd.results29, go_sem, s0, s1]) rfl ⟨by rw [HF.out]; try rfl, HE.out⟩
    · have HF := hide (lastO_no (o := ⟨y, a - 128 + 128 * b⟩) (n := 3) (fun h => hn (Hln.out.trans h.2)))
      have dn : ((ln : Int) != 3) = true := by simp; omega
      clear hn
      have f0 := l06.frozen 0
      have f1 := l06.frozen 1
      have x0 := l06.cell 0
      have x1 := l06.cell 1
      simp at x0 x1
      obtain ⟨s0, s1⟩ := lies2m l06 (.int .i64 0) (.int .i64 0)
      have HE := hide ((HB6.out.setCell (p := ⟨w.heap.size, 0, none⟩) (Nat.le_refl _) (.int .i64 0)).setCell (p := ⟨w.heap.size, 1, none⟩) (Nat.le_refl _) (.int .i64 0))
      go_wp2
      exact bodyPost_ret (v := .tuple #[.agg #[.int .i64 0, .int .i64 0], .int .i64 0]) (by simp [results, Tryd.results29, go_sem, s0, s1]) rfl ⟨by rw [HF.out]; try rfl, HE.out⟩
  · have ht := hide (tf_false hv)
    have HF := hide (lastO_no (o := ⟨y, a - 128 + 128 * b⟩) (n := 3) (fun h => hv h.1))
    clear hv
    refine (validOp_any ⟨y, a - 128 + 128 * b⟩ W4).mono ?_
    rintro e w5 ⟨rfl, hb5⟩
    rw [ht.out]
    have l05 := l04.below hb5 l04.lt
    have HB5 := hide (HB4.out.trans (hb5.mono HB4.out.size))
    clear hb5 l04 l4 z0 z1
    have f0 := l05.frozen 0
    have f1 := l05.frozen 1
    have x0 := l05.cell 0
    have x1 := l05.cell 1
    simp at x0 x1
    obtain ⟨s0, s1⟩ := lies2m l05 (.int .i64 0) (.int .i64 0)
    have HE := hide ((HB5.out.setCell (p := ⟨w.heap.size, 0, none⟩) (Nat.le_refl _) (.int .i64 0)).setCell (p := ⟨w.heap.size, 1, none⟩) (Nat.le_refl _) (.int .i64 0))
    go_wp2
    exact bodyPost_ret (v := .tuple #[.agg #[.int .i64 0, .int .i64 0], .int .i64 0]) (by simp [results, Tryd.results29, go_sem, s0, s1]) rfl ⟨by rw [HF.out]; try rfl, HE.out⟩
end Go.Proofs.YtmilbhhlbjcodaaDoor

namespace Go.Proofs.YtmilbhhlbjcodaaDoor
open Go.RowKit
theorem validBytes_any (A : Option Addr) (xs : List Int) (c : Nat) (w : World) (h : IntsAt w w.heap.size A xs) :
    Calls Tryd.prog 16 #[.slice A xs.length c] w fun e w' => e = .returned (.bool (tf (BytesOk 1000 xs))) ∧ w = w' := by
  have hl := h.len
  by_cases hlen : xs.length ≤ 1000
  · have e1 : tf (BytesOk 1000 xs) = tf (AllIn xs 0 255) := tf_congr ⟨fun h => h.2, fun h => ⟨hlen, h⟩⟩
    rw [e1]
    clear e1
    go_enter Tryd.func16, Tryd.ntmps16
    go_wp2_with fail
    refine (allIn_any A xs c 0 255 w h).mono ?_
    rintro e w' ⟨rfl, rfl⟩
    go_wp2
    go_ret
    exact ⟨rfl, rfl⟩
  · have HF := hide (show tf (BytesOk 1000 xs) = false from tf_false fun h => hlen h.1)
    go_enter Tryd.func16, Tryd.ntmps16
    go_wp2
    go_ret
    exact ⟨ret_bool HF.out.symm, rfl⟩
end Go.Proofs.YtmilbhhlbjcodaaDoor

namespace Go.Proofs.YtmilbhhlbjcodaaDoor
set_option linter.unusedVariables false
theorem encs_decs : ∀ (f : Nat) (xs : List Int), (∀ x ∈ xs, 0 ≤ x ∧ x ≤ 255) → encs (decs f xs).1 = xs.take (decs f xs).2
  | 0, xs, _ => by simp [decs, encs]
  | f + 1, xs, h => by
    cases hx : firstO xs with
    | none => rw [decs_stop hx]; simp [encs]
    | some p =>
      obtain ⟨o, n⟩ := p
      obtain ⟨h1, h2, h3, h4, h5, h6⟩ := firstO_some h hx
      have ih := encs_decs f (xs.drop n) (fun x hx => h x (List.mem_of_mem_drop hx))
      rw [decs_step hx]
      simp only
      rw [encs_cons, ih, ← h3, List.take_add]
end Go.Proofs.YtmilbhhlbjcodaaDoor
