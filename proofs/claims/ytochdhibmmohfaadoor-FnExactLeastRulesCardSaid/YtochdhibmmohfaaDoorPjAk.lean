/-
  Lemmas, several texts in one: Ops, OwnO, RuE, RuK.
-/
import Derived.Test.YtochdhibmmohfaaDoorPjAb
import Derived.Test.YtochdhibmmohfaaDoorRows
import Derived.ProofKit
import Derived.OpenShut
import Derived.ShutString
import Derived.ChangeOld
import Derived.Deep.Slices
import Derived.Deep.Fields
import Derived.Lib.SmallJoins
import Derived.Test.YtochdhibmmohfaaDoorPjAa
import Derived.Test.YtochdhibmmohfaaDoorPjAe
import Derived.Test.YtochdhibmmohfaaDoorPjAf
import Derived.Deep.RegionLaw
import Derived.Deep.AppendLies
import Derived.Test.YtochdhibmmohfaaDoorPjAj
import Derived.Test.YtochdhibmmohfaaDoorPjAg
import Derived.Deep.Cut
import Derived.Test.YtochdhibmmohfaaDoorPjAi
namespace Go.Proofs.YtochdhibmmohfaaDoor
open Go.ChangeShapes Go.WideShapes Go.ChangeAt Go.RowKit Go.Deep
set_option linter.unusedVariables false

theorem readOpCellsI : Tryd.prog.cellsOf 3 = 1 := by kernel_rfl
theorem readOpCellsO : Tryd.prog.cellsOf 46 = 2 := by kernel_rfl

theorem list2 {α : Type} (l : List α) (h : l.length = 2) : ∃ a b, l = [a, b] := by
  match l, h with
  | [a, b], _ => exact ⟨a, b, rfl⟩

section
variable {H : Type} {enc : TypeId × Value → H} {w : World} {base : Nat} {spare : Nat → Bool} {held : Bool}

theorem addr_add_o (b off j : Nat) : (⟨b, off, none⟩ : Addr).add j = ⟨b, off + j, none⟩ := by
  unfold Addr.add
  split
  · rename_i h0; subst h0; rfl
  · rfl

/-- a slice of orders that came in -/
theorem read_ops {m : Nat} {v : Value} {y : DataW H × List MemPlace} (h : DataW.trod enc Tryd.prog w base spare held m 22 [v] = some y) :
    ∃ (A : Option Addr) (os : List Od) (c : Nat), v = .slice A os.length c ∧ OpsAt w w.heap.size A os ∧ (A = none → c = 0) := by
  rcases open_slice Tryd.underlying22 h with ⟨hcs, _⟩ | ⟨a, len, cap, m', n', D, Pl, hcs, _, hl, hm, hmm, _, hel⟩
  · simp at hcs
    subst hcs
    exact ⟨none, [], 0, rfl, ⟨fun hx => absurd rfl hx, fun x hx => (by cases hx), by simp⟩, fun _ => rfl⟩
  · simp at hcs
    subst hcs
    have hlen : len ≤ m' := by rw [hmm]; split <;> omega
    have hone : ∀ i, i < len → ∃ (b off : Nat) (o : Od), a.add (i * 2) = ⟨b, off, none⟩ ∧ b < w.heap.size ∧ w.cell? ⟨b, off, none⟩ = some (.int .i64 o.code) ∧ w.cell? ⟨b, off + 1, none⟩ = some (.int .i64 o.arg) ∧ In64 o.code ∧ In64 o.arg := by
      intro i hi
      obtain ⟨cs', hc', ht'⟩ := hel i (by omega)
      rw [readOpCellsO] at hc'
      obtain ⟨ys, n2, _, _, hcl, hyl, hf⟩ := DataW.trod_struct Tryd.underlying46 ht'
      obtain ⟨_, hcl3, hat⟩ := World.cells?_some hc'
      obtain ⟨v0, v1, rfl⟩ := list2 cs' hcl3
      have h0 : DataW.trod enc Tryd.prog w base spare held n2 3 (([v0, v1].drop 0).take (Tryd.prog.cellsOf 3)) = ys[0]? := hf 0 _ rfl
      have h1 : DataW.trod enc Tryd.prog w base spare held n2 3 (([v0, v1].drop 1).take (Tryd.prog.cellsOf 3)) = ys[1]? := hf 1 _ rfl
      rw [readOpCellsI] at h0 h1
      simp only [List.drop_zero, List.drop_succ_cons, List.take_succ_cons, List.take_zero] at h0 h1
      have hy : ∀ k, k < 2 → ∃ z, ys[k]? = some z := fun k hk => ⟨_, List.getElem?_eq_getElem (by rw [hyl]; exact hk)⟩
      obtain ⟨z0, e0⟩ := hy 0 (by omega)
      obtain ⟨z1, e1⟩ := hy 1 (by omega)
      rw [e0] at h0
      rw [e1] at h1
      obtain ⟨kd, hv0, _, hw0⟩ := DataW.trod_int Tryd.underlying3 h0
      obtain ⟨vl, hv1, _, hw1⟩ := DataW.trod_int Tryd.underlying3 h1
      simp at hv0 hv1
      subst hv0
      subst hv1
      have c0 := hat 0 (by omega)
      have c1 := hat 1 (by omega)
      generalize a.add (i * 2) = p at c0 c1 ⊢
      obtain ⟨b, off, sp⟩ := p
      have hsp : sp = none := by simpa [Addr.add] using World.cell?_spot c0
      subst hsp
      rw [addr_add_o] at c0 c1
      simp at c0 c1
      exact ⟨b, off, ⟨kd, vl⟩, rfl, World.block_lt_of_cell? w _ c0, c0, c1, bounds_i64 hw0, bounds_i64 hw1⟩
    rcases Nat.eq_zero_or_pos len with h0 | h0
    · subst h0
      exact ⟨some a, [], cap, rfl, ⟨fun hx => absurd rfl hx, fun x hx => (by cases hx), by simp⟩, fun e => by cases e⟩
    · obtain ⟨b0, off0, _, ha0, hb0, _⟩ := hone 0 h0
      rw [Nat.zero_mul] at ha0
      have ha : a = ⟨b0, off0, none⟩ := by
        have : a.add 0 = a := by simp [Addr.add]
        rw [this] at ha0
        exact ha0
      subst ha
      have hch : ∀ i, ∃ o : Od, i < len → w.cell? ⟨b0, off0 + i * 2, none⟩ = some (.int .i64 o.code) ∧ w.cell? ⟨b0, off0 + i * 2 + 1, none⟩ = some (.int .i64 o.arg) ∧ In64 o.code ∧ In64 o.arg := by
        intro i
        by_cases hi : i < len
        · obtain ⟨b, off, o, he, _, h1, h2, h3, h4⟩ := hone i hi
          rw [addr_add_o] at he
          injection he with he1 he2
          subst he1
          subst he2
          exact ⟨o, fun _ => ⟨h1, h2, h3, h4⟩⟩
        · exact ⟨⟨0, 0⟩, fun h => absurd h hi⟩
      have hget : ∀ (j : Nat) (o : Od), ((List.range len).map fun i => Classical.choose (hch i))[j]? = some o → j < len ∧ o = Classical.choose (hch j) := by
        intro j o hj
        rw [List.getElem?_map] at hj
        have hjl : j < len := by
          rcases Nat.lt_or_ge j len with h | h
          · exact h
          · rw [List.getElem?_eq_none (by simpa using h)] at hj; cases hj
        rw [List.getElem?_range hjl] at hj
        simp at hj
        exact ⟨hjl, hj.symm⟩
      refine ⟨some ⟨b0, off0, none⟩, (List.range len).map fun i => Classical.choose (hch i), cap, by simp, ⟨fun _ => ⟨b0, off0, rfl, hb0, fun j o hj => ?_⟩, fun o ho => ?_, ?_⟩, fun e => by cases e⟩
      · obtain ⟨hjl, rfl⟩ := hget j o hj
        have := Classical.choose_spec (hch j) hjl
        exact ⟨this.1, this.2.1⟩
      · obtain ⟨j, hj, rfl⟩ := List.getElem_of_mem ho
        obtain ⟨hjl, e⟩ := hget j _ (List.getElem?_eq_getElem hj)
        rw [e]
        exact (Classical.choose_spec (hch j) hjl).2.2
      · simp
        unfold maxLen at hm
        omega

end

end Go.Proofs.YtochdhibmmohfaaDoor

namespace Go.Proofs.YtochdhibmmohfaaDoor
open Go.RowKit
set_option linter.unusedVariables false

def opVals (os : List Od) : List Value := os.flatMap fun o => [.int .i64 o.code, .int .i64 o.arg]

theorem opVals_cons (o : Od) (os : List Od) : opVals (o :: os) = .int .i64 o.code :: .int .i64 o.arg :: opVals os := by simp [opVals]
theorem opVals_snoc (os : List Od) (o : Od) : opVals (os ++ [o]) = opVals os ++ [.int .i64 o.code, .int .i64 o.arg] := by simp [opVals]
theorem opVals_len (os : List Od) : (opVals os).length = os.length * 2 := by
  induction os with
  | nil => rfl
  | cons o os ih => rw [opVals_cons]; simp [ih]; omega
theorem opVals_code {os : List Od} {k : Nat} {o : Od} (h : os[k]? = some o) : (opVals os)[k * 2]? = some (.int .i64 o.code) := by
  induction os generalizing k with
  | nil => simp at h
  | cons p os ih =>
    rw [opVals_cons]
    cases k with
    | zero => simp at h; subst h; rfl
    | succ k =>
      rw [show (k + 1) * 2 = k * 2 + 1 + 1 by omega, List.getElem?_cons_succ, List.getElem?_cons_succ]
      exact ih (by simpa using h)
theorem opVals_arg {os : List Od} {k : Nat} {o : Od} (h : os[k]? = some o) : (opVals os)[k * 2 + 1]? = some (.int .i64 o.arg) := by
  induction os generalizing k with
  | nil => simp at h
  | cons p os ih =>
    rw [opVals_cons]
    cases k with
    | zero => simp at h; subst h; rfl
    | succ k =>
      rw [show (k + 1) * 2 + 1 = k * 2 + 1 + 1 + 1 by omega, List.getElem?_cons_succ, List.getElem?_cons_succ]
      exact ih (by simpa using h)

/-- the slice value (A, length of os, c) owns the orders os in a row from block base on -/
structure OwnO (w : World) (base : Nat) (A : Option Addr) (c : Nat) (os : List Od) : Prop where
  own : w.ownsRow base 44 2 (.slice A os.length c) os.length (opVals os)

theorem OwnO.empty (w : World) (base : Nat) : OwnO w base none 0 [] := ⟨World.ownsRow_nil _ _ _ _⟩
theorem OwnO.bare (w : World) : OwnO (w.alloc (.cells #[] 44)) w.heap.size (some ⟨w.heap.size, 0, none⟩) 0 [] :=
  ⟨World.ownsRow_lit w #[] 0 (Nat.le_refl _) (by unfold maxLen; omega) rfl⟩

theorem OwnO.form {w : World} {base : Nat} {A : Option Addr} {c : Nat} {os : List Od} (h : OwnO w base A c os) :
    (A = none ∧ c = 0 ∧ os = []) ∨ ∃ g, A = some ⟨g, 0, none⟩ ∧ base ≤ g ∧ g < w.heap.size := by
  rcases h.own.2 with ⟨h1, h2⟩ | ⟨g, cap, cur, hv, hg, hh, _⟩
  · injection h1 with h1 _ h3
    exact .inl ⟨h1, h3, List.eq_nil_of_length_eq_zero h2⟩
  · injection hv with hv
    exact .inr ⟨g, hv, hg, lt_of_block hh⟩

theorem OwnO.ops {w : World} {base : Nat} {A : Option Addr} {c : Nat} {os : List Od} (h : OwnO w base A c os) (hwf : ∀ o ∈ os, In64 o.code ∧ In64 o.arg) (hl : os.length ≤ 9223372036854775807) : OpsAt w w.heap.size A os := by
  refine ⟨fun hx => ?_, hwf, hl⟩
  rcases h.form with ⟨_, _, h2⟩ | ⟨g, rfl, _, hlt⟩
  · exact absurd h2 hx
  · refine ⟨g, 0, rfl, hlt, fun j o hj => ?_⟩
    have hjl : j < os.length := (List.getElem?_eq_some_iff.1 hj).1
    rw [Nat.zero_add, h.own.cellAt (j * 2) (by omega), h.own.cellAt (j * 2 + 1) (by omega)]
    exact ⟨opVals_code hj, opVals_arg hj⟩

theorem OwnO.blocks {w : World} {base : Nat} {A : Option Addr} {c : Nat} {os : List Od} (h : OwnO w base A c os) : ∀ k, blockOf A = some k → base ≤ k ∧ k < w.heap.size := by
  intro k hk
  rcases h.form with ⟨rfl, _, _⟩ | ⟨g, rfl, h1, h2⟩
  · cases hk
  · simp [blockOf] at hk
    omega

theorem OwnO.alloc {w : World} {base : Nat} {A : Option Addr} {c : Nat} {os : List Od} (h : OwnO w base A c os) (o : Obj) : OwnO (w.alloc o) base A c os := ⟨h.own.alloc o⟩
theorem OwnO.drew {w : World} {base : Nat} {A : Option Addr} {c : Nat} {os : List Od} (h : OwnO w base A c os) : OwnO w.drew base A c os := ⟨h.own⟩
theorem OwnO.kept {w w' : World} {base : Nat} {A : Option Addr} {c : Nat} {os : List Od} {row : Option Nat} (h : OwnO w base A c os) (hg : w.grownBy w' row) (hne : blockOf A = none ∨ blockOf A ≠ row) : OwnO w' base A c os :=
  ⟨h.own.kept hg (by rw [ownBlock_slice]; exact hne)⟩
theorem OwnO.below {w w' : World} {base : Nat} {A : Option Addr} {c : Nat} {os : List Od} (h : OwnO w base A c os) (hb : Below w.heap.size w w') : OwnO w' base A c os :=
  h.kept (grownBy_of_below hb) (by cases hA : blockOf A <;> simp)
theorem OwnO.mono {w : World} {base base' : Nat} {A : Option Addr} {c : Nat} {os : List Od} (h : OwnO w base A c os) (hb : base' ≤ base) : OwnO w base' A c os := by
  refine ⟨h.own.1, ?_⟩
  rcases h.own.2 with h2 | ⟨g, cap, cur, hv, hg, r⟩
  · exact .inl h2
  · exact .inr ⟨g, cap, cur, hv, Nat.le_trans hb hg, r⟩

theorem OwnO.only {w w' : World} {base lo hi : Nat} {A : Option Addr} {c : Nat} {os : List Od} (h : OwnO w base A c os) (ho : Only lo hi w w') (hA : ∀ g, blockOf A = some g → g < lo ∨ hi ≤ g) : OwnO w' base A c os := by
  refine ⟨h.own.1, ?_⟩
  rcases h.own.2 with h2 | ⟨g, cap, cur, hv, hg, hh, r⟩
  · exact .inl h2
  · refine .inr ⟨g, cap, cur, hv, hg, ?_, r⟩
    rw [ho.block g]
    · exact hh
    · apply hA g
      injection hv with hv
      rw [hv]
      rfl

theorem OwnO.of_block {w w' : World} {base : Nat} {A : Option Addr} {c : Nat} {os : List Od} (h : OwnO w base A c os) (hA : ∀ g, blockOf A = some g → w'.heap[g]? = w.heap[g]?) : OwnO w' base A c os := by
  refine ⟨h.own.1, ?_⟩
  rcases h.own.2 with h2 | ⟨g, cap, cur, hv, hg, hh, r⟩
  · exact .inl h2
  · refine .inr ⟨g, cap, cur, hv, hg, ?_, r⟩
    rw [hA g (by injection hv with hv; rw [hv]; rfl)]
    exact hh

theorem OwnI.of_block {w w' : World} {base : Nat} {A : Option Addr} {c : Nat} {xs : List Int} (h : OwnI w base A c xs) (hA : ∀ g, blockOf A = some g → w'.heap[g]? = w.heap[g]?) : OwnI w' base A c xs := by
  refine ⟨h.own.1, ?_⟩
  rcases h.own.2 with h2 | ⟨g, cap, cur, hv, hg, hh, r⟩
  · exact .inl h2
  · refine .inr ⟨g, cap, cur, hv, hg, ?_, r⟩
    rw [hA g (by injection hv with hv; rw [hv]; rfl)]
    exact hh

/-- a store into an own int slice -/
theorem OwnI.set {w : World} {base g : Nat} {c : Nat} {xs : List Int} (h : OwnI w base (some ⟨g, 0, none⟩) c xs) (j : Nat) (x : Int) :
    OwnI (w.setCell ⟨g, j, none⟩ (.int .i64 x)) base (some ⟨g, 0, none⟩) c (xs.set j x) := by
  have := (h.own.stored j (.int .i64 x)).1
  refine ⟨?_⟩
  rw [List.length_set, List.map_set]
  exact this
theorem OwnI.cellAt {w : World} {base g : Nat} {c : Nat} {xs : List Int} (h : OwnI w base (some ⟨g, 0, none⟩) c xs) {j : Nat} {x : Int} (hj : xs[j]? = some x) : w.cell? ⟨g, j, none⟩ = some (.int .i64 x) := by
  rw [h.own.cellAt j (by have := (List.getElem?_eq_some_iff.1 hj).1; omega), List.getElem?_map, hj]
  rfl

theorem OwnO.row {w : World} {base g : Nat} {c : Nat} {os : List Od} (h : OwnO w base (some ⟨g, 0, none⟩) c os) :
    ∃ (cap : Nat) (f : Nat → Value), w.rowIs g 44 (cap * 2) f ∧ os.length ≤ cap ∧ cap ≤ maxLen ∧ c = cap ∧ base ≤ g := by
  rcases h.own.2 with ⟨h1, _⟩ | ⟨g', cap, cur, hv, hg, hh, hn, hm, hs, _⟩
  · injection h1 with h1
    cases h1
  · injection hv with hv _ hc
    obtain rfl : g = g' := by simpa using hv
    refine ⟨cap, fun i => (cur[i]?).getD undef, ⟨cur, hh, by simpa using hs, fun i hi => ?_⟩, hn, hm, hc, hg⟩
    have : i < cur.size := by rw [hs]; omega
    show _ = some ((cur[i]?).getD undef)
    rw [Array.getElem?_eq_getElem this]; rfl

theorem OwnO.of_row {w : World} {base g cap : Nat} {f : Nat → Value} {os : List Od} (h : w.rowIs g 44 (cap * 2) f) (hl : os.length ≤ cap) (hm : cap ≤ maxLen) (hb : base ≤ g) (hf : ∀ i, i < os.length * 2 → (opVals os)[i]? = some (f i)) :
    OwnO w base (some ⟨g, 0, none⟩) cap os := by
  obtain ⟨cur, hh, hs, hc⟩ := h
  refine ⟨⟨opVals_len os, .inr ⟨g, cap, cur, rfl, hb, hh, hl, hm, by simpa using hs, ?_⟩⟩⟩
  apply List.ext_getElem?
  intro i
  rw [List.getElem?_take]
  by_cases hi : i < os.length * 2
  · rw [if_pos hi, Array.getElem?_toList, hc i (by omega), hf i hi]
  · rw [if_neg hi, List.getElem?_eq_none (by rw [opVals_len]; omega)]

theorem vals_one (o : Od) : ∀ u ∈ [Value.int .i64 o.code, Value.int .i64 o.arg], u.oneCell' = true := by
  intro u hu
  simp at hu
  rcases hu with rfl | rfl <;> rfl

/-- append(s, o) of one order, which lies in a block of its own -/
theorem append_op {w : World} {ops : Array Oper} {rest : List Oper} {o : Oper} {a : Act} {Q : Exit → Act → World → Prop} (hgd : o.guard = none) (s x : Operand)
    (ho : o.op = .call { callee := .builtin .append, args := #[s, x], argTypes := #[29, 29] })
    (base : Nat) (A : Option Addr) (c : Nat) (os : List Od) (hs : a.eval s = .slice A os.length c) (hown : OwnO w base A c os)
    (b : Nat) (d : Od) (t : TypeId) (hx : a.eval x = .slice (some ⟨b, 0, none⟩) 1 1) (hr : Lies w b #[.int .i64 d.code, .int .i64 d.arg] t)
    (hsum : os.length + 1 ≤ 16777216) (hbase : base ≤ w.heap.size)
    (h : ∀ (zs : List Od) (A' : Option Addr) (c' : Nat) (w' : World), Hid (zs = os ++ [d]) → OwnO w' base A' c' zs → w.grownBy w' (blockOf A) → (blockOf A' = blockOf A ∨ blockOf A' = some w.heap.size) →
      wpList Tryd.prog ops Q rest (a.put o.dst (.slice A' zs.length c')) w') : wpList Tryd.prog ops Q (o :: rest) a w := by
  obtain ⟨i0, hi, hz0, hz1, hz2⟩ := info_parts infoOp
  refine wpList_append_own_at w hgd s x 29 ho base 44 i0 _ 2 16 Tryd.underlying29 hi hz0 hz1 hz2 rfl (by omega) _ _ _ hs hown.own ⟨b, 0, none⟩ 1 1 [.int .i64 d.code, .int .i64 d.arg] hx (by simp) (World.news_of_block hr) (vals_one d)
    (by unfold maxLen; omega) (by omega) hbase ?_
  intro v' w' h2 h3 _ h5
  have hlen : os.length + 1 = (os ++ [d]).length := by simp
  rw [ownBlock_slice] at h3 h5
  rw [← opVals_snoc, hlen] at h2
  rcases h2.2 with ⟨_, h6⟩ | ⟨g, cap, cur, rfl, _⟩
  · simp at h6
  · exact h (os ++ [d]) _ _ w' (by simp [Hid]) ⟨h2⟩ h3 (by simpa [ownBlock_slice] using h5)

/-- a call that hands back a slice of orders of its own that reads os, and leaves old memory as it was -/
def GivesOps (w : World) (os : List Od) (e : Ending) (w' : World) : Prop := ∃ A c, e = .returned (.slice A os.length c) ∧ OwnO w' w.heap.size A c os ∧ Below w.heap.size w w'

end Go.Proofs.YtochdhibmmohfaaDoor

namespace Go.Proofs.YtochdhibmmohfaaDoor
open Go.RowKit
set_option linter.unusedVariables false

set_option maxRecDepth 100000 in
set_option maxHeartbeats 1000000 in
theorem eqRules_same (A A' : Option Addr) (r : Ru) (c c' : Nat) (w : World) (h : RuAt w w.heap.size A r) (h' : RuAt w w.heap.size A' r) :
    Calls Tryd.prog 8 #[ruVal r A c, ruVal r A' c'] w fun e w' => e = .returned (.bool true) ∧ Below w.heap.size w w' := by
  unfold ruVal
  have hB : Below w.heap.size w ((w.alloc (.cells (ruCells r A c) 26)).alloc (.cells (ruCells r A' c') 26)) := ((Below.refl _ _).alloc (Nat.le_refl _) _).alloc (by simp) _
  have l1 := (Lies.new w (ruCells r A c) 26).alloc (.cells (ruCells r A' c') 26)
  have l2 := Lies.new (w.alloc (.cells (ruCells r A c) 26)) (ruCells r A' c') 26
  simp only [World.size_alloc] at l2
  have HB := hide hB
  have H1 := hide (h.c.later hB (Nat.le_refl _))
  have H2 := hide (h'.c.later hB (Nat.le_refl _))
  clear hB h h'
  unfold ruCells at *
  go_enter Tryd.func8, Tryd.ntmps8
  go_upto_region 1 with fail
  generalize (w.alloc (.cells #[.int .i64 r.steps, .int .i64 r.nodes, .int .i64 r.deep, .slice A r.cls.length c] 26)).alloc (.cells #[.int .i64 r.steps, .int .i64 r.nodes, .int .i64 r.deep, .slice A' r.cls.length c'] 26) = W at l1 l2 HB H1 H2 ⊢
  have a0 := l1.cell 0
  have a1 := l1.cell 1
  have a2 := l1.cell 2
  have a3 := l1.cell 3
  have b0 := l2.cell 0
  have b1 := l2.cell 1
  have b2 := l2.cell 2
  have b3 := l2.cell 3
  simp only [List.getElem?_toArray, List.getElem?_cons_zero, List.getElem?_cons_succ] at a0 a1 a2 a3 b0 b1 b2 b3
  have t0 : (r.steps != r.steps) = false := by simp
  have t1 : (r.nodes != r.nodes) = false := by simp
  have t2 : (r.deep != r.deep) = false := by simp
  clear l1 l2
  go_wp2_with fail
  refine (eqIntS_any A A' r.cls r.cls c c' W H1.out H2.out).mono ?_
  rintro e w2 ⟨rfl, hb⟩
  have hself : decide (r.cls = r.cls) = true := by simp
  rw [hself]
  have HX := hide (HB.out.trans (hb.mono HB.out.size))
  clear hb
  go_wp2
  go_ret
  exact ⟨rfl, HX.out⟩

end Go.Proofs.YtochdhibmmohfaaDoor

namespace Go.Proofs.YtochdhibmmohfaaDoor
open Go.RowKit
set_option linter.unusedVariables false

set_option maxHeartbeats 1000000 in
theorem markRules_own (base lo hi : Nat) (A : Option Addr) (c : Nat) (r : Ru) (k0 : Int) (w : World) (h : OwnI w base A c r.cls) (hA : ∀ g, blockOf A = some g → lo ≤ g ∧ g < hi) (hk0 : 0 ≤ k0) (hk1 : k0 ≤ 1048576) (hn : r.cls.length ≤ 1048576) :
    Calls Tryd.prog 11 #[.agg #[.int .i64 r.steps, .int .i64 r.nodes, .int .i64 r.deep, .slice A r.cls.length c], .int .i64 k0] w fun e w' => e = .returned (.int .i64 (k0 + r.cls.length)) ∧ OwnI w' base A c (marks k0 r.cls.length) ∧ Save lo hi w w' := by
  have hB : Below w.heap.size w (w.alloc (.cells #[.int .i64 r.steps, .int .i64 r.nodes, .int .i64 r.deep, .slice A r.cls.length c] 26)) := (Below.refl _ _).alloc (Nat.le_refl _) _
  have h2 := h.below hB
  clear h
  go_enter Tryd.func11, Tryd.ntmps11
  go_wp2_with fail
  refine (markIntS_own base A c r.cls k0 _ h2 hk0 hk1 hn).mono ?_
  rintro e w' ⟨rfl, ho, hO⟩
  have HS := hide ((Save.of_below hB).trans (Save.of_only (hO lo hi hA)))
  have HO := hide ho
  clear ho hO h2 hB
  go_wp2
  go_ret
  exact ⟨rfl, HO.out, HS.out⟩

set_option maxHeartbeats 1000000 in
theorem heldRules_own (A : Option Addr) (c : Nat) (r : Ru) (k0 : Int) (w : World) (h : IntsAt w w.heap.size A (marks k0 r.cls.length)) (hk0 : 0 ≤ k0) (hk1 : k0 ≤ 1048576) (hn : r.cls.length ≤ 1048576) :
    Calls Tryd.prog 12 #[.agg #[.int .i64 r.steps, .int .i64 r.nodes, .int .i64 r.deep, .slice A r.cls.length c], .int .i64 k0] w fun e w' => e = .returned (.int .i64 (k0 + r.cls.length)) ∧ Below w.heap.size w w' := by
  have hB : Below w.heap.size w (w.alloc (.cells #[.int .i64 r.steps, .int .i64 r.nodes, .int .i64 r.deep, .slice A r.cls.length c] 26)) := (Below.refl _ _).alloc (Nat.le_refl _) _
  have h2 := h.later hB (Nat.le_refl _)
  have hd : decide (k0 + (r.cls.length : Int) < 0) = false := decide_eq_false (by omega)
  have HB := hide hB
  clear h hB
  go_enter Tryd.func12, Tryd.ntmps12
  go_wp2_with fail
  refine (heldIntS_any A r.cls.length c k0 _ h2 hk0 (by omega) hn).mono ?_
  rintro e w' ⟨rfl, rfl⟩
  clear h2
  go_wp2
  go_ret
  exact ⟨rfl, HB.out⟩

end Go.Proofs.YtochdhibmmohfaaDoor
