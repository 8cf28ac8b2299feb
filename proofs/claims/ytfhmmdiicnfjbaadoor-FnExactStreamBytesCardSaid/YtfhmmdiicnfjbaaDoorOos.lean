/-
  Lists of lists of orders in memory. Plain lemmas, no walk.
-/
import Derived.Test.YtfhmmdiicnfjbaaDoorOwnO
import Derived.Test.YtfhmmdiicnfjbaaDoorOwnX
import Derived.Maps.AppendAt
namespace Go.Proofs.YtfhmmdiicnfjbaaDoor
open Go.RowKit
set_option linter.unusedVariables false

/-- a slice at A has slices of orders for its elements, in a block below B -/
structure OpsSAt (w : World) (B : Nat) (A : Option Addr) (oss : List (List Od)) : Prop where
  row : oss ≠ [] → ∃ b off, A = some ⟨b, off, none⟩ ∧ b < B ∧ ∀ j os, oss[j]? = some os → ∃ A1 c1, w.cell? ⟨b, off + j, none⟩ = some (.slice A1 os.length c1) ∧ OpsAt w B A1 os
  len : oss.length ≤ 1000

theorem OpsSAt.below {w w' : World} {B : Nat} {A : Option Addr} {oss : List (List Od)} (h : OpsSAt w B A oss) (hb : Below B w w') : OpsSAt w' B A oss :=
  ⟨fun hx => by
    obtain ⟨b, off, e, hlt, hc⟩ := h.row hx
    refine ⟨b, off, e, hlt, fun j x hj => ?_⟩
    obtain ⟨A1, c1, h1, h2⟩ := hc j x hj
    exact ⟨A1, c1, (hb.cell hlt).trans h1, h2.below hb⟩, h.len⟩
theorem OpsSAt.more {w : World} {B B' : Nat} {A : Option Addr} {oss : List (List Od)} (h : OpsSAt w B A oss) (hB : B ≤ B') : OpsSAt w B' A oss :=
  ⟨fun hx => by
    obtain ⟨b, off, e, hlt, hc⟩ := h.row hx
    refine ⟨b, off, e, by omega, fun j x hj => ?_⟩
    obtain ⟨A1, c1, h1, h2⟩ := hc j x hj
    exact ⟨A1, c1, h1, h2.more hB⟩, h.len⟩
theorem OpsSAt.later {w w' : World} {B : Nat} {A : Option Addr} {oss : List (List Od)} (h : OpsSAt w B A oss) (hb : Below B w w') (hB : B ≤ w.heap.size) : OpsSAt w' w'.heap.size A oss :=
  (h.below hb).more (Nat.le_trans hB hb.size)
theorem OpsSAt.at_ {w : World} {B : Nat} {A : Option Addr} {oss : List (List Od)} (h : OpsSAt w B A oss) {k : Nat} (hk : k < oss.length) :
    ∃ b off os A1 c1, A = some ⟨b, off, none⟩ ∧ b < B ∧ oss[k]? = some os ∧ w.cell? ⟨b, off + k, none⟩ = some (.slice A1 os.length c1) ∧ OpsAt w B A1 os := by
  obtain ⟨b, off, e, hlt, hc⟩ := h.row (by intro e; subst e; simp at hk)
  have hat : oss[k]? = some oss[k] := List.getElem?_eq_getElem hk
  obtain ⟨A1, c1, h1, h2⟩ := hc k _ hat
  exact ⟨b, off, oss[k], A1, c1, e, hlt, hat, h1, h2⟩

theorem infoOS : (Tryd.prog.info? 26).map (fun i => (i.zero, i.size, i.bytes)) = some (some (.slice none 0 0), 1, 24) := by kernel_rfl

/-- the cells of slices of orders -/
def cellsOS : List (Option Addr × Nat) → List (List Od) → List Value
  | p :: ps, os :: oss => .slice p.1 os.length p.2 :: cellsOS ps oss
  | _, _ => []
theorem cellsOS_len : ∀ {ps : List (Option Addr × Nat)} {oss : List (List Od)}, ps.length = oss.length → (cellsOS ps oss).length = oss.length
  | [], [], _ => rfl
  | p :: ps, os :: oss, h => by simp [cellsOS, cellsOS_len (ps := ps) (oss := oss) (by simpa using h)]
theorem cellsOS_at {ps : List (Option Addr × Nat)} {oss : List (List Od)} {j : Nat} {p : Option Addr × Nat} {os : List Od} (h : ps[j]? = some p) (h' : oss[j]? = some os) : (cellsOS ps oss)[j]? = some (.slice p.1 os.length p.2) := by
  induction ps generalizing oss j with
  | nil => simp at h
  | cons q ps ih =>
    cases oss with
    | nil => simp at h'
    | cons qs oss =>
      cases j with
      | zero =>
        simp at h h'
        subst h h'
        rfl
      | succ j =>
        simp at h h'
        exact ih h h'
theorem cellsOS_snoc {ps : List (Option Addr × Nat)} {oss : List (List Od)} {p : Option Addr × Nat} {os : List Od} (h : ps.length = oss.length) : cellsOS (ps ++ [p]) (oss ++ [os]) = cellsOS ps oss ++ [.slice p.1 os.length p.2] := by
  induction ps generalizing oss with
  | nil =>
    cases oss with
    | nil => rfl
    | cons => simp at h
  | cons q ps ih =>
    cases oss with
    | nil => simp at h
    | cons qs oss =>
      simp only [List.cons_append, cellsOS]
      rw [ih (by simpa using h)]
theorem cellsOS_same {ps : List (Option Addr × Nat)} {oss oss' : List (List Od)} (h : oss.map List.length = oss'.map List.length) : cellsOS ps oss = cellsOS ps oss' := by
  induction ps generalizing oss oss' with
  | nil => simp [cellsOS]
  | cons q ps ih =>
    cases oss with
    | nil =>
      cases oss' with
      | nil => rfl
      | cons => simp at h
    | cons qs oss =>
      cases oss' with
      | nil => simp at h
      | cons qs' oss' =>
        simp at h
        simp only [cellsOS]
        rw [h.1, ih h.2]

/-- the call owns a row of slices of orders, and these, each in a block of its own -/
structure OwnOS (w : World) (base : Nat) (A : Option Addr) (c : Nat) (ps : List (Option Addr × Nat)) (oss : List (List Od)) : Prop where
  len : ps.length = oss.length
  row : w.ownsRow base 26 1 (.slice A oss.length c) oss.length (cellsOS ps oss)
  own : ∀ (j : Nat) (p : Option Addr × Nat) (os : List Od), ps[j]? = some p → oss[j]? = some os → OwnO w base p.1 p.2 os
  ap : ∀ (i j : Nat) (p q : Option Addr × Nat), i < j → ps[i]? = some p → ps[j]? = some q → ∀ b, blockOf p.1 = some b → blockOf q.1 ≠ some b

theorem OwnOS.empty (w : World) (base : Nat) : OwnOS w base none 0 [] [] := ⟨rfl, World.ownsRow_nil _ _ _ _, by simp, by simp⟩
theorem OwnOS.bare (w : World) : OwnOS (w.alloc (.cells #[] 26)) w.heap.size (some ⟨w.heap.size, 0, none⟩) 0 [] [] :=
  ⟨rfl, World.ownsRow_lit w #[] 0 (Nat.le_refl _) (by unfold maxLen; omega) rfl, by simp, by simp⟩

theorem ops_row_ne {w : World} {base base' n k : Nat} {A A' : Option Addr} {c c' : Nat} {xs ys : List Value} (h : w.ownsRow base 26 1 (.slice A n c) n xs) (h' : w.ownsRow base' 40 2 (.slice A' k c') k ys) : ∀ b, blockOf A = some b → blockOf A' ≠ some b := by
  intro b hb hb'
  rcases h.2 with ⟨h1, _⟩ | ⟨g, cap, cur, hv, _, hh, _⟩
  · injection h1 with h1 _ _
    rw [h1] at hb; cases hb
  · rcases h'.2 with ⟨h1', _⟩ | ⟨g', cap', cur', hv', _, hh', _⟩
    · injection h1' with h1' _ _
      rw [h1'] at hb'; cases hb'
    · injection hv with hv _ _
      injection hv' with hv' _ _
      subst hv hv'
      simp [blockOf] at hb hb'
      subst hb hb'
      rw [hh] at hh'
      injection hh' with hh'
      injection hh' with _ e _
      exact absurd e (by decide)

theorem OwnOS.blocks {w : World} {base : Nat} {A : Option Addr} {c : Nat} {ps : List (Option Addr × Nat)} {oss : List (List Od)} (h : OwnOS w base A c ps oss) : ∀ b, blockOf A = some b → base ≤ b ∧ b < w.heap.size :=
  fun b hb => World.ownsRow.lt h.row b (by rw [ownBlock_slice]; exact hb)

theorem OwnOS.kidB {w : World} {base : Nat} {A : Option Addr} {c : Nat} {ps : List (Option Addr × Nat)} {oss : List (List Od)} (h : OwnOS w base A c ps oss) {j : Nat} {p : Option Addr × Nat} (hj : ps[j]? = some p) : ∀ b, blockOf p.1 = some b → base ≤ b ∧ b < w.heap.size := by
  have hl := (List.getElem?_eq_some_iff.1 hj).1
  obtain ⟨os, ho⟩ : ∃ os, oss[j]? = some os := ⟨_, List.getElem?_eq_getElem (by have := h.len; omega)⟩
  exact (h.own j p os hj ho).blocks

/-- memory that keeps the row and its parts keeps this -/
theorem OwnOS.ofBlk {w w' : World} {base : Nat} {A : Option Addr} {c : Nat} {ps : List (Option Addr × Nat)} {oss : List (List Od)} (h : OwnOS w base A c ps oss) (hA : ∀ b, base ≤ b → b < w.heap.size → w'.heap[b]? = w.heap[b]?) : OwnOS w' base A c ps oss := by
  refine ⟨h.len, ⟨h.row.1, ?_⟩, fun j p os hj ho => (h.own j p os hj ho).of_block (fun g hg => hA g (h.kidB hj g hg).1 (h.kidB hj g hg).2), h.ap⟩
  rcases h.row.2 with h5 | ⟨g, cap, cur, hv, hg, hh, r⟩
  · exact .inl h5
  · refine .inr ⟨g, cap, cur, hv, hg, (hA g hg ?_).trans hh, r⟩
    injection hv with hv _ _
    exact (h.blocks g (by rw [hv]; rfl)).2
theorem OwnOS.below {w w' : World} {base : Nat} {A : Option Addr} {c : Nat} {ps : List (Option Addr × Nat)} {oss : List (List Od)} (h : OwnOS w base A c ps oss) (hb : Below w.heap.size w w') : OwnOS w' base A c ps oss := h.ofBlk fun b _ hlt => hb.block b hlt
theorem OwnOS.mono {w : World} {base base' : Nat} {A : Option Addr} {c : Nat} {ps : List (Option Addr × Nat)} {oss : List (List Od)} (h : OwnOS w base A c ps oss) (hb : base' ≤ base) : OwnOS w base' A c ps oss := by
  refine ⟨h.len, ⟨h.row.1, ?_⟩, fun j p os hj ho => (h.own j p os hj ho).mono hb, h.ap⟩
  rcases h.row.2 with h2 | ⟨g, cap, cur, hv, hg, r⟩
  · exact .inl h2
  · exact .inr ⟨g, cap, cur, hv, Nat.le_trans hb hg, r⟩
/-- all blocks lie between the two heaps' sizes -/
def OwnOS.In (A : Option Addr) (ps : List (Option Addr × Nat)) (lo hi : Nat) : Prop := (∀ b, blockOf A = some b → lo ≤ b ∧ b < hi) ∧ ∀ (j : Nat) (p : Option Addr × Nat), ps[j]? = some p → ∀ b, blockOf p.1 = some b → lo ≤ b ∧ b < hi
theorem OwnOS.in_ {w : World} {base : Nat} {A : Option Addr} {c : Nat} {ps : List (Option Addr × Nat)} {oss : List (List Od)} (h : OwnOS w base A c ps oss) : OwnOS.In A ps base w.heap.size := ⟨h.blocks, fun j p hj => h.kidB hj⟩
theorem OwnOS.keep {w w' : World} {base lo hi : Nat} {A : Option Addr} {c : Nat} {ps : List (Option Addr × Nat)} {oss : List (List Od)} (h : OwnOS w base A c ps oss) (hin : OwnOS.In A ps lo hi) (hA : ∀ b, lo ≤ b → b < hi → w'.heap[b]? = w.heap[b]?) : OwnOS w' base A c ps oss := by
  refine ⟨h.len, ⟨h.row.1, ?_⟩, fun j p os hj ho => (h.own j p os hj ho).of_block (fun g hg => hA g (hin.2 j p hj g hg).1 (hin.2 j p hj g hg).2), h.ap⟩
  rcases h.row.2 with h5 | ⟨g, cap, cur, hv, hg, hh, r⟩
  · exact .inl h5
  · refine .inr ⟨g, cap, cur, hv, hg, ?_, r⟩
    injection hv with hv _ _
    have := hin.1 g (by rw [hv]; rfl)
    exact (hA g this.1 this.2).trans hh
theorem OwnOS.only {w w' : World} {base lo hi l h2 : Nat} {A : Option Addr} {c : Nat} {ps : List (Option Addr × Nat)} {oss : List (List Od)} (h : OwnOS w base A c ps oss) (hin : OwnOS.In A ps lo hi) (ho : Only l h2 w w') (hd : hi ≤ l ∨ h2 ≤ lo) : OwnOS w' base A c ps oss :=
  h.keep hin fun b h3 h4 => ho.block b (by omega)

/-- orders that ints hold -/
def Wf64 (oss : List (List Od)) : Prop := ∀ os ∈ oss, os.length ≤ 1000 ∧ ∀ o ∈ os, In64 o.code ∧ In64 o.arg
theorem OwnOS.ops {w : World} {base : Nat} {A : Option Addr} {c : Nat} {ps : List (Option Addr × Nat)} {oss : List (List Od)} (h : OwnOS w base A c ps oss) (hwf : Wf64 oss) (hl : oss.length ≤ 1000) : OpsSAt w w.heap.size A oss := by
  refine ⟨fun hx => ?_, hl⟩
  rcases h.row.2 with ⟨_, h3⟩ | ⟨g, cap, cur, hv, hg, hh, _⟩
  · exact absurd (List.length_eq_zero_iff.1 h3) hx
  · injection hv with hv _ hcc
    subst hv hcc
    have hb := (h.blocks g rfl).2
    refine ⟨g, 0, rfl, hb, fun j os hj => ?_⟩
    have hjl := (List.getElem?_eq_some_iff.1 hj).1
    obtain ⟨p, hp⟩ : ∃ p, ps[j]? = some p := ⟨_, List.getElem?_eq_getElem (by have := h.len; omega)⟩
    have ho := h.own j _ os hp hj
    have hm := hwf os (List.mem_of_getElem? hj)
    have hm1 := hm.1
    refine ⟨p.1, p.2, ?_, ho.ops hm.2 (by omega)⟩
    rw [Nat.zero_add, h.row.cellAt j (by omega)]
    exact cellsOS_at hp hj

theorem row_slices_one {ps : List (Option Addr × Nat)} {oss : List (List Od)} : ∀ u ∈ cellsOS ps oss, u.oneCell' = true := by
  induction ps generalizing oss with
  | nil => intro u hu; simp [cellsOS] at hu
  | cons p ps ih =>
    intro u hu
    cases oss with
    | nil => simp [cellsOS] at hu
    | cons os oss =>
      simp [cellsOS] at hu
      rcases hu with rfl | hu
      · rfl
      · exact ih u hu

/-- append of one slice of orders that the call owns -/
theorem append_os {w : World} {ops : Array Oper} {rest : List Oper} {o : Oper} {a : Act} {Q : Exit → Act → World → Prop} (hgd : o.guard = none) (s x : Operand)
    (ho : o.op = .call { callee := .builtin .append, args := #[s, x], argTypes := #[35, 35] })
    (base : Nat) (A : Option Addr) (c : Nat) (ps : List (Option Addr × Nat)) (oss : List (List Od)) (hs : a.eval s = .slice A oss.length c) (hrow : OwnOS w base A c ps oss) (b : Nat) (Ap : Option Addr) (cp : Nat) (os : List Od) (t : TypeId) (hx : a.eval x = .slice (some ⟨b, 0, none⟩) 1 1)
    (hr : w.heap[b]? = some (.cells #[.slice Ap os.length cp] t (0, 0))) (hown : OwnO w base Ap cp os) (hbase : base ≤ w.heap.size) (hn : oss.length ≤ 1000)
    (hap : ∀ (i : Nat) (p : Option Addr × Nat), ps[i]? = some p → ∀ b, blockOf p.1 = some b → blockOf Ap ≠ some b)
    (h : ∀ (A' : Option Addr) (c' : Nat) (w' : World), OwnOS w' base A' c' (ps ++ [(Ap, cp)]) (oss ++ [os]) → w.grownBy w' (blockOf A) → wpList Tryd.prog ops Q rest (a.put o.dst (.slice A' (oss.length + 1) c')) w') : wpList Tryd.prog ops Q (o :: rest) a w := by
  obtain ⟨i0, hi, hz0, hz1, hz2⟩ := info_parts infoOS
  refine wpList_append_own_at w hgd s x 35 ho base 26 i0 _ 1 24 Tryd.underlying35 hi hz0 hz1 hz2 rfl (by omega) _ oss.length (cellsOS ps oss) hs hrow.row ⟨b, 0, none⟩ 1 1 [.slice Ap os.length cp] hx (by simp) (World.news_of_block hr) (by
      intro u hu
      simp at hu
      subst hu
      rfl)
    (by unfold maxLen; omega) (by omega) hbase ?_
  intro v' w' h2 h3 _ h5
  rw [ownBlock_slice] at h3
  have h2 : w'.ownsRow base 26 1 v' (oss.length + 1) (cellsOS (ps ++ [(Ap, cp)]) (oss ++ [os])) := by rw [cellsOS_snoc hrow.len]; exact h2
  have h2' := h2
  rcases h2.2 with ⟨_, h6⟩ | ⟨g, cap, cur, rfl, hg, hh, r⟩
  · omega
  · have hkeep : ∀ (A1 : Option Addr) (c1 : Nat) (ks : List Od), OwnO w base A1 c1 ks → OwnO w' base A1 c1 ks := fun A1 c1 ks ho => ho.kept h3 (by
      cases hA : blockOf A1 with
      | none => exact .inl rfl
      | some q => exact .inr (fun e => ops_row_ne hrow.row ho.own q e.symm hA))
    refine h (some ⟨g, 0, none⟩) cap w' ⟨by simp [hrow.len], by simpa using h2', fun j p q hj hq => ?_, fun i j p q hij hi hj b1 hb1 hb2 => ?_⟩ h3
    · rw [List.getElem?_append] at hj hq
      rw [hrow.len] at hj
      split at hj
      next hlt =>
        rw [if_pos hlt] at hq
        exact hkeep _ _ _ (hrow.own j p q hj hq)
      next hlt =>
        rw [if_neg hlt] at hq
        have e0 : j - oss.length = 0 := by
          have := (List.getElem?_eq_some_iff.1 hj).1
          simp at this; omega
        rw [e0] at hj hq
        simp at hj hq
        subst hj hq
        exact hkeep _ _ _ hown
    · rw [List.getElem?_append] at hi hj
      split at hj
      next hlt =>
        rw [if_pos (by omega)] at hi
        exact hrow.ap i j p q hij hi hj b1 hb1 hb2
      next hlt =>
        have e0 : j - ps.length = 0 := by
          have := (List.getElem?_eq_some_iff.1 hj).1
          simp at this; omega
        rw [e0] at hj
        simp at hj
        subst hj
        rw [if_pos (by omega)] at hi
        exact hap i p hi b1 hb1 hb2

end Go.Proofs.YtfhmmdiicnfjbaaDoor
