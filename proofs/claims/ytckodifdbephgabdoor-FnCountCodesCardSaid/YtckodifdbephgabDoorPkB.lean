/-
  Lemmas, several texts in one: OwnO, OwnOO, Emit, OwnBb, OpOk, Shp, ShpR, Memod, Sub, ShpW, RunM, ShpS1, ShpS2, ShpN.
-/
import Derived.Test.YtckodifdbephgabDoorPkA
import Derived.Deep.RegionLaw
import Derived.Deep.AppendLies
import Derived.Maps.AppendAt
import Derived.Laws.AppendOwnNone
import Derived.Maps.RangeWalk
import Derived.Deep.LoopGhost
import Derived.Deep.Cut
import Derived.Deep.RegionHeld
import Derived.Deep.QuietTactic
import Derived.Deep.RegionHeld3
import Derived.BigQuiet
namespace Go.Proofs.YtckodifdbephgabDoor
open Go.RowKit
set_option linter.unusedVariables false

def opVals (os : List Od) : List Value := os.flatMap fun o => [.int .i64 o.code, .int .i64 o.arg]

theorem opVals_cons (o : Od) (os : List Od) : opVals (o :: os) = .int .i64 o.code :: .int .i64 o.arg :: opVals os := by simp [opVals]
theorem opVals_snoc (os : List Od) (o : Od) : opVals (os ++ [o]) = opVals os ++ [.int .i64 o.code, .int .i64 o.arg] := by simp [opVals]
theorem opVals_len (os : List Od) : (opVals os).length = os.length * 2 := by
  induction os with
  | nil => rfl
  | cons o os ih => rw [opVals_cons]; simp [ih]; omega
theorem opVals_code {os : List Od} {k : Nat} {o : Od} (h : os[k]? = some o) : (opVals os)[k * 2]? = some (.int .i64 o.code) := by
  induction os generalizing k with
  | nil => simp at h
  | cons p os ih =>
    rw [opVals_cons]
    cases k with
    | zero => simp at h; subst h; rfl
    | succ k =>
      rw [show (k + 1) * 2 = k * 2 + 1 + 1 by omega, List.getElem?_cons_succ, List.getElem?_cons_succ]
      exact ih (by simpa using h)
theorem opVals_arg {os : List Od} {k : Nat} {o : Od} (h : os[k]? = some o) : (opVals os)[k * 2 + 1]? = some (.int .i64 o.arg) := by
  induction os generalizing k with
  | nil => simp at h
  | cons p os ih =>
    rw [opVals_cons]
    cases k with
    | zero => simp at h; subst h; rfl
    | succ k =>
      rw [show (k + 1) * 2 + 1 = k * 2 + 1 + 1 + 1 by omega, List.getElem?_cons_succ, List.getElem?_cons_succ]
      exact ih (by simpa using h)

/-- the slice value (A, length of os, c) owns the orders os in a row from block base on -/
structure OwnO (w : World) (base : Nat) (A : Option Addr) (c : Nat) (os : List Od) : Prop where
  own : w.ownsRow base 36 2 (.slice A os.length c) os.length (opVals os)

theorem OwnO.empty (w : World) (base : Nat) : OwnO w base none 0 [] := ⟨World.ownsRow_nil _ _ _ _⟩
theorem OwnO.bare (w : World) : OwnO (w.alloc (.cells #[] 36)) w.heap.size (some ⟨w.heap.size, 0, none⟩) 0 [] :=
  ⟨World.ownsRow_lit w #[] 0 (Nat.le_refl _) (by unfold maxLen; omega) rfl⟩

theorem OwnO.form {w : World} {base : Nat} {A : Option Addr} {c : Nat} {os : List Od} (h : OwnO w base A c os) :
    (A = none ∧ c = 0 ∧ os = []) ∨ ∃ g, A = some ⟨g, 0, none⟩ ∧ base ≤ g ∧ g < w.heap.size := by
  rcases h.own.2 with ⟨h1, h2⟩ | ⟨g, cap, cur, hv, hg, hh, _⟩
  · injection h1 with h1 _ h3
    exact .inl ⟨h1, h3, List.eq_nil_of_length_eq_zero h2⟩
  · injection hv with hv
    exact .inr ⟨g, hv, hg, lt_of_block hh⟩

theorem OwnO.ops {w : World} {base : Nat} {A : Option Addr} {c : Nat} {os : List Od} (h : OwnO w base A c os) (hwf : ∀ o ∈ os, In64 o.code ∧ In64 o.arg) (hl : os.length ≤ 9223372036854775807) : OpsAt w w.heap.size A os := by
  refine ⟨fun hx => ?_, hwf, hl⟩
  rcases h.form with ⟨_, _, h2⟩ | ⟨g, rfl, _, hlt⟩
  · exact absurd h2 hx
  · refine ⟨g, 0, rfl, hlt, fun j o hj => ?_⟩
    have hjl : j < os.length := (List.getElem?_eq_some_iff.1 hj).1
    rw [Nat.zero_add, h.own.cellAt (j * 2) (by omega), h.own.cellAt (j * 2 + 1) (by omega)]
    exact ⟨opVals_code hj, opVals_arg hj⟩

theorem OwnO.blocks {w : World} {base : Nat} {A : Option Addr} {c : Nat} {os : List Od} (h : OwnO w base A c os) : ∀ k, blockOf A = some k → base ≤ k ∧ k < w.heap.size := by
  intro k hk
  rcases h.form with ⟨rfl, _, _⟩ | ⟨g, rfl, h1, h2⟩
  · cases hk
  · simp [blockOf] at hk
    omega

theorem OwnO.alloc {w : World} {base : Nat} {A : Option Addr} {c : Nat} {os : List Od} (h : OwnO w base A c os) (o : Obj) : OwnO (w.alloc o) base A c os := ⟨h.own.alloc o⟩
theorem OwnO.drew {w : World} {base : Nat} {A : Option Addr} {c : Nat} {os : List Od} (h : OwnO w base A c os) : OwnO w.drew base A c os := ⟨h.own⟩
theorem OwnO.kept {w w' : World} {base : Nat} {A : Option Addr} {c : Nat} {os : List Od} {row : Option Nat} (h : OwnO w base A c os) (hg : w.grownBy w' row) (hne : blockOf A = none ∨ blockOf A ≠ row) : OwnO w' base A c os :=
  ⟨h.own.kept hg (by rw [ownBlock_slice]; exact hne)⟩
theorem OwnO.below {w w' : World} {base : Nat} {A : Option Addr} {c : Nat} {os : List Od} (h : OwnO w base A c os) (hb : Below w.heap.size w w') : OwnO w' base A c os :=
  h.kept (grownBy_of_below hb) (by cases hA : blockOf A <;> simp)
theorem OwnO.mono {w : World} {base base' : Nat} {A : Option Addr} {c : Nat} {os : List Od} (h : OwnO w base A c os) (hb : base' ≤ base) : OwnO w base' A c os := by
  refine ⟨h.own.1, ?_⟩
  rcases h.own.2 with h2 | ⟨g, cap, cur, hv, hg, r⟩
  · exact .inl h2
  · exact .inr ⟨g, cap, cur, hv, Nat.le_trans hb hg, r⟩

theorem OwnO.only {w w' : World} {base lo hi : Nat} {A : Option Addr} {c : Nat} {os : List Od} (h : OwnO w base A c os) (ho : Only lo hi w w') (hA : ∀ g, blockOf A = some g → g < lo ∨ hi ≤ g) : OwnO w' base A c os := by
  refine ⟨h.own.1, ?_⟩
  rcases h.own.2 with h2 | ⟨g, cap, cur, hv, hg, hh, r⟩
  · exact .inl h2
  · refine .inr ⟨g, cap, cur, hv, hg, ?_, r⟩
    rw [ho.block g]
    · exact hh
    · apply hA g
      injection hv with hv
      rw [hv]
      rfl

theorem OwnO.of_block {w w' : World} {base : Nat} {A : Option Addr} {c : Nat} {os : List Od} (h : OwnO w base A c os) (hA : ∀ g, blockOf A = some g → w'.heap[g]? = w.heap[g]?) : OwnO w' base A c os := by
  refine ⟨h.own.1, ?_⟩
  rcases h.own.2 with h2 | ⟨g, cap, cur, hv, hg, hh, r⟩
  · exact .inl h2
  · refine .inr ⟨g, cap, cur, hv, hg, ?_, r⟩
    rw [hA g (by injection hv with hv; rw [hv]; rfl)]
    exact hh

theorem OwnI.of_block {w w' : World} {base : Nat} {A : Option Addr} {c : Nat} {xs : List Int} (h : OwnI w base A c xs) (hA : ∀ g, blockOf A = some g → w'.heap[g]? = w.heap[g]?) : OwnI w' base A c xs := by
  refine ⟨h.own.1, ?_⟩
  rcases h.own.2 with h2 | ⟨g, cap, cur, hv, hg, hh, r⟩
  · exact .inl h2
  · refine .inr ⟨g, cap, cur, hv, hg, ?_, r⟩
    rw [hA g (by injection hv with hv; rw [hv]; rfl)]
    exact hh

/-- a store into an own int slice -/
theorem OwnI.set {w : World} {base g : Nat} {c : Nat} {xs : List Int} (h : OwnI w base (some ⟨g, 0, none⟩) c xs) (j : Nat) (x : Int) :
    OwnI (w.setCell ⟨g, j, none⟩ (.int .i64 x)) base (some ⟨g, 0, none⟩) c (xs.set j x) := by
  have := (h.own.stored j (.int .i64 x)).1
  refine ⟨?_⟩
  rw [List.length_set, List.map_set]
  exact this
theorem OwnI.cellAt {w : World} {base g : Nat} {c : Nat} {xs : List Int} (h : OwnI w base (some ⟨g, 0, none⟩) c xs) {j : Nat} {x : Int} (hj : xs[j]? = some x) : w.cell? ⟨g, j, none⟩ = some (.int .i64 x) := by
  rw [h.own.cellAt j (by have := (List.getElem?_eq_some_iff.1 hj).1; omega), List.getElem?_map, hj]
  rfl

theorem OwnO.row {w : World} {base g : Nat} {c : Nat} {os : List Od} (h : OwnO w base (some ⟨g, 0, none⟩) c os) :
    ∃ (cap : Nat) (f : Nat → Value), w.rowIs g 36 (cap * 2) f ∧ os.length ≤ cap ∧ cap ≤ maxLen ∧ c = cap ∧ base ≤ g := by
  rcases h.own.2 with ⟨h1, _⟩ | ⟨g', cap, cur, hv, hg, hh, hn, hm, hs, _⟩
  · injection h1 with h1
    cases h1
  · injection hv with hv _ hc
    obtain rfl : g = g' := by simpa using hv
    refine ⟨cap, fun i => (cur[i]?).getD undef, ⟨cur, hh, by simpa using hs, fun i hi => ?_⟩, hn, hm, hc, hg⟩
    have : i < cur.size := by rw [hs]; omega
    show _ = some ((cur[i]?).getD undef)
    rw [Array.getElem?_eq_getElem this]; rfl

theorem OwnO.of_row {w : World} {base g cap : Nat} {f : Nat → Value} {os : List Od} (h : w.rowIs g 36 (cap * 2) f) (hl : os.length ≤ cap) (hm : cap ≤ maxLen) (hb : base ≤ g) (hf : ∀ i, i < os.length * 2 → (opVals os)[i]? = some (f i)) :
    OwnO w base (some ⟨g, 0, none⟩) cap os := by
  obtain ⟨cur, hh, hs, hc⟩ := h
  refine ⟨⟨opVals_len os, .inr ⟨g, cap, cur, rfl, hb, hh, hl, hm, by simpa using hs, ?_⟩⟩⟩
  apply List.ext_getElem?
  intro i
  rw [List.getElem?_take]
  by_cases hi : i < os.length * 2
  · rw [if_pos hi, Array.getElem?_toList, hc i (by omega), hf i hi]
  · rw [if_neg hi, List.getElem?_eq_none (by rw [opVals_len]; omega)]

theorem vals_one (o : Od) : ∀ u ∈ [Value.int .i64 o.code, Value.int .i64 o.arg], u.oneCell' = true := by
  intro u hu
  simp at hu
  rcases hu with rfl | rfl <;> rfl

/-- append(s, o) of one order, which lies in a block of its own -/
theorem append_op {w : World} {ops : Array Oper} {rest : List Oper} {o : Oper} {a : Act} {Q : Exit → Act → World → Prop} (hgd : o.guard = none) (s x : Operand)
    (ho : o.op = .call { callee := .builtin .append, args := #[s, x], argTypes := #[23, 23] })
    (base : Nat) (A : Option Addr) (c : Nat) (os : List Od) (hs : a.eval s = .slice A os.length c) (hown : OwnO w base A c os)
    (b : Nat) (d : Od) (t : TypeId) (hx : a.eval x = .slice (some ⟨b, 0, none⟩) 1 1) (hr : Lies w b #[.int .i64 d.code, .int .i64 d.arg] t)
    (hsum : os.length + 1 ≤ 16777216) (hbase : base ≤ w.heap.size)
    (h : ∀ (zs : List Od) (A' : Option Addr) (c' : Nat) (w' : World), Hid (zs = os ++ [d]) → OwnO w' base A' c' zs → w.grownBy w' (blockOf A) → (blockOf A' = blockOf A ∨ blockOf A' = some w.heap.size) →
      wpList Tryd.prog ops Q rest (a.put o.dst (.slice A' zs.length c')) w') : wpList Tryd.prog ops Q (o :: rest) a w := by
  obtain ⟨i0, hi, hz0, hz1, hz2⟩ := info_parts infoOp
  refine wpList_append_own_at w hgd s x 23 ho base 36 i0 _ 2 16 Tryd.underlying23 hi hz0 hz1 hz2 rfl (by omega) _ _ _ hs hown.own ⟨b, 0, none⟩ 1 1 [.int .i64 d.code, .int .i64 d.arg] hx (by simp) (World.news_of_block hr) (vals_one d)
    (by unfold maxLen; omega) (by omega) hbase ?_
  intro v' w' h2 h3 _ h5
  have hlen : os.length + 1 = (os ++ [d]).length := by simp
  rw [ownBlock_slice] at h3 h5
  rw [← opVals_snoc, hlen] at h2
  rcases h2.2 with ⟨_, h6⟩ | ⟨g, cap, cur, rfl, _⟩
  · simp at h6
  · exact h (os ++ [d]) _ _ w' (by simp [Hid]) ⟨h2⟩ h3 (by simpa [ownBlock_slice] using h5)

/-- a call that hands back a slice of orders of its own that reads os, and leaves old memory as it was -/
def GivesOps (w : World) (os : List Od) (e : Ending) (w' : World) : Prop := ∃ A c, e = .returned (.slice A os.length c) ∧ OwnO w' w.heap.size A c os ∧ Below w.heap.size w w'

end Go.Proofs.YtckodifdbephgabDoor

namespace Go.Proofs.YtckodifdbephgabDoor
open Go.RowKit
set_option linter.unusedVariables false

theorem opVals_one (os : List Od) : ∀ u ∈ opVals os, u.oneCell' = true := by
  intro u hu
  obtain ⟨o, _, hu⟩ := List.mem_flatMap.1 hu
  simp at hu
  rcases hu with rfl | rfl <;> rfl

theorem opVals_append (os ps : List Od) : opVals (os ++ ps) = opVals os ++ opVals ps := by simp [opVals]

theorem OpsAt.vals {w : World} {B b off : Nat} {os : List Od} (h : OpsAt w B (some ⟨b, off, none⟩) os) : ∀ j u, (opVals os)[j]? = some u → w.cell? ⟨b, off + j, none⟩ = some u := by
  intro j u hu
  have hj : j < os.length * 2 := by have := (List.getElem?_eq_some_iff.1 hu).1; rwa [opVals_len] at this
  have hk : j / 2 < os.length := by omega
  obtain ⟨b', off', o, e, _, ho, _, hc0, hc1⟩ := h.at_ hk
  injection e with e
  injection e with e1 e2
  subst e1 e2
  rcases Nat.mod_two_eq_zero_or_one j with hm | hm
  · have ej : j = j / 2 * 2 := by omega
    have := opVals_code ho
    rw [← ej] at this hc0
    rw [this] at hu
    injection hu with hu
    rw [← hu]
    exact hc0
  · have ej : j = j / 2 * 2 + 1 := by omega
    have := opVals_arg ho
    rw [← ej] at this
    rw [Nat.add_assoc, ← ej] at hc1
    rw [this] at hu
    injection hu with hu
    rw [← hu]
    exact hc1

/-- append(s, t...) where s is the call's own and t is any slice of orders that reads as ys -/
theorem append_ops {w : World} {ops : Array Oper} {rest : List Oper} {o : Oper} {a : Act} {Q : Exit → Act → World → Prop} (hgd : o.guard = none) (s x : Operand)
    (ho : o.op = .call { callee := .builtin .append, args := #[s, x], argTypes := #[23, 23] })
    (base : Nat) (A : Option Addr) (c : Nat) (xs : List Od) (hs : a.eval s = .slice A xs.length c) (hown : OwnO w base A c xs)
    (B : Nat) (A2 : Option Addr) (c2 : Nat) (ys : List Od) (hx : a.eval x = .slice A2 ys.length c2) (hnil : A2 = none → c2 = 0) (hr : OpsAt w B A2 ys)
    (hsum : xs.length + ys.length ≤ 8388608) (hbase : base ≤ w.heap.size)
    (h : ∀ (zs : List Od) (A' : Option Addr) (c' : Nat) (w' : World), Hid (zs = xs ++ ys) → OwnO w' base A' c' zs → w.grownBy w' (blockOf A) → (blockOf A' = blockOf A ∨ blockOf A' = some w.heap.size) →
      wpList Tryd.prog ops Q rest (a.put o.dst (.slice A' zs.length c')) w') : wpList Tryd.prog ops Q (o :: rest) a w := by
  obtain ⟨i0, hi, hz0, hz1, hz2⟩ := info_parts infoOp
  have hempty : A2 = none → ys = [] := by
    intro e
    cases ys with
    | nil => rfl
    | cons y ys =>
      obtain ⟨b, off, e2, _⟩ := hr.row (by simp)
      rw [e] at e2; cases e2
  rcases A2 with _ | ad
  · obtain rfl := hnil rfl
    obtain rfl := hempty rfl
    exact wpList_append_own_none hgd s x 23 ho base 36 i0 2 Tryd.underlying23 hi _ _ _ hs hown.own hx
      (h xs A c w (by simp [Hid]) hown (World.grownBy.refl w _) (.inl rfl))
  · have hcells : ∀ j u, (opVals ys)[j]? = some u → w.cell? (ad.add j) = some u := by
      intro j u hu
      have hy : ys ≠ [] := by intro e; subst e; simp [opVals] at hu
      obtain ⟨b, off, e2, _⟩ := hr.row hy
      obtain rfl : ad = ⟨b, off, none⟩ := Option.some.inj e2
      have hadd : (⟨b, off, none⟩ : Addr).add j = ⟨b, off + j, none⟩ := by
        unfold Addr.add
        split
        · rename_i h0; subst h0; rfl
        · rfl
      rw [hadd]
      exact hr.vals j u hu
    refine wpList_append_own_at w hgd s x 23 ho base 36 i0 _ 2 16 Tryd.underlying23 hi hz0 hz1 hz2 rfl (by omega) _ _ _ hs hown.own ad ys.length c2 (opVals ys) hx (by rw [opVals_len]) hcells (opVals_one ys)
      (by unfold maxLen; omega) (by omega) hbase ?_
    intro v' w' h2 h3 _ h5
    have hlen : xs.length + ys.length = (xs ++ ys).length := by simp
    rw [ownBlock_slice] at h3 h5
    rw [← opVals_append, hlen] at h2
    rcases h2.2 with ⟨rfl, h6⟩ | ⟨g, cap, cur, rfl, _⟩
    · have hzs : xs ++ ys = [] := List.eq_nil_of_length_eq_zero h6
      have := h (xs ++ ys) none 0 w' (by simp [Hid]) ⟨by rw [h6] at h2 ⊢; exact h2⟩ h3 (by simpa [blockOf, Value.ownBlock] using h5)
      rw [h6] at this
      exact this
    · exact h (xs ++ ys) _ _ w' (by simp [Hid]) ⟨h2⟩ h3 (by simpa [ownBlock_slice] using h5)

theorem OpsAt.upto {w : World} {B : Nat} {A : Option Addr} {os : List Od} (h : OpsAt w B A os) (n : Nat) : OpsAt w B A (os.take n) := by
  refine ⟨fun hx => ?_, fun x hx => h.wf x (List.mem_of_mem_take hx), Nat.le_trans (by simp; omega) h.len⟩
  obtain ⟨b, off, e, hlt, hc⟩ := h.row (by intro e; subst e; simp at hx)
  refine ⟨b, off, e, hlt, fun j x hj => hc j x ?_⟩
  rw [List.getElem?_take] at hj
  split at hj
  · exact hj
  · cases hj

end Go.Proofs.YtckodifdbephgabDoor

namespace Go.Proofs.YtckodifdbephgabDoor
open Go.RowKit
set_option linter.unusedVariables false

/-- the one order that the translation lays for emit(ops, o) -/
theorem OpsAt.one {w : World} {b : Nat} {o : Od} {t : TypeId} (h : Lies w b #[.int .i64 o.code, .int .i64 o.arg] t) (h64 : In64 o.code ∧ In64 o.arg) : OpsAt w w.heap.size (some ⟨b, 0, none⟩) [o] := by
  have c0 := h.cell 0
  have c1 := h.cell 1
  simp only [List.getElem?_toArray, List.getElem?_cons_zero, List.getElem?_cons_succ] at c0 c1
  refine ⟨fun _ => ⟨b, 0, rfl, h.lt, fun j x hj => ?_⟩, fun x hx => ?_, by simp⟩
  · match j, hj with
    | 0, hj =>
      simp at hj
      subst hj
      exact ⟨c0, c1⟩
  · rw [List.mem_singleton.1 hx]
    exact h64

set_option maxHeartbeats 1000000 in
theorem emit_any (A : Option Addr) (os : List Od) (c : Nat) (B : Option Addr) (ps : List Od) (d : Nat) (w : World) (h : OpsAt w w.heap.size A os) (hn : A = none → c = 0) (h2 : OpsAt w w.heap.size B ps) (hn2 : B = none → d = 0) (hl : os.length + ps.length ≤ 8000000) :
    Calls Tryd.prog 29 #[.slice A os.length c, .slice B ps.length d] w (GivesOps w (os ++ ps)) := by
  have Hn := hide hn
  have Hn2 := hide hn2
  have HE := hide (OwnO.bare w)
  have HB := hide ((Below.refl w.heap.size w).alloc (Nat.le_refl _) (.cells #[] 36))
  clear hn hn2
  go_enter Tryd.func29, Tryd.ntmps29
  go_wp2_with (at_builtin; first
    | (refine append_ops rfl (.tmp 5) (.tmp 6) rfl w.heap.size _ 0 [] rfl HE.out w.heap.size A c os rfl Hn.out (h.below HB.out) (by simp; omega) HB.out.size ?_; intro zs A5 c5 w6 e5 own5 hg5 _; have HB6 := hide (below_grown HB.out hg5 HB.out.size (fun q hq => (HE.out.blocks q hq).1)); have HO6 := hide own5; have hz6 : zs.length = os.length := (by rw [e5.out, List.nil_append]); have hz7 : zs.length ≤ os.length := (by omega); clear own5 hg5 hz6)
    | (refine append_ops rfl (.tmp 7) (.tmp 8) rfl w.heap.size A5 c5 zs rfl HO6.out w.heap.size B d ps rfl Hn2.out (h2.below HB6.out) (by omega) HB6.out.size ?_; intro ys A7 c7 w8 e7 own7 hg7 _; have HB8 := hide (below_grown HB6.out hg7 HB6.out.size (fun q hq => (HO6.out.blocks q hq).1)); have HO8 := hide own7; clear own7 hg7))
  go_ret
  have e8 : ys = os ++ ps := by rw [e7.out, e5.out, List.nil_append]
  subst e8
  exact ⟨A7, c7, rfl, HO8.out, HB8.out⟩

end Go.Proofs.YtckodifdbephgabDoor

namespace Go.Proofs.YtckodifdbephgabDoor
open Go.RowKit

theorem infoBo : (Tryd.prog.info? 4).map (fun i => (i.zero, i.size, i.bytes)) = some (some (.bool false), 1, 1) := by kernel_rfl


/-- a slice at A has the truth values xs for its elements, in a block below B -/
structure BoolsAt (w : World) (B : Nat) (A : Option Addr) (xs : List Bool) : Prop where
  row : xs ≠ [] → ∃ b off, A = some ⟨b, off, none⟩ ∧ b < B ∧ ∀ j x, xs[j]? = some x → w.cell? ⟨b, off + j, none⟩ = some (.bool x)
  len : xs.length ≤ 9223372036854775807

theorem BoolsAt.below {w w' : World} {B : Nat} {A : Option Addr} {xs : List Bool} (h : BoolsAt w B A xs) (hb : Below B w w') : BoolsAt w' B A xs :=
  ⟨fun hx => by
    obtain ⟨b, off, e, hlt, hc⟩ := h.row hx
    exact ⟨b, off, e, hlt, fun j x hj => (hb.cell hlt).trans (hc j x hj)⟩, h.len⟩

theorem BoolsAt.more {w : World} {B B' : Nat} {A : Option Addr} {xs : List Bool} (h : BoolsAt w B A xs) (hB : B ≤ B') : BoolsAt w B' A xs :=
  ⟨fun hx => by
    obtain ⟨b, off, e, hlt, hc⟩ := h.row hx
    exact ⟨b, off, e, Nat.lt_of_lt_of_le hlt hB, hc⟩, h.len⟩

theorem BoolsAt.later {w w' : World} {B : Nat} {A : Option Addr} {xs : List Bool} (h : BoolsAt w B A xs) (hb : Below B w w') (hB : B ≤ w.heap.size) : BoolsAt w' w'.heap.size A xs :=
  (h.below hb).more (Nat.le_trans hB hb.size)

theorem BoolsAt.at_ {w : World} {B : Nat} {A : Option Addr} {xs : List Bool} (h : BoolsAt w B A xs) {k : Nat} (hk : k < xs.length) :
    ∃ b off x, A = some ⟨b, off, none⟩ ∧ b < B ∧ xs[k]? = some x ∧ x ∈ xs ∧ w.cell? ⟨b, off + k, none⟩ = some (.bool x) := by
  obtain ⟨b, off, e, hlt, hc⟩ := h.row (by intro e; subst e; simp at hk)
  have hat : xs[k]? = some xs[k] := List.getElem?_eq_getElem hk
  exact ⟨b, off, xs[k], e, hlt, hat, List.getElem_mem hk, hc k _ hat⟩

/-- the slice value (A, length of xs, c) owns the numbers xs in a row from block base on -/
structure OwnB (w : World) (base : Nat) (A : Option Addr) (c : Nat) (xs : List Bool) : Prop where
  own : w.ownsRow base 4 1 (.slice A xs.length c) xs.length (xs.map (Value.bool))

theorem OwnB.empty (w : World) (base : Nat) : OwnB w base none 0 [] := ⟨World.ownsRow_nil _ _ _ _⟩

theorem OwnB.form {w : World} {base : Nat} {A : Option Addr} {c : Nat} {xs : List Bool} (h : OwnB w base A c xs) :
    (A = none ∧ c = 0 ∧ xs = []) ∨ ∃ g, A = some ⟨g, 0, none⟩ ∧ base ≤ g ∧ g < w.heap.size := by
  rcases h.own.2 with ⟨h1, h2⟩ | ⟨g, cap, cur, hv, hg, hh, _⟩
  · injection h1 with h1 _ h3
    exact .inl ⟨h1, h3, List.eq_nil_of_length_eq_zero h2⟩
  · injection hv with hv
    exact .inr ⟨g, hv, hg, lt_of_block hh⟩

theorem OwnB.nil {w : World} {base : Nat} {A : Option Addr} {c : Nat} {xs : List Bool} (h : OwnB w base A c xs) : A = none → c = 0 := by
  intro e
  rcases h.form with ⟨_, h2, _⟩ | ⟨g, h2, _⟩
  · exact h2
  · rw [e] at h2; cases h2

theorem OwnB.bools {w : World} {base : Nat} {A : Option Addr} {c : Nat} {xs : List Bool} (h : OwnB w base A c xs) (hl : xs.length ≤ 9223372036854775807) : BoolsAt w w.heap.size A xs := by
  refine ⟨fun hx => ?_, hl⟩
  rcases h.form with ⟨_, _, h2⟩ | ⟨g, rfl, _, hlt⟩
  · exact absurd h2 hx
  · refine ⟨g, 0, rfl, hlt, fun j x hj => ?_⟩
    have hjl : j < xs.length := (List.getElem?_eq_some_iff.1 hj).1
    have := h.own.cellAt j (by omega)
    rw [Nat.zero_add, this, List.getElem?_map, hj]
    rfl

theorem OwnB.blocks {w : World} {base : Nat} {A : Option Addr} {c : Nat} {xs : List Bool} (h : OwnB w base A c xs) : ∀ k, blockOf A = some k → base ≤ k ∧ k < w.heap.size := by
  intro k hk
  rcases h.form with ⟨rfl, _, _⟩ | ⟨g, rfl, h1, h2⟩
  · cases hk
  · simp [blockOf] at hk
    omega

theorem OwnB.alloc {w : World} {base : Nat} {A : Option Addr} {c : Nat} {xs : List Bool} (h : OwnB w base A c xs) (o : Obj) : OwnB (w.alloc o) base A c xs := ⟨h.own.alloc o⟩

theorem OwnB.drew {w : World} {base : Nat} {A : Option Addr} {c : Nat} {xs : List Bool} (h : OwnB w base A c xs) : OwnB w.drew base A c xs := ⟨h.own⟩

theorem OwnB.kept {w w' : World} {base : Nat} {A : Option Addr} {c : Nat} {xs : List Bool} {row : Option Nat} (h : OwnB w base A c xs) (hg : w.grownBy w' row) (hne : blockOf A = none ∨ blockOf A ≠ row) : OwnB w' base A c xs :=
  ⟨h.own.kept hg (by rw [ownBlock_slice]; exact hne)⟩

theorem OwnB.below {w w' : World} {base : Nat} {A : Option Addr} {c : Nat} {xs : List Bool} (h : OwnB w base A c xs) (hb : Below w.heap.size w w') : OwnB w' base A c xs :=
  h.kept (grownBy_of_below hb) (by cases hA : blockOf A <;> simp)

theorem OwnB.mono {w : World} {base base' : Nat} {A : Option Addr} {c : Nat} {xs : List Bool} (h : OwnB w base A c xs) (hb : base' ≤ base) : OwnB w base' A c xs := by
  refine ⟨h.own.1, ?_⟩
  rcases h.own.2 with h2 | ⟨g, cap, cur, hv, hg, r⟩
  · exact .inl h2
  · exact .inr ⟨g, cap, cur, hv, Nat.le_trans hb hg, r⟩

theorem bools_one (xs : List Bool) : ∀ u ∈ xs.map (Value.bool), u.oneCell' = true := by
  intro u hu
  obtain ⟨x, _, rfl⟩ := List.mem_map.1 hu
  rfl

/-- append(s, t...) where s is the call's own and t is any int slice that reads as ys -/
theorem append_bools {w : World} {ops : Array Oper} {rest : List Oper} {o : Oper} {a : Act} {Q : Exit → Act → World → Prop} (hgd : o.guard = none) (s x : Operand)
    (ho : o.op = .call { callee := .builtin .append, args := #[s, x], argTypes := #[51, 51] })
    (base : Nat) (A : Option Addr) (c : Nat) (xs : List Bool) (hs : a.eval s = .slice A xs.length c) (hown : OwnB w base A c xs)
    (B : Nat) (A2 : Option Addr) (c2 : Nat) (ys : List Bool) (hx : a.eval x = .slice A2 ys.length c2) (hnil : A2 = none → c2 = 0) (hr : BoolsAt w B A2 ys)
    (hsum : xs.length + ys.length ≤ 16777216) (hbase : base ≤ w.heap.size)
    (h : ∀ (zs : List Bool) (A' : Option Addr) (c' : Nat) (w' : World), Hid (zs = xs ++ ys) → OwnB w' base A' c' zs → w.grownBy w' (blockOf A) → (blockOf A' = blockOf A ∨ blockOf A' = some w.heap.size) →
      wpList Tryd.prog ops Q rest (a.put o.dst (.slice A' zs.length c')) w') : wpList Tryd.prog ops Q (o :: rest) a w := by
  obtain ⟨i0, hi, hz0, hz1, hz2⟩ := info_parts infoBo
  have hempty : A2 = none → ys = [] := by
    intro e
    cases ys with
    | nil => rfl
    | cons y ys =>
      obtain ⟨b, off, e2, _⟩ := hr.row (by simp)
      rw [e] at e2; cases e2
  rcases A2 with _ | ad
  · obtain rfl := hnil rfl
    obtain rfl := hempty rfl
    exact wpList_append_own_none hgd s x 51 ho base 4 i0 1 Tryd.underlying51 hi _ _ _ hs hown.own hx
      (h xs A c w (by simp [Hid]) hown (World.grownBy.refl w _) (.inl rfl))
  · have hcells : ∀ j u, (ys.map (Value.bool))[j]? = some u → w.cell? (ad.add j) = some u := by
      intro j u hu
      rw [List.getElem?_map] at hu
      cases hy : ys[j]? with
      | none => rw [hy] at hu; cases hu
      | some y =>
        rw [hy] at hu
        simp at hu
        subst hu
        obtain ⟨b, off, e2, _, hc⟩ := hr.row (by intro e; subst e; simp at hy)
        obtain rfl : ad = ⟨b, off, none⟩ := Option.some.inj e2
        have hadd : (⟨b, off, none⟩ : Addr).add j = ⟨b, off + j, none⟩ := by
          unfold Addr.add
          split
          · rename_i h0; subst h0; rfl
          · rfl
        rw [hadd]
        exact hc j y hy
    refine wpList_append_own_at w hgd s x 51 ho base 4 i0 _ 1 1 Tryd.underlying51 hi hz0 hz1 hz2 rfl (by omega) _ _ _ hs hown.own ad ys.length c2 (ys.map (Value.bool)) hx (by simp) hcells (bools_one ys)
      (by unfold maxLen; omega) (by omega) hbase ?_
    intro v' w' h2 h3 _ h5
    have hlen : xs.length + ys.length = (xs ++ ys).length := by simp
    rw [ownBlock_slice] at h3 h5
    rw [← List.map_append, hlen] at h2
    rcases h2.2 with ⟨rfl, h6⟩ | ⟨g, cap, cur, rfl, _⟩
    · have hzs : xs ++ ys = [] := List.eq_nil_of_length_eq_zero h6
      have := h (xs ++ ys) none 0 w' (by simp [Hid]) ⟨by rw [h6] at h2 ⊢; exact h2⟩ h3 (by simpa [blockOf, Value.ownBlock] using h5)
      rw [h6] at this
      exact this
    · exact h (xs ++ ys) _ _ w' (by simp [Hid]) ⟨h2⟩ h3 (by simpa [ownBlock_slice] using h5)

/-- the one-element slice that the translation lays for append(s, x) -/
theorem BoolsAt.one (w : World) (x : Bool) : BoolsAt (w.alloc (.cells #[.bool x] 4)) (w.heap.size + 1) (some ⟨w.heap.size, 0, none⟩) [x] := by
  refine ⟨fun _ => ⟨w.heap.size, 0, rfl, Nat.lt_succ_self _, fun j y hj => ?_⟩, by simp⟩
  match j, hj with
  | 0, hj =>
    simp at hj
    subst hj
    simp

theorem OwnB.bare (w : World) : OwnB (w.alloc (.cells #[] 4)) w.heap.size (some ⟨w.heap.size, 0, none⟩) 0 [] :=
  ⟨World.ownsRow_lit w #[] 0 (Nat.le_refl _) (by unfold maxLen; omega) rfl⟩

/-- a call that hands back an int slice of its own with the numbers xs, and leaves old memory as it was -/
def GivesBools (w : World) (xs : List Bool) (e : Ending) (w' : World) : Prop := ∃ A c, e = .returned (.slice A xs.length c) ∧ OwnB w' w.heap.size A c xs ∧ Below w.heap.size w w'

/-- append(s, t...) in a statement that draws its order, where s is the call's own -/
theorem step_append_bools {w : World} {ops : Array Oper} {o : Oper} {a : Act} {K : Act → World → Prop} {Q : Exit → Act → World → Prop} {E : Prop} (hgd : o.guard = none) (s x : Operand)
    (ho : o.op = .call { callee := .builtin .append, args := #[s, x], argTypes := #[51, 51] })
    (base : Nat) (A : Option Addr) (c : Nat) (xs : List Bool) (hs : a.eval s = .slice A xs.length c) (hown : OwnB w base A c xs)
    (B : Nat) (A2 : Option Addr) (c2 : Nat) (ys : List Bool) (hx : a.eval x = .slice A2 ys.length c2) (hnil : A2 = none → c2 = 0) (hr : BoolsAt w B A2 ys)
    (hsum : xs.length + ys.length ≤ 16777216) (hbase : base ≤ w.heap.size)
    (h : ∀ (zs : List Bool) (A' : Option Addr) (c' : Nat) (w' : World), Hid (zs = xs ++ ys) → OwnB w' base A' c' zs → w.grownBy w' (blockOf A) → (blockOf A' = blockOf A ∨ blockOf A' = some w.heap.size) →
      K (a.put o.dst (.slice A' zs.length c')) w') :
    if Region.wanted o (yielded ops a.tmps) = true then Oper.wp Tryd.prog o a w K Q else E := by
  have hw : Region.wanted o (yielded ops a.tmps) = true := by simp [Region.wanted, hgd]
  rw [if_pos hw]
  obtain ⟨i0, hi, hz0, hz1, hz2⟩ := info_parts infoBo
  have hempty : A2 = none → ys = [] := by
    intro e
    cases ys with
    | nil => rfl
    | cons y ys =>
      obtain ⟨b, off, e2, _⟩ := hr.row (by simp)
      rw [e] at e2; cases e2
  rcases A2 with _ | ad
  · obtain rfl := hnil rfl
    obtain rfl := hempty rfl
    have hrun := run_append_owned_none (P := Tryd.prog) (w := w) base 51 o.type 4 i0 1 Tryd.underlying51 hi _ _ _ hown.own
    unfold Oper.wp
    simp only [List.length_nil] at hx
    simp [execOp, ho, resolve, invoke, builtin, hs, hx, hrun, Result.andThen]
    exact h xs A c w (by simp [Hid]) hown (World.grownBy.refl w _) (.inl rfl)
  · have hcells : ∀ j u, (ys.map (Value.bool))[j]? = some u → w.cell? (ad.add j) = some u := by
      intro j u hu
      rw [List.getElem?_map] at hu
      cases hy : ys[j]? with
      | none => rw [hy] at hu; cases hu
      | some y =>
        rw [hy] at hu
        simp at hu
        subst hu
        obtain ⟨b, off, e2, _, hc⟩ := hr.row (by intro e; subst e; simp at hy)
        obtain rfl : ad = ⟨b, off, none⟩ := Option.some.inj e2
        have hadd : (⟨b, off, none⟩ : Addr).add j = ⟨b, off + j, none⟩ := by
          unfold Addr.add
          split
          · rename_i h0; subst h0; rfl
          · rfl
        rw [hadd]
        exact hc j y hy
    obtain ⟨v', w', hrun, h2, h3, _, h5⟩ := run_append_own_at (P := Tryd.prog) w base 51 o.type 4 i0 _ 1 1 Tryd.underlying51 hi hz0 hz1 hz2 rfl (by omega) _ _ _ hown.own ad ys.length c2 (ys.map (Value.bool)) (by simp) hcells (bools_one ys)
      (by unfold maxLen; omega) (by omega) hbase
    unfold Oper.wp execOp
    simp only [ho, resolve, invoke, builtin, Sem.run_bind, Sem.run_pure, Result.andThen_ok, List.map_toArray, List.map_cons, List.map_nil, hs, hx, hrun]
    have hlen : xs.length + ys.length = (xs ++ ys).length := by simp
    rw [ownBlock_slice] at h3 h5
    rw [← List.map_append, hlen] at h2
    rcases h2.2 with ⟨rfl, h6⟩ | ⟨g, cap, cur, rfl, _⟩
    · have hzs : xs ++ ys = [] := List.eq_nil_of_length_eq_zero h6
      have := h (xs ++ ys) none 0 w' (by simp [Hid]) ⟨by rw [h6] at h2 ⊢; exact h2⟩ h3 (by simpa [blockOf, Value.ownBlock] using h5)
      rw [h6] at this
      exact this
    · exact h (xs ++ ys) _ _ w' (by simp [Hid]) ⟨h2⟩ h3 (by simpa [ownBlock_slice] using h5)

theorem OwnB.ofB {w w' : World} {base : Nat} {A : Option Addr} {c : Nat} {xs : List Bool} (h : OwnB w base A c xs) (hA : ∀ g, blockOf A = some g → w'.heap[g]? = w.heap[g]?) : OwnB w' base A c xs := by
  refine ⟨h.own.1, ?_⟩
  rcases h.own.2 with h2 | ⟨g, cap, cur, hv, hg, hh, r⟩
  · exact .inl h2
  · refine .inr ⟨g, cap, cur, hv, hg, ?_, r⟩
    rw [hA g (by injection hv with hv; rw [hv]; rfl)]
    exact hh

theorem OwnI.ofB {w w' : World} {base : Nat} {A : Option Addr} {c : Nat} {xs : List Int} (h : OwnI w base A c xs) (hA : ∀ g, blockOf A = some g → w'.heap[g]? = w.heap[g]?) : OwnI w' base A c xs := by
  refine ⟨h.own.1, ?_⟩
  rcases h.own.2 with h2 | ⟨g, cap, cur, hv, hg, hh, r⟩
  · exact .inl h2
  · refine .inr ⟨g, cap, cur, hv, hg, ?_, r⟩
    rw [hA g (by injection hv with hv; rw [hv]; rfl)]
    exact hh

/-- a store into an own slice -/
theorem OwnB.setAt {w : World} {base g : Nat} {c : Nat} {xs : List Bool} (h : OwnB w base (some ⟨g, 0, none⟩) c xs) (j : Nat) (x : Bool) :
    OwnB (w.setCell ⟨g, j, none⟩ (.bool x)) base (some ⟨g, 0, none⟩) c (xs.set j x) := by
  have := (h.own.stored j (.bool x)).1
  refine ⟨?_⟩
  rw [List.length_set, List.map_set]
  exact this
theorem OwnI.setAt {w : World} {base g : Nat} {c : Nat} {xs : List Int} (h : OwnI w base (some ⟨g, 0, none⟩) c xs) (j : Nat) (x : Int) :
    OwnI (w.setCell ⟨g, j, none⟩ (.int .i64 x)) base (some ⟨g, 0, none⟩) c (xs.set j x) := by
  have := (h.own.stored j (.int .i64 x)).1
  refine ⟨?_⟩
  rw [List.length_set, List.map_set]
  exact this

/-- the first of its elements, with the same room behind them -/
theorem OwnI.cutAt {w : World} {base : Nat} {A : Option Addr} {c : Nat} {xs : List Int} (h : OwnI w base A c xs) {k : Nat} (hk : k ≤ xs.length) : OwnI w base A c (xs.take k) := by
  have hl : (xs.take k).length = k := by simp; omega
  obtain ⟨h1, h2⟩ := h.own
  refine ⟨⟨by simp, ?_⟩⟩
  rcases h2 with ⟨h3, h4⟩ | ⟨g, cap, cur, hv, hg, hh, hn, hm, hs, ht⟩
  · have : xs = [] := List.eq_nil_of_length_eq_zero h4
    subst this
    exact .inl ⟨by simpa using h3, by simp⟩
  · refine .inr ⟨g, cap, cur, ?_, hg, hh, by omega, hm, hs, ?_⟩
    · injection hv with e1 _ e3
      rw [e1, e3]
    · rw [hl]
      have := congrArg (fun l => l.take k) ht
      simp only [List.take_take, Nat.mul_one] at this
      rw [Nat.min_eq_left hk] at this
      rw [Nat.mul_one, this, List.map_take]

theorem OwnI.capLen {w : World} {base : Nat} {A : Option Addr} {c : Nat} {xs : List Int} (h : OwnI w base A c xs) : xs.length ≤ c := by
  rcases h.own with ⟨hl, hh⟩
  rcases hh with ⟨h1, h2⟩ | ⟨g, cap, cur, hv, hg, hh, hle, hm, hs, hx⟩
  · rw [h2]; exact Nat.zero_le _
  · injection hv with _ _ h3
    subst h3
    exact hle

end Go.Proofs.YtckodifdbephgabDoor

namespace Go.Proofs.YtckodifdbephgabDoor

/-- a valid order -/
def OdOk (o : Od) : Prop := (0 ≤ o.code ∧ o.code ≤ 19) ∧ ((argMost o.code < 0 ∧ o.arg = 0) ∨ (0 ≤ argMost o.code ∧ 0 ≤ o.arg ∧ o.arg ≤ argMost o.code))

/-- a valid program -/
def OpsOk (os : List Od) : Prop := os.length ≤ 300 ∧ ∀ o ∈ os, OdOk o

theorem OdOk.iff (o : Od) : OdOk o ↔ (0 ≤ o.code ∧ o.code ≤ 19) ∧ (0 ≤ o.arg ∧ o.arg ≤ argTop o.code) := by
  unfold OdOk argTop
  split <;> constructor <;> intro h <;> omega

end Go.Proofs.YtckodifdbephgabDoor

namespace Go.Proofs.YtckodifdbephgabDoor
set_option linter.unusedVariables false

/-- what is known of a machine -/
structure Shp where
  kinds : List Int
  full : List Bool
  stack : List Int
  memo : List Int
  done : Bool

namespace Shp
/-- an empty machine -/
def new : Shp := ⟨[], [], [], List.replicate 20 (-1), false⟩
/-- the zero value -/
def zero : Shp := ⟨[], [], [], [], false⟩
/-- a new thing of a kind on the stack -/
def push (s : Shp) (k : Int) : Shp := { s with kinds := s.kinds ++ [k], full := s.full ++ [false], stack := s.stack ++ [(s.kinds.length : Int)] }
/-- the first n things of the stack alone -/
def cutTo (s : Shp) (n : Nat) : Shp := { s with stack := s.stack.take n }
/-- the thing at a place from the top, -1 where there is none -/
def thing (s : Shp) (d : Nat) : Int := if d < s.stack.length then s.stack.getD (s.stack.length - 1 - d) 0 else -1
/-- its kind, -1 for a mark or nothing -/
def kindAt (s : Shp) (d : Nat) : Int := if s.thing d < 0 then -1 else s.kinds.getD (s.thing d).toNat 0
end Shp

theorem Shp.cutTo_all (s : Shp) : s.cutTo s.stack.length = s := by unfold Shp.cutTo; rw [List.take_length]

/-- how many of the first k things of a stack lie below the topmost of their marks, it included -/
def aboveTo (l : List Int) : Nat → Nat
  | 0 => 0
  | k + 1 => if l.getD k 0 < 0 then k + 1 else aboveTo l k
/-- where the things above the topmost mark begin, 0 where there is none -/
def above (l : List Int) : Nat := aboveTo l l.length

theorem aboveTo_le (l : List Int) (k : Nat) : aboveTo l k ≤ k := by
  induction k with
  | zero => exact Nat.le_refl _
  | succ k ih => unfold aboveTo; split <;> omega
theorem above_le (l : List Int) : above l ≤ l.length := aboveTo_le l _
theorem aboveTo_mark {l : List Int} {k a : Nat} (h : aboveTo l k = a + 1) : l.getD a 0 < 0 := by
  induction k with
  | zero => simp [aboveTo] at h
  | succ k ih =>
    unfold aboveTo at h
    split at h
    · next hm =>
      obtain rfl : k = a := by omega
      exact hm
    · exact ih h
theorem above_mark {l : List Int} {a : Nat} (h : above l = a + 1) : l.getD a 0 < 0 := aboveTo_mark h
theorem aboveTo_free {l : List Int} {k j : Nat} (h : aboveTo l k ≤ j) (hj : j < k) : 0 ≤ l.getD j 0 := by
  induction k with
  | zero => omega
  | succ k ih =>
    unfold aboveTo at h
    split at h
    · omega
    · next hm =>
      by_cases e : j = k
      · subst e; omega
      · exact ih h (by omega)
theorem above_free {l : List Int} {j : Nat} (h : above l ≤ j) (hj : j < l.length) : 0 ≤ l.getD j 0 := aboveTo_free h hj

/-- a kind that keys have -/
def KeyK (k : Int) : Prop := k = 0 ∨ k = 1
/-- all things at even places are keys -/
def KeysP (kinds list : List Int) : Prop := ∀ (i : Nat) (x : Int), i % 2 = 0 → list[i]? = some x → KeyK (kinds.getD x.toNat 0)

open Classical in
/-- after an order that takes all above the topmost mark -/
noncomputable def markStep (s : Shp) (c : Int) : Option Shp :=
  if above s.stack = 0 then none
  else if c = 3 then some ((s.cutTo (above s.stack - 1)).push 2)
  else if c = 9 then (if (s.cutTo (above s.stack - 1)).kindAt 0 = 3 then some (s.cutTo (above s.stack - 1)) else none)
  else if c = 12 then (if KeysP s.kinds (s.stack.drop (above s.stack)) ∧ (s.cutTo (above s.stack - 1)).kindAt 0 = 4 ∧ (s.stack.length - above s.stack) % 2 = 0 then some (s.cutTo (above s.stack - 1)) else none)
  else some (s.cutTo (above s.stack - 1))

open Classical in
/-- after an order that takes a number of things -/
noncomputable def takeStep (s : Shp) (o : Od) : Option Shp :=
  if s.kindAt 0 < 0 then none
  else if o.code = 5 then some ((s.cutTo (s.stack.length - 1)).push 2)
  else if o.code = 6 then (if s.kindAt 1 < 0 then none else some ((s.cutTo (s.stack.length - 2)).push 2))
  else if o.code = 8 then (if s.kindAt 1 = 3 then some (s.cutTo (s.stack.length - 1)) else none)
  else if o.code = 11 then (if KeyK (s.kindAt 1) ∧ s.kindAt 2 = 4 then some (s.cutTo (s.stack.length - 2)) else none)
  else if o.code = 14 then (if s.kindAt 1 = 5 ∧ s.full.getD (s.thing 1).toNat false = false then some { s.cutTo (s.stack.length - 1) with full := s.full.set (s.thing 1).toNat true } else none)
  else if o.code = 15 then some { s with memo := s.memo.set o.arg.toNat (s.thing 0) }
  else if o.code = 19 then (if s.stack.length = 1 then some { s with done := true } else none)
  else some (s.cutTo (s.stack.length - 1))

/-- the kind of what an order pushes without taking any, -1 where it does not -/
def newK (c : Int) : Int := if c = 0 then 0 else if c = 1 then 1 else if c = 4 then 2 else if c = 7 then 3 else if c = 10 then 4 else if c = 13 then 5 else -1

/-- orders that take all above a mark -/
def IsMarkOp (c : Int) : Prop := c = 3 ∨ c = 9 ∨ c = 12 ∨ c = 18

open Classical in
/-- after an order, with no heed to limits -/
noncomputable def stepFree (s : Shp) (o : Od) : Option Shp :=
  if s.done = true then none
  else if 0 ≤ newK o.code then some (s.push (newK o.code))
  else if o.code = 2 then some { s with stack := s.stack ++ [-1] }
  else if o.code = 16 then (if s.memo.getD o.arg.toNat 0 < 0 then none else some { s with stack := s.stack ++ [s.memo.getD o.arg.toNat 0] })
  else if IsMarkOp o.code then markStep s o.code
  else takeStep s o

def Shp.Fits (s : Shp) : Prop := s.kinds.length ≤ 300 ∧ s.stack.length ≤ 300

open Classical in
/-- after an order -/
noncomputable def stepShp (s : Shp) (o : Od) : Option Shp := (stepFree s o).filter fun t => decide t.Fits

/-- after as many orders as are possible, and how many these are -/
noncomputable def runShp (s : Shp) : List Od → Shp × Nat
  | [] => (s, 0)
  | o :: os => match stepShp s o with
    | none => (s, 0)
    | some t => ((runShp t os).1, (runShp t os).2 + 1)

/-- what machines are -/
structure Shp.Ok (s : Shp) : Prop where
  fl : s.full.length = s.kinds.length
  ml : s.memo.length = 20
  st : ∀ x ∈ s.stack, -1 ≤ x ∧ x < (s.kinds.length : Int)
  mm : ∀ x ∈ s.memo, -1 ≤ x ∧ x < (s.kinds.length : Int)
  kk : ∀ x ∈ s.kinds, 0 ≤ x ∧ x ≤ 5

theorem Shp.new_ok : Shp.new.Ok := by
  refine ⟨rfl, by simp [Shp.new], ?_, ?_, ?_⟩ <;> intro x hx <;> simp [Shp.new] at hx
  subst hx
  simp [Shp.new]

theorem Shp.Ok.push {s : Shp} (h : s.Ok) {k : Int} (hk : 0 ≤ k ∧ k ≤ 5) : (s.push k).Ok := by
  refine ⟨by simp [Shp.push, h.fl], h.ml, ?_, ?_, ?_⟩
  · intro x hx
    simp [Shp.push] at hx ⊢
    rcases hx with hx | rfl
    · have := h.st x hx; omega
    · omega
  · intro x hx
    have := h.mm x hx
    simp [Shp.push]
    omega
  · intro x hx
    simp [Shp.push] at hx
    rcases hx with hx | rfl
    · exact h.kk x hx
    · exact hk

theorem Shp.Ok.cut {s : Shp} (h : s.Ok) (n : Nat) : (s.cutTo n).Ok :=
  ⟨h.fl, h.ml, fun x hx => h.st x (List.mem_of_mem_take hx), h.mm, h.kk⟩

theorem Shp.Ok.snoc {s : Shp} (h : s.Ok) {x : Int} (hx : -1 ≤ x ∧ x < (s.kinds.length : Int)) : Shp.Ok { s with stack := s.stack ++ [x] } :=
  ⟨h.fl, h.ml, fun y hy => by
    simp at hy
    rcases hy with hy | rfl
    · exact h.st y hy
    · exact hx, h.mm, h.kk⟩

theorem getD_mem {α : Type} {l : List α} {k : Nat} {d : α} (h : k < l.length) : l.getD k d ∈ l := by
  rw [List.getD_eq_getElem?_getD, List.getElem?_eq_getElem h]
  exact List.getElem_mem h

theorem Shp.Ok.thing {s : Shp} (h : s.Ok) (d : Nat) : -1 ≤ s.thing d ∧ (s.thing d < (s.kinds.length : Int)) := by
  unfold Shp.thing
  split
  · exact h.st _ (getD_mem (by omega))
  · omega

theorem Shp.Ok.kindAt {s : Shp} (h : s.Ok) (d : Nat) : -1 ≤ s.kindAt d ∧ s.kindAt d ≤ 5 ∧ (s.kindAt d < 0 ↔ s.thing d < 0) := by
  unfold Shp.kindAt
  have ht := h.thing d
  split
  · next hl => exact ⟨by omega, by omega, by simp [hl]⟩
  · next hl =>
    have := h.kk _ (getD_mem (d := 0) (show (s.thing d).toNat < s.kinds.length by omega))
    exact ⟨by omega, by omega, by omega⟩

theorem Shp.kind_lt {s : Shp} {d : Nat} (h : ¬ s.kindAt d < 0) : d < s.stack.length := by
  unfold Shp.kindAt Shp.thing at h
  by_cases hd : d < s.stack.length
  · exact hd
  · rw [if_neg hd] at h
    simp at h

theorem newK_le (c : Int) : newK c ≤ 5 := by unfold newK; repeat' split
                                             all_goals omega

/-- what an order makes of a machine is one, and it has at most one thing and one node more -/
theorem stepFree_ok {s t : Shp} {o : Od} (h : s.Ok) (he : stepFree s o = some t) (ha : o.code = 16 → o.arg.toNat < 20) : t.Ok ∧ t.kinds.length ≤ s.kinds.length + 1 ∧ t.stack.length ≤ s.stack.length + 1 ∧ s.kinds.length ≤ t.kinds.length := by
  have hcl : ∀ n, (s.stack.take n).length ≤ s.stack.length := fun n => by simp; omega
  unfold stepFree at he
  split at he
  · cases he
  split at he
  · next h0 =>
    cases he
    exact ⟨h.push ⟨h0, newK_le _⟩, by simp [Shp.push], by simp [Shp.push], by simp [Shp.push]⟩
  split at he
  · cases he
    exact ⟨h.snoc ⟨by omega, by omega⟩, by simp, by simp, by simp⟩
  split at he
  · next h16 =>
    split at he
    · cases he
    · next hm =>
      cases he
      have := h.mm _ (getD_mem (d := 0) (show o.arg.toNat < s.memo.length by rw [h.ml]; exact ha h16))
      exact ⟨h.snoc ⟨by omega, by omega⟩, by simp, by simp, by simp⟩
  split at he
  · unfold markStep at he
    split at he
    · cases he
    have hc := h.cut (above s.stack - 1)
    have hl := hcl (above s.stack - 1)
    repeat' split at he
    all_goals first
      | (cases he; done)
      | (cases he; exact ⟨hc.push (by omega), by simp [Shp.push, Shp.cutTo], by simp [Shp.push, Shp.cutTo] <;> omega, by simp [Shp.push, Shp.cutTo]⟩)
      | (cases he; exact ⟨hc, by simp [Shp.cutTo], by simp [Shp.cutTo] <;> omega, by simp [Shp.cutTo]⟩)
  · unfold takeStep at he
    split at he
    · cases he
    next hk0 =>
    have hk := Shp.kind_lt hk0
    have hc := fun n => h.cut n
    repeat' split at he
    all_goals first
      | (cases he; done)
      | (cases he; exact ⟨(hc _).push (by omega), by simp [Shp.push, Shp.cutTo], by simp [Shp.push, Shp.cutTo] <;> omega, by simp [Shp.push, Shp.cutTo]⟩)
      | (cases he; exact ⟨hc _, by simp [Shp.cutTo], by simp [Shp.cutTo] <;> omega, by simp [Shp.cutTo]⟩)
      | (cases he; exact ⟨⟨by simp [Shp.cutTo, h.fl], h.ml, (hc _).st, h.mm, h.kk⟩, by simp [Shp.cutTo], by simp [Shp.cutTo] <;> omega, by simp [Shp.cutTo]⟩)
      | (cases he; exact ⟨⟨h.fl, h.ml, h.st, h.mm, h.kk⟩, by simp, by simp, by simp⟩)
      | (cases he
         refine ⟨⟨h.fl, by simp [h.ml], h.st, fun x hx => ?_, h.kk⟩, by simp, by simp, by simp⟩
         rcases List.mem_or_eq_of_mem_set hx with hx | rfl
         · exact h.mm x hx
         · have := h.thing 0; omega)

theorem stepShp_some {s t : Shp} {o : Od} (h : stepShp s o = some t) : stepFree s o = some t ∧ t.Fits := by
  unfold stepShp at h
  rw [Option.filter_eq_some_iff] at h
  exact ⟨h.1, by simpa using h.2⟩
theorem stepShp_of {s t : Shp} {o : Od} (h : stepFree s o = some t) (hf : t.Fits) : stepShp s o = some t := by
  unfold stepShp
  rw [Option.filter_eq_some_iff]
  exact ⟨h, by simpa using hf⟩
theorem stepShp_none {s : Shp} {o : Od} (h : stepFree s o = none) : stepShp s o = none := by
  unfold stepShp
  rw [h]
  rfl
theorem stepShp_wide {s t : Shp} {o : Od} (h : stepFree s o = some t) (hf : ¬ t.Fits) : stepShp s o = none := by
  unfold stepShp
  rw [h]
  simp [hf]
theorem stepShp_ok {s t : Shp} {o : Od} (h : s.Ok) (he : stepShp s o = some t) (ha : o.code = 16 → o.arg.toNat < 20) : t.Ok ∧ t.Fits := ⟨(stepFree_ok h (stepShp_some he).1 ha).1, (stepShp_some he).2⟩

theorem runShp_end (s : Shp) : runShp s [] = (s, 0) := rfl
theorem runShp_stop {s : Shp} {o : Od} {os : List Od} (h : stepShp s o = none) : runShp s (o :: os) = (s, 0) := by
  rw [runShp, h]
theorem runShp_go {s t : Shp} {o : Od} {os : List Od} (h : stepShp s o = some t) : runShp s (o :: os) = ((runShp t os).1, (runShp t os).2 + 1) := by
  rw [runShp, h]

theorem OdOk.get {o : Od} (h : OdOk o) : o.code = 16 → o.arg.toNat < 20 := by
  intro e
  have := h.2
  rw [e] at this
  simp [argMost] at this
  omega

theorem runShp_ok {s : Shp} {os : List Od} (h : s.Ok) (hf : s.Fits) (ho : ∀ o ∈ os, o.code = 16 → o.arg.toNat < 20) : (runShp s os).1.Ok ∧ (runShp s os).1.Fits ∧ (runShp s os).2 ≤ os.length := by
  induction os generalizing s with
  | nil => exact ⟨h, hf, Nat.le_refl _⟩
  | cons o os ih =>
    cases he : stepShp s o with
    | none => rw [runShp_stop he]; exact ⟨h, hf, Nat.zero_le _⟩
    | some t =>
      rw [runShp_go he]
      obtain ⟨h1, h2⟩ := stepShp_ok h he (ho o (by simp))
      obtain ⟨h3, h4, h5⟩ := ih h1 h2 (fun o ho2 => ho o (by simp [ho2]))
      exact ⟨h3, h4, by simp; omega⟩

end Go.Proofs.YtckodifdbephgabDoor

namespace Go.Proofs.YtckodifdbephgabDoor
open Go.RowKit
set_option linter.unusedVariables false

/-- where the parts of shapes lie -/
structure ShPtr where
  K : Option Addr
  c1 : Nat
  F : Option Addr
  c2 : Nat
  S : Option Addr
  c3 : Nat
  M : Option Addr
  c4 : Nat

def shCells (p : ShPtr) (s : Shp) : Array Value := #[.slice p.K s.kinds.length p.c1, .slice p.F s.full.length p.c2, .slice p.S s.stack.length p.c3, .slice p.M s.memo.length p.c4, .bool s.done]
def shVal (p : ShPtr) (s : Shp) : Value := .agg (shCells p s)

/-- the zero value's parts lie nowhere -/
def ShPtr.nil : ShPtr := ⟨none, 0, none, 0, none, 0, none, 0⟩

/-- shapes that can be read -/
structure ShAt (w : World) (B : Nat) (p : ShPtr) (s : Shp) : Prop where
  k : IntsAt w B p.K s.kinds
  kn : p.K = none → p.c1 = 0
  f : BoolsAt w B p.F s.full
  fn : p.F = none → p.c2 = 0
  t : IntsAt w B p.S s.stack
  tn : p.S = none → p.c3 = 0
  m : IntsAt w B p.M s.memo
  mn : p.M = none → p.c4 = 0

theorem ShAt.below {w w' : World} {B : Nat} {p : ShPtr} {s : Shp} (h : ShAt w B p s) (hb : Below B w w') : ShAt w' B p s := ⟨h.k.below hb, h.kn, h.f.below hb, h.fn, h.t.below hb, h.tn, h.m.below hb, h.mn⟩
theorem ShAt.more {w : World} {B B' : Nat} {p : ShPtr} {s : Shp} (h : ShAt w B p s) (hB : B ≤ B') : ShAt w B' p s := ⟨h.k.more hB, h.kn, h.f.more hB, h.fn, h.t.more hB, h.tn, h.m.more hB, h.mn⟩
theorem ShAt.later {w w' : World} {B : Nat} {p : ShPtr} {s : Shp} (h : ShAt w B p s) (hb : Below B w w') (hB : B ≤ w.heap.size) : ShAt w' w'.heap.size p s := (h.below hb).more (Nat.le_trans hB hb.size)

/-- none of the parts lies in a block -/
structure ShPtr.Off (p : ShPtr) (q : Nat) : Prop where
  k : blockOf p.K ≠ some q
  f : blockOf p.F ≠ some q
  t : blockOf p.S ≠ some q
  m : blockOf p.M ≠ some q

/-- shapes of the call's own, in blocks from base on -/
structure ShOwn (w : World) (base : Nat) (p : ShPtr) (s : Shp) : Prop where
  k : OwnI w base p.K p.c1 s.kinds
  f : OwnB w base p.F p.c2 s.full
  t : OwnI w base p.S p.c3 s.stack
  m : OwnI w base p.M p.c4 s.memo
  kf : ∀ b, blockOf p.K = some b → blockOf p.F ≠ some b
  kt : ∀ b, blockOf p.K = some b → blockOf p.S ≠ some b
  km : ∀ b, blockOf p.K = some b → blockOf p.M ≠ some b
  ft : ∀ b, blockOf p.F = some b → blockOf p.S ≠ some b
  fm : ∀ b, blockOf p.F = some b → blockOf p.M ≠ some b
  tm : ∀ b, blockOf p.S = some b → blockOf p.M ≠ some b

/-- numbers of shapes are no greater than ints -/
structure Shp.Small (s : Shp) : Prop where
  k : s.kinds.length ≤ 1000
  t : s.stack.length ≤ 1000
  ok : s.Ok

theorem Shp.Fits.small {s : Shp} (h : s.Fits) (ho : s.Ok) : s.Small := ⟨by have := h.1; omega, by have := h.2; omega, ho⟩
theorem Shp.Small.k64 {s : Shp} (h : s.Small) : ∀ x ∈ s.kinds, In64 x := fun x hx => by have := h.ok.kk x hx; constructor <;> omega
theorem Shp.Small.t64 {s : Shp} (h : s.Small) : ∀ x ∈ s.stack, In64 x := fun x hx => by have := h.ok.st x hx; have := h.k; constructor <;> omega
theorem Shp.Small.m64 {s : Shp} (h : s.Small) : ∀ x ∈ s.memo, In64 x := fun x hx => by have := h.ok.mm x hx; have := h.k; constructor <;> omega

theorem ShOwn.at_ {w : World} {base : Nat} {p : ShPtr} {s : Shp} (h : ShOwn w base p s) (hs : s.Small) : ShAt w w.heap.size p s := by
  have := hs.k
  have := hs.t
  have := hs.ok.fl
  have := hs.ok.ml
  exact ⟨h.k.ints hs.k64 (by omega), h.k.nil, h.f.bools (by omega), h.f.nil, h.t.ints hs.t64 (by omega), h.t.nil, h.m.ints hs.m64 (by omega), h.m.nil⟩

theorem ShOwn.off {w : World} {base q : Nat} {p : ShPtr} {s : Shp} (h : ShOwn w base p s) (hq : q < base ∨ w.heap.size ≤ q) : p.Off q :=
  ⟨fun e => by have := h.k.blocks q e; omega, fun e => by have := h.f.blocks q e; omega, fun e => by have := h.t.blocks q e; omega, fun e => by have := h.m.blocks q e; omega⟩

theorem ShOwn.ofB {w w' : World} {base : Nat} {p : ShPtr} {s : Shp} (h : ShOwn w base p s) (hb : ∀ g, base ≤ g → g < w.heap.size → w'.heap[g]? = w.heap[g]?) : ShOwn w' base p s :=
  ⟨h.k.ofB fun g hg => hb g (h.k.blocks g hg).1 (h.k.blocks g hg).2, h.f.ofB fun g hg => hb g (h.f.blocks g hg).1 (h.f.blocks g hg).2, h.t.ofB fun g hg => hb g (h.t.blocks g hg).1 (h.t.blocks g hg).2, h.m.ofB fun g hg => hb g (h.m.blocks g hg).1 (h.m.blocks g hg).2,
    h.kf, h.kt, h.km, h.ft, h.fm, h.tm⟩
theorem ShOwn.below {w w' : World} {base : Nat} {p : ShPtr} {s : Shp} (h : ShOwn w base p s) (hb : Below w.heap.size w w') : ShOwn w' base p s := h.ofB fun g _ hg => hb.block g hg
theorem ShOwn.alloc {w : World} {base : Nat} {p : ShPtr} {s : Shp} (h : ShOwn w base p s) (o : Obj) : ShOwn (w.alloc o) base p s := h.below ((Below.refl _ _).alloc (Nat.le_refl _) o)
theorem ShOwn.drew {w : World} {base : Nat} {p : ShPtr} {s : Shp} (h : ShOwn w base p s) : ShOwn w.drew base p s := h.ofB fun _ _ _ => rfl
theorem ShOwn.mono {w : World} {base base' : Nat} {p : ShPtr} {s : Shp} (h : ShOwn w base p s) (hb : base' ≤ base) : ShOwn w base' p s :=
  ⟨h.k.mono hb, h.f.mono hb, h.t.mono hb, h.m.mono hb, h.kf, h.kt, h.km, h.ft, h.fm, h.tm⟩
theorem ShOwn.far {w : World} {base q j : Nat} {p : ShPtr} {s : Shp} (h : ShOwn w base p s) (hq : p.Off q) (v : Value) : ShOwn (w.setCell ⟨q, j, none⟩ v) base p s := by
  have hf : ∀ g, g ≠ q → (w.setCell ⟨q, j, none⟩ v).heap[g]? = w.heap[g]? := fun g hg => Below.heap_setCell _ _ _ _ hg
  exact ⟨h.k.ofB fun g hg => hf g (fun e => hq.k (e ▸ hg)), h.f.ofB fun g hg => hf g (fun e => hq.f (e ▸ hg)), h.t.ofB fun g hg => hf g (fun e => hq.t (e ▸ hg)), h.m.ofB fun g hg => hf g (fun e => hq.m (e ▸ hg)),
    h.kf, h.kt, h.km, h.ft, h.fm, h.tm⟩

/-- shapes in a box, and what they point to -/
structure ShBox (w : World) (base q : Nat) (p : ShPtr) (s : Shp) : Prop where
  box : Lies w q (shCells p s) 53
  own : ShOwn w base p s
  off : p.Off q

theorem ShBox.below {w w' : World} {base q : Nat} {p : ShPtr} {s : Shp} (h : ShBox w base q p s) (hb : Below w.heap.size w w') : ShBox w' base q p s := ⟨h.box.below hb h.box.lt, h.own.below hb, h.off⟩
theorem ShBox.alloc {w : World} {base q : Nat} {p : ShPtr} {s : Shp} (h : ShBox w base q p s) (o : Obj) : ShBox (w.alloc o) base q p s := h.below ((Below.refl _ _).alloc (Nat.le_refl _) o)
theorem ShBox.drew {w : World} {base q : Nat} {p : ShPtr} {s : Shp} (h : ShBox w base q p s) : ShBox w.drew base q p s := ⟨h.box, h.own.drew, h.off⟩
theorem ShBox.new {w : World} {base : Nat} {p : ShPtr} {s : Shp} (h : ShOwn w base p s) : ShBox (w.alloc (.cells (shCells p s) 53)) base w.heap.size p s := ⟨Lies.new _ _ _, h.alloc _, h.off (.inr (Nat.le_refl _))⟩

theorem ShBox.cells {w : World} {base q : Nat} {p : ShPtr} {s : Shp} (h : ShBox w base q p s) :
    w.cell? ⟨q, 0, none⟩ = some (.slice p.K s.kinds.length p.c1) ∧ w.cell? ⟨q, 1, none⟩ = some (.slice p.F s.full.length p.c2) ∧ w.cell? ⟨q, 2, none⟩ = some (.slice p.S s.stack.length p.c3) ∧ w.cell? ⟨q, 3, none⟩ = some (.slice p.M s.memo.length p.c4) ∧ w.cell? ⟨q, 4, none⟩ = some (.bool s.done) := by
  have e0 := h.box.cell 0
  have e1 := h.box.cell 1
  have e2 := h.box.cell 2
  have e3 := h.box.cell 3
  have e4 := h.box.cell 4
  simp only [shCells] at e0 e1 e2 e3 e4
  exact ⟨e0, e1, e2, e3, e4⟩

/-- a store into the box alone -/
theorem ShBox.put {w : World} {base q j : Nat} {p p' : ShPtr} {s s' : Shp} {v : Value} (h : Lies w q (shCells p s) 53) (ho : ShOwn w base p' s') (hq : p'.Off q) (hc : (shCells p s).setIfInBounds j v = shCells p' s') : ShBox (w.setCell ⟨q, j, none⟩ v) base q p' s' := by
  have h2 := h.set j v
  rw [hc] at h2
  exact ⟨h2, ho.far hq v, hq⟩

section grown
variable {w w1 : World} {base q : Nat} {p : ShPtr} {s : Shp} {A' : Option Addr} {c' : Nat} {lit : Obj}

theorem OwnI.stays {row : Option Nat} {A : Option Addr} {c : Nat} {xs : List Int} (h : OwnI w base A c xs) (hg : (w.alloc lit).grownBy w1 row) (hne : ∀ b, row = some b → blockOf A ≠ some b) : OwnI w1 base A c xs :=
  (h.alloc lit).kept hg (by
    cases row with
    | none => cases hA : blockOf A <;> simp
    | some b => exact .inr (hne b rfl))
theorem OwnB.stays {row : Option Nat} {A : Option Addr} {c : Nat} {xs : List Bool} (h : OwnB w base A c xs) (hg : (w.alloc lit).grownBy w1 row) (hne : ∀ b, row = some b → blockOf A ≠ some b) : OwnB w1 base A c xs :=
  (h.alloc lit).kept hg (by
    cases row with
    | none => cases hA : blockOf A <;> simp
    | some b => exact .inr (hne b rfl))

theorem apart_grown {A B : Option Addr} (hat : blockOf A' = blockOf A ∨ blockOf A' = some (w.alloc lit).heap.size) (hAB : ∀ b, blockOf A = some b → blockOf B ≠ some b) (hB : ∀ b, blockOf B = some b → b < w.heap.size) : ∀ b, blockOf A' = some b → blockOf B ≠ some b := by
  intro b hb e
  rcases hat with h1 | h1
  · exact hAB b (h1 ▸ hb) e
  · rw [h1] at hb
    injection hb with hb
    have := hB b e
    simp at hb
    omega
theorem off_grown {A : Option Addr} (hat : blockOf A' = blockOf A ∨ blockOf A' = some (w.alloc lit).heap.size) (hA : blockOf A ≠ some q) (hq : q < w.heap.size) : blockOf A' ≠ some q := by
  rcases hat with h1 | h1
  · rw [h1]; exact hA
  · rw [h1]
    intro e
    injection e with e
    simp at e
    omega
theorem lies_grown {row : Option Nat} {cs : Array Value} {t : TypeId} (h : Lies w q cs t) (hg : (w.alloc lit).grownBy w1 row) (hne : row ≠ some q) : Lies w1 q cs t := by
  have h2 := h.alloc lit
  unfold Lies at h2 ⊢
  rw [← h2]
  exact hg.block q (lt_of_block h2) (fun e => hne e.symm)

theorem symm_apart {A B : Option Addr} (h : ∀ b, blockOf A = some b → blockOf B ≠ some b) : ∀ b, blockOf B = some b → blockOf A ≠ some b := fun b hb ha => h b ha hb

/-- a number is put behind the kinds -/
theorem ShBox.pushK {zs : List Int} (h : ShBox w base q p s) (ho : OwnI w1 base A' c' zs) (hg : (w.alloc lit).grownBy w1 (blockOf p.K)) (hat : blockOf A' = blockOf p.K ∨ blockOf A' = some (w.alloc lit).heap.size) :
    ShBox (w1.setCell ⟨q, 0, none⟩ (.slice A' zs.length c')) base q { p with K := A', c1 := c' } { s with kinds := zs } :=
  ShBox.put (lies_grown h.box hg h.off.k)
    ⟨ho, h.own.f.stays hg h.own.kf, h.own.t.stays hg h.own.kt, h.own.m.stays hg h.own.km, apart_grown hat h.own.kf (fun b hb => (h.own.f.blocks b hb).2), apart_grown hat h.own.kt (fun b hb => (h.own.t.blocks b hb).2), apart_grown hat h.own.km (fun b hb => (h.own.m.blocks b hb).2), h.own.ft, h.own.fm, h.own.tm⟩
    ⟨off_grown hat h.off.k h.box.lt, h.off.f, h.off.t, h.off.m⟩ rfl

/-- a truth value is put behind those that tell what is full -/
theorem ShBox.pushF {zs : List Bool} (h : ShBox w base q p s) (ho : OwnB w1 base A' c' zs) (hg : (w.alloc lit).grownBy w1 (blockOf p.F)) (hat : blockOf A' = blockOf p.F ∨ blockOf A' = some (w.alloc lit).heap.size) :
    ShBox (w1.setCell ⟨q, 1, none⟩ (.slice A' zs.length c')) base q { p with F := A', c2 := c' } { s with full := zs } :=
  ShBox.put (lies_grown h.box hg h.off.f)
    ⟨h.own.k.stays hg (symm_apart h.own.kf), ho, h.own.t.stays hg h.own.ft, h.own.m.stays hg h.own.fm, symm_apart (apart_grown hat (symm_apart h.own.kf) (fun b hb => (h.own.k.blocks b hb).2)), h.own.kt, h.own.km, apart_grown hat h.own.ft (fun b hb => (h.own.t.blocks b hb).2), apart_grown hat h.own.fm (fun b hb => (h.own.m.blocks b hb).2), h.own.tm⟩
    ⟨h.off.k, off_grown hat h.off.f h.box.lt, h.off.t, h.off.m⟩ rfl

/-- a thing is put on the stack -/
theorem ShBox.pushT {zs : List Int} (h : ShBox w base q p s) (ho : OwnI w1 base A' c' zs) (hg : (w.alloc lit).grownBy w1 (blockOf p.S)) (hat : blockOf A' = blockOf p.S ∨ blockOf A' = some (w.alloc lit).heap.size) :
    ShBox (w1.setCell ⟨q, 2, none⟩ (.slice A' zs.length c')) base q { p with S := A', c3 := c' } { s with stack := zs } :=
  ShBox.put (lies_grown h.box hg h.off.t)
    ⟨h.own.k.stays hg (symm_apart h.own.kt), h.own.f.stays hg (symm_apart h.own.ft), ho, h.own.m.stays hg h.own.tm, h.own.kf, symm_apart (apart_grown hat (symm_apart h.own.kt) (fun b hb => (h.own.k.blocks b hb).2)), h.own.km, symm_apart (apart_grown hat (symm_apart h.own.ft) (fun b hb => (h.own.f.blocks b hb).2)), h.own.fm, apart_grown hat h.own.tm (fun b hb => (h.own.m.blocks b hb).2)⟩
    ⟨h.off.k, h.off.f, off_grown hat h.off.t h.box.lt, h.off.m⟩ rfl

/-- a number is put behind the memo -/
theorem ShBox.pushM {zs : List Int} (h : ShBox w base q p s) (ho : OwnI w1 base A' c' zs) (hg : (w.alloc lit).grownBy w1 (blockOf p.M)) (hat : blockOf A' = blockOf p.M ∨ blockOf A' = some (w.alloc lit).heap.size) :
    ShBox (w1.setCell ⟨q, 3, none⟩ (.slice A' zs.length c')) base q { p with M := A', c4 := c' } { s with memo := zs } :=
  ShBox.put (lies_grown h.box hg h.off.m)
    ⟨h.own.k.stays hg (symm_apart h.own.km), h.own.f.stays hg (symm_apart h.own.fm), h.own.t.stays hg (symm_apart h.own.tm), ho, h.own.kf, h.own.kt, symm_apart (apart_grown hat (symm_apart h.own.km) (fun b hb => (h.own.k.blocks b hb).2)), h.own.ft, symm_apart (apart_grown hat (symm_apart h.own.fm) (fun b hb => (h.own.f.blocks b hb).2)), symm_apart (apart_grown hat (symm_apart h.own.tm) (fun b hb => (h.own.t.blocks b hb).2))⟩
    ⟨h.off.k, h.off.f, h.off.t, off_grown hat h.off.m h.box.lt⟩ rfl

theorem ShBox.grownB {row : Option Nat} {w0 : World} {B j : Nat} {v : Value} (h : ShBox w base q p s) (hb : Below B w0 w) (hB : B ≤ w.heap.size) (hBb : B ≤ base) (hBq : B ≤ q) (hg : (w.alloc lit).grownBy w1 row) (hr : ∀ b, row = some b → base ≤ b) : Below B w0 (w1.setCell ⟨q, j, none⟩ v) := by
  have h1 : Below B w0 w1 := (hb.alloc hB lit).grown hg (by simp; omega) (fun b e => by have := hr b e; omega)
  exact h1.setCell hBq v
end grown

/-- the things above a place are taken away -/
theorem ShBox.cut {w : World} {base q n : Nat} {p : ShPtr} {s : Shp} (h : ShBox w base q p s) (hn : n ≤ s.stack.length) : ShBox (w.setCell ⟨q, 2, none⟩ (.slice p.S n p.c3)) base q p (s.cutTo n) := by
  have hl : (s.stack.take n).length = n := by simp; omega
  refine ShBox.put h.box ⟨h.own.k, h.own.f, h.own.t.cutAt hn, h.own.m, h.own.kf, h.own.kt, h.own.km, h.own.ft, h.own.fm, h.own.tm⟩ h.off ?_
  show _ = (#[Value.slice p.K s.kinds.length p.c1, Value.slice p.F s.full.length p.c2, Value.slice p.S (s.stack.take n).length p.c3, Value.slice p.M s.memo.length p.c4, Value.bool s.done] : Array Value)
  rw [hl]
  rfl

theorem ShBox.cutO {w : World} {base q n : Nat} {p : ShPtr} {s : Shp} (h : ShOwn w base p s) (hn : n ≤ s.stack.length) : ShOwn w base p (s.cutTo n) := ⟨h.k, h.f, h.t.cutAt hn, h.m, h.kf, h.kt, h.km, h.ft, h.fm, h.tm⟩

/-- it is told that the machine is done -/
theorem ShBox.stop {w : World} {base q : Nat} {p : ShPtr} {s : Shp} (h : ShBox w base q p s) : ShBox (w.setCell ⟨q, 4, none⟩ (.bool true)) base q p { s with done := true } :=
  ShBox.put h.box ⟨h.own.k, h.own.f, h.own.t, h.own.m, h.own.kf, h.own.kt, h.own.km, h.own.ft, h.own.fm, h.own.tm⟩ h.off rfl

/-- a place of the memo is set -/
theorem ShBox.putM {w : World} {base q g a : Nat} {p : ShPtr} {s : Shp} (h : ShBox w base q p s) (hM : p.M = some ⟨g, 0, none⟩) (x : Int) : ShBox (w.setCell ⟨g, a, none⟩ (.int .i64 x)) base q p { s with memo := s.memo.set a x } := by
  have hbg : blockOf p.M = some g := by rw [hM]; rfl
  have hf : ∀ k, k ≠ g → (w.setCell ⟨g, a, none⟩ (.int .i64 x)).heap[k]? = w.heap[k]? := fun k hk => Below.heap_setCell _ _ _ _ hk
  have hm := h.own.m
  rw [hM] at hm
  have hm2 := hm.setAt a x
  rw [← hM] at hm2
  refine ⟨?_, ⟨h.own.k.ofB fun b hb => hf b (fun e => h.own.km b hb (e ▸ hbg)), h.own.f.ofB fun b hb => hf b (fun e => h.own.fm b hb (e ▸ hbg)), h.own.t.ofB fun b hb => hf b (fun e => h.own.tm b hb (e ▸ hbg)), hm2, h.own.kf, h.own.kt, h.own.km, h.own.ft, h.own.fm, h.own.tm⟩, h.off⟩
  have := h.box.far (p := ⟨g, a, none⟩) (fun e => h.off.m (e ▸ hbg)) (.int .i64 x)
  simpa [shCells] using this

/-- an object gets a state -/
theorem ShBox.fill {w : World} {base q g a : Nat} {p : ShPtr} {s : Shp} (h : ShBox w base q p s) (hF : p.F = some ⟨g, 0, none⟩) : ShBox (w.setCell ⟨g, a, none⟩ (.bool true)) base q p { s with full := s.full.set a true } := by
  have hbg : blockOf p.F = some g := by rw [hF]; rfl
  have hf : ∀ k, k ≠ g → (w.setCell ⟨g, a, none⟩ (.bool true)).heap[k]? = w.heap[k]? := fun k hk => Below.heap_setCell _ _ _ _ hk
  have hm := h.own.f
  rw [hF] at hm
  have hm2 := hm.setAt a true
  rw [← hF] at hm2
  refine ⟨?_, ⟨h.own.k.ofB fun b hb => hf b (fun e => h.own.kf b hb (e ▸ hbg)), hm2, h.own.t.ofB fun b hb => hf b (fun e => h.own.ft b (e ▸ hbg) hb), h.own.m.ofB fun b hb => hf b (fun e => h.own.fm b (e ▸ hbg) hb), h.own.kf, h.own.kt, h.own.km, h.own.ft, h.own.fm, h.own.tm⟩, h.off⟩
  have := h.box.far (p := ⟨g, a, none⟩) (fun e => h.off.f (e ▸ hbg)) (.bool true)
  simpa [shCells] using this

/-- the world behind a store of shapes into a box -/
def set5 (X : World) (q : Nat) (v0 v1 v2 v3 v4 : Value) : World := ((((X.setCell ⟨q, 0, none⟩ v0).setCell ⟨q, 1, none⟩ v1).setCell ⟨q, 2, none⟩ v2).setCell ⟨q, 3, none⟩ v3).setCell ⟨q, 4, none⟩ v4

theorem set5_block {X : World} {q k : Nat} {v0 v1 v2 v3 v4 : Value} (hk : k ≠ q) : (set5 X q v0 v1 v2 v3 v4).heap[k]? = X.heap[k]? := by
  unfold set5
  rw [Below.heap_setCell _ _ _ _ (by show k ≠ q; exact hk), Below.heap_setCell _ _ _ _ (by show k ≠ q; exact hk), Below.heap_setCell _ _ _ _ (by show k ≠ q; exact hk), Below.heap_setCell _ _ _ _ (by show k ≠ q; exact hk), Below.heap_setCell _ _ _ _ (by show k ≠ q; exact hk)]
theorem set5_size {X : World} {q : Nat} {v0 v1 v2 v3 v4 : Value} : (set5 X q v0 v1 v2 v3 v4).heap.size = X.heap.size := by unfold set5; simp
theorem set5_below {w X : World} {B q : Nat} {v0 v1 v2 v3 v4 : Value} (h : Below B w X) (hq : B ≤ q) : Below B w (set5 X q v0 v1 v2 v3 v4) :=
  ((((h.setCell (p := ⟨q, 0, none⟩) hq v0).setCell (p := ⟨q, 1, none⟩) hq v1).setCell (p := ⟨q, 2, none⟩) hq v2).setCell (p := ⟨q, 3, none⟩) hq v3).setCell (p := ⟨q, 4, none⟩) hq v4

theorem ShOwn.set5 {X : World} {base q : Nat} {p : ShPtr} {s : Shp} {v0 v1 v2 v3 v4 : Value} (h : ShOwn X base p s) (hq : p.Off q) : ShOwn (set5 X q v0 v1 v2 v3 v4) base p s :=
  ⟨h.k.ofB fun g hg => set5_block (fun e => hq.k (e ▸ hg)), h.f.ofB fun g hg => set5_block (fun e => hq.f (e ▸ hg)), h.t.ofB fun g hg => set5_block (fun e => hq.t (e ▸ hg)), h.m.ofB fun g hg => set5_block (fun e => hq.m (e ▸ hg)), h.kf, h.kt, h.km, h.ft, h.fm, h.tm⟩

/-- what is known where shapes are stored into a box -/
structure Set5 (X : World) (q : Nat) (u0 u1 u2 u3 u4 v0 v1 v2 v3 v4 : Value) : Prop where
  c0 : X.cell? ⟨q, 0, none⟩ = some u0
  c1 : X.cell? ⟨q, 1, none⟩ = some u1
  c2 : X.cell? ⟨q, 2, none⟩ = some u2
  c3 : X.cell? ⟨q, 3, none⟩ = some u3
  c4 : X.cell? ⟨q, 4, none⟩ = some u4
  f0 : X.frozen? ⟨q, 0, none⟩ = false
  f1 : X.frozen? ⟨q, 1, none⟩ = false
  f2 : X.frozen? ⟨q, 2, none⟩ = false
  f3 : X.frozen? ⟨q, 3, none⟩ = false
  f4 : X.frozen? ⟨q, 4, none⟩ = false
  s0 : (((((X.setCell ⟨q, 0, none⟩ v0).setCell ⟨q, 1, none⟩ v1).setCell ⟨q, 2, none⟩ v2).setCell ⟨q, 3, none⟩ v3).setCell ⟨q, 4, none⟩ v4).cell? ⟨q, 0, none⟩ = some v0
  s1 : (((((X.setCell ⟨q, 0, none⟩ v0).setCell ⟨q, 1, none⟩ v1).setCell ⟨q, 2, none⟩ v2).setCell ⟨q, 3, none⟩ v3).setCell ⟨q, 4, none⟩ v4).cell? ⟨q, 1, none⟩ = some v1
  s2 : (((((X.setCell ⟨q, 0, none⟩ v0).setCell ⟨q, 1, none⟩ v1).setCell ⟨q, 2, none⟩ v2).setCell ⟨q, 3, none⟩ v3).setCell ⟨q, 4, none⟩ v4).cell? ⟨q, 2, none⟩ = some v2
  s3 : (((((X.setCell ⟨q, 0, none⟩ v0).setCell ⟨q, 1, none⟩ v1).setCell ⟨q, 2, none⟩ v2).setCell ⟨q, 3, none⟩ v3).setCell ⟨q, 4, none⟩ v4).cell? ⟨q, 3, none⟩ = some v3
  s4 : (((((X.setCell ⟨q, 0, none⟩ v0).setCell ⟨q, 1, none⟩ v1).setCell ⟨q, 2, none⟩ v2).setCell ⟨q, 3, none⟩ v3).setCell ⟨q, 4, none⟩ v4).cell? ⟨q, 4, none⟩ = some v4

theorem Lies.set5 {X : World} {q : Nat} {u0 u1 u2 u3 u4 : Value} {t : TypeId} (l : Lies X q #[u0, u1, u2, u3, u4] t) (v0 v1 v2 v3 v4 : Value) : Set5 X q u0 u1 u2 u3 u4 v0 v1 v2 v3 v4 ∧ Lies (set5 X q v0 v1 v2 v3 v4) q #[v0, v1, v2, v3, v4] t := by
  have lf := ((((l.set 0 v0).set 1 v1).set 2 v2).set 3 v3).set 4 v4
  simp only [List.setIfInBounds_toArray, List.set_cons_succ, List.set_cons_zero] at lf
  exact ⟨⟨l.cell 0, l.cell 1, l.cell 2, l.cell 3, l.cell 4, l.frozen 0, l.frozen 1, l.frozen 2, l.frozen 3, l.frozen 4, lf.cell 0, lf.cell 1, lf.cell 2, lf.cell 3, lf.cell 4⟩, lf⟩

def zero5 : Array Value := #[.slice none 0 0, .slice none 0 0, .slice none 0 0, .slice none 0 0, .bool false]

/-- blocks that none of the parts lies in are as they were -/
def FrSh (w w' : World) (p0 : ShPtr) : Prop := ∀ k, k < w.heap.size → p0.Off k → w'.heap[k]? = w.heap[k]?

/-- shapes in a box, the box for what comes back, and old memory -/
structure ShSt (w0 w : World) (p0 : ShPtr) (B base q q2 : Nat) (p : ShPtr) (s : Shp) : Prop where
  bx : ShBox w base q p s
  res : Lies w q2 zero5 53
  off2 : p.Off q2
  bel : Below B w0 w
  ne : q ≠ q2
  hB : B ≤ w.heap.size
  hb : B ≤ base
  hq : B ≤ q
  hq2 : B ≤ q2
  fr : ∀ k, k < w0.heap.size → p0.Off k → w.heap[k]? = w0.heap[k]?
  offs : ∀ k, k < w0.heap.size → p0.Off k → p.Off k
  sq : w0.heap.size ≤ q
  sq2 : w0.heap.size ≤ q2

theorem ShSt.below {w0 w w' : World} {B base q q2 : Nat} {p p0 : ShPtr} {s : Shp} (h : ShSt w0 w p0 B base q q2 p s) (hb : Below w.heap.size w w') : ShSt w0 w' p0 B base q q2 p s :=
  ⟨h.bx.below hb, h.res.below hb h.res.lt, h.off2, h.bel.trans (hb.mono h.hB), h.ne, Nat.le_trans h.hB hb.size, h.hb, h.hq, h.hq2, fun k hk ho => (hb.block k (by have := h.bx.box.lt; have := h.sq; omega)).trans (h.fr k hk ho), h.offs, h.sq, h.sq2⟩

theorem ShSt.enter {w : World} {base : Nat} {p : ShPtr} {s : Shp} (h : ShOwn w base p s) (hbase : base ≤ w.heap.size) : ShSt w ((w.alloc (.cells (shCells p s) 53)).alloc (.cells zero5 53)) p base base w.heap.size (w.heap.size + 1) p s := by
  refine ⟨(ShBox.new h).alloc _, ?_, h.off (.inr (by omega)), ((Below.refl _ _).alloc hbase _).alloc (by simp; omega) _, by omega, by simp; omega, Nat.le_refl _, hbase, by omega, fun k hk _ => (((Below.refl _ _).alloc (Nat.le_refl _) _).alloc (by simp) _ : Below w.heap.size w _).block k hk, fun k _ ho => ho, Nat.le_refl _, by omega⟩
  have := Lies.new (w.alloc (.cells (shCells p s) 53)) zero5 53
  simpa using this

theorem ShSt.enter3 {w : World} {base : Nat} {p : ShPtr} {s : Shp} (h : ShOwn w base p s) (hbase : base ≤ w.heap.size) (ob : Obj) : ShSt w (((w.alloc (.cells (shCells p s) 53)).alloc ob).alloc (.cells zero5 53)) p base base w.heap.size (w.heap.size + 2) p s := by
  have hB : Below w.heap.size w (((w.alloc (.cells (shCells p s) 53)).alloc ob).alloc (.cells zero5 53)) := (((Below.refl _ _).alloc (Nat.le_refl _) _).alloc (by simp) _).alloc (by simp; omega) _
  refine ⟨((ShBox.new h).alloc _).alloc _, ?_, h.off (.inr (by omega)), hB.mono hbase, by omega, by simp; omega, Nat.le_refl _, hbase, by omega, fun k hk _ => hB.block k hk, fun k _ ho => ho, Nat.le_refl _, by omega⟩
  have := Lies.new ((w.alloc (.cells (shCells p s) 53)).alloc ob) zero5 53
  simpa using this

theorem ShPtr.Off.grown {w : World} {lit : Obj} {q : Nat} {A A' : Option Addr} (hA : blockOf A ≠ some q) (hq : q < w.heap.size) (hat : blockOf A' = blockOf A ∨ blockOf A' = some (w.alloc lit).heap.size) : blockOf A' ≠ some q := off_grown hat hA hq

theorem fr_grown {w0 w w1 : World} {p0 : ShPtr} {q i : Nat} {lit : Obj} {row : Option Nat} {v : Value} (h : ∀ k, k < w0.heap.size → p0.Off k → w.heap[k]? = w0.heap[k]?) (hq : w0.heap.size ≤ q) (hs : w0.heap.size ≤ w.heap.size) (hg : (w.alloc lit).grownBy w1 row) :
    ∀ k, k < w0.heap.size → p0.Off k → row ≠ some k → (w1.setCell ⟨q, i, none⟩ v).heap[k]? = w0.heap[k]? := by
  intro k hk ho hr
  rw [Below.heap_setCell _ _ _ _ (by show k ≠ q; omega), hg.block k (by simp; omega) (fun e => hr e.symm), Below.heap_alloc _ _ _ (by omega)]
  exact h k hk ho

section st
variable {w0 w w1 : World} {B base q q2 : Nat} {p p0 : ShPtr} {s : Shp} {A' : Option Addr} {c' : Nat} {lit : Obj}

theorem ShSt.cells (h : ShSt w0 w p0 B base q q2 p s) {row : Option Nat} (hg : (w.alloc lit).grownBy w1 row) (hne : row ≠ some q) :
    w1.cell? ⟨q, 0, none⟩ = some (.slice p.K s.kinds.length p.c1) ∧ w1.cell? ⟨q, 1, none⟩ = some (.slice p.F s.full.length p.c2) ∧ w1.cell? ⟨q, 2, none⟩ = some (.slice p.S s.stack.length p.c3) ∧ w1.cell? ⟨q, 3, none⟩ = some (.slice p.M s.memo.length p.c4) ∧ w1.cell? ⟨q, 4, none⟩ = some (.bool s.done) ∧
      w1.frozen? ⟨q, 0, none⟩ = false ∧ w1.frozen? ⟨q, 1, none⟩ = false ∧ w1.frozen? ⟨q, 2, none⟩ = false ∧ w1.frozen? ⟨q, 3, none⟩ = false := by
  have l := lies_grown h.bx.box hg hne
  have e0 := l.cell 0
  have e1 := l.cell 1
  have e2 := l.cell 2
  have e3 := l.cell 3
  have e4 := l.cell 4
  exact ⟨e0, e1, e2, e3, e4, l.frozen 0, l.frozen 1, l.frozen 2, l.frozen 3⟩

theorem ShSt.pushK {zs : List Int} (h : ShSt w0 w p0 B base q q2 p s) (ho : OwnI w1 base A' c' zs) (hg : (w.alloc lit).grownBy w1 (blockOf p.K)) (hat : blockOf A' = blockOf p.K ∨ blockOf A' = some (w.alloc lit).heap.size) :
    ShSt w0 (w1.setCell ⟨q, 0, none⟩ (.slice A' zs.length c')) p0 B base q q2 { p with K := A', c1 := c' } { s with kinds := zs } := by
  have hs := hg.size
  have h2 := h.hB
  have hsz : w0.heap.size ≤ w.heap.size := by have := h.bx.box.lt; have := h.sq; omega
  simp at hs
  exact ⟨h.bx.pushK ho hg hat, (lies_grown h.res hg h.off2.k).far (p := ⟨q, 0, none⟩) h.ne.symm _, ⟨off_grown hat h.off2.k h.res.lt, h.off2.f, h.off2.t, h.off2.m⟩, h.bx.grownB h.bel h.hB h.hb h.hq hg (fun b e => (h.bx.own.k.blocks b e).1), h.ne, by simp; omega, h.hb, h.hq, h.hq2, fun k hk ho => (fr_grown h.fr h.sq hsz hg k hk ho (h.offs k hk ho).k), fun k hk ho => ⟨off_grown hat (h.offs k hk ho).k (Nat.lt_of_lt_of_le hk hsz), (h.offs k hk ho).f, (h.offs k hk ho).t, (h.offs k hk ho).m⟩, h.sq, h.sq2⟩
theorem ShSt.pushF {zs : List Bool} (h : ShSt w0 w p0 B base q q2 p s) (ho : OwnB w1 base A' c' zs) (hg : (w.alloc lit).grownBy w1 (blockOf p.F)) (hat : blockOf A' = blockOf p.F ∨ blockOf A' = some (w.alloc lit).heap.size) :
    ShSt w0 (w1.setCell ⟨q, 1, none⟩ (.slice A' zs.length c')) p0 B base q q2 { p with F := A', c2 := c' } { s with full := zs } := by
  have hs := hg.size
  have h2 := h.hB
  have hsz : w0.heap.size ≤ w.heap.size := by have := h.bx.box.lt; have := h.sq; omega
  simp at hs
  exact ⟨h.bx.pushF ho hg hat, (lies_grown h.res hg h.off2.f).far (p := ⟨q, 1, none⟩) h.ne.symm _, ⟨h.off2.k, off_grown hat h.off2.f h.res.lt, h.off2.t, h.off2.m⟩, h.bx.grownB h.bel h.hB h.hb h.hq hg (fun b e => (h.bx.own.f.blocks b e).1), h.ne, by simp; omega, h.hb, h.hq, h.hq2, fun k hk ho => (fr_grown h.fr h.sq hsz hg k hk ho (h.offs k hk ho).f), fun k hk ho => ⟨(h.offs k hk ho).k, off_grown hat (h.offs k hk ho).f (Nat.lt_of_lt_of_le hk hsz), (h.offs k hk ho).t, (h.offs k hk ho).m⟩, h.sq, h.sq2⟩
theorem ShSt.pushT {zs : List Int} (h : ShSt w0 w p0 B base q q2 p s) (ho : OwnI w1 base A' c' zs) (hg : (w.alloc lit).grownBy w1 (blockOf p.S)) (hat : blockOf A' = blockOf p.S ∨ blockOf A' = some (w.alloc lit).heap.size) :
    ShSt w0 (w1.setCell ⟨q, 2, none⟩ (.slice A' zs.length c')) p0 B base q q2 { p with S := A', c3 := c' } { s with stack := zs } := by
  have hs := hg.size
  have h2 := h.hB
  have hsz : w0.heap.size ≤ w.heap.size := by have := h.bx.box.lt; have := h.sq; omega
  simp at hs
  exact ⟨h.bx.pushT ho hg hat, (lies_grown h.res hg h.off2.t).far (p := ⟨q, 2, none⟩) h.ne.symm _, ⟨h.off2.k, h.off2.f, off_grown hat h.off2.t h.res.lt, h.off2.m⟩, h.bx.grownB h.bel h.hB h.hb h.hq hg (fun b e => (h.bx.own.t.blocks b e).1), h.ne, by simp; omega, h.hb, h.hq, h.hq2, fun k hk ho => (fr_grown h.fr h.sq hsz hg k hk ho (h.offs k hk ho).t), fun k hk ho => ⟨(h.offs k hk ho).k, (h.offs k hk ho).f, off_grown hat (h.offs k hk ho).t (Nat.lt_of_lt_of_le hk hsz), (h.offs k hk ho).m⟩, h.sq, h.sq2⟩
theorem ShSt.pushM {zs : List Int} (h : ShSt w0 w p0 B base q q2 p s) (ho : OwnI w1 base A' c' zs) (hg : (w.alloc lit).grownBy w1 (blockOf p.M)) (hat : blockOf A' = blockOf p.M ∨ blockOf A' = some (w.alloc lit).heap.size) :
    ShSt w0 (w1.setCell ⟨q, 3, none⟩ (.slice A' zs.length c')) p0 B base q q2 { p with M := A', c4 := c' } { s with memo := zs } := by
  have hs := hg.size
  have h2 := h.hB
  have hsz : w0.heap.size ≤ w.heap.size := by have := h.bx.box.lt; have := h.sq; omega
  simp at hs
  exact ⟨h.bx.pushM ho hg hat, (lies_grown h.res hg h.off2.m).far (p := ⟨q, 3, none⟩) h.ne.symm _, ⟨h.off2.k, h.off2.f, h.off2.t, off_grown hat h.off2.m h.res.lt⟩, h.bx.grownB h.bel h.hB h.hb h.hq hg (fun b e => (h.bx.own.m.blocks b e).1), h.ne, by simp; omega, h.hb, h.hq, h.hq2, fun k hk ho => (fr_grown h.fr h.sq hsz hg k hk ho (h.offs k hk ho).m), fun k hk ho => ⟨(h.offs k hk ho).k, (h.offs k hk ho).f, (h.offs k hk ho).t, off_grown hat (h.offs k hk ho).m (Nat.lt_of_lt_of_le hk hsz)⟩, h.sq, h.sq2⟩
end st

theorem ShSt.cut {w0 w : World} {B base q q2 n : Nat} {p p0 : ShPtr} {s : Shp} (h : ShSt w0 w p0 B base q q2 p s) (hn : n ≤ s.stack.length) : ShSt w0 (w.setCell ⟨q, 2, none⟩ (.slice p.S n p.c3)) p0 B base q q2 p (s.cutTo n) := by
  have h2 := h.hB
  have h3 := h.sq
  exact ⟨h.bx.cut hn, h.res.far (p := ⟨q, 2, none⟩) h.ne.symm _, h.off2, h.bel.setCell (p := ⟨q, 2, none⟩) h.hq _, h.ne, by simp; omega, h.hb, h.hq, h.hq2, fun k hk ho => by rw [Below.heap_setCell _ _ _ _ (by show k ≠ q; omega)]; exact h.fr k hk ho, h.offs, h.sq, h.sq2⟩

theorem ShSt.stop {w0 w : World} {B base q q2 : Nat} {p p0 : ShPtr} {s : Shp} (h : ShSt w0 w p0 B base q q2 p s) : ShSt w0 (w.setCell ⟨q, 4, none⟩ (.bool true)) p0 B base q q2 p { s with done := true } := by
  have h2 := h.hB
  have h3 := h.sq
  exact ⟨h.bx.stop, h.res.far (p := ⟨q, 4, none⟩) h.ne.symm _, h.off2, h.bel.setCell (p := ⟨q, 4, none⟩) h.hq _, h.ne, by simp; omega, h.hb, h.hq, h.hq2, fun k hk ho => by rw [Below.heap_setCell _ _ _ _ (by show k ≠ q; omega)]; exact h.fr k hk ho, h.offs, h.sq, h.sq2⟩
theorem ShSt.putM {w0 w : World} {B base q q2 g a : Nat} {p p0 : ShPtr} {s : Shp} (h : ShSt w0 w p0 B base q q2 p s) (hM : p.M = some ⟨g, 0, none⟩) (x : Int) : ShSt w0 (w.setCell ⟨g, a, none⟩ (.int .i64 x)) p0 B base q q2 p { s with memo := s.memo.set a x } := by
  have h2 := h.hB
  have hbg : blockOf p.M = some g := by rw [hM]; rfl
  have hg := h.bx.own.m.blocks g hbg
  have h3 := h.hb
  exact ⟨h.bx.putM hM x, h.res.far (p := ⟨g, a, none⟩) (fun e => h.off2.m (e ▸ hbg)) _, h.off2, h.bel.setCell (p := ⟨g, a, none⟩) (by show B ≤ g; omega) _, h.ne, by simp; omega, h.hb, h.hq, h.hq2, fun k hk ho => by rw [Below.heap_setCell _ _ _ _ (by show k ≠ g; intro e; subst e; exact (h.offs k hk ho).m hbg)]; exact h.fr k hk ho, h.offs, h.sq, h.sq2⟩
theorem ShSt.fill {w0 w : World} {B base q q2 g a : Nat} {p p0 : ShPtr} {s : Shp} (h : ShSt w0 w p0 B base q q2 p s) (hF : p.F = some ⟨g, 0, none⟩) : ShSt w0 (w.setCell ⟨g, a, none⟩ (.bool true)) p0 B base q q2 p { s with full := s.full.set a true } := by
  have h2 := h.hB
  have hbg : blockOf p.F = some g := by rw [hF]; rfl
  have hg := h.bx.own.f.blocks g hbg
  have h3 := h.hb
  exact ⟨h.bx.fill hF, h.res.far (p := ⟨g, a, none⟩) (fun e => h.off2.f (e ▸ hbg)) _, h.off2, h.bel.setCell (p := ⟨g, a, none⟩) (by show B ≤ g; omega) _, h.ne, by simp; omega, h.hb, h.hq, h.hq2, fun k hk ho => by rw [Below.heap_setCell _ _ _ _ (by show k ≠ g; intro e; subst e; exact (h.offs k hk ho).f hbg)]; exact h.fr k hk ho, h.offs, h.sq, h.sq2⟩

theorem OwnI.frozenAt {w : World} {base g : Nat} {c : Nat} {xs : List Int} (h : OwnI w base (some ⟨g, 0, none⟩) c xs) (j : Nat) : w.frozen? ⟨g, j, none⟩ = false := by
  rcases h.own.2 with ⟨h1, _⟩ | ⟨g', cap, cur, hv, hg, hh, _⟩
  · injection h1 with h1
    cases h1
  · injection hv with hv _ hc
    obtain rfl : g = g' := by simpa using hv
    exact Lies.frozen hh j
theorem OwnB.frozenAt {w : World} {base g : Nat} {c : Nat} {xs : List Bool} (h : OwnB w base (some ⟨g, 0, none⟩) c xs) (j : Nat) : w.frozen? ⟨g, j, none⟩ = false := by
  rcases h.own.2 with ⟨h1, _⟩ | ⟨g', cap, cur, hv, hg, hh, _⟩
  · injection h1 with h1
    cases h1
  · injection hv with hv _ hc
    obtain rfl : g = g' := by simpa using hv
    exact Lies.frozen hh j
theorem OwnI.atJ {w : World} {base : Nat} {A : Option Addr} {c : Nat} {xs : List Int} (h : OwnI w base A c xs) {j : Nat} {x : Int} (hj : xs[j]? = some x) : ∃ g, A = some ⟨g, 0, none⟩ ∧ base ≤ g ∧ g < w.heap.size ∧ w.cell? ⟨g, j, none⟩ = some (.int .i64 x) ∧ w.frozen? ⟨g, j, none⟩ = false := by
  rcases h.form with ⟨_, _, h3⟩ | ⟨g, rfl, h1, h2⟩
  · rw [h3] at hj; simp at hj
  · refine ⟨g, rfl, h1, h2, ?_, h.frozenAt j⟩
    rw [h.own.cellAt j (by have := (List.getElem?_eq_some_iff.1 hj).1; omega), List.getElem?_map, hj]
    rfl
theorem OwnB.atJ {w : World} {base : Nat} {A : Option Addr} {c : Nat} {xs : List Bool} (h : OwnB w base A c xs) {j : Nat} {x : Bool} (hj : xs[j]? = some x) : ∃ g, A = some ⟨g, 0, none⟩ ∧ base ≤ g ∧ g < w.heap.size ∧ w.cell? ⟨g, j, none⟩ = some (.bool x) ∧ w.frozen? ⟨g, j, none⟩ = false := by
  rcases h.form with ⟨_, _, h3⟩ | ⟨g, rfl, h1, h2⟩
  · rw [h3] at hj; simp at hj
  · refine ⟨g, rfl, h1, h2, ?_, h.frozenAt j⟩
    rw [h.own.cellAt j (by have := (List.getElem?_eq_some_iff.1 hj).1; omega), List.getElem?_map, hj]
    rfl

/-- all that a return of the shapes in the box wants to know -/
theorem ShSt.ret {w0 w : World} {B base q q2 : Nat} {p p0 : ShPtr} {s : Shp} (h : ShSt w0 w p0 B base q q2 p s) :
    (w.cell? ⟨q, 0, none⟩ = some (.slice p.K s.kinds.length p.c1) ∧ w.cell? ⟨q, 1, none⟩ = some (.slice p.F s.full.length p.c2) ∧ w.cell? ⟨q, 2, none⟩ = some (.slice p.S s.stack.length p.c3) ∧ w.cell? ⟨q, 3, none⟩ = some (.slice p.M s.memo.length p.c4) ∧ w.cell? ⟨q, 4, none⟩ = some (.bool s.done)) ∧
    Set5 w q2 (.slice none 0 0) (.slice none 0 0) (.slice none 0 0) (.slice none 0 0) (.bool false) (.slice p.K s.kinds.length p.c1) (.slice p.F s.full.length p.c2) (.slice p.S s.stack.length p.c3) (.slice p.M s.memo.length p.c4) (.bool s.done) ∧
    ShOwn (set5 w q2 (.slice p.K s.kinds.length p.c1) (.slice p.F s.full.length p.c2) (.slice p.S s.stack.length p.c3) (.slice p.M s.memo.length p.c4) (.bool s.done)) base p s ∧
    Below B w0 (set5 w q2 (.slice p.K s.kinds.length p.c1) (.slice p.F s.full.length p.c2) (.slice p.S s.stack.length p.c3) (.slice p.M s.memo.length p.c4) (.bool s.done)) ∧
    FrSh w0 (set5 w q2 (.slice p.K s.kinds.length p.c1) (.slice p.F s.full.length p.c2) (.slice p.S s.stack.length p.c3) (.slice p.M s.memo.length p.c4) (.bool s.done)) p0 :=
  ⟨h.bx.cells, (Lies.set5 h.res _ _ _ _ _).1, h.bx.own.set5 h.off2, set5_below h.bel h.hq2, fun k hk ho => (set5_block (by have := h.sq2; omega)).trans (h.fr k hk ho)⟩

theorem IntsAt.dropAt {w : World} {B : Nat} {A : Option Addr} {xs : List Int} (h : IntsAt w B A xs) (b off : Nat) (hA : A = some ⟨b, off, none⟩) (k : Nat) : IntsAt w B (some ⟨b, off + k, none⟩) (xs.drop k) := by
  subst hA
  refine ⟨fun hx => ?_, fun x hx => h.wf x (List.mem_of_mem_drop hx), Nat.le_trans (by simp) h.len⟩
  obtain ⟨b', off', e, hlt, hc⟩ := h.row (by intro e; subst e; simp at hx)
  injection e with e
  injection e with e1 e2
  subst e1 e2
  refine ⟨b, off + k, rfl, hlt, fun j x hj => ?_⟩
  rw [List.getElem?_drop] at hj
  have := hc (k + j) x hj
  rwa [← Nat.add_assoc] at this

theorem IntsAt.oneN (w : World) (n : Nat) (x : Int) (hx : In64 x) (h : w.heap.size = n) : IntsAt (w.alloc (.cells #[.int .i64 x] 3)) (n + 1) (some ⟨n, 0, none⟩) [x] := by
  have := IntsAt.one w x hx
  rwa [h] at this
theorem BoolsAt.oneN (w : World) (n : Nat) (x : Bool) (h : w.heap.size = n) : BoolsAt (w.alloc (.cells #[.bool x] 4)) (n + 1) (some ⟨n, 0, none⟩) [x] := by
  have := BoolsAt.one w x
  rwa [h] at this

/-- blocks that none of the old parts lies in hold none of the new ones -/
def OffSh (w : World) (p0 p : ShPtr) : Prop := ∀ k, k < w.heap.size → p0.Off k → p.Off k

/-- a call that hands back the shapes that it was handed, changed -/
def TurnsSh (w : World) (p0 : ShPtr) (base : Nat) (s : Shp) (e : Ending) (w' : World) : Prop := ∃ p, e = .returned (shVal p s) ∧ ShOwn w' base p s ∧ Below base w w' ∧ FrSh w w' p0 ∧ OffSh w p0 p

/-- a call that hands back the shapes that it was handed, changed, and whether that was possible -/
def TriesSh (w : World) (p0 : ShPtr) (base : Nat) (r : Option Shp) (e : Ending) (w' : World) : Prop :=
  ∃ p s ok, e = .returned (.tuple #[shVal p s, .bool ok]) ∧ Below base w w' ∧ FrSh w w' p0 ∧ (∀ t, r = some t → ok = true ∧ s = t ∧ ShOwn w' base p t ∧ OffSh w p0 p) ∧ (r = none → ok = false)

/-- a call that hands back shapes of its own -/
def GivesSh (w : World) (base : Nat) (s : Shp) (e : Ending) (w' : World) : Prop := ∃ p, e = .returned (shVal p s) ∧ ShOwn w' base p s ∧ Below base w w'

end Go.Proofs.YtckodifdbephgabDoor

namespace Go.Proofs.YtckodifdbephgabDoor
open Go.RowKit
set_option linter.unusedVariables false

/-- how many of the first k places of a memo are taken -/
def takenTo (l : List Int) : Nat → Nat
  | 0 => 0
  | k + 1 => takenTo l k + (if 0 ≤ l.getD k 0 then 1 else 0)
theorem takenTo_le (l : List Int) (k : Nat) : takenTo l k ≤ k := by
  induction k with
  | zero => exact Nat.le_refl _
  | succ k ih => unfold takenTo; split <;> omega

/-- a program and a memo that can be read come back -/
def GivesSave (w : World) (os : List Od) (μ : List Int) (e : Ending) (w' : World) : Prop :=
  ∃ A c M d, e = .returned (.tuple #[.slice A os.length c, .slice M μ.length d]) ∧ OpsAt w' w'.heap.size A os ∧ (A = none → c = 0) ∧ IntsAt w' w'.heap.size M μ ∧ (M = none → d = 0) ∧ Below w.heap.size w w'

/-- the program and the memo behind memoed -/
def memoOps (os : List Od) (μ : List Int) : List Od := os ++ [⟨15, (takenTo μ μ.length : Int)⟩]
def memoSet (μ : List Int) (i : Nat) : List Int := μ.set i (takenTo μ μ.length : Int)

set_option maxRecDepth 100000 in
set_option maxHeartbeats 2000000 in
theorem memoed_any (A : Option Addr) (os : List Od) (c : Nat) (M : Option Addr) (μ : List Int) (d i : Nat) (w : World) (h : OpsAt w w.heap.size A os) (hn : A = none → c = 0) (h2 : IntsAt w w.heap.size M μ) (hn2 : M = none → d = 0)
    (hl : os.length ≤ 7000000) (hm : μ.length ≤ 100) (hi : i < μ.length) (hμ : ∀ x ∈ μ, -1 ≤ x ∧ x ≤ 100) :
    Calls Tryd.prog 40 #[.slice A os.length c, .slice M μ.length d, .int .i64 (i : Int)] w (GivesSave w (memoOps os μ) (memoSet μ i)) := by
  have Hn := hide hn
  have Hn2 := hide hn2
  have Hμ := hide hμ
  clear hn hn2 hμ
  go_enter Tryd.func40, Tryd.ntmps40
  go_wp2_with fail
  go_loop [8, 9] (fun nv iv => ∃ k : Nat, k ≤ μ.length ∧ iv = .int .i64 (k : Int) ∧ nv = .int .i64 (takenTo μ k : Int)) (fun _ iv => μ.length - (intOf iv).toNat)
  case atStart => exact ⟨0, Nat.zero_le _, rfl, rfl⟩
  case round =>
    obtain ⟨k, hk, rfl, rfl⟩ := hrel
    have htk := takenTo_le μ k
    by_cases hlt : k < μ.length
    · obtain ⟨b, off, x, rfl, hbl, hx, _, hcx⟩ := h2.at_ hlt
      have hgx : μ.getD k 0 = x := by rw [List.getD_eq_getElem?_getD, hx]; rfl
      have hk1 : (0 : Int) ≤ (k : Int) := by omega
      have hk2 : (k : Int) < (μ.length : Int) := by omega
      by_cases hp : 0 ≤ x
      · have HT : Hid (takenTo μ (k + 1) = takenTo μ k + 1) := hide (by show takenTo μ k + _ = _; rw [hgx, if_pos hp])
        clear hx hgx
        generalize takenTo μ k = m at htk HT
        have dx : decide (0 ≤ x) = true := by simpa using hp
        go_wp2
        go_round
        case rel => exact ⟨k + 1, by omega, by go_num, by rw [HT.out]; go_num⟩
        case measure => simp [intOf]; omega
      · have HT : Hid (takenTo μ (k + 1) = takenTo μ k) := hide (by show takenTo μ k + _ = _; rw [hgx, if_neg hp]; rfl)
        clear hx hgx
        generalize takenTo μ k = m at htk HT
        have dx : decide (0 ≤ x) = false := by simpa using hp
        go_wp2
        go_round
        case rel => exact ⟨k + 1, by omega, by go_num, by rw [HT.out]⟩
        case measure => simp [intOf]; omega
    · obtain rfl : k = μ.length := by omega
      clear hlt
      obtain ⟨m, hmd⟩ : ∃ m, m = takenTo μ μ.length := ⟨_, rfl⟩
      rw [← hmd] at htk ⊢
      have Hm := hide hmd
      clear hmd
      go_wp2_with fail
      refine (copyInts_any M μ d w h2 Hn2.out (by omega)).mono ?_
      rintro e w1 ⟨M1, d1, rfl, ho1, hb1⟩
      rcases ho1.form with ⟨_, _, e0⟩ | ⟨g, rfl, hg1, hg2⟩
      · rw [e0] at hi; simp at hi
      · have HO1 := hide ho1
        have HB1 := hide hb1
        have hfr := ho1.frozenAt i
        obtain ⟨y, hy⟩ : ∃ y, μ[i]? = some y := ⟨_, List.getElem?_eq_getElem hi⟩
        have hcy : w1.cell? ⟨g, i, none⟩ = some (.int .i64 y) := ho1.cellAt hy
        have HO2 := hide (ho1.set i (m : Int))
        have HB2 := hide (hb1.setCell (p := ⟨g, i, none⟩) hg1 (.int .i64 (m : Int)))
        clear ho1 hb1 hy
        have hi1 : (0 : Int) ≤ (i : Int) := by omega
        have hi2 : (i : Int) < (μ.length : Int) := by omega
        go_upto_region 9 with fail
        clear hcy hfr
        generalize w1.setCell ⟨g, i, none⟩ (.int .i64 (m : Int)) = w2 at HO2 HB2 ⊢
        have lo := Lies.new w2 #[.int .i64 15, .int .i64 (m : Int)] 36
        have hb3 := (Below.refl w2.heap.size w2).alloc (Nat.le_refl _) (.cells #[.int .i64 15, .int .i64 (m : Int)] 36)
        have HO3 := hide (HO2.out.below hb3)
        have HB3 := hide (HB2.out.trans (hb3.mono HB2.out.size))
        have hOne := OpsAt.one (o := ⟨15, (m : Int)⟩) lo (by constructor <;> constructor <;> simp <;> omega)
        have HOne := hide hOne
        have HW3 := hide (h.later HB3.out (Nat.le_refl _))
        clear hb3 lo hOne
        go_wp2_with fail
        refine (emit_any A os c (some ⟨w2.heap.size, 0, none⟩) [⟨15, (m : Int)⟩] 1 _ HW3.out Hn.out HOne.out (fun e => by cases e) (by simp; omega)).mono ?_
        rintro e w4 ⟨A4, c4, rfl, ho4, hb4⟩
        have hwf : ∀ o ∈ os ++ [⟨15, (m : Int)⟩], In64 o.code ∧ In64 o.arg := by
          intro o ho
          rcases List.mem_append.1 ho with ho | ho
          · exact HW3.out.wf o ho
          · rw [List.mem_singleton.1 ho]
            constructor <;> constructor <;> simp <;> omega
        have hm64 : ∀ x ∈ μ.set i (m : Int), In64 x := by
          intro x hx
          rcases List.mem_or_eq_of_mem_set hx with hx | rfl
          · have := Hμ.out x hx
            constructor <;> omega
          · constructor <;> omega
        have hN4 := ho4.form
        have HF : Hid (GivesSave w (memoOps os μ) (memoSet μ i) (.returned (.tuple #[.slice A4 (os ++ [⟨15, (m : Int)⟩] : List Od).length c4, .slice (some ⟨g, 0, none⟩) (μ.set i (m : Int)).length d1])) w4) := by
          show GivesSave _ _ _ _ _
          unfold memoOps memoSet
          rw [← Hm.out]
          refine ⟨A4, c4, _, d1, rfl, ho4.ops hwf (by simp; omega), fun e => ?_, (HO3.out.below hb4).ints hm64 (by simp; omega), (fun e => by cases e), HB3.out.trans (hb4.mono HB3.out.size)⟩
          rcases hN4 with ⟨_, h2, _⟩ | ⟨g, h2, _⟩
          · exact h2
          · rw [h2] at e; cases e
        clear hwf hm64 hN4 ho4 hb4
        rw [List.length_set, show (os ++ [⟨15, (m : Int)⟩] : List Od).length = os.length + 1 from by simp] at HF
        go_wp2
        go_ret2
        exact HF.out

end Go.Proofs.YtckodifdbephgabDoor

namespace Go.Proofs.YtckodifdbephgabDoor
open Go.RowKit

theorem IntsAt.upto {w : World} {B : Nat} {A : Option Addr} {xs : List Int} (h : IntsAt w B A xs) (n : Nat) : IntsAt w B A (xs.take n) := by
  refine ⟨fun hx => ?_, fun x hx => h.wf x (List.mem_of_mem_take hx), Nat.le_trans (by simp; omega) h.len⟩
  obtain ⟨b, off, e, hlt, hc⟩ := h.row (by intro e; subst e; simp at hx)
  refine ⟨b, off, e, hlt, fun j x hj => hc j x ?_⟩
  rw [List.getElem?_take] at hj
  split at hj
  · exact hj
  · cases hj

theorem IntsAt.behind {w : World} {B b off : Nat} {xs : List Int} (h : IntsAt w B (some ⟨b, off, none⟩) xs) (k : Nat) : IntsAt w B (some ⟨b, off + k, none⟩) (xs.drop k) := by
  refine ⟨fun hx => ?_, fun x hx => h.wf x (List.mem_of_mem_drop hx), Nat.le_trans (by simp) h.len⟩
  obtain ⟨b', off', e, hlt, hc⟩ := h.row (by intro e; subst e; simp at hx)
  injection e with e
  injection e with e1 e2
  subst e1 e2
  refine ⟨b, off + k, rfl, hlt, fun j x hj => ?_⟩
  rw [List.getElem?_drop] at hj
  have := hc (k + j) x hj
  rwa [← Nat.add_assoc] at this

theorem IntsAt.none {w : World} {B : Nat} (A : Option Addr) : IntsAt w B A [] := ⟨fun h => absurd rfl h, fun _ h => (by cases h), by simp⟩

end Go.Proofs.YtckodifdbephgabDoor

namespace Go.Proofs.YtckodifdbephgabDoor
open Go.RowKit
set_option linter.unusedVariables false

/-- an operation that only reads is taken first -/
theorem takeO {P : Program} {ops : Array Oper} {Q : Exit → Act → World → Prop} {md : Region.Mode} {S : World → Prop} (i d : Nat) {op ty pos af gd} {v : Value} {fuel : Nat} {listed : Array Bool} {a : Act} {w : World}
    (hi : ops[i]? = some { dst := some d, op := op, type := ty, pos := pos, after := af, guard := gd }) (hS : S w) (hs : Region.noSelect ops = true := by kernel_rfl) (hf : Region.free md ops listed i = true := by kernel_rfl) (hr : (Region.ready md ops listed).contains i = true := by kernel_rfl)
    (hw : Region.wanted { dst := some d, op := op, type := ty, pos := pos, after := af, guard := gd } (yielded ops a.tmps) = true := by rfl) (hQ : ∀ c a w, Q (.panic c) (a.put (some d) v) w → Q (.panic c) a w := by exact fun _ _ _ h => h)
    (hv : ∀ w, S w → (execOp a.eval { dst := some d, op := op, type := ty, pos := pos, after := af, guard := gd }).run P w = .ok (.value v) w) (h : wpAnyH P md ops Q S fuel (listed.setIfInBounds i true) (a.put (some d) v) w) : wpAnyH P md ops Q S (fuel + 1) listed a w :=
  wpAnyH_take hi hs hf hr hQ (.inl ⟨hw, hv⟩) hS h

/-- an operation whose guard is shut is taken first -/
theorem takeN {P : Program} {ops : Array Oper} {Q : Exit → Act → World → Prop} {md : Region.Mode} {S : World → Prop} (i d : Nat) {op ty pos af gd} {fuel : Nat} {listed : Array Bool} {a : Act} {w : World}
    (hi : ops[i]? = some { dst := some d, op := op, type := ty, pos := pos, after := af, guard := gd }) (hS : S w) (hs : Region.noSelect ops = true := by kernel_rfl) (hf : Region.free md ops listed i = true := by kernel_rfl) (hr : (Region.ready md ops listed).contains i = true := by kernel_rfl)
    (hw : Region.wanted { dst := some d, op := op, type := ty, pos := pos, after := af, guard := gd } (yielded ops a.tmps) = false := by rfl) (hQ : ∀ c a w, Q (.panic c) (a.put (some d) undef) w → Q (.panic c) a w := by exact fun _ _ _ h => h)
    (h : wpAnyH P md ops Q S fuel (listed.setIfInBounds i true) (a.put (some d) undef) w) : wpAnyH P md ops Q S (fuel + 1) listed a w :=
  wpAnyH_take hi hs hf hr hQ (.inr ⟨hw, rfl⟩) hS h

theorem Lies.five {w : World} {q : Nat} {v0 v1 v2 v3 v4 : Value} {t : TypeId} (h : Lies w q #[v0, v1, v2, v3, v4] t) : w.cell? ⟨q, 0, none⟩ = some v0 ∧ w.cell? ⟨q, 1, none⟩ = some v1 ∧ w.cell? ⟨q, 2, none⟩ = some v2 ∧ w.cell? ⟨q, 3, none⟩ = some v3 ∧ w.cell? ⟨q, 4, none⟩ = some v4 :=
  ⟨h.cell 0, h.cell 1, h.cell 2, h.cell 3, h.cell 4⟩
theorem Lies.zero {w : World} {q : Nat} {v0 v1 : Value} {t : TypeId} (h : Lies w q #[v0, v1] t) : w.cell? ⟨q, 0, none⟩ = some v0 := h.cell 0

/-- shapes in a box of which nothing is said but that they lie there -/
structure ShW (w0 w : World) (p0 : ShPtr) (B q q2 : Nat) (p : ShPtr) (s : Shp) : Prop where
  box : Lies w q (shCells p s) 53
  res : Lies w q2 zero5 53
  bel : Below B w0 w
  fr : FrSh w0 w p0
  ne : q ≠ q2
  hq2 : B ≤ q2
  sq2 : w0.heap.size ≤ q2

/-- the box is written anew, with what a call handed back -/
theorem ShSt.refillW {w0 X w5 : World} {base q q2 : Nat} {p p0 p5 : ShPtr} {s t : Shp} (h : ShSt w0 X p0 base base q q2 p s) (hb : Below base X w5) (hf : FrSh X w5 p) :
    Lies w5 q (shCells p s) 53 ∧ ShW w0 (set5 w5 q (.slice p5.K t.kinds.length p5.c1) (.slice p5.F t.full.length p5.c2) (.slice p5.S t.stack.length p5.c3) (.slice p5.M t.memo.length p5.c4) (.bool t.done)) p0 base q q2 p5 t := by
  have h1 : Lies w5 q (shCells p s) 53 := (hf q h.bx.box.lt h.bx.off).trans h.bx.box
  have h2 : Lies w5 q2 zero5 53 := (hf q2 h.res.lt h.off2).trans h.res
  have hs : w0.heap.size ≤ X.heap.size := by have := h.bx.box.lt; have := h.sq; omega
  refine ⟨h1, (Lies.set5 h1 _ _ _ _ _).2, (set5_block h.ne.symm).trans h2, set5_below (h.bel.trans hb) h.hq, fun k hk ho => ?_, h.ne, h.hq2, h.sq2⟩
  rw [set5_block (by have := h.sq; omega), hf k (by omega) (h.offs k hk ho)]
  exact h.fr k hk ho

theorem ShSt.refill {w0 X w5 : World} {base q q2 : Nat} {p p0 p5 : ShPtr} {s t : Shp} (h : ShSt w0 X p0 base base q q2 p s) (hb : Below base X w5) (hf : FrSh X w5 p) (ho : ShOwn w5 base p5 t) (hof : OffSh X p p5) :
    ShSt w0 (set5 w5 q (.slice p5.K t.kinds.length p5.c1) (.slice p5.F t.full.length p5.c2) (.slice p5.S t.stack.length p5.c3) (.slice p5.M t.memo.length p5.c4) (.bool t.done)) p0 base base q q2 p5 t := by
  have hW := (h.refillW (p5 := p5) (t := t) hb hf).2
  have hq : p5.Off q := hof q h.bx.box.lt h.bx.off
  have hs : w0.heap.size ≤ X.heap.size := by have := h.bx.box.lt; have := h.sq; omega
  have hz := hb.size
  have hB := h.hB
  exact ⟨⟨hW.box, ho.set5 hq, hq⟩, hW.res, hof q2 h.res.lt h.off2, hW.bel, h.ne, by rw [set5_size]; omega, h.hb, h.hq, h.hq2, hW.fr, fun k hk hk2 => hof k (by omega) (h.offs k hk hk2), h.sq, h.sq2⟩

theorem ShSt.toW {w0 w : World} {base q q2 : Nat} {p p0 : ShPtr} {s : Shp} (h : ShSt w0 w p0 base base q q2 p s) : ShW w0 w p0 base q q2 p s := ⟨h.bx.box, h.res, h.bel, h.fr, h.ne, h.hq2, h.sq2⟩

end Go.Proofs.YtckodifdbephgabDoor

namespace Go.Proofs.YtckodifdbephgabDoor
open Go.RowKit
set_option linter.unusedVariables false

/-- shapes in the box q, and the box q2 for what comes back -/
structure RunS (w wr : World) (q q2 : Nat) (p : ShPtr) (s : Shp) : Prop where
  bel : Below w.heap.size w wr
  box : Lies wr q (shCells p s) 53
  res : Lies wr q2 zero5 53
  own : ShOwn wr w.heap.size p s
  off : p.Off q
  off2 : p.Off q2
  h1 : w.heap.size ≤ q
  h2 : w.heap.size ≤ q2
  ne : q ≠ q2

theorem RunS.below {w wr w' : World} {q q2 : Nat} {p : ShPtr} {s : Shp} (h : RunS w wr q q2 p s) (hb : Below wr.heap.size wr w') : RunS w w' q q2 p s :=
  ⟨h.bel.trans (hb.mono h.bel.size), h.box.below hb h.box.lt, h.res.below hb h.res.lt, h.own.below hb, h.off, h.off2, h.h1, h.h2, h.ne⟩

/-- what runShapes hands back -/
def GivesRun (w : World) (r : Shp × Nat) (e : Ending) (w' : World) : Prop := ∃ p, e = .returned (.tuple #[shVal p r.1, .int .i64 (r.2 : Int)]) ∧ ShOwn w' w.heap.size p r.1 ∧ Below w.heap.size w w'

/-- the box is written anew, with shapes in newer memory -/
theorem RunS.next {w Y : World} {q q2 lo : Nat} {p p' : ShPtr} {s t : Shp} (h : RunS w Y q q2 p s) (ho : ShOwn Y lo p' t) (hq : q < lo) (hq2 : q2 < lo) :
    RunS w (set5 Y q (.slice p'.K t.kinds.length p'.c1) (.slice p'.F t.full.length p'.c2) (.slice p'.S t.stack.length p'.c3) (.slice p'.M t.memo.length p'.c4) (.bool t.done)) q q2 p' t := by
  have o1 : p'.Off q := ho.off (.inl hq)
  have o2 : p'.Off q2 := ho.off (.inl hq2)
  have hw := h.h1
  exact ⟨set5_below h.bel h.h1, (Lies.set5 h.box _ _ _ _ _).2, (set5_block h.ne.symm).trans h.res, (ho.mono (by omega)).set5 o1, o1, o2, h.h1, h.h2, h.ne⟩

/-- another box is written -/
theorem RunS.side {w Y : World} {q q2 nb : Nat} {p : ShPtr} {s : Shp} {v0 v1 v2 v3 v4 : Value} (h : RunS w Y q q2 p s) (ho : p.Off nb) (hw : w.heap.size ≤ nb) (hq : q ≠ nb) (hq2 : q2 ≠ nb) : RunS w (set5 Y nb v0 v1 v2 v3 v4) q q2 p s :=
  ⟨set5_below h.bel hw, (set5_block hq).trans h.box, (set5_block hq2).trans h.res, h.own.set5 ho, h.off, h.off2, h.h1, h.h2, h.ne⟩

/-- the memory behind a step that was tried -/
structure RunN (w Y : World) (q q2 : Nat) (p : ShPtr) (s : Shp) (nb : Nat) (p5 : ShPtr) (s5 : Shp) (ok : Bool) (r : Option Shp) : Prop where
  run : RunS w Y q q2 p s
  box : Lies Y nb (shCells p5 s5) 53
  good : ∀ t, r = some t → ok = true ∧ s5 = t ∧ ∃ lo, ShOwn Y lo p5 t ∧ q < lo ∧ q2 < lo
  bad : r = none → ok = false

/-- the box of what came back is written -/
theorem RunN.mk' {w Y : World} {q q2 nb lo : Nat} {p p5 : ShPtr} {s s5 : Shp} {ok : Bool} {r : Option Shp} (h : RunS w Y q q2 p s) (hz : Lies Y nb #[.slice none 0 0, .slice none 0 0, .slice none 0 0, .slice none 0 0, .bool false] 53)
    (ho : p.Off nb) (hw : w.heap.size ≤ nb) (hq : q ≠ nb) (hq2 : q2 ≠ nb) (hl : q < lo) (hl2 : q2 < lo) (hg : ∀ t, r = some t → ok = true ∧ s5 = t ∧ ShOwn Y lo p5 t ∧ p5.Off nb) (hb : r = none → ok = false) :
    RunN w (set5 Y nb (.slice p5.K s5.kinds.length p5.c1) (.slice p5.F s5.full.length p5.c2) (.slice p5.S s5.stack.length p5.c3) (.slice p5.M s5.memo.length p5.c4) (.bool s5.done)) q q2 p s nb p5 s5 ok r :=
  ⟨h.side ho hw hq hq2, (Lies.set5 hz _ _ _ _ _).2, fun t ht => by
    obtain ⟨h1, h2, h3, h4⟩ := hg t ht
    exact ⟨h1, h2, lo, h3.set5 h4, hl, hl2⟩, hb⟩

/-- what a drawn statement that steps shapes holds: the box, and the order's two cells -/
def HeldR (q b i : Nat) (cs : Array Value) (u v : Value) (w' : World) : Prop := Lies w' q cs 53 ∧ w'.cell? ⟨b, i, none⟩ = some u ∧ w'.cell? ⟨b, i + 1, none⟩ = some v

theorem HeldR.below {q b i B : Nat} {cs : Array Value} {u v : Value} {X w' : World} (h : HeldR q b i cs u v X) (hb : Below B X w') (hq : q < B) (hbB : b < B) : HeldR q b i cs u v w' :=
  ⟨h.1.below hb hq, (hb.cell (p := ⟨b, i, none⟩) hbB).trans h.2.1, (hb.cell (p := ⟨b, i + 1, none⟩) hbB).trans h.2.2⟩
theorem HeldR.set5 {q b i nb : Nat} {cs : Array Value} {u v v0 v1 v2 v3 v4 : Value} {X : World} (h : HeldR q b i cs u v X) (hq : q ≠ nb) (hbB : b ≠ nb) : HeldR q b i cs u v (set5 X nb v0 v1 v2 v3 v4) :=
  ⟨(set5_block hq).trans h.1, (World.cell?_of_block (w := X) (set5_block hbB)).trans h.2.1, (World.cell?_of_block (w := X) (set5_block hbB)).trans h.2.2⟩

end Go.Proofs.YtckodifdbephgabDoor

namespace Go.Proofs.YtckodifdbephgabDoor
open Go.RowKit
set_option linter.unusedVariables false

set_option maxRecDepth 100000 in
set_option maxHeartbeats 1000000 in
theorem pushShape_any (p : ShPtr) (s : Shp) (k : Int) (base : Nat) (w : World) (h : ShOwn w base p s) (hbase : base ≤ w.heap.size) (hk : In64 k) (h1 : s.kinds.length ≤ 1000) (h2 : s.stack.length ≤ 1000) (hf : s.full.length = s.kinds.length) :
    Calls Tryd.prog 35 #[shVal p s, .int .i64 k] w (TurnsSh w p base (s.push k)) := by
  have hS := ShSt.enter h hbase
  have hk1 := IntsAt.oneN ((w.alloc (.cells (shCells p s) 53)).alloc (.cells zero5 53)) (w.heap.size + 2) k hk (by simp)
  have hl0 : s.full.length ≤ 1000 := by omega
  have HF := hide hf
  have hin : In64 (s.kinds.length : Int) := by constructor <;> omega
  have hwr : IntKind.i64.wrap (((s.kinds ++ [k]).length : Int) - 1) = (s.kinds.length : Int) := by rw [IntKind.wrap_i64]; simp; omega
  clear h hf
  unfold shVal shCells zero5 at *
  go_enter Tryd.func35, Tryd.ntmps35
  go_upto_region 4 with (first
    | (at_builtin; refine append_ints rfl (.tmp 6) (.tmp 8) rfl base p.K p.c1 s.kinds rfl (hS.bx.own.k.alloc _) _ _ 1 [k] rfl (fun e => by cases e) hk1 (by simp <;> omega) (by simp <;> omega) ?_; intro zs A5 c5 w5 hz5 ho5 hg5 ha5; obtain ⟨d0, d1, d2, d3, d4, f0, f1, f2, _⟩ := hS.cells hg5 hS.bx.off.k; have S5 := hide (hS.pushK ho5 hg5 ha5); have z5 := hg5.size; simp at z5; have hzl : (zs.length : Int) - 1 = (s.kinds.length : Int) := (by rw [hz5.out]; simp <;> omega); have hzb : (zs.length : Int) ≤ 1001 := (by rw [hz5.out]; simp <;> omega))
    | (at_builtin; refine append_bools rfl (.tmp 12) (.tmp 13) rfl base p.F p.c2 s.full rfl (S5.out.bx.own.f.alloc _) _ _ 1 [false] rfl (fun e => by cases e) (BoolsAt.oneN _ w5.heap.size false (by simp)) (by simp <;> omega) (by simp <;> omega) ?_; intro ys A6 c6 w6 hz6 ho6 hg6 ha6; obtain ⟨p0, p1, p2, p3, p4, g0, g1, g2, _⟩ := S5.out.cells hg6 S5.out.bx.off.f; have S6 := hide (S5.out.pushF ho6 hg6 ha6); have z6 := hg6.size; simp at z6)
    | (at_builtin; refine append_ints rfl (.tmp 17) (.tmp 22) rfl base p.S p.c3 s.stack rfl (S6.out.bx.own.t.alloc _) _ _ 1 [(s.kinds.length : Int)] rfl (fun e => by cases e) (IntsAt.oneN _ w6.heap.size _ hin (by simp)) (by simp <;> omega) (by simp <;> omega) ?_; intro xs A7 c7 w7 hz7 ho7 hg7 ha7; obtain ⟨q0, q1, q2, q3, q4, k0, k1, k2, _⟩ := S6.out.cells hg7 S6.out.bx.off.t; have S7 := hide (S6.out.pushT ho7 hg7 ha7)))
  have hp : ({ s with kinds := zs, full := ys, stack := xs } : Shp) = s.push k := by
    unfold Shp.push
    rw [hz5.out, hz6.out, hz7.out]
  have hS7 : ShSt w (w7.setCell ⟨w.heap.size, 2, none⟩ (.slice A7 xs.length c7)) p base base w.heap.size (w.heap.size + 1) ⟨A5, c5, A6, c6, A7, c7, p.M, p.c4⟩ (s.push k) := by
    rw [← hp]
    exact S7.out
  generalize w7.setCell ⟨w.heap.size, 2, none⟩ (.slice A7 xs.length c7) = w8 at hS7 ⊢
  clear hp S7 S6 S5 hS HF hk1 ho5 hg5 ha5 ho6 hg6 ha6 ho7 hg7 ha7 hz5 hz6 hz7
  obtain ⟨⟨e0, e1, e2, e3, e4⟩, hs5, hown, hbel, hfr⟩ := hS7.ret
  have hoffs := hS7.offs
  obtain ⟨c0, c1, c2, c3, c4, f0, f1, f2, f3, f4, s0, s1, s2, s3, s4⟩ := hs5
  have HR := hide (And.intro hown (And.intro hbel (And.intro hfr hoffs)))
  clear hS7 hown hbel hfr hoffs
  generalize s.push k = t at *
  dsimp only at *
  go_wp2
  refine bodyPost_ret (v := shVal ⟨A5, c5, A6, c6, A7, c7, p.M, p.c4⟩ t) (by simp [shVal, shCells, results, Tryd.results35, go_sem, s0, s1, s2, s3, s4]) rfl ?_
  exact ⟨_, rfl, HR.out.1, HR.out.2.1, HR.out.2.2⟩

end Go.Proofs.YtckodifdbephgabDoor

namespace Go.Proofs.YtckodifdbephgabDoor
open Go.RowKit
set_option linter.unusedVariables false

set_option maxRecDepth 100000 in
set_option maxHeartbeats 1000000 in
theorem shapeAt_any (p : ShPtr) (s : Shp) (d : Nat) (w : World) (h : ShAt w w.heap.size p s) (hs : s.Small) (hd2 : d ≤ 1000) :
    Calls Tryd.prog 46 #[shVal p s, .int .i64 (d : Int)] w fun e w' => e = .returned (.int .i64 (s.kindAt d)) ∧ Below w.heap.size w w' := by
  obtain ⟨K, c1, F, c2, S, c3, M, c4⟩ := p
  have hB : Below w.heap.size w (w.alloc (.cells (shCells ⟨K, c1, F, c2, S, c3, M, c4⟩ s) 53)) := (Below.refl _ _).alloc (Nat.le_refl _) _
  have hr := h.later hB (Nat.le_refl _)
  have hst := hs.t
  have hkl := hs.k
  have l := Lies.new w (shCells ⟨K, c1, F, c2, S, c3, M, c4⟩ s) 53
  have e0 : (w.alloc (.cells (shCells ⟨K, c1, F, c2, S, c3, M, c4⟩ s) 53)).cell? ⟨w.heap.size, 0, none⟩ = some (.slice K s.kinds.length c1) := l.cell 0
  have e2 : (w.alloc (.cells (shCells ⟨K, c1, F, c2, S, c3, M, c4⟩ s) 53)).cell? ⟨w.heap.size, 2, none⟩ = some (.slice S s.stack.length c3) := l.cell 2
  have HO := hide hs.ok
  have hrK := hr.k
  have hrT := hr.t
  clear h hs l hr
  dsimp only at hrK hrT
  unfold shVal shCells at *
  dsimp only at *
  have hw1 : IntKind.i64.wrap ((s.stack.length : Int) - 1) = (s.stack.length : Int) - 1 := by rw [IntKind.wrap_i64]; omega
  go_enter Tryd.func46, Tryd.ntmps46
  go_upto_region 1 with fail
  generalize w.alloc (.cells #[.slice K s.kinds.length c1, .slice F s.full.length c2, .slice S s.stack.length c3, .slice M s.memo.length c4, .bool s.done] 53) = W at hB hrK hrT e0 e2 ⊢
  by_cases hd : d < s.stack.length
  · obtain ⟨k, hk⟩ : ∃ k : Nat, s.stack.length = k + 1 + d := ⟨s.stack.length - 1 - d, by omega⟩
    obtain ⟨b, off, x, rfl, hbl, hx, hm, hc⟩ := hrT.at_ (k := k) (by omega)
    have hth : s.thing d = x := by
      unfold Shp.thing
      rw [if_pos hd, show s.stack.length - 1 - d = k by omega, List.getD_eq_getElem?_getD, hx]
      rfl
    have hxr := HO.out.st x hm
    have hk1 : (0 : Int) ≤ (k : Int) := by omega
    have hk2 : (k : Int) < (s.stack.length : Int) := by omega
    have hidx : (s.stack.length : Int) - 1 - (d : Int) = (k : Int) := by omega
    have tk : decide ((k : Int) < 0) = false := by simp
    have hwm : IntKind.i64.wrap (k : Int) = (k : Int) := by rw [IntKind.wrap_i64]; omega
    by_cases hx0 : x < 0
    · have HF := hide (show s.kindAt d = -1 by unfold Shp.kindAt; rw [hth, if_pos hx0])
      have tx : decide (x < 0) = true := by simpa using hx0
      clear hx hm hth hd hx0 hxr hk
      go_wp2
      go_ret
      exact ⟨ret_int HF.out.symm, hB⟩
    · obtain ⟨y, rfl⟩ := Int.eq_ofNat_of_zero_le (show 0 ≤ x by omega)
      obtain ⟨b2, off2, z, rfl, hbl2, hz, hm2, hc2⟩ := hrK.at_ (k := y) (by omega)
      have HF := hide (show s.kindAt d = z by
        unfold Shp.kindAt
        rw [hth, if_neg hx0, Int.toNat_natCast, List.getD_eq_getElem?_getD, hz]
        rfl)
      have tx : decide ((y : Int) < 0) = false := by simp
      have hy1 : (0 : Int) ≤ (y : Int) := by omega
      have hy2 : (y : Int) < (s.kinds.length : Int) := by omega
      clear hx hm hth hd hx0 hxr hk hz hm2
      go_wp2_with fail
      go_quiet (fail)
      go_wp2
      go_ret
      exact ⟨ret_int HF.out.symm, below_drewN hB _⟩
  · have HF := hide (show s.kindAt d = -1 by unfold Shp.kindAt Shp.thing; rw [if_neg hd]; simp)
    have hd3 : (s.stack.length : Int) ≤ (d : Int) := by omega
    have tk : decide ((s.stack.length : Int) - 1 - (d : Int) < 0) = true := by simp; omega
    clear hd hrK hrT
    go_wp2
    go_ret
    exact ⟨ret_int HF.out.symm, hB⟩

end Go.Proofs.YtckodifdbephgabDoor

namespace Go.Proofs.YtckodifdbephgabDoor
open Go.RowKit
set_option linter.unusedVariables false

set_option maxRecDepth 100000 in
set_option maxHeartbeats 1000000 in
theorem newShapes_any (w : World) : Calls Tryd.prog 22 #[] w (GivesSh w w.heap.size Shp.new) := by
  have hB0 : Below w.heap.size w ((w.alloc (.cells zero5 53)).alloc (.cells zero5 53)) := ((Below.refl _ _).alloc (Nat.le_refl _) _).alloc (by simp) _
  have hZ0 := (Lies.new w zero5 53).alloc (.cells zero5 53)
  have hL0 := Lies.new (w.alloc (.cells zero5 53)) zero5 53
  simp only [World.size_alloc] at hL0
  have hsz : ((w.alloc (.cells zero5 53)).alloc (.cells zero5 53)).heap.size = w.heap.size + 2 := by simp
  have hS : ShSt w ((w.alloc (.cells zero5 53)).alloc (.cells zero5 53)) ShPtr.nil w.heap.size (w.heap.size + 2) (w.heap.size + 1) w.heap.size ⟨none, 0, none, 0, none, 0, none, 0⟩ ⟨[], [], [], [], false⟩ := by
    refine ⟨⟨hL0, ⟨OwnI.empty _ _, OwnB.empty _ _, OwnI.empty _ _, OwnI.empty _ _, ?_, ?_, ?_, ?_, ?_, ?_⟩, ⟨?_, ?_, ?_, ?_⟩⟩, hZ0, ⟨?_, ?_, ?_, ?_⟩, hB0, by omega, by rw [hsz]; omega, by omega, by omega, Nat.le_refl _, fun k hk _ => hB0.block k hk, fun k _ _ => ⟨?_, ?_, ?_, ?_⟩, by omega, Nat.le_refl _⟩ <;> simp [blockOf]
  have hm1 : In64 (-1) := by constructor <;> omega
  have HS := hide hS
  clear hS hL0 hZ0 hB0 hsz
  unfold zero5 at *
  go_enter Tryd.func22, Tryd.ntmps22
  go_wp2_with fail
  go_loopw [2] (fun iv wr => ∃ (k : Nat) (A : Option Addr) (c : Nat), k ≤ 20 ∧ iv = .int .i64 (k : Int) ∧ ShSt w wr ShPtr.nil w.heap.size (w.heap.size + 2) (w.heap.size + 1) w.heap.size ⟨none, 0, none, 0, none, 0, A, c⟩ ⟨[], [], [], List.replicate k (-1), false⟩) (fun iv _ => 20 - (intOf iv).toNat)
  case atStart => exact ⟨0, none, 0, Nat.zero_le _, rfl, HS.out⟩
  case round =>
    clear HS
    obtain ⟨k, A, c, hk, rfl, hS⟩ := hrel
    by_cases hlt : k < 20
    · have hd : decide ((k : Int) < 20) = true := by simp; omega
      have hrs := hide (show List.replicate k (-1 : Int) ++ [-1] = List.replicate (k + 1) (-1) by rw [List.replicate_succ'])
      have hll : (List.replicate k (-1 : Int)).length ≤ 20 := by simp; omega
      generalize List.replicate k (-1 : Int) = L at hS hrs hll
      obtain ⟨e0, e1, e2, e3, e4⟩ := hS.bx.cells
      have hwz : w.heap.size + 2 ≤ wr.heap.size := by have := hS.bx.box.lt; omega
      dsimp only at e0 e1 e2 e3 e4
      go_wp2_with (at_builtin; refine append_ints rfl (.tmp 9) (.tmp 10) rfl (w.heap.size + 2) A c L rfl (hS.bx.own.m.alloc _) (wr.heap.size + 1) _ 1 [(-1 : Int)] rfl (fun e => by cases e) (IntsAt.one wr (-1) hm1) (by simp <;> omega) (by simp <;> omega) ?_; intro zs A2 c2 w5 hz hown5 hgrow5 hat5; obtain ⟨d0, d1, d2, d3, d4, f0, f1, f2, f3⟩ := hS.cells hgrow5 hS.bx.off.m; have HS5 := hide (hS.pushM hown5 hgrow5 hat5))
      go_roundw
      case rel =>
        refine ⟨k + 1, A2, c2, by omega, by go_num, ?_⟩
        rw [← hrs.out, ← hz.out]
        exact HS5.out
      case measure => simp [intOf]; omega
    · obtain rfl : k = 20 := by omega
      have hdd : decide ((20 : Int) < 20) = false := rfl
      obtain ⟨⟨e0, e1, e2, e3, e4⟩, hs5, hown, hbel, _⟩ := hS.ret
      obtain ⟨c0, c1, c2, c3, c4, f0, f1, f2, f3, f4, s0, s1, s2, s3, s4⟩ := hs5
      have HR := hide (And.intro hown hbel)
      clear hS hown hbel hlt hk
      dsimp only [List.length_replicate, List.length_nil] at e0 e1 e2 e3 e4 c0 c1 c2 c3 c4 s0 s1 s2 s3 s4
      simp only [List.length_replicate] at e3 s0 s1 s2 s3 s4
      rw [show ((20 : Nat) : Int) = (20 : Int) from rfl]
      go_wp2
      refine bodyPost_ret (v := shVal ⟨none, 0, none, 0, none, 0, A, c⟩ Shp.new) (by simp [shVal, shCells, Shp.new, results, Tryd.results22, go_sem, s0, s1, s2, s3, s4]) rfl ?_
      have h1 := HR.out.1
      have h2 := HR.out.2
      simp only [List.length_replicate, List.length_nil] at h1 h2
      exact ⟨_, rfl, h1.mono (by omega), h2⟩

set_option maxHeartbeats 400000 in
theorem keyKind_any (k : Int) (w : World) :
    Calls Tryd.prog 47 #[.int .i64 k] w fun e w' => e = .returned (.bool (tf (KeyK k))) ∧ w' = w := by
  by_cases h0 : k = 0
  · have HF := hide (show tf (KeyK k) = true from tf_true (.inl h0))
    have t : (k == 0) = true := by simpa using h0
    clear h0
    go_enter Tryd.func47, Tryd.ntmps47
    go_wp2
    go_ret
    exact ⟨ret_bool HF.out.symm, rfl⟩
  · by_cases h1 : k = 1
    · have HF := hide (show tf (KeyK k) = true from tf_true (.inr h1))
      have t : (k == 0) = false := by simpa using h0
      have t1 : (k == 1) = true := by simpa using h1
      clear h0 h1
      go_enter Tryd.func47, Tryd.ntmps47
      go_wp2
      go_ret
      exact ⟨ret_bool HF.out.symm, rfl⟩
    · have HF := hide (show tf (KeyK k) = false from tf_false (fun h => h.elim h0 h1))
      have t : (k == 0) = false := by simpa using h0
      have t1 : (k == 1) = false := by simpa using h1
      clear h0 h1
      go_enter Tryd.func47, Tryd.ntmps47
      go_wp2
      go_ret
      exact ⟨ret_bool HF.out.symm, rfl⟩

set_option maxHeartbeats 400000 in
theorem newKind_any (c : Int) (w : World) (hc : 0 ≤ c ∧ c ≤ 19) :
    Calls Tryd.prog 34 #[.int .i64 c] w fun e w' => e = .returned (.int .i64 (newK c)) ∧ w' = w := by
  have h20 : c = 0 ∨ c = 1 ∨ c = 2 ∨ c = 3 ∨ c = 4 ∨ c = 5 ∨ c = 6 ∨ c = 7 ∨ c = 8 ∨ c = 9 ∨ c = 10 ∨ c = 11 ∨ c = 12 ∨ c = 13 ∨ c = 14 ∨ c = 15 ∨ c = 16 ∨ c = 17 ∨ c = 18 ∨ c = 19 := by omega
  clear hc
  rcases h20 with rfl | rfl | rfl | rfl | rfl | rfl | rfl | rfl | rfl | rfl | rfl | rfl | rfl | rfl | rfl | rfl | rfl | rfl | rfl | rfl
  all_goals
    go_enter Tryd.func34, Tryd.ntmps34
    go_wp2
    go_ret
    exact ⟨ret_int (by decide), rfl⟩

end Go.Proofs.YtckodifdbephgabDoor
