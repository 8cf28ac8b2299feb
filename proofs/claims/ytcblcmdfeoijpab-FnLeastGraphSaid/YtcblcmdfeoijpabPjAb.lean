/-
  Lemmas, several texts in one: Only, OwnN, EqlG.
-/
import Derived.Test.YtcblcmdfeoijpabPjAa
import Derived.Deep.QuietTactic
import Derived.BigQuiet
namespace Go.Proofs.Ytcblcmdfeoijpab
open Go.RowKit
set_option linter.unusedVariables false

/-- n numbers from k on -/
def marks (k : Int) (n : Nat) : List Int := (List.range n).map fun (i : Nat) => k + (i : Int)

theorem marks_len (k : Int) (n : Nat) : (marks k n).length = n := by simp [marks]
theorem marks_at {k : Int} {n j : Nat} (h : j < n) : (marks k n)[j]? = some (k + (j : Int)) := by
  simp [marks, h]

/-- but for blocks from lo on and below hi nothing has turned -/
structure Only (lo hi : Nat) (w w' : World) : Prop where
  os : w'.os = w.os
  tape : w'.tape = w.tape
  output : w'.output = w.output
  size : w'.heap.size = w.heap.size
  block : ∀ k, k < lo ∨ hi ≤ k → w'.heap[k]? = w.heap[k]?

theorem Only.refl (lo hi : Nat) (w : World) : Only lo hi w w := ⟨rfl, rfl, rfl, rfl, fun _ _ => rfl⟩
theorem Only.trans {lo hi : Nat} {a b c : World} (h : Only lo hi a b) (k : Only lo hi b c) : Only lo hi a c :=
  ⟨k.os.trans h.os, k.tape.trans h.tape, k.output.trans h.output, k.size.trans h.size, fun j hj => (k.block j hj).trans (h.block j hj)⟩
theorem Only.setCell {lo hi : Nat} {a w : World} (h : Only lo hi a w) {p : Addr} (h1 : lo ≤ p.block) (h2 : p.block < hi) (u : Value) : Only lo hi a (w.setCell p u) :=
  h.trans ⟨rfl, rfl, rfl, by simp, fun k hk => Below.heap_setCell _ _ _ _ (by omega)⟩
theorem Only.below {lo hi : Nat} {w w' : World} (h : Only lo hi w w') : Below lo w w' := ⟨h.os, h.tape, h.output, by rw [h.size]; exact Nat.le_refl _, fun k hk => h.block k (.inl hk)⟩
theorem Only.mono {lo hi lo' hi' : Nat} {w w' : World} (h : Only lo hi w w') (h1 : lo' ≤ lo) (h2 : hi ≤ hi') : Only lo' hi' w w' :=
  ⟨h.os, h.tape, h.output, h.size, fun k hk => h.block k (by omega)⟩

/-- an int slice in a row of the call's own keeps its numbers where the row is left alone -/
theorem OwnI.only {w w' : World} {base lo hi : Nat} {A : Option Addr} {c : Nat} {xs : List Int} (h : OwnI w base A c xs) (ho : Only lo hi w w') (hA : ∀ g, blockOf A = some g → g < lo ∨ hi ≤ g) : OwnI w' base A c xs := by
  refine ⟨h.own.1, ?_⟩
  rcases h.own.2 with h2 | ⟨g, cap, cur, hv, hg, hh, r⟩
  · exact .inl h2
  · refine .inr ⟨g, cap, cur, hv, hg, ?_, r⟩
    rw [ho.block g]
    · exact hh
    · apply hA g
      injection hv with hv
      rw [hv]
      rfl

/-- but for blocks from lo on and below hi, old memory is as it was -/
structure Save (lo hi : Nat) (w w' : World) : Prop where
  os : w'.os = w.os
  tape : w'.tape = w.tape
  output : w'.output = w.output
  size : w.heap.size ≤ w'.heap.size
  block : ∀ k, k < w.heap.size → k < lo ∨ hi ≤ k → w'.heap[k]? = w.heap[k]?

theorem Save.of_below {lo hi : Nat} {w w' : World} (h : Below w.heap.size w w') : Save lo hi w w' := ⟨h.os, h.tape, h.output, h.size, fun k hk _ => h.block k hk⟩
theorem Save.of_only {lo hi : Nat} {w w' : World} (h : Only lo hi w w') : Save lo hi w w' := ⟨h.os, h.tape, h.output, by rw [h.size]; exact Nat.le_refl _, fun k _ hk => h.block k hk⟩
theorem Save.trans {lo hi : Nat} {a b c : World} (h : Save lo hi a b) (k : Save lo hi b c) : Save lo hi a c :=
  ⟨k.os.trans h.os, k.tape.trans h.tape, k.output.trans h.output, Nat.le_trans h.size k.size, fun j hj hl => (k.block j (Nat.lt_of_lt_of_le hj h.size) hl).trans (h.block j hj hl)⟩
theorem Save.below {lo hi : Nat} {w w' : World} (h : Save lo hi w w') (hl : lo ≤ w.heap.size) : Below lo w w' := ⟨h.os, h.tape, h.output, h.size, fun k hk => h.block k (by omega) (.inl hk)⟩

theorem OwnI.save {w w' : World} {base lo hi : Nat} {A : Option Addr} {c : Nat} {xs : List Int} (h : OwnI w base A c xs) (ho : Save lo hi w w') (hA : ∀ g, blockOf A = some g → g < lo ∨ hi ≤ g) : OwnI w' base A c xs := by
  refine ⟨h.own.1, ?_⟩
  have hbl := h.blocks
  rcases h.own.2 with h2 | ⟨g, cap, cur, hv, hg, hh, r⟩
  · exact .inl h2
  · have hAg : blockOf A = some g := by
      injection hv with hv
      rw [hv]
      rfl
    refine .inr ⟨g, cap, cur, hv, hg, ?_, r⟩
    rw [ho.block g (hbl g hAg).2 (hA g hAg)]
    exact hh

end Go.Proofs.Ytcblcmdfeoijpab

namespace Go.Proofs.Ytcblcmdfeoijpab
open Go.RowKit
set_option linter.unusedVariables false

/-- the three cells of the node j in the row of the block g; its kids lie in a row of the call's own, in blocks from lo on and below hi -/
structure NdO (w : World) (lo hi g j : Nat) (n : Nd) : Prop where
  kind : w.cell? ⟨g, j * 3, none⟩ = some (.int .i64 n.kind)
  value : w.cell? ⟨g, j * 3 + 1, none⟩ = some (.int .i64 n.value)
  kids : ∃ A c, w.cell? ⟨g, j * 3 + 2, none⟩ = some (.slice A n.kids.length c) ∧ OwnI w lo A c n.kids ∧ ∀ b, blockOf A = some b → b < hi ∧ b ≠ g

structure OwnRow (w : World) (lo hi g cap : Nat) (ns : List Nd) : Prop where
  row : ∃ f, w.rowIs g 41 (cap * 3) f
  le : ns.length ≤ cap
  hlo : lo ≤ g
  hhi : g < hi
  nd : ∀ j n, ns[j]? = some n → NdO w lo hi g j n
  dis : ∀ (i j : Nat) (A A' : Option Addr) (n n' c c' : Nat), i ≠ j → i < ns.length → j < ns.length → w.cell? ⟨g, i * 3 + 2, none⟩ = some (.slice A n c) → w.cell? ⟨g, j * 3 + 2, none⟩ = some (.slice A' n' c') → ∀ b, blockOf A = some b → blockOf A' ≠ some b

/-- the slice value (A, length of ns, c) owns the nodes ns, all in blocks from lo on and below hi -/
def OwnNs (w : World) (lo hi : Nat) (A : Option Addr) (c : Nat) (ns : List Nd) : Prop :=
  (A = none ∧ c = 0 ∧ ns = []) ∨ ∃ g, A = some ⟨g, 0, none⟩ ∧ OwnRow w lo hi g c ns

/-- all numbers of nodes are ints -/
def WfN (ns : List Nd) : Prop := ∀ n ∈ ns, In64 n.kind ∧ In64 n.value ∧ (∀ x ∈ n.kids, In64 x) ∧ n.kids.length ≤ 9223372036854775807

theorem OwnI.of_blk {w w' : World} {base : Nat} {A : Option Addr} {c : Nat} {xs : List Int} (h : OwnI w base A c xs) (hA : ∀ g, blockOf A = some g → w'.heap[g]? = w.heap[g]?) : OwnI w' base A c xs := by
  refine ⟨h.own.1, ?_⟩
  rcases h.own.2 with h2 | ⟨g, cap, cur, hv, hg, hh, r⟩
  · exact .inl h2
  · refine .inr ⟨g, cap, cur, hv, hg, ?_, r⟩
    rw [hA g (by injection hv with hv; rw [hv]; rfl)]
    exact hh

theorem OwnRow.lt {w : World} {lo hi g cap : Nat} {ns : List Nd} (h : OwnRow w lo hi g cap ns) : g < w.heap.size := by
  obtain ⟨f, hf⟩ := h.row
  exact hf.lt

theorem OwnRow.nds {w : World} {lo hi g cap : Nat} {ns : List Nd} (h : OwnRow w lo hi g cap ns) (hwf : WfN ns) (hl : ns.length ≤ 9223372036854775807) : NdsAt w w.heap.size (some ⟨g, 0, none⟩) ns :=
  ⟨fun _ => ⟨g, 0, rfl, h.lt, fun j n hj => by
    have hn := h.nd j n hj
    obtain ⟨A, c, h1, h2, _⟩ := hn.kids
    obtain ⟨w1, w2, w3, w4⟩ := hwf n (List.mem_of_getElem? hj)
    rw [Nat.zero_add]
    exact ⟨hn.kind, hn.value, ⟨A, c, h1, h2.ints w3 w4, h2.nil⟩, w1, w2⟩⟩, hl⟩

theorem OwnNs.nds {w : World} {lo hi : Nat} {A : Option Addr} {c : Nat} {ns : List Nd} (h : OwnNs w lo hi A c ns) (hwf : WfN ns) (hl : ns.length ≤ 9223372036854775807) : NdsAt w w.heap.size A ns := by
  rcases h with ⟨rfl, _, rfl⟩ | ⟨g, rfl, h⟩
  · exact ⟨fun hx => absurd rfl hx, by simp⟩
  · exact h.nds hwf hl

/-- the blocks from lo on and below hi are as they were -/
theorem OwnRow.kept {w w' : World} {lo hi g cap : Nat} {ns : List Nd} (h : OwnRow w lo hi g cap ns) (hb : ∀ b, lo ≤ b → b < hi → w'.heap[b]? = w.heap[b]?) : OwnRow w' lo hi g cap ns := by
  have hg := hb g h.hlo h.hhi
  have hc : ∀ q, w'.cell? ⟨g, q, none⟩ = w.cell? ⟨g, q, none⟩ := fun q => World.cell?_of_block (w := w) hg
  obtain ⟨f, hf⟩ := h.row
  refine ⟨⟨f, hf.of_block hg⟩, h.le, h.hlo, h.hhi, fun j n hj => ?_, fun i j A A' n n' c c' hij hi hj h1 h2 => h.dis i j A A' n n' c c' hij hi hj ((hc _).symm.trans h1) ((hc _).symm.trans h2)⟩
  have hn := h.nd j n hj
  obtain ⟨A, c, h1, h2, h3⟩ := hn.kids
  exact ⟨(hc _).trans hn.kind, (hc _).trans hn.value, ⟨A, c, (hc _).trans h1, h2.of_blk (fun b hb' => hb b (h2.blocks b hb').1 (h3 b hb').1), h3⟩⟩

theorem OwnNs.kept {w w' : World} {lo hi : Nat} {A : Option Addr} {c : Nat} {ns : List Nd} (h : OwnNs w lo hi A c ns) (hb : ∀ b, lo ≤ b → b < hi → w'.heap[b]? = w.heap[b]?) : OwnNs w' lo hi A c ns := by
  rcases h with h | ⟨g, e, h⟩
  · exact .inl h
  · exact .inr ⟨g, e, h.kept hb⟩

theorem OwnNs.below {w w' : World} {lo hi B : Nat} {A : Option Addr} {c : Nat} {ns : List Nd} (h : OwnNs w lo hi A c ns) (hb : Below B w w') (hB : hi ≤ B) : OwnNs w' lo hi A c ns :=
  h.kept (fun b _ h2 => hb.block b (by omega))

theorem OwnNs.only {w w' : World} {lo hi l2 h2 : Nat} {A : Option Addr} {c : Nat} {ns : List Nd} (h : OwnNs w lo hi A c ns) (ho : Only l2 h2 w w') (hB : hi ≤ l2 ∨ h2 ≤ lo) : OwnNs w' lo hi A c ns :=
  h.kept (fun b h3 h4 => ho.block b (by omega))

/-- a node's kind and value are written -/
theorem OwnRow.set2 {w : World} {lo hi g cap j : Nat} {ns : List Nd} {n : Nd} (h : OwnRow w lo hi g cap ns) (hj : ns[j]? = some n) (a b : Int) :
    OwnRow ((w.setCell ⟨g, j * 3, none⟩ (.int .i64 a)).setCell ⟨g, j * 3 + 1, none⟩ (.int .i64 b)) lo hi g cap (ns.set j ⟨a, b, n.kids⟩) := by
  obtain ⟨f, hf⟩ := h.row
  have hjl := (List.getElem?_eq_some_iff.1 hj).1
  have hcap := h.le
  have hrow := (hf.set (j * 3) (.int .i64 a)).set (j * 3 + 1) (.int .i64 b)
  have hbl : ∀ q, q ≠ g → ((w.setCell ⟨g, j * 3, none⟩ (.int .i64 a)).setCell ⟨g, j * 3 + 1, none⟩ (.int .i64 b)).heap[q]? = w.heap[q]? := fun q hq => (Below.heap_setCell _ _ _ _ hq).trans (Below.heap_setCell _ _ _ _ hq)
  have hc : ∀ q, q ≠ j * 3 → q ≠ j * 3 + 1 → ((w.setCell ⟨g, j * 3, none⟩ (.int .i64 a)).setCell ⟨g, j * 3 + 1, none⟩ (.int .i64 b)).cell? ⟨g, q, none⟩ = w.cell? ⟨g, q, none⟩ := fun q h1 h2 => by
    rw [World.cell?_setCell_other, World.cell?_setCell_other] <;> (intro e; injection e with _ e; omega)
  refine ⟨⟨_, hrow⟩, by rw [List.length_set]; exact hcap, h.hlo, h.hhi, fun i m hi' => ?_, fun i k A A' n1 n2 c c' hik hi' hk h1 h2 => ?_⟩
  · rw [List.getElem?_set] at hi'
    by_cases e : j = i
    · subst e
      rw [if_pos rfl, if_pos hjl] at hi'
      injection hi' with hi'
      subst hi'
      obtain ⟨A, c, h1, h2, h3⟩ := (h.nd j n hj).kids
      have c0 := World.rowIs.cell hrow (i := j * 3) (by omega)
      have c1 := World.rowIs.cell hrow (i := j * 3 + 1) (by omega)
      simp at c0 c1
      exact ⟨c0, c1, ⟨A, c, (hc _ (by omega) (by omega)).trans h1, h2.of_blk (fun q hq => hbl q (h3 q hq).2), h3⟩⟩
    · rw [if_neg e] at hi'
      have hn := h.nd i m hi'
      obtain ⟨A, c, h1, h2, h3⟩ := hn.kids
      exact ⟨(hc _ (by omega) (by omega)).trans hn.kind, (hc _ (by omega) (by omega)).trans hn.value, ⟨A, c, (hc _ (by omega) (by omega)).trans h1, h2.of_blk (fun q hq => hbl q (h3 q hq).2), h3⟩⟩
  · rw [List.length_set] at hi' hk
    exact h.dis i k A A' n1 n2 c c' hik hi' hk ((hc _ (by omega) (by omega)).symm.trans h1) ((hc _ (by omega) (by omega)).symm.trans h2)

/-- the kids of a node are written, in the row where they lie -/
theorem OwnRow.setKids {w w' : World} {lo hi g cap j cj : Nat} {ns : List Nd} {n : Nd} {Aj : Option Addr} {ks : List Int} (h : OwnRow w lo hi g cap ns) (hj : ns[j]? = some n) (hcell : w.cell? ⟨g, j * 3 + 2, none⟩ = some (.slice Aj n.kids.length cj)) (hl : ks.length = n.kids.length)
    (hown : OwnI w' lo Aj cj ks) (hb : ∀ b, blockOf Aj ≠ some b → w'.heap[b]? = w.heap[b]?) :
    OwnRow w' lo hi g cap (ns.set j ⟨n.kind, n.value, ks⟩) := by
  obtain ⟨f, hf⟩ := h.row
  have hjl := (List.getElem?_eq_some_iff.1 hj).1
  obtain ⟨A, c, h1, h2, h3⟩ := (h.nd j n hj).kids
  rw [hcell] at h1
  injection h1 with h1
  injection h1 with e1 _ e2
  subst e1 e2
  have hg := hb g (fun e => (h3 g e).2 rfl)
  have hc : ∀ q, w'.cell? ⟨g, q, none⟩ = w.cell? ⟨g, q, none⟩ := fun q => World.cell?_of_block (w := w) hg
  refine ⟨⟨f, hf.of_block hg⟩, by rw [List.length_set]; exact h.le, h.hlo, h.hhi, fun i m hi' => ?_, fun i k A A' n1 n2 c c' hik hi' hk h1 h2 => ?_⟩
  · rw [List.getElem?_set] at hi'
    by_cases e : j = i
    · subst e
      rw [if_pos rfl, if_pos hjl] at hi'
      injection hi' with hi'
      subst hi'
      have hn := h.nd j n hj
      exact ⟨(hc _).trans hn.kind, (hc _).trans hn.value, ⟨Aj, cj, by rw [hl]; exact (hc _).trans hcell, hown, h3⟩⟩
    · rw [if_neg e] at hi'
      have hil := (List.getElem?_eq_some_iff.1 hi').1
      have hn := h.nd i m hi'
      obtain ⟨A2, c2, g1, g2, g3⟩ := hn.kids
      exact ⟨(hc _).trans hn.kind, (hc _).trans hn.value, ⟨A2, c2, (hc _).trans g1, g2.of_blk (fun q hq => hb q (h.dis i j A2 Aj _ _ _ _ (fun e2 => e e2.symm) hil hjl g1 hcell q hq)), g3⟩⟩
  · rw [List.length_set] at hi' hk
    exact h.dis i k A A' n1 n2 c c' hik hi' hk ((hc _).symm.trans h1) ((hc _).symm.trans h2)

end Go.Proofs.Ytcblcmdfeoijpab

namespace Go.Proofs.Ytcblcmdfeoijpab
open Go.RowKit
set_option linter.unusedVariables false

theorem drewN_below {w w' : World} {m : Nat} (h : w' = w.drewN m) : Below w.heap.size w w' := by
  subst h
  exact below_drewN (Below.refl _ _) m

set_option maxHeartbeats 1000000 in
theorem equalInts_q (A A' : Option Addr) (xs : List Int) (c c' : Nat) (w : World) (h : IntsAt w w.heap.size A xs) (h' : IntsAt w w.heap.size A' xs) :
    Calls Try.prog 33 #[.slice A xs.length c, .slice A' xs.length c'] w fun e w' => e = .returned (.bool true) ∧ ∃ m, w' = w.drewN m := by
  have hl := h.len
  have hb0 : ((xs.length : Int) != (xs.length : Int)) = false := by simp
  go_enter Try.func33, Try.ntmps33
  go_wp2_with fail
  go_loopw [5] (fun i wr => ∃ k m : Nat, k ≤ xs.length ∧ i = .int .i64 k ∧ wr = w.drewN m) (fun i _ => xs.length - (intOf i).toNat)
  case atStart => exact ⟨0, 0, Nat.zero_le _, rfl, rfl⟩
  case round =>
    obtain ⟨k, m, hk, rfl, hwr⟩ := hrel
    have hb := drewN_below hwr
    have HW := hide hwr
    clear hwr
    by_cases hlt : k < xs.length
    · obtain ⟨b, off, x, rfl, hbl, hx, _, hcx⟩ := (h.below hb).at_ hlt
      obtain ⟨b', off', y, rfl, hbl', hy, _, hcy⟩ := (h'.below hb).at_ hlt
      rw [hx] at hy
      injection hy with hy
      subst hy
      have hk1 : (0 : Int) ≤ (k : Int) := by omega
      have hk2 : (k : Int) < (xs.length : Int) := by omega
      clear hx hb
      go_wp2_with fail
      go_quiet (fail)
      go_wp2
      go_roundw
      case rel => exact ⟨k + 1, m + nq, by omega, by go_num, by rw [HW.out, World.drewN_drewN]⟩
      case measure => simp [intOf]; omega
    · obtain rfl : k = xs.length := by omega
      clear hlt hb
      go_wp2
      go_ret
      exact ⟨rfl, m, HW.out⟩

set_option maxRecDepth 100000 in
set_option maxHeartbeats 2000000 in
theorem equalNodes_q (A A' : Option Addr) (ns : List Nd) (c c' : Nat) (w : World) (h : NdsAt w w.heap.size A ns) (h' : NdsAt w w.heap.size A' ns) :
    Calls Try.prog 16 #[.slice A ns.length c, .slice A' ns.length c'] w fun e w' => e = .returned (.bool true) ∧ ∃ m, w' = w.drewN m := by
  have hl := h.len
  have hb0 : ((ns.length : Int) != (ns.length : Int)) = false := by simp
  go_enter Try.func16, Try.ntmps16
  go_wp2_with fail
  go_loopw [5] (fun i wr => ∃ k m : Nat, k ≤ ns.length ∧ i = .int .i64 k ∧ wr = w.drewN m) (fun i _ => ns.length - (intOf i).toNat)
  case atStart => exact ⟨0, 0, Nat.zero_le _, rfl, rfl⟩
  case round =>
    obtain ⟨k, m, hk, rfl, hwr⟩ := hrel
    have hb := drewN_below hwr
    have HW := hide hwr
    clear hwr
    by_cases hlt : k < ns.length
    · obtain ⟨b, off, x, rfl, hbl, hx, _, hX⟩ := (h.below hb).at_ hlt
      obtain ⟨b', off', y, rfl, hbl', hy, _, hY⟩ := (h'.below hb).at_ hlt
      rw [hx] at hy
      injection hy with hy
      subst hy
      obtain ⟨hm_k, hm_v, ⟨A1, c1, hm_s, hI1, _⟩, _, _⟩ := hX
      obtain ⟨hn_k, hn_v, ⟨A2, c2, hn_s, hI2, _⟩, _, _⟩ := hY
      have t1 : (x.kind != x.kind) = false := by simp
      have t2 : (x.value != x.value) = false := by simp
      have hk1 : (0 : Int) ≤ (k : Int) := by omega
      have hk2 : (k : Int) < (ns.length : Int) := by omega
      have J1 := hide (hI1.more hb.size)
      have J2 := hide (hI2.more hb.size)
      clear hx hb hI1 hI2
      go_wp2_with fail
      go_quiet ((go_at_call 33; exact Calls.quiet_of (equalInts_q A1 A2 x.kids c1 c2 _ (J1.out.later (below_drewN (Below.refl _ _) _) (Nat.le_refl _)) (J2.out.later (below_drewN (Below.refl _ _) _) (Nat.le_refl _)))))
      go_wp2
      go_roundw
      case rel => exact ⟨k + 1, m + nq, by omega, by go_num, by rw [HW.out, World.drewN_drewN]⟩
      case measure => simp [intOf]; omega
    · obtain rfl : k = ns.length := by omega
      clear hlt hb
      go_wp2
      go_ret
      exact ⟨rfl, m, HW.out⟩

set_option maxHeartbeats 1000000 in
theorem equalGraph_same (A A' : Option Addr) (ns : List Nd) (r : Int) (c c' : Nat) (w : World) (h : NdsAt w w.heap.size A ns) (h' : NdsAt w w.heap.size A' ns) :
    Calls Try.prog 6 #[.agg #[.slice A ns.length c, .int .i64 r], .agg #[.slice A' ns.length c', .int .i64 r]] w fun e w' => e = .returned (.bool true) ∧ Below w.heap.size w w' := by
  have hB : Below w.heap.size w ((w.alloc (.cells #[.slice A ns.length c, .int .i64 r] 25)).alloc (.cells #[.slice A' ns.length c', .int .i64 r] 25)) :=
    ((Below.refl _ _).alloc (Nat.le_refl _) _).alloc (by simp) _
  have h2 := h.later hB (Nat.le_refl _)
  have h2' := h'.later hB (Nat.le_refl _)
  have t1 : (r == r) = true := by simp
  clear h h'
  go_enter Try.func6, Try.ntmps6
  go_wp2_with fail
  refine (equalNodes_q A A' ns c c' _ h2 h2').mono ?_
  rintro e w' ⟨rfl, m, hw⟩
  have HB := hide (hB.trans ((drewN_below hw).mono hB.size))
  clear h2 h2' hw hB
  go_wp2
  go_ret
  exact ⟨rfl, HB.out⟩

end Go.Proofs.Ytcblcmdfeoijpab
