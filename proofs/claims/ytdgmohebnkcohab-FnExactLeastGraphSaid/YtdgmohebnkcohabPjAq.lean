/-
  Lemmas, several texts in one: ClnA, EqN, Eq.
-/
import Derived.Test.YtdgmohebnkcohabPjAd
import Derived.Test.YtdgmohebnkcohabPjAa
import Derived.Deep.LoopGhost
import Derived.Test.YtdgmohebnkcohabPjAj
import Derived.Deep.QuietTactic
import Derived.BigQuiet
import Derived.StillTailTactics
namespace Go.Proofs.Ytdgmohebnkcohab
open Go.RowKit Go.Maps
set_option linter.unusedVariables false

theorem makeNodesC (n : Nat) (hn : n ≤ 1000) : ∀ w : World, (Instr.makeSlice 26 (.int .i64 (n : Int)) (.int .i64 (n : Int))).run Try.prog w = .ok (.slice (some ⟨w.heap.size, 0, none⟩) n n) (w.alloc (.cells (madeCells (Value.agg #[.int .i64 0, .int .i64 0, .slice none 0 0]).cells (n * 3)) 47)) :=
  run_make_rows (P := Try.prog) 26 47 (.agg #[.int .i64 0, .int .i64 0, .slice none 0 0]) 3 40 Try.underlying26 infoNdA .i64 .i64 n (by omega) (by omega)

/-- the answer: a row of the call's own that holds the nodes -/
def GivesNs (w : World) (ns : List Nd) (e : Ending) (w' : World) : Prop :=
  ∃ g, e = .returned (.slice (some ⟨g, 0, none⟩) ns.length ns.length) ∧ OwnRow w' w.heap.size w'.heap.size g ns.length ns ∧ Below w.heap.size w w'

structure ClA (w wr : World) (ns : List Nd) (k : Nat) : Prop where
  bel : Below w.heap.size w wr
  row : OwnRow wr w.heap.size wr.heap.size w.heap.size ns.length (ns.take k)

theorem ClA.start (w : World) (ns : List Nd) : ClA w (w.alloc (.cells (madeCells #[.int .i64 0, .int .i64 0, .slice none 0 0] (ns.length * 3)) 47)) ns 0 := by
  refine ⟨(Below.refl _ _).alloc (Nat.le_refl _) _, ?_⟩
  have hrow : (w.alloc (.cells (madeCells #[.int .i64 0, .int .i64 0, .slice none 0 0] (ns.length * 3)) 47)).rowIs w.heap.size 47 (ns.length * 3) (fun i => ((madeCells #[.int .i64 0, .int .i64 0, .slice none 0 0] (ns.length * 3))[i]?).getD undef) :=
    ⟨_, Lies.new w _ _, size_madeCells _ _, fun i hi => by
      show (madeCells #[.int .i64 0, .int .i64 0, .slice none 0 0] (ns.length * 3))[i]? = some (((madeCells #[.int .i64 0, .int .i64 0, .slice none 0 0] (ns.length * 3))[i]?).getD undef)
      rw [Array.getElem?_eq_getElem (by rw [size_madeCells]; exact hi)]
      rfl⟩
  have := (OwnRow.zero hrow).high (hi2 := (w.alloc (.cells (madeCells #[.int .i64 0, .int .i64 0, .slice none 0 0] (ns.length * 3)) 47)).heap.size) (by simp)
  simpa using this

theorem ClA.step {w wr w2 wi : World} {ns : List Nd} {k c : Nat} {n : Nd} {Ak : Option Addr} (h : ClA w wr ns k) (hn : ns[k]? = some n) (h2 : Below wr.heap.size wr w2) (hi : Below w2.heap.size w2 wi)
    (hown : OwnI wi w2.heap.size Ak c n.kids) : ClA w (setN wi w.heap.size k (.int .i64 n.kind) (.int .i64 n.value) (.slice Ak n.kids.length c)) ns (k + 1) := by
  have hkl := (List.getElem?_eq_some_iff.1 hn).1
  have hb := h2.trans (hi.mono h2.size)
  have hlen : (ns.take k).length = k := by simp; omega
  refine ⟨setN_below (h.bel.trans (hb.mono h.bel.size)) (Nat.le_refl _), ?_⟩
  have hr : OwnRow wi w.heap.size wr.heap.size w.heap.size ns.length (ns.take k) := h.row.kept (fun b _ hb' => hb.block b hb')
  have := hr.snoc (n := n) (hi2 := wi.heap.size) (c := c) (A := Ak) (by omega) (hown.lowB h2.size) (by have := hb.size; omega) (fun b hb' => (hown.blocks b hb').2)
  rw [hlen] at this
  rw [List.take_add_one, hn, setN_size]
  exact this

end Go.Proofs.Ytdgmohebnkcohab

namespace Go.Proofs.Ytdgmohebnkcohab
open Go.RowKit

theorem nd_ne {m n : Nd} (h : m.kind ≠ n.kind ∨ m.value ≠ n.value ∨ m.kids ≠ n.kids) : decide (m = n) = false := by
  simp only [decide_eq_false_iff_not]
  rintro rfl
  simp at h

theorem nd_eq {m n : Nd} (h1 : m.kind = n.kind) (h2 : m.value = n.value) (h3 : m.kids = n.kids) : decide (m = n) = true := by
  cases m; cases n
  simp_all

set_option maxHeartbeats 1000000 in
theorem eqNode_any (A A' : Option Addr) (m n : Nd) (c c' : Nat) (w : World) (h : IntsAt w w.heap.size A m.kids) (h' : IntsAt w w.heap.size A' n.kids) :
    Calls Try.prog 40 #[.agg #[.int .i64 m.kind, .int .i64 m.value, .slice A m.kids.length c], .agg #[.int .i64 n.kind, .int .i64 n.value, .slice A' n.kids.length c']] w fun e w' =>
      e = .returned (.bool (decide (m = n))) ∧ Below w.heap.size w w' := by
  have hB : Below w.heap.size w ((w.alloc (.cells #[.int .i64 m.kind, .int .i64 m.value, .slice A m.kids.length c] 47)).alloc (.cells #[.int .i64 n.kind, .int .i64 n.value, .slice A' n.kids.length c'] 47)) :=
    ((Below.refl _ _).alloc (Nat.le_refl _) _).alloc (by simp) _
  have hi := h.later hB (Nat.le_refl _)
  have hi' := h'.later hB (Nat.le_refl _)
  clear h h'
  by_cases h1 : m.kind = n.kind
  · have t1 : (m.kind != n.kind) = false := by simpa using h1
    by_cases h2 : m.value = n.value
    · have t2 : (m.value != n.value) = false := by simpa using h2
      by_cases h3 : m.kids = n.kids
      · have HF := hide (nd_eq h1 h2 h3)
        have t3 := hide (show decide (m.kids = n.kids) = true by simpa using h3)
        clear h1 h2 h3
        go_enter Try.func40, Try.ntmps40
        go_wp2_with fail
        refine (eqIntS_any A A' m.kids n.kids c c' _ hi hi').mono ?_
        rintro e w' ⟨rfl, hb⟩
        rw [t3.out]
        go_wp2
        go_ret
        exact ⟨ret_bool HF.out.symm, hB.trans (hb.mono (by simp; omega))⟩
      · have HF := hide (nd_ne (.inr (.inr h3)))
        have t3 := hide (show decide (m.kids = n.kids) = false by simpa using h3)
        clear h1 h2 h3
        go_enter Try.func40, Try.ntmps40
        go_wp2_with fail
        refine (eqIntS_any A A' m.kids n.kids c c' _ hi hi').mono ?_
        rintro e w' ⟨rfl, hb⟩
        rw [t3.out]
        go_wp2
        go_ret
        exact ⟨ret_bool HF.out.symm, hB.trans (hb.mono (by simp; omega))⟩
    · have t2 : (m.value != n.value) = true := by simpa using h2
      have HF := hide (nd_ne (.inr (.inl h2)))
      clear h1 h2
      go_enter Try.func40, Try.ntmps40
      go_wp2
      go_ret
      exact ⟨ret_bool HF.out.symm, hB⟩
  · have t1 : (m.kind != n.kind) = true := by simpa using h1
    have HF := hide (nd_ne (.inl h1))
    clear h1
    go_enter Try.func40, Try.ntmps40
    go_wp2
    go_ret
    exact ⟨ret_bool HF.out.symm, hB⟩

set_option maxRecDepth 100000 in
set_option maxHeartbeats 1000000 in
theorem eqNodeS_any (A A' : Option Addr) (ms ns : List Nd) (c c' : Nat) (w : World) (h : NdsAt w w.heap.size A ms) (h' : NdsAt w w.heap.size A' ns) :
    Calls Try.prog 19 #[.slice A ms.length c, .slice A' ns.length c'] w fun e w' => e = .returned (.bool (decide (ms = ns))) ∧ Below w.heap.size w w' := by
  have hl := h.len
  by_cases hne : ms.length = ns.length
  · have hb0 : ((ms.length : Int) != (ns.length : Int)) = false := by simp [hne]
    go_enter Try.func19, Try.ntmps19
    go_wp2_with fail
    go_loopw [5] (fun i wr => ∃ k : Nat, k ≤ ms.length ∧ i = .int .i64 k ∧ Below w.heap.size w wr ∧ ∀ j, j < k → ms[j]? = ns[j]?) (fun i _ => ms.length - (intOf i).toNat)
    case atStart => exact ⟨0, Nat.zero_le _, rfl, Below.refl _ _, fun j hj => absurd hj (by omega)⟩
    case round =>
      obtain ⟨k, hk, rfl, hb, he0⟩ := hrel
      have he := hide he0
      clear he0
      by_cases hlt : k < ms.length
      · obtain ⟨b, off, m, rfl, hbl, hx, _, hM⟩ := (h.below hb).at_ hlt
        obtain ⟨b', off', n, rfl, hbl', hy, _, hN⟩ := (h'.below hb).at_ (k := k) (by omega)
        obtain ⟨hm_k, hm_v, ⟨A1, c1, hm_s, hI1, _⟩, _, _⟩ := hM
        obtain ⟨hn_k, hn_v, ⟨A2, c2, hn_s, hI2, _⟩, _, _⟩ := hN
        have Hx := hide hx
        have Hy := hide hy
        clear hx hy
        have hk1 : (0 : Int) ≤ (k : Int) := by omega
        have hk2 : (k : Int) < (ms.length : Int) := by omega
        have hk3 : (k : Int) < (ns.length : Int) := by omega
        have Hne := hide hne
        clear hne
        have hb2 : Below w.heap.size w wr.drew := hb.drew
        have hJ1 : IntsAt wr.drew wr.drew.heap.size A1 m.kids := hI1.later (Below.refl _ _).drew hb.size
        have hJ2 : IntsAt wr.drew wr.drew.heap.size A2 n.kids := hI2.later (Below.refl _ _).drew hb.size
        clear hI1 hI2
        go_wp2_with fail
        go_still_tail 8, (by kernel_rfl)
        change wpList _ _ _ _ _ wr.drew
        generalize wr.drew = w2 at hb2 hJ1 hJ2 ⊢
        go_wp2_with fail
        refine (eqNode_any A1 A2 m n c1 c2 w2 hJ1 hJ2).mono ?_
        rintro e w' ⟨rfl, hb3⟩
        have hb4 := hb2.trans (hb3.mono hb2.size)
        clear hb2 hb3 hJ1 hJ2
        by_cases hmn : m = n
        · subst hmn
          have t : decide (m = m) = true := by simp
          rw [t]
          clear t
          go_wp2
          go_roundw
          case rel => exact ⟨k + 1, by omega, by go_num, hb4, fun j hj => by
            by_cases e : j = k
            · subst e; rw [Hx.out, Hy.out]
            · exact he.out j (by omega)⟩
          case measure => simp [intOf]; omega
        · have t : decide (m = n) = false := by simpa using hmn
          rw [t]
          clear t
          have hF : decide (ms = ns) = false := by
            simp only [decide_eq_false_iff_not]
            intro e
            subst e
            have := Hx.out.symm.trans Hy.out
            injection this with this
            exact hmn this
          have HF := hide hF
          clear hF hmn
          go_wp2
          go_ret
          exact ⟨ret_bool HF.out.symm, hb4⟩
      · obtain rfl : k = ms.length := by omega
        have hF : decide (ms = ns) = true := by
          simp only [decide_eq_true_eq]
          exact eq_of_prefix hne rfl he.out
        have HF := hide hF
        clear hF hlt
        go_wp2
        go_ret
        exact ⟨ret_bool HF.out.symm, hb⟩
  · have hb1 : ((ms.length : Int) != (ns.length : Int)) = true := by simp; omega
    have hF : decide (ms = ns) = false := by
      simp only [decide_eq_false_iff_not]
      intro e
      exact hne (by rw [e])
    have HF := hide hF
    clear hF
    go_enter Try.func19, Try.ntmps19
    go_wp2
    go_ret
    exact ⟨ret_bool HF.out.symm, Below.refl _ _⟩

end Go.Proofs.Ytdgmohebnkcohab

namespace Go.Proofs.Ytdgmohebnkcohab
open Go.RowKit

set_option maxHeartbeats 1000000 in
theorem eqGraph_any (A A' : Option Addr) (ms ns : List Nd) (r s : Int) (c c' : Nat) (w : World) (h : NdsAt w w.heap.size A ms) (h' : NdsAt w w.heap.size A' ns) :
    Calls Try.prog 8 #[.agg #[.slice A ms.length c, .int .i64 r], .agg #[.slice A' ns.length c', .int .i64 s]] w fun e w' =>
      e = .returned (.bool (decide (ms = ns) && decide (r = s))) ∧ Below w.heap.size w w' := by
  have hB : Below w.heap.size w ((w.alloc (.cells #[.slice A ms.length c, .int .i64 r] 28)).alloc (.cells #[.slice A' ns.length c', .int .i64 s] 28)) :=
    ((Below.refl _ _).alloc (Nat.le_refl _) _).alloc (by simp) _
  have l1 := (Lies.new w #[.slice A ms.length c, .int .i64 r] 28).alloc (.cells #[.slice A' ns.length c', .int .i64 s] 28)
  have l2 := Lies.new (w.alloc (.cells #[.slice A ms.length c, .int .i64 r] 28)) #[.slice A' ns.length c', .int .i64 s] 28
  have hi := h.later hB (Nat.le_refl _)
  have hi' := h'.later hB (Nat.le_refl _)
  clear h h'
  by_cases h3 : ms = ns
  · have t3 := hide (show decide (ms = ns) = true by simpa using h3)
    by_cases h1 : r = s
    · have t1 : (r != s) = false := by simpa using h1
      have HF := hide (show (decide (ms = ns) && decide (r = s)) = true by simp [h1, h3])
      clear h1 h3
      go_enter Try.func8, Try.ntmps8
      go_wp2_with fail
      refine (eqNodeS_any A A' ms ns c c' _ hi hi').mono ?_
      rintro e w' ⟨rfl, hb⟩
      rw [t3.out]
      have d1 := (l1.below hb (by simp; omega)).cell 1
      have d2 := (l2.below hb (by simp)).cell 1
      simp at d1 d2
      go_wp2
      go_ret
      exact ⟨ret_bool HF.out.symm, hB.trans (hb.mono (by simp; omega))⟩
    · have t1 : (r != s) = true := by simpa using h1
      have HF := hide (show (decide (ms = ns) && decide (r = s)) = false by simp [h1])
      clear h1 h3
      go_enter Try.func8, Try.ntmps8
      go_wp2_with fail
      refine (eqNodeS_any A A' ms ns c c' _ hi hi').mono ?_
      rintro e w' ⟨rfl, hb⟩
      rw [t3.out]
      have d1 := (l1.below hb (by simp; omega)).cell 1
      have d2 := (l2.below hb (by simp)).cell 1
      simp at d1 d2
      go_wp2
      go_ret
      exact ⟨ret_bool HF.out.symm, hB.trans (hb.mono (by simp; omega))⟩
  · have t3 := hide (show decide (ms = ns) = false by simpa using h3)
    have HF := hide (show (decide (ms = ns) && decide (r = s)) = false by simp [h3])
    clear h3
    go_enter Try.func8, Try.ntmps8
    go_wp2_with fail
    refine (eqNodeS_any A A' ms ns c c' _ hi hi').mono ?_
    rintro e w' ⟨rfl, hb⟩
    rw [t3.out]
    go_wp2
    go_ret
    exact ⟨ret_bool HF.out.symm, hB.trans (hb.mono (by simp; omega))⟩

end Go.Proofs.Ytdgmohebnkcohab
