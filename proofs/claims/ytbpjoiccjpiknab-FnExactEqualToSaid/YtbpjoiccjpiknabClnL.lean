/-
  The program's clonedNodes: nodes of the call's own.
-/
import Derived.Test.YtbpjoiccjpiknabClnI
namespace Go.Proofs.Ytbpjoiccjpiknab
open Go.RowKit Go.Maps
set_option linter.unusedVariables false

theorem makeNodesC (n : Nat) (hn : n ≤ 1000) : ∀ w : World, (Instr.makeSlice 27 (.int .i64 (n : Int)) (.int .i64 (n : Int))).run Try.prog w = .ok (.slice (some ⟨w.heap.size, 0, none⟩) n n) (w.alloc (.cells (madeCells (Value.agg #[.int .i64 0, .int .i64 0, .slice none 0 0]).cells (n * 3)) 48)) :=
  run_make_rows (P := Try.prog) 27 48 (.agg #[.int .i64 0, .int .i64 0, .slice none 0 0]) 3 40 Try.underlying27 infoNdA .i64 .i64 n (by omega) (by omega)

/-- the answer: a row of the call's own that holds the nodes -/
def GivesNs (w : World) (ns : List Nd) (e : Ending) (w' : World) : Prop :=
  ∃ g, e = .returned (.slice (some ⟨g, 0, none⟩) ns.length ns.length) ∧ OwnRow w' w.heap.size w'.heap.size g ns.length ns ∧ Below w.heap.size w w'

structure ClA (w wr : World) (ns : List Nd) (k : Nat) : Prop where
  bel : Below w.heap.size w wr
  row : OwnRow wr w.heap.size wr.heap.size w.heap.size ns.length (ns.take k)

theorem ClA.start (w : World) (ns : List Nd) : ClA w (w.alloc (.cells (madeCells #[.int .i64 0, .int .i64 0, .slice none 0 0] (ns.length * 3)) 48)) ns 0 := by
  refine ⟨(Below.refl _ _).alloc (Nat.le_refl _) _, ?_⟩
  have hrow : (w.alloc (.cells (madeCells #[.int .i64 0, .int .i64 0, .slice none 0 0] (ns.length * 3)) 48)).rowIs w.heap.size 48 (ns.length * 3) (fun i => ((madeCells #[.int .i64 0, .int .i64 0, .slice none 0 0] (ns.length * 3))[i]?).getD undef) :=
    ⟨_, Lies.new w _ _, size_madeCells _ _, fun i hi => by
      show (madeCells #[.int .i64 0, .int .i64 0, .slice none 0 0] (ns.length * 3))[i]? = some (((madeCells #[.int .i64 0, .int .i64 0, .slice none 0 0] (ns.length * 3))[i]?).getD undef)
      rw [Array.getElem?_eq_getElem (by rw [size_madeCells]; exact hi)]
      rfl⟩
  have := (OwnRow.zero hrow).high (hi2 := (w.alloc (.cells (madeCells #[.int .i64 0, .int .i64 0, .slice none 0 0] (ns.length * 3)) 48)).heap.size) (by simp)
  simpa using this

theorem ClA.step {w wr w2 wi : World} {ns : List Nd} {k c : Nat} {n : Nd} {Ak : Option Addr} (h : ClA w wr ns k) (hn : ns[k]? = some n) (h2 : Below wr.heap.size wr w2) (hi : Below w2.heap.size w2 wi)
    (hown : OwnI wi w2.heap.size Ak c n.kids) : ClA w (setN wi w.heap.size k (.int .i64 n.kind) (.int .i64 n.value) (.slice Ak n.kids.length c)) ns (k + 1) := by
  have hkl := (List.getElem?_eq_some_iff.1 hn).1
  have hb := h2.trans (hi.mono h2.size)
  have hlen : (ns.take k).length = k := by simp; omega
  refine ⟨setN_below (h.bel.trans (hb.mono h.bel.size)) (Nat.le_refl _), ?_⟩
  have hr : OwnRow wi w.heap.size wr.heap.size w.heap.size ns.length (ns.take k) := h.row.kept (fun b _ hb' => hb.block b hb')
  have := hr.snoc (n := n) (hi2 := wi.heap.size) (c := c) (A := Ak) (by omega) (hown.lowB h2.size) (by have := hb.size; omega) (fun b hb' => (hown.blocks b hb').2)
  rw [hlen] at this
  rw [List.take_add_one, hn, setN_size]
  exact this

set_option maxHeartbeats 1000000 in
theorem clonedNodes_any (A : Option Addr) (ns : List Nd) (c : Nat) (w : World) (hr : NdsAt w w.heap.size A ns) (hl : ns.length ≤ 1000) (hk : ∀ n ∈ ns, n.kids.length ≤ 1000) :
    Calls Try.prog 31 #[.slice A ns.length c] w (GivesNs w ns) := by
  have hmk := makeNodesC ns.length hl
  have HR := hide hr
  have HS0 := hide (ClA.start w ns)
  have HK := hide hk
  clear hr hk
  go_enter Try.func31, Try.ntmps31
  go_wp2_with fail
  clear hmk
  generalize hX1 : w.alloc (.cells (madeCells #[.int .i64 0, .int .i64 0, .slice none 0 0] (ns.length * 3)) 48) = X1 at HS0 ⊢
  clear hX1
  go_loopg [11] ns.length (fun gk iv wr => ∃ k : Nat, k ≤ ns.length ∧ gk = ns.length - k ∧ iv = .int .i64 (k : Int) ∧ ClA w wr ns k)
  case atStart => exact ⟨0, Nat.zero_le _, rfl, rfl, HS0.out⟩
  case round =>
    clear HS0
    obtain ⟨k, hk, rfl, rfl, hS⟩ := hrel
    by_cases hlt : k < ns.length
    · obtain ⟨b, off, n, rfl, hbl, hn, hm, hnd⟩ := (HR.out.below hS.bel).at_ hlt
      obtain ⟨A1, c1, k2, hki, hnil⟩ := hnd.kids
      have k0 := hnd.kind
      have k1 := hnd.value
      have HN := hide hn
      have HM := hide (HK.out n hm)
      have HS := hide hS
      have HKI := hide hki
      clear hn hm hnd hS hki hbl
      go_upto_region 5 with fail
      have hB2 : Below wr.heap.size wr (wr.alloc (.cells #[.int .i64 n.kind, .int .i64 n.value, .slice A1 n.kids.length c1] 48)) := (Below.refl _ _).alloc (Nat.le_refl _) _
      have l1 := Lies.new wr #[.int .i64 n.kind, .int .i64 n.value, .slice A1 n.kids.length c1] 48
      generalize wr.alloc (.cells #[.int .i64 n.kind, .int .i64 n.value, .slice A1 n.kids.length c1] 48) = W2 at hB2 l1 ⊢
      have e0 := l1.cell 0
      have e1 := l1.cell 1
      have e2 := l1.cell 2
      simp only [List.getElem?_toArray, List.getElem?_cons_zero, List.getElem?_cons_succ] at e0 e1 e2
      have hwr := HS.out.bel.size
      have HC := hide (clonedNode_any n A1 c1 W2 ((HKI.out.later (Below.refl _ _) hwr).later hB2 (Nat.le_refl _)) hnil HM.out)
      have HB2 := hide hB2
      clear k0 k1 k2 hB2 l1 HKI hnil
      go_wp2_with fail
      refine HC.out.mono ?_
      clear HC
      rintro e wi ⟨Ak, ck, rfl, hown, hbi⟩
      obtain ⟨f, hf⟩ := HS.out.row.row
      have hfw : wi.rowIs w.heap.size 48 (ns.length * 3) f := hf.of_block ((HB2.out.trans (hbi.mono HB2.out.size)).block _ hf.lt)
      have q0 := World.rowIs.cell hfw (i := k * 3) (by omega)
      have q1 := World.rowIs.cell hfw (i := k * 3 + 1) (by omega)
      have q2 := World.rowIs.cell hfw (i := k * 3 + 2) (by omega)
      have p0 := World.rowIs.frozen hfw (k * 3)
      have p1 := World.rowIs.frozen hfw (k * 3 + 1)
      have p2 := World.rowIs.frozen hfw (k * 3 + 2)
      have HB := hide (HS.out.step HN.out HB2.out hbi hown)
      have hk1 : (k : Int) < (ns.length : Int) := by omega
      clear hown hbi hf hfw e0 e1 e2 HB2 HN HM HS
      go_wp2_with fail
      go_roundg (ns.length - (k + 1))
      case measure => omega
      case rel => exact ⟨k + 1, by omega, rfl, by go_num, HB.out⟩
    · obtain rfl : k = ns.length := by omega
      have HS := hide hS
      clear hS hlt
      go_wp2
      have hrow := HS.out.row
      rw [List.take_length] at hrow
      refine bodyPost_ret (v := .slice (some ⟨w.heap.size, 0, none⟩) ns.length ns.length) (by simp [results, Try.results31, go_sem]) rfl ?_
      exact ⟨_, rfl, hrow, HS.out.bel⟩

end Go.Proofs.Ytbpjoiccjpiknab
