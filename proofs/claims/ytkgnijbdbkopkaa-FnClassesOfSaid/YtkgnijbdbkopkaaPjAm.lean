/-
  Lemmas, several texts in one: HerI, ClnA.
-/
import Derived.Test.YtkgnijbdbkopkaaPjAl
import Derived.Test.YtkgnijbdbkopkaaPjAa
import Derived.IntWalk
import Derived.Deep.Cut
import Derived.Deep.QuietTactic
import Derived.BigQuiet
import Derived.Test.YtkgnijbdbkopkaaOwnNB
import Derived.Deep.LoopGhost
namespace Go.Proofs.Ytkgnijbdbkopkaa
open Go.RowKit Go.Maps
set_option linter.unusedVariables false

set_option maxHeartbeats 1000000 in
theorem haveEqualRoots_any (A B C : Option Addr) (nl ml ca cb cc : Nat) (r s : Int) (cls : List Int) (w : World) (hC : IntsAt w w.heap.size C cls) (hr0 : 0 ≤ r) (hr1 : r < cls.length) (hs0 : 0 ≤ s) (hs1 : nl + s < cls.length) (hl : cls.length ≤ 1000) :
    Calls Try.prog 16 #[.agg #[.slice A nl ca, .int .i64 r], .agg #[.slice B ml cb, .int .i64 s], .slice C cls.length cc] w fun e w' => e = .returned (.bool (decide (look cls r = look cls ((nl : Int) + s)))) ∧ Below w.heap.size w w' := by
  obtain ⟨i, rfl⟩ := Int.eq_ofNat_of_zero_le hr0
  obtain ⟨j, rfl⟩ := Int.eq_ofNat_of_zero_le hs0
  obtain ⟨b, off, x, rfl, hbl, hx, _, cx⟩ := hC.at_ (k := i) (by omega)
  obtain ⟨b2, off2, y, hb2, _, hy, _, cy⟩ := hC.at_ (k := nl + j) (by omega)
  injection hb2 with hb2
  injection hb2 with e1 e2 _
  subst e1
  subst e2
  have hB2 : Below w.heap.size w ((w.alloc (.cells #[.slice A nl ca, .int .i64 (i : Int)] 25)).alloc (.cells #[.slice B ml cb, .int .i64 (j : Int)] 25)) := ((Below.refl _ _).alloc (Nat.le_refl _) _).alloc (by simp) _
  have lA := (Lies.new w #[.slice A nl ca, .int .i64 (i : Int)] 25).alloc (.cells #[.slice B ml cb, .int .i64 (j : Int)] 25)
  have lB := Lies.new (w.alloc (.cells #[.slice A nl ca, .int .i64 (i : Int)] 25)) #[.slice B ml cb, .int .i64 (j : Int)] 25
  simp only [World.size_alloc] at lB
  have hx2 : look cls (i : Int) = x := look_at hx
  have hy2 : look cls ((nl : Int) + (j : Int)) = y := by
    have := look_at hy
    rwa [Int.natCast_add] at this
  have cx := (hB2.cell (p := ⟨b, off + i, none⟩) hbl).trans cx
  have cy := (hB2.cell (p := ⟨b, off + (nl + j), none⟩) hbl).trans cy
  have H1 := hide hx2
  have H2 := hide hy2
  clear hC hx hy hx2 hy2
  go_enter Try.func16, Try.ntmps16
  go_upto_region 1 with fail
  generalize (w.alloc (.cells #[.slice A nl ca, .int .i64 (i : Int)] 25)).alloc (.cells #[.slice B ml cb, .int .i64 (j : Int)] 25) = W at hB2 lA lB cx cy ⊢
  have e0 := lA.cell 0
  have e1 := lA.cell 1
  have d1 := lB.cell 1
  simp only [List.getElem?_toArray, List.getElem?_cons_zero, List.getElem?_cons_succ] at e0 e1 d1
  have HB := hide hB2
  have q1 : (0 : Int) ≤ (i : Int) := by omega
  have q2 : (i : Int) < (cls.length : Int) := by omega
  have q3 : (0 : Int) ≤ (nl : Int) + (j : Int) := by omega
  have q4 : (nl : Int) + (j : Int) < (cls.length : Int) := by omega
  have q5 : IntKind.i64.wrap ((nl : Int) + (j : Int)) = (nl : Int) + (j : Int) := by rw [IntKind.wrap_i64]; omega
  have q6 : ((nl : Int) + (j : Int)).toNat = nl + j := by omega
  clear lA lB hB2
  go_quiet (fail)
  go_wp2
  go_ret
  exact ⟨ret_bool (by rw [H1.out, H2.out]; first | rfl | simp), below_drewN HB.out _⟩

end Go.Proofs.Ytkgnijbdbkopkaa

namespace Go.Proofs.Ytkgnijbdbkopkaa
open Go.RowKit Go.Maps
set_option linter.unusedVariables false

theorem makeNodesC (n : Nat) (hn : n ≤ 1000) : ∀ w : World, (Instr.makeSlice 23 (.int .i64 (n : Int)) (.int .i64 (n : Int))).run Try.prog w = .ok (.slice (some ⟨w.heap.size, 0, none⟩) n n) (w.alloc (.cells (madeCells (Value.agg #[.int .i64 0, .int .i64 0, .slice none 0 0]).cells (n * 3)) 41)) :=
  run_make_rows (P := Try.prog) 23 41 (.agg #[.int .i64 0, .int .i64 0, .slice none 0 0]) 3 40 Try.underlying23 infoNdA .i64 .i64 n (by omega) (by omega)

/-- the answer: a row of the call's own that holds the nodes -/
def GivesNs (w : World) (ns : List Nd) (e : Ending) (w' : World) : Prop :=
  ∃ g, e = .returned (.slice (some ⟨g, 0, none⟩) ns.length ns.length) ∧ OwnRow w' w.heap.size w'.heap.size g ns.length ns ∧ Below w.heap.size w w'

structure ClA (w wr : World) (ns : List Nd) (k : Nat) : Prop where
  bel : Below w.heap.size w wr
  row : OwnRow wr w.heap.size wr.heap.size w.heap.size ns.length (ns.take k)

theorem ClA.start (w : World) (ns : List Nd) : ClA w (w.alloc (.cells (madeCells #[.int .i64 0, .int .i64 0, .slice none 0 0] (ns.length * 3)) 41)) ns 0 := by
  refine ⟨(Below.refl _ _).alloc (Nat.le_refl _) _, ?_⟩
  have hrow : (w.alloc (.cells (madeCells #[.int .i64 0, .int .i64 0, .slice none 0 0] (ns.length * 3)) 41)).rowIs w.heap.size 41 (ns.length * 3) (fun i => ((madeCells #[.int .i64 0, .int .i64 0, .slice none 0 0] (ns.length * 3))[i]?).getD undef) :=
    ⟨_, Lies.new w _ _, size_madeCells _ _, fun i hi => by
      show (madeCells #[.int .i64 0, .int .i64 0, .slice none 0 0] (ns.length * 3))[i]? = some (((madeCells #[.int .i64 0, .int .i64 0, .slice none 0 0] (ns.length * 3))[i]?).getD undef)
      rw [Array.getElem?_eq_getElem (by rw [size_madeCells]; exact hi)]
      rfl⟩
  have := (OwnRow.zero hrow).high (hi2 := (w.alloc (.cells (madeCells #[.int .i64 0, .int .i64 0, .slice none 0 0] (ns.length * 3)) 41)).heap.size) (by simp)
  simpa using this

theorem ClA.step {w wr w2 wi : World} {ns : List Nd} {k c : Nat} {n : Nd} {Ak : Option Addr} (h : ClA w wr ns k) (hn : ns[k]? = some n) (h2 : Below wr.heap.size wr w2) (hi : Below w2.heap.size w2 wi)
    (hown : OwnI wi w2.heap.size Ak c n.kids) : ClA w (setN wi w.heap.size k (.int .i64 n.kind) (.int .i64 n.value) (.slice Ak n.kids.length c)) ns (k + 1) := by
  have hkl := (List.getElem?_eq_some_iff.1 hn).1
  have hb := h2.trans (hi.mono h2.size)
  have hlen : (ns.take k).length = k := by simp; omega
  refine ⟨setN_below (h.bel.trans (hb.mono h.bel.size)) (Nat.le_refl _), ?_⟩
  have hr : OwnRow wi w.heap.size wr.heap.size w.heap.size ns.length (ns.take k) := h.row.kept (fun b _ hb' => hb.block b hb')
  have := hr.snoc (n := n) (hi2 := wi.heap.size) (c := c) (A := Ak) (by omega) (hown.lowB h2.size) (by have := hb.size; omega) (fun b hb' => (hown.blocks b hb').2)
  rw [hlen] at this
  rw [List.take_add_one, hn, setN_size]
  exact this

end Go.Proofs.Ytkgnijbdbkopkaa
