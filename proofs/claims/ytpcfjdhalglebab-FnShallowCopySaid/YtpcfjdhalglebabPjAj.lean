/-
  Lemmas, several texts in one: ClnA, EqualI, RewI.
-/
import Derived.Test.YtpcfjdhalglebabPjAd
import Derived.Test.YtpcfjdhalglebabPjAa
import Derived.Deep.LoopGhost
import Derived.Test.YtpcfjdhalglebabPjAi
import Derived.Deep.QuietTactic
import Derived.BigQuiet
import Derived.Deep.Cut
namespace Go.Proofs.Ytpcfjdhalglebab
open Go.RowKit Go.Maps
set_option linter.unusedVariables false

theorem makeNodesC (n : Nat) (hn : n ≤ 1000) : ∀ w : World, (Instr.makeSlice 23 (.int .i64 (n : Int)) (.int .i64 (n : Int))).run Try.prog w = .ok (.slice (some ⟨w.heap.size, 0, none⟩) n n) (w.alloc (.cells (madeCells (Value.agg #[.int .i64 0, .int .i64 0, .slice none 0 0]).cells (n * 3)) 33)) :=
  run_make_rows (P := Try.prog) 23 33 (.agg #[.int .i64 0, .int .i64 0, .slice none 0 0]) 3 40 Try.underlying23 infoNdA .i64 .i64 n (by omega) (by omega)

/-- the answer: a row of the call's own that holds the nodes -/
def GivesNs (w : World) (ns : List Nd) (e : Ending) (w' : World) : Prop :=
  ∃ g, e = .returned (.slice (some ⟨g, 0, none⟩) ns.length ns.length) ∧ OwnRow w' w.heap.size w'.heap.size g ns.length ns ∧ Below w.heap.size w w'

structure ClA (w wr : World) (ns : List Nd) (k : Nat) : Prop where
  bel : Below w.heap.size w wr
  row : OwnRow wr w.heap.size wr.heap.size w.heap.size ns.length (ns.take k)

theorem ClA.start (w : World) (ns : List Nd) : ClA w (w.alloc (.cells (madeCells #[.int .i64 0, .int .i64 0, .slice none 0 0] (ns.length * 3)) 33)) ns 0 := by
  refine ⟨(Below.refl _ _).alloc (Nat.le_refl _) _, ?_⟩
  have hrow : (w.alloc (.cells (madeCells #[.int .i64 0, .int .i64 0, .slice none 0 0] (ns.length * 3)) 33)).rowIs w.heap.size 33 (ns.length * 3) (fun i => ((madeCells #[.int .i64 0, .int .i64 0, .slice none 0 0] (ns.length * 3))[i]?).getD undef) :=
    ⟨_, Lies.new w _ _, size_madeCells _ _, fun i hi => by
      show (madeCells #[.int .i64 0, .int .i64 0, .slice none 0 0] (ns.length * 3))[i]? = some (((madeCells #[.int .i64 0, .int .i64 0, .slice none 0 0] (ns.length * 3))[i]?).getD undef)
      rw [Array.getElem?_eq_getElem (by rw [size_madeCells]; exact hi)]
      rfl⟩
  have := (OwnRow.zero hrow).high (hi2 := (w.alloc (.cells (madeCells #[.int .i64 0, .int .i64 0, .slice none 0 0] (ns.length * 3)) 33)).heap.size) (by simp)
  simpa using this

theorem ClA.step {w wr w2 wi : World} {ns : List Nd} {k c : Nat} {n : Nd} {Ak : Option Addr} (h : ClA w wr ns k) (hn : ns[k]? = some n) (h2 : Below wr.heap.size wr w2) (hi : Below w2.heap.size w2 wi)
    (hown : OwnI wi w2.heap.size Ak c n.kids) : ClA w (setN wi w.heap.size k (.int .i64 n.kind) (.int .i64 n.value) (.slice Ak n.kids.length c)) ns (k + 1) := by
  have hkl := (List.getElem?_eq_some_iff.1 hn).1
  have hb := h2.trans (hi.mono h2.size)
  have hlen : (ns.take k).length = k := by simp; omega
  refine ⟨setN_below (h.bel.trans (hb.mono h.bel.size)) (Nat.le_refl _), ?_⟩
  have hr : OwnRow wi w.heap.size wr.heap.size w.heap.size ns.length (ns.take k) := h.row.kept (fun b _ hb' => hb.block b hb')
  have := hr.snoc (n := n) (hi2 := wi.heap.size) (c := c) (A := Ak) (by omega) (hown.lowB h2.size) (by have := hb.size; omega) (fun b hb' => (hown.blocks b hb').2)
  rw [hlen] at this
  rw [List.take_add_one, hn, setN_size]
  exact this

end Go.Proofs.Ytpcfjdhalglebab

namespace Go.Proofs.Ytpcfjdhalglebab
open Go.RowKit

set_option maxHeartbeats 1000000 in
theorem equalI_any (A A' : Option Addr) (xs ys : List Int) (c c' : Nat) (w : World) (h : IntsAt w w.heap.size A xs) (h' : IntsAt w w.heap.size A' ys) :
    Calls Try.prog 27 #[.slice A xs.length c, .slice A' ys.length c'] w fun e w' => e = .returned (.bool (decide (xs = ys))) ∧ Below w.heap.size w w' := by
  have hl := h.len
  by_cases hne : xs.length = ys.length
  · have hb0 : ((xs.length : Int) != (ys.length : Int)) = false := by simp [hne]
    go_enter Try.func27, Try.ntmps27
    go_wp2_with fail
    go_loopw [13] (fun i wr => ∃ k : Nat, k ≤ xs.length ∧ i = .int .i64 k ∧ Below w.heap.size w wr ∧ ∀ j, j < k → xs[j]? = ys[j]?) (fun i _ => xs.length - (intOf i).toNat)
    case atStart => exact ⟨0, Nat.zero_le _, rfl, Below.refl _ _, fun j hj => absurd hj (by omega)⟩
    case round =>
      obtain ⟨k, hk, rfl, hb, he0⟩ := hrel
      have he := hide he0
      clear he0
      by_cases hlt : k < xs.length
      · obtain ⟨b, off, x, rfl, hbl, hx, _, hcx⟩ := (h.below hb).at_ hlt
        obtain ⟨b', off', y, rfl, hbl', hy, _, hcy⟩ := (h'.below hb).at_ (k := k) (by omega)
        have Hx := hide hx
        have Hy := hide hy
        clear hx hy
        have hk1 : (0 : Int) ≤ (k : Int) := by omega
        have hk2 : (k : Int) < (xs.length : Int) := by omega
        have hk3 : (k : Int) < (ys.length : Int) := by omega
        by_cases hxy : x = y
        · subst hxy
          go_wp2_with fail
          go_quiet (fail)
          go_wp2
          go_roundw
          case rel => exact ⟨k + 1, by omega, by go_num, below_drewN hb _, fun j hj => by
            by_cases e : j = k
            · subst e; rw [Hx.out, Hy.out]
            · exact he.out j (by omega)⟩
          case measure => simp [intOf]; omega
        · have hn1 : (x != y) = true := by simpa using hxy
          have hF : decide (xs = ys) = false := by
            simp only [decide_eq_false_iff_not]
            intro e
            subst e
            have := Hx.out.symm.trans Hy.out
            injection this with this
            exact hxy this
          have HF := hide hF
          clear hF
          go_wp2_with fail
          go_quiet (fail)
          go_wp2
          go_ret
          exact ⟨ret_bool HF.out.symm, below_drewN hb _⟩
      · obtain rfl : k = xs.length := by omega
        have hF : decide (xs = ys) = true := by
          simp only [decide_eq_true_eq]
          exact eq_of_prefix hne rfl he.out
        have HF := hide hF
        clear hF hlt
        go_wp2
        go_ret
        exact ⟨ret_bool HF.out.symm, hb⟩
  · have hb1 : ((xs.length : Int) != (ys.length : Int)) = true := by simp; omega
    have hF : decide (xs = ys) = false := by
      simp only [decide_eq_false_iff_not]
      intro e
      exact hne (by rw [e])
    have HF := hide hF
    clear hF
    go_enter Try.func27, Try.ntmps27
    go_wp2
    go_ret
    exact ⟨ret_bool HF.out.symm, Below.refl _ _⟩

end Go.Proofs.Ytpcfjdhalglebab

namespace Go.Proofs.Ytpcfjdhalglebab
open Go.RowKit
set_option linter.unusedVariables false

set_option maxRecDepth 100000 in
set_option maxHeartbeats 2000000 in
theorem rewired_any (F : Nat) (binds caps : Array Value) (g : Int → Int) (n : Nd) (A : Option Addr) (c : Nat) (w : World) (hI : IntsAt w w.heap.size A n.kids) (hk : n.kids.length ≤ 1000) (h64 : ∀ k ∈ n.kids, In64 (g k))
    (hent : ∀ (args : Array Value) (W : World), (callFunc F args).run Try.prog W = .ok (.enter F args) W)
    (hcall : ∀ (k : Int) (W : World), Below w.heap.size w W → k ∈ n.kids → Calls Try.prog F (binds ++ #[.int .i64 k] ++ caps) W fun e w' => e = .returned (.int .i64 (g k)) ∧ W = w') :
    Calls Try.prog 42 #[.agg #[.int .i64 n.kind, .int .i64 n.value, .slice A n.kids.length c], .func (.func F) binds caps] w (GivesNd w n.kind n.value (n.kids.map g)) := by
  have hB : Below w.heap.size w ((w.alloc (.cells #[.int .i64 n.kind, .int .i64 n.value, .slice A n.kids.length c] 33)).alloc (.cells #[.int .i64 0, .int .i64 0, .slice none 0 0] 33)) := ((Below.refl _ _).alloc (Nat.le_refl _) _).alloc (by simp) _
  have l1 := (Lies.new w #[.int .i64 n.kind, .int .i64 n.value, .slice A n.kids.length c] 33).alloc (.cells #[.int .i64 0, .int .i64 0, .slice none 0 0] 33)
  have l2 := Lies.new (w.alloc (.cells #[.int .i64 n.kind, .int .i64 n.value, .slice A n.kids.length c] 33)) #[.int .i64 0, .int .i64 0, .slice none 0 0] 33
  simp only [World.size_alloc] at l2
  have HC := hide hcall
  have H64 := hide h64
  have HI := hide hI
  clear hcall h64 hI
  go_enter Try.func42, Try.ntmps42
  go_upto_region 2 with fail
  generalize (w.alloc (.cells #[.int .i64 n.kind, .int .i64 n.value, .slice A n.kids.length c] 33)).alloc (.cells #[.int .i64 0, .int .i64 0, .slice none 0 0] 33) = W at hB l1 l2 ⊢
  have HL1 := hide l1
  have HL2 := hide l2
  have HB := hide hB
  have hW1 : w.heap.size < W.heap.size := l1.lt
  have hW2 : w.heap.size + 1 < W.heap.size := l2.lt
  have q2 := l1.cell 2
  simp at q2
  clear l1 l2 hB
  go_wp2_with fail
  go_loopw [5, 11] (fun sv jv wr => ∃ (j : Nat) (Ak : Option Addr) (ck : Nat) (ks : List Int), j ≤ n.kids.length ∧ sv = .slice Ak ks.length ck ∧ jv = .int .i64 (j : Int) ∧ Hid (ks = (n.kids.take j).map g) ∧ OwnI wr W.heap.size Ak ck ks ∧ Below W.heap.size W wr) (fun _ jv _ => n.kids.length - (intOf jv).toNat)
  case atStart => exact ⟨0, none, 0, [], Nat.zero_le _, rfl, rfl, hide rfl, OwnI.empty _ _, Below.refl _ _⟩
  case round =>
    clear q2
    obtain ⟨j, Ak, ck, ks, hj, rfl, rfl, hks, hown, hb⟩ := hrel
    have hksl : ks.length ≤ 1000 := by rw [hks.out]; simp; omega
    have hsz := hb.size
    have Hown := hide hown
    have Hb := hide hb
    clear hown hb
    by_cases hlj : j < n.kids.length
    · obtain ⟨b, off, y, rfl, hbl, hy, hym, hcy⟩ := (HI.out.below (HB.out.trans (Hb.out.mono HB.out.size))).at_ hlj
      have HY := hide hy
      have hp64 := H64.out y hym
      have HCy := hide (HC.out y wr (HB.out.trans (Hb.out.mono HB.out.size)) hym)
      have hj1 : (0 : Int) ≤ (j : Int) := by omega
      have hj2 : (j : Int) < (n.kids.length : Int) := by omega
      clear hy hym hbl
      generalize hq : g y = q at hp64 HCy
      have Hq := hide hq
      clear hq
      go_wp2_with fail
      refine HCy.out.mono ?_
      rintro e w' ⟨rfl, rfl⟩
      clear HCy hcy
      go_wp2_with (at_builtin; refine append_ints rfl (.tmp 15) (.tmp 19) rfl W.heap.size Ak ck ks rfl (Hown.out.alloc _) (wr.heap.size + 1) _ 1 [q] rfl (fun e => by cases e) (IntsAt.one wr q hp64) (by simp <;> omega) (by simp <;> omega) ?_; intro zs A3 c3 w5 hz hown5 hg5 _)
      go_roundw
      case rel => exact ⟨j + 1, A3, c3, zs, by omega, rfl, by go_num, hide (by rw [hz.out, hks.out, List.take_add_one, HY.out, ← Hq.out]; simp), hown5, below_grown (Hb.out.alloc hsz _) hg5 (by simp; omega) (fun q hq => (Hown.out.blocks q hq).1)⟩
      case measure => simp [intOf]; omega
    · obtain rfl : j = n.kids.length := by omega
      rw [List.take_length] at hks
      have l3 := HL1.out.below Hb.out hW1
      have m0 := l3.cell 0
      have m1 := l3.cell 1
      simp at m0 m1
      have l4 := HL2.out.below Hb.out hW2
      have l5 := ((l4.set 0 (.int .i64 n.kind)).set 1 (.int .i64 n.value)).set 2 (.slice Ak ks.length ck)
      simp only [List.setIfInBounds_toArray, List.set_cons_succ, List.set_cons_zero] at l5
      have s0 := l5.cell 0
      have s1 := l5.cell 1
      have s2 := l5.cell 2
      have p0 := l4.cell 0
      have p1 := l4.cell 1
      have p2 := l4.cell 2
      have f0 := l4.frozen 0
      have f1 := l4.frozen 1
      have f2 := l4.frozen 2
      simp only [List.getElem?_toArray, List.getElem?_cons_zero, List.getElem?_cons_succ] at s0 s1 s2 p0 p1 p2
      have HF := hide (show OwnI (((wr.setCell ⟨w.heap.size + 1, 0, none⟩ (.int .i64 n.kind)).setCell ⟨w.heap.size + 1, 1, none⟩ (.int .i64 n.value)).setCell ⟨w.heap.size + 1, 2, none⟩ (.slice Ak ks.length ck)) W.heap.size Ak ck ks from Hown.out.of_blk (fun b hb => by
        have := (Hown.out.blocks b hb).1
        rw [Below.heap_setCell _ _ _ _ (by show b ≠ w.heap.size + 1; omega), Below.heap_setCell _ _ _ _ (by show b ≠ w.heap.size + 1; omega), Below.heap_setCell _ _ _ _ (by show b ≠ w.heap.size + 1; omega)]))
      have HBF := hide ((((HB.out.trans (Hb.out.mono HB.out.size)).setCell (p := ⟨w.heap.size + 1, 0, none⟩) (by show w.heap.size ≤ w.heap.size + 1; omega) (.int .i64 n.kind)).setCell (p := ⟨w.heap.size + 1, 1, none⟩) (by show w.heap.size ≤ w.heap.size + 1; omega) (.int .i64 n.value)).setCell (p := ⟨w.heap.size + 1, 2, none⟩) (by show w.heap.size ≤ w.heap.size + 1; omega) (.slice Ak ks.length ck))
      clear l3 l4 l5 hlj
      go_wp2
      refine bodyPost_ret (v := .agg #[.int .i64 n.kind, .int .i64 n.value, .slice Ak ks.length ck]) (by simp [results, Try.results42, go_sem, s0, s1, s2]) rfl ?_
      have e1 : n.kids.map g = ks := hks.out.symm
      rw [e1]
      exact ⟨Ak, ck, rfl, HF.out.mono (by omega), HBF.out⟩

end Go.Proofs.Ytpcfjdhalglebab
