/-
  Lemmas, several texts in one: ReadB, CodOI, SmN, PrSm, EqI.
-/
import Derived.Test.YthdldkbeccmcmacPick
import Derived.Test.YthdldkbeccmcmacRows
import Derived.ProofKit
import Derived.OpenShut
import Derived.ShutString
import Derived.ChangeOld
import Derived.Deep.Slices
import Derived.Deep.Fields
import Derived.Lib.SmallJoins
import Derived.Test.YthdldkbeccmcmacCodF
import Derived.Test.YthdldkbeccmcmacImplD
import Derived.Test.YthdldkbeccmcmacMem
import Derived.Test.YthdldkbeccmcmacPrunI
namespace Go.Proofs.Ythdldkbeccmcmac
open Go.ChangeShapes Go.WideShapes Go.ChangeAt Go.RowKit Go.Deep
set_option linter.unusedVariables false

theorem readCellsB : Try.prog.cellsOf 5 = 1 := by kernel_rfl
theorem readOwnB : ownKnob Try.prog.godebug = none := by kernel_rfl
theorem readLaidB : laidOutB Try.prog = true := by kernel_rfl

theorem addr_add_b (b off j : Nat) : (⟨b, off, none⟩ : Addr).add j = ⟨b, off + j, none⟩ := by
  unfold Addr.add
  split
  · rename_i h0; subst h0; rfl
  · rfl

/-- a slice of bytes that came in -/
theorem read_bytes {H : Type} {enc : TypeId × Value → H} {w : World} {base : Nat} {spare : Nat → Bool} {held : Bool} {m : Nat} {v : Value} {y : DataW H × List MemPlace} (h : DataW.trod enc Try.prog w base spare held m 22 [v] = some y) :
    ∃ (A : Option Addr) (n c : Nat), v = .slice A n c ∧ BytesAt w w.heap.size A n ∧ n ≤ c ∧ n ≤ 9223372036854775807 := by
  rcases open_ints Try.underlying22 Try.underlying5 readCellsB h with ⟨hcs, _⟩ | ⟨a, len, cap, zs, hcs, _, hl, hm, hz, _, hcell, hwz⟩
  · simp at hcs
    subst hcs
    exact ⟨none, 0, 0, rfl, fun k hk => absurd hk (by omega), Nat.le_refl _, by omega⟩
  · simp at hcs
    subst hcs
    have hzl : len ≤ zs.length := by rw [hz]; split <;> omega
    refine ⟨some a, len, cap, rfl, fun k hk => ?_, hl, by unfold maxLen at hm; omega⟩
    have hz0 := hcell 0 (by omega)
    have hc0 := hcell k (by omega)
    obtain ⟨b, off, sp⟩ := a
    have hsp : sp = none := by simpa [Addr.add] using World.cell?_spot hz0
    subst hsp
    rw [addr_add_b] at hc0
    have hb := range_u8 hwz k
    rw [List.getD_eq_getElem?_getD] at hc0
    obtain ⟨x, hx⟩ := Int.eq_ofNat_of_zero_le hb.1
    refine ⟨b, off, x, rfl, World.block_lt_of_cell? w _ hc0, ?_, by omega⟩
    rw [hc0, hx]

end Go.Proofs.Ythdldkbeccmcmac

namespace Go.Proofs.Ythdldkbeccmcmac
open Go.RowKit Go.Maps
set_option linter.unusedVariables false

set_option maxHeartbeats 1000000 in
theorem implCodeOf_any (A : Option Addr) (ns : List Nd) (c : Nat) (r : Int) (w : World) (hr : NdsAt w w.heap.size A ns) :
    Calls Try.prog 5 #[.agg #[.slice A ns.length c, .int .i64 r]] w (GivesInts w (codeOf ns r)) := by
  have hB : Below w.heap.size w (w.alloc (.cells #[.slice A ns.length c, .int .i64 r] 25)) := (Below.refl _ _).alloc (Nat.le_refl _) _
  have l1 := Lies.new w #[.slice A ns.length c, .int .i64 r] 25
  have hr2 := hr.later hB (Nat.le_refl _)
  have hwf := hide hr.wf
  clear hr
  by_cases hv : ValidG ns r
  · obtain ⟨i, rfl⟩ := Int.eq_ofNat_of_zero_le hv.root0
    have hg := hide (codG_of_valid hv hwf.out)
    have h12 := hv.few
    have hi : i < ns.length := by have := hv.root; omega
    have HV := hide hv
    have he : Hid (codeOf ns i = (cod ns (ns.length + 1) i ([], [])).1) := by show _ = _; unfold codeOf; rw [if_pos hv]
    clear hv
    go_enter Try.func5, Try.ntmps5
    go_wp2_with fail
    generalize w.alloc (.cells #[.slice A ns.length c, .int .i64 (i : Int)] 25) = W at hB l1 hr2 ⊢
    refine (implValid_any A ns c i W hr2).mono ?_
    rintro e w1 ⟨rfl, hb1⟩
    rw [tf_true HV.out]
    have l2 := l1.below hb1 l1.lt
    have hr3 := hr2.later hb1 (Nat.le_refl _)
    have hB1 := hB.trans (hb1.mono hB.size)
    have e0 := l2.cell 0
    have e1 := l2.cell 1
    simp at e0 e1
    have hi64 : In64 (i : Int) := by constructor <;> omega
    have hb0 : Below w1.heap.size w1 (w1.alloc (.cells #[.int .i64 (i : Int)] 3)) := (Below.refl _ _).alloc (Nat.le_refl _) _
    have hB1 := hB1.trans (hb0.mono hB1.size)
    have HN := hide (hr3.later hb0 (Nat.le_refl _))
    have h1R := (IntsAt.one w1 (i : Int) hi64).more (show w1.heap.size + 1 ≤ (w1.alloc (.cells #[.int .i64 (i : Int)] 3)).heap.size by simp)
    have H1R := hide h1R
    clear l1 hr2 hb1 hB hr3 h1R hb0
    go_wp2_with fail
    refine (codeFroms_any ns 6 hg.out (by omega) A c (some ⟨w1.heap.size, 0, none⟩) 1 [(i : Int)] (by simp; omega) _ HN.out H1R.out (fun x hx => by simp at hx; subst hx; omega)).mono ?_
    rw [codL_one]
    rintro e w2 ⟨Ao, co, rfl, hown, hb2⟩
    have Hfin : Hid (GivesInts w (codeOf ns i) (.returned (.slice Ao (cod ns (ns.length + 1) i ([], [])).1.length co)) w2) := by
      show GivesInts _ _ _ _
      rw [he.out]
      exact ⟨Ao, co, rfl, hown.mono hB1.size, hB1.trans (hb2.mono hB1.size)⟩
    clear hown hb2 e0 e1
    go_wp2
    go_ret
    exact Hfin.out
  · have HV := hide hv
    clear hv
    go_enter Try.func5, Try.ntmps5
    go_wp2_with fail
    refine (implValid_any A ns c r _ hr2).mono ?_
    rintro e w1 ⟨rfl, hb1⟩
    rw [tf_false HV.out]
    have hB1 := hB.trans (hb1.mono hB.size)
    clear hb1 hB hr2
    go_wp2
    go_ret
    unfold codeOf
    rw [if_neg HV.out]
    exact ⟨none, 0, rfl, OwnI.empty _ _, hB1⟩

end Go.Proofs.Ythdldkbeccmcmac

namespace Go.Proofs.Ythdldkbeccmcmac

/-- all lists of kids, and the marks, are small -/
structure SmallN (ns : List Nd) : Prop where
  len : ns.length ≤ 400
  kids : ∀ n ∈ ns, n.kids.length ≤ 2000

end Go.Proofs.Ythdldkbeccmcmac

namespace Go.Proofs.Ythdldkbeccmcmac
open Go.RowKit
set_option linter.unusedVariables false

theorem prunedOf_smallN (ns : List Nd) (r : Int) : SmallN (prunedOf ns r) := by
  unfold prunedOf
  split
  · next hv =>
    have hp := reach_pickable hv
    refine ⟨by rw [pickNs_len]; have := @reachOf_few ns r; omega, fun n hn => ?_⟩
    obtain ⟨x, hx, rfl⟩ := List.mem_map.1 hn
    have hR := reachOf_reached hv
    obtain ⟨h0, h1⟩ := hR.met.range x hx
    obtain ⟨i, rfl⟩ := Int.eq_ofNat_of_zero_le h0
    have hi : i < ns.length := by omega
    rw [pickN_at (List.getElem?_eq_getElem hi)]
    have := (hv.nodes _ (List.getElem_mem hi)).few
    simp
    omega
  · exact ⟨by simp, fun n hn => by simp at hn⟩

end Go.Proofs.Ythdldkbeccmcmac

namespace Go.Proofs.Ythdldkbeccmcmac

theorem eq_of_prefix {α : Type} [DecidableEq α] {xs ys : List α} (h : xs.length = ys.length) {k : Nat} (hk : k = xs.length) (he : ∀ j, j < k → xs[j]? = ys[j]?) : xs = ys := by
  apply List.ext_getElem?
  intro j
  by_cases hj : j < k
  · exact he j hj
  · rw [List.getElem?_eq_none (by omega), List.getElem?_eq_none (by omega)]

end Go.Proofs.Ythdldkbeccmcmac
