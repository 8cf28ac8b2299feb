/-
  Lemmas, several texts in one: ReadB, OrdI, RenB.
-/
import Derived.Test.YtigelbilfddhgabPick
import Derived.Test.YtigelbilfddhgabRows
import Derived.ProofKit
import Derived.OpenShut
import Derived.ShutString
import Derived.ChangeOld
import Derived.Deep.Slices
import Derived.Deep.Fields
import Derived.Lib.SmallJoins
import Derived.Test.YtigelbilfddhgabPjAj
import Derived.Test.YtigelbilfddhgabPjAh
namespace Go.Proofs.Ytigelbilfddhgab
open Go.ChangeShapes Go.WideShapes Go.ChangeAt Go.RowKit Go.Deep
set_option linter.unusedVariables false

theorem readCellsB : Try.prog.cellsOf 5 = 1 := by kernel_rfl
theorem readOwnB : ownKnob Try.prog.godebug = none := by kernel_rfl
theorem readLaidB : laidOutB Try.prog = true := by kernel_rfl

theorem addr_add_b (b off j : Nat) : (⟨b, off, none⟩ : Addr).add j = ⟨b, off + j, none⟩ := by
  unfold Addr.add
  split
  · rename_i h0; subst h0; rfl
  · rfl

/-- a slice of bytes that came in -/
theorem read_bytes {H : Type} {enc : TypeId × Value → H} {w : World} {base : Nat} {spare : Nat → Bool} {held : Bool} {m : Nat} {v : Value} {y : DataW H × List MemPlace} (h : DataW.trod enc Try.prog w base spare held m 22 [v] = some y) :
    ∃ (A : Option Addr) (n c : Nat), v = .slice A n c ∧ BytesAt w w.heap.size A n ∧ n ≤ c ∧ n ≤ 9223372036854775807 := by
  rcases open_ints Try.underlying22 Try.underlying5 readCellsB h with ⟨hcs, _⟩ | ⟨a, len, cap, zs, hcs, _, hl, hm, hz, _, hcell, hwz⟩
  · simp at hcs
    subst hcs
    exact ⟨none, 0, 0, rfl, fun k hk => absurd hk (by omega), Nat.le_refl _, by omega⟩
  · simp at hcs
    subst hcs
    have hzl : len ≤ zs.length := by rw [hz]; split <;> omega
    refine ⟨some a, len, cap, rfl, fun k hk => ?_, hl, by unfold maxLen at hm; omega⟩
    have hz0 := hcell 0 (by omega)
    have hc0 := hcell k (by omega)
    obtain ⟨b, off, sp⟩ := a
    have hsp : sp = none := by simpa [Addr.add] using World.cell?_spot hz0
    subst hsp
    rw [addr_add_b] at hc0
    have hb := range_u8 hwz k
    rw [List.getD_eq_getElem?_getD] at hc0
    obtain ⟨x, hx⟩ := Int.eq_ofNat_of_zero_le hb.1
    refine ⟨b, off, x, rfl, World.block_lt_of_cell? w _ hc0, ?_, by omega⟩
    rw [hc0, hx]

end Go.Proofs.Ytigelbilfddhgab

namespace Go.Proofs.Ytigelbilfddhgab
open Go.RowKit
set_option linter.unusedVariables false

set_option maxHeartbeats 1000000 in
theorem isOrder_any (A : Option Addr) (os : List Int) (c n : Nat) (w : World) (h : IntsAt w w.heap.size A os) (hn : n ≤ 1000) :
    Calls Try.prog 15 #[.slice A os.length c, .int .i64 (n : Int)] w fun e w' => e = .returned (.bool (tf (IsOrd os n))) ∧ Below w.heap.size w w' := by
  have hl := h.len
  by_cases hlen : os.length = n
  · have HE : Hid (tf (IsOrd os n) = tf (Diff os ((n : Int) - 1))) := hide (tf_congr ⟨fun h => ⟨fun x hx => by have := h.rng x hx; omega, h.nd⟩, fun h => ⟨hlen, fun x hx => by have := h.rng x hx; omega, h.nd⟩⟩)
    have hb0 : ((os.length : Int) == (n : Int)) = true := by simp [hlen]
    have HC := hide (areDifferent_any A os c ((n : Int) - 1) w h (by omega))
    clear hlen h
    go_enter Try.func15, Try.ntmps15
    go_wp2_with fail
    refine HC.out.mono ?_
    clear HC
    rintro e w1 ⟨rfl, hb1⟩
    go_wp2
    go_ret
    exact ⟨ret_bool HE.out.symm, hb1⟩
  · have HF := hide (show tf (IsOrd os n) = false from tf_false fun h => hlen h.len)
    have hb0 : ((os.length : Int) == (n : Int)) = false := by rw [beq_eq_false_iff_ne]; omega
    clear hlen h
    go_enter Try.func15, Try.ntmps15
    go_wp2
    go_ret
    exact ⟨ret_bool HF.out.symm, Below.refl _ _⟩

end Go.Proofs.Ytigelbilfddhgab

namespace Go.Proofs.Ytigelbilfddhgab
open Go.RowKit
set_option linter.unusedVariables false

theorem IsOrd.back {os : List Int} {n : Nat} (h : IsOrd os n) : IsOrd (invOf os) n := by
  refine ⟨by rw [invOf_len, h.len], fun x hx => ?_, h.inv_nodup⟩
  obtain ⟨j, hj, rfl⟩ := List.mem_map.1 hx
  have hj2 := List.mem_range.1 hj
  have := place_lt (h.onto (j := (j : Int)) (by omega) (by rw [← h.len]; omega))
  rw [h.len] at this
  exact this

theorem IsOrd.twice {os : List Int} {n : Nat} (h : IsOrd os n) : invOf (invOf os) = os := by
  apply List.ext_getElem?
  intro j
  by_cases hj : j < os.length
  · rw [invOf_at (by rw [invOf_len]; exact hj), h.place (List.getElem?_eq_getElem hj), List.getElem?_eq_getElem hj]
  · rw [List.getElem?_eq_none (by rw [invOf_len, invOf_len]; omega), List.getElem?_eq_none (by omega)]

theorem ren_yes {ns : List Nd} {r : Int} {os : List Int} (hv : ValidG ns r) (h : IsOrd os ns.length) : renNs ns r os = pickNs ns (invOf os) ∧ renR ns r os = place (invOf os) r := by
  unfold renNs renR
  rw [if_pos ⟨hv, h⟩, if_pos ⟨hv, h⟩]
  exact ⟨rfl, rfl⟩

theorem ren_valid {ns : List Nd} {r : Int} {os : List Int} (hv : ValidG ns r) (h : IsOrd os ns.length) : ValidG (renNs ns r os) (renR ns r os) ∧ codeOf (renNs ns r os) (renR ns r os) = codeOf ns r ∧ (renNs ns r os).length = ns.length := by
  obtain ⟨e1, e2⟩ := ren_yes hv h
  rw [e1, e2]
  exact ⟨pick_valid hv (h.pickable hv), pick_code hv (h.pickable hv), by rw [pickNs_len, invOf_len, h.len]⟩

/-- renumbered back it is the graph -/
theorem ren_back {ns : List Nd} {r : Int} {os : List Int} (hv : ValidG ns r) (h : IsOrd os ns.length) : renNs (renNs ns r os) (renR ns r os) (invOf os) = ns ∧ renR (renNs ns r os) (renR ns r os) (invOf os) = r := by
  obtain ⟨hw, _, hlen⟩ := ren_valid hv h
  have hb : IsOrd (invOf os) (renNs ns r os).length := by rw [hlen]; exact h.back
  obtain ⟨e1, e2⟩ := ren_yes hw hb
  obtain ⟨f1, f2⟩ := ren_yes hv h
  rw [e1, e2, h.twice]
  obtain ⟨ri, rfl⟩ := Int.eq_ofNat_of_zero_le hv.root0
  have hri : ri < os.length := by have := hv.root; have := h.len; omega
  constructor
  · apply List.ext_getElem?
    intro j
    by_cases hj : j < ns.length
    · have hjo : j < os.length := by rw [h.len]; exact hj
      have hat := List.getElem?_eq_getElem hjo
      have hx := h.rng _ (List.getElem_mem hjo)
      generalize os[j] = x at hat hx
      obtain ⟨p, rfl⟩ := Int.eq_ofNat_of_zero_le hx.1
      have hinv := h.inv hat
      rw [Int.toNat_natCast] at hinv
      have hnode := pick_at hinv (List.getElem?_eq_getElem hj)
      rw [f1, pick_at hat hnode, List.getElem?_eq_getElem hj]
      simp only [Option.some.injEq]
      have hok := (hv.nodes _ (List.getElem_mem hj)).inn
      generalize ns[j] = m at hok
      have hk : (m.kids.map (place (invOf os))).map (place os) = m.kids := by
        rw [List.map_map]
        conv => rhs; rw [← List.map_id m.kids]
        apply List.map_congr_left
        intro y hy
        have hy2 := hok y hy
        obtain ⟨q, rfl⟩ := Int.eq_ofNat_of_zero_le hy2.1
        have hq : q < os.length := by rw [h.len]; omega
        show place os (place (invOf os) (q : Int)) = (q : Int)
        rw [h.place (List.getElem?_eq_getElem hq)]
        exact place_get h.nd (List.getElem?_eq_getElem hq)
      rw [hk]
    · rw [List.getElem?_eq_none (by rw [pickNs_len, h.len]; omega), List.getElem?_eq_none (by omega)]
  · rw [f2, h.place (List.getElem?_eq_getElem hri)]
    exact place_get h.nd (List.getElem?_eq_getElem hri)

end Go.Proofs.Ytigelbilfddhgab
