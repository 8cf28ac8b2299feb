/-
  Lemmas, several texts in one: ChkA, Ops.
-/
import Derived.Test.YtilopekdeehaoabDoorChkM
import Derived.Test.YtilopekdeehaoabDoorSb
import Derived.Deep.Cut
import Derived.Deep.LoopGhost
import Derived.Test.YtilopekdeehaoabDoorPjAa
import Derived.Test.YtilopekdeehaoabDoorRows
import Derived.ProofKit
import Derived.OpenShut
import Derived.ShutString
import Derived.ChangeOld
import Derived.Deep.Slices
import Derived.Deep.Fields
import Derived.Lib.SmallJoins
namespace Go.Proofs.YtilopekdeehaoabDoor
open Go.RowKit
set_option linter.unusedVariables false

set_option maxHeartbeats 1000000 in
theorem aboveMark_any (A : Option Addr) (xs : List Int) (c : Nat) (w : World) (h : IntsAt w w.heap.size A xs) (hm : ∀ x ∈ xs, -1 ≤ x) :
    Calls Tryd.prog 40 #[.slice A xs.length c] w fun e w' => e = .returned (.int .i64 (above xs : Int)) ∧ w' = w := by
  have hl := h.len
  have Hm := hide hm
  clear hm
  go_enter Tryd.func40, Tryd.ntmps40
  go_wp2_with fail
  go_loop [3] (fun v => ∃ k : Nat, k ≤ xs.length ∧ v = .int .i64 (k : Int) ∧ aboveTo xs k = above xs) (fun v => (intOf v).toNat)
  case atStart => exact ⟨xs.length, Nat.le_refl _, rfl, rfl⟩
  case round =>
    obtain ⟨k, hk, rfl, ha⟩ := hrel
    have Ha := hide ha
    clear ha
    cases k with
    | zero =>
      go_wp2
      go_ret
      exact ⟨by have := Ha.out; unfold aboveTo at this; rw [← this] <;> rfl, rfl⟩
    | succ k =>
      obtain ⟨b, off, x, rfl, hbl, hx, hmem, hcx⟩ := h.at_ (k := k) (by omega)
      have hge := Hm.out x hmem
      have hg : xs.getD k 0 = x := by rw [List.getD_eq_getElem?_getD, hx]; rfl
      have h0 : (0 : Int) < ((k + 1 : Nat) : Int) := by omega
      have e1 : ((k + 1 : Nat) : Int) - 1 = (k : Int) := by omega
      have h1 : (0 : Int) ≤ (k : Int) := by omega
      have h2 : (k : Int) < (xs.length : Int) := by omega
      clear hx hmem
      by_cases hx0 : x < 0
      · obtain rfl : x = -1 := by omega
        have HR := hide (show above xs = k + 1 from by rw [← Ha.out]; unfold aboveTo; rw [hg, if_pos (by omega)])
        clear hg
        go_wp2
        go_ret
        exact ⟨by rw [HR.out] <;> rfl, rfl⟩
      · have hn : (x != -1) = true := by simp <;> omega
        have HR := hide (show aboveTo xs k = above xs from by rw [← Ha.out]; conv => { rhs; unfold aboveTo }; rw [hg, if_neg hx0])
        clear hg
        go_wp2
        go_round
        case rel => exact ⟨k, by omega, rfl, HR.out⟩
        case measure => simp [intOf] <;> omega

set_option maxRecDepth 100000 in
set_option maxHeartbeats 4000000 in
theorem useAt_any (q base off : Nat) (p : ShPtr) (s : Shp) (a : Int) (w : World) (h : SbAt w base q off p s) (hs : s.Small) (ha : a < (s.stack.length : Int)) (ha0 : -1000 ≤ a) :
    Calls Tryd.prog 44 #[.pointer (some ⟨q, off, none⟩), .int .i64 a] w fun e w' => e = .returned (.int .i64 (s.useAt a : Int)) ∧ w' = w := by
  have hat := h.own.at_ hs
  obtain ⟨e0, e1, e2, e3, e4, _, _, _, _, _⟩ := h.c
  have hok := hs.ok
  by_cases hneg : a < 0
  · have HR := hide (show s.useAt a = 64 by unfold Shp.useAt; rw [if_pos hneg])
    clear h hs hat
    go_enter Tryd.func44, Tryd.ntmps44
    go_wp2
    go_ret
    exact ⟨by rw [HR.out] <;> rfl, rfl⟩
  · obtain ⟨i, rfl⟩ := Int.eq_ofNat_of_zero_le (show 0 ≤ a by omega)
    obtain ⟨b, off, x, hS, hbl, hx, hmem, hcx⟩ := hat.t.at_ (k := i) (by omega)
    obtain ⟨hx1, hx2⟩ := hok.st x hmem
    have hu : s.useAt (i : Int) = s.useOf x := by
      unfold Shp.useAt
      rw [if_neg hneg, Int.toNat_natCast, List.getD_eq_getElem?_getD, hx]; rfl
    have h1 : (0 : Int) ≤ (i : Int) := by omega
    rw [hS] at e2
    by_cases hx0 : x < 0
    · obtain rfl : x = -1 := by omega
      have HR := hide (show s.useAt (i : Int) = 32 by rw [hu]; rfl)
      clear h hs hat hu hmem hx
      go_enter Tryd.func44, Tryd.ntmps44
      go_wp2
      go_ret
      exact ⟨by rw [HR.out] <;> rfl, rfl⟩
    · obtain ⟨j, rfl⟩ := Int.eq_ofNat_of_zero_le (show 0 ≤ x by omega)
      have hjk : j < s.kinds.length := by omega
      obtain ⟨bk, ok, kd, hK, _, hkx, hkm, hck⟩ := hat.k.at_ hjk
      obtain ⟨bf, of, f, hF, _, hfx, _, hcf⟩ := hat.f.at_ (k := j) (by rw [hok.fl]; exact hjk)
      have hkk := hok.kk kd hkm
      have hu2 : s.useAt (i : Int) = useBits kd f := by
        rw [hu]
        unfold Shp.useOf
        rw [if_neg hx0, Int.toNat_natCast, List.getD_eq_getElem?_getD, hkx, List.getD_eq_getElem?_getD, hfx]; rfl
      have hn : ((j : Int) == -1) = false := by simp <;> omega
      have h2 : (0 : Int) ≤ (j : Int) := by omega
      have h3 : (j : Int) < (s.kinds.length : Int) := by omega
      have h4 : (j : Int) < (s.full.length : Int) := by rw [hok.fl]; exact h3
      rw [hK] at e0
      rw [hF] at e1
      have HU := hide hu2
      clear h hs hat hu hu2 hmem hx hkx hkm hfx hok
      have h6 : kd = 0 ∨ kd = 1 ∨ kd = 2 ∨ kd = 3 ∨ kd = 4 ∨ kd = 5 := by omega
      rcases h6 with rfl | rfl | rfl | rfl | rfl | rfl
      all_goals
        cases f <;>
        (go_enter Tryd.func44, Tryd.ntmps44
         go_wp2
         go_ret
         exact ⟨by rw [HU.out] <;> rfl, rfl⟩)

theorem useAt_q (q base off : Nat) (p : ShPtr) (s : Shp) (a : Int) (u : Nat) (w : World) (h : SbAt w base q off p s) (hs : s.Small) (ha : a < (s.stack.length : Int)) (ha0 : -1000 ≤ a) (hu : s.useAt a = u) :
    Calls Tryd.prog 44 #[.pointer (some ⟨q, off, none⟩), .int .i64 a] w fun e w' => e = .returned (.int .i64 (u : Int)) ∧ w' = w := by
  rw [← hu]
  exact useAt_any q base off p s a w h hs ha ha0

end Go.Proofs.YtilopekdeehaoabDoor

namespace Go.Proofs.YtilopekdeehaoabDoor
open Go.ChangeShapes Go.WideShapes Go.ChangeAt Go.RowKit Go.Deep
set_option linter.unusedVariables false

theorem readOpCellsI : Tryd.prog.cellsOf 3 = 1 := by kernel_rfl
theorem readOpCellsO : Tryd.prog.cellsOf 38 = 2 := by kernel_rfl

theorem list2 {α : Type} (l : List α) (h : l.length = 2) : ∃ a b, l = [a, b] := by
  match l, h with
  | [a, b], _ => exact ⟨a, b, rfl⟩

section
variable {H : Type} {enc : TypeId × Value → H} {w : World} {base : Nat} {spare : Nat → Bool} {held : Bool}

theorem addr_add_o (b off j : Nat) : (⟨b, off, none⟩ : Addr).add j = ⟨b, off + j, none⟩ := by
  unfold Addr.add
  split
  · rename_i h0; subst h0; rfl
  · rfl

/-- a slice of orders that came in -/
theorem read_ops {m : Nat} {v : Value} {y : DataW H × List MemPlace} (h : DataW.trod enc Tryd.prog w base spare held m 22 [v] = some y) :
    ∃ (A : Option Addr) (os : List Od) (c : Nat), v = .slice A os.length c ∧ OpsAt w w.heap.size A os ∧ (A = none → c = 0) := by
  rcases open_slice Tryd.underlying22 h with ⟨hcs, _⟩ | ⟨a, len, cap, m', n', D, Pl, hcs, _, hl, hm, hmm, _, hel⟩
  · simp at hcs
    subst hcs
    exact ⟨none, [], 0, rfl, ⟨fun hx => absurd rfl hx, fun x hx => (by cases hx), by simp⟩, fun _ => rfl⟩
  · simp at hcs
    subst hcs
    have hlen : len ≤ m' := by rw [hmm]; split <;> omega
    have hone : ∀ i, i < len → ∃ (b off : Nat) (o : Od), a.add (i * 2) = ⟨b, off, none⟩ ∧ b < w.heap.size ∧ w.cell? ⟨b, off, none⟩ = some (.int .i64 o.code) ∧ w.cell? ⟨b, off + 1, none⟩ = some (.int .i64 o.arg) ∧ In64 o.code ∧ In64 o.arg := by
      intro i hi
      obtain ⟨cs', hc', ht'⟩ := hel i (by omega)
      rw [readOpCellsO] at hc'
      obtain ⟨ys, n2, _, _, hcl, hyl, hf⟩ := DataW.trod_struct Tryd.underlying38 ht'
      obtain ⟨_, hcl3, hat⟩ := World.cells?_some hc'
      obtain ⟨v0, v1, rfl⟩ := list2 cs' hcl3
      have h0 : DataW.trod enc Tryd.prog w base spare held n2 3 (([v0, v1].drop 0).take (Tryd.prog.cellsOf 3)) = ys[0]? := hf 0 _ rfl
      have h1 : DataW.trod enc Tryd.prog w base spare held n2 3 (([v0, v1].drop 1).take (Tryd.prog.cellsOf 3)) = ys[1]? := hf 1 _ rfl
      rw [readOpCellsI] at h0 h1
      simp only [List.drop_zero, List.drop_succ_cons, List.take_succ_cons, List.take_zero] at h0 h1
      have hy : ∀ k, k < 2 → ∃ z, ys[k]? = some z := fun k hk => ⟨_, List.getElem?_eq_getElem (by rw [hyl]; exact hk)⟩
      obtain ⟨z0, e0⟩ := hy 0 (by omega)
      obtain ⟨z1, e1⟩ := hy 1 (by omega)
      rw [e0] at h0
      rw [e1] at h1
      obtain ⟨kd, hv0, _, hw0⟩ := DataW.trod_int Tryd.underlying3 h0
      obtain ⟨vl, hv1, _, hw1⟩ := DataW.trod_int Tryd.underlying3 h1
      simp at hv0 hv1
      subst hv0
      subst hv1
      have c0 := hat 0 (by omega)
      have c1 := hat 1 (by omega)
      generalize a.add (i * 2) = p at c0 c1 ⊢
      obtain ⟨b, off, sp⟩ := p
      have hsp : sp = none := by simpa [Addr.add] using World.cell?_spot c0
      subst hsp
      rw [addr_add_o] at c0 c1
      simp at c0 c1
      exact ⟨b, off, ⟨kd, vl⟩, rfl, World.block_lt_of_cell? w _ c0, c0, c1, bounds_i64 hw0, bounds_i64 hw1⟩
    rcases Nat.eq_zero_or_pos len with h0 | h0
    · subst h0
      exact ⟨some a, [], cap, rfl, ⟨fun hx => absurd rfl hx, fun x hx => (by cases hx), by simp⟩, fun e => by cases e⟩
    · obtain ⟨b0, off0, _, ha0, hb0, _⟩ := hone 0 h0
      rw [Nat.zero_mul] at ha0
      have ha : a = ⟨b0, off0, none⟩ := by
        have : a.add 0 = a := by simp [Addr.add]
        rw [this] at ha0
        exact ha0
      subst ha
      have hch : ∀ i, ∃ o : Od, i < len → w.cell? ⟨b0, off0 + i * 2, none⟩ = some (.int .i64 o.code) ∧ w.cell? ⟨b0, off0 + i * 2 + 1, none⟩ = some (.int .i64 o.arg) ∧ In64 o.code ∧ In64 o.arg := by
        intro i
        by_cases hi : i < len
        · obtain ⟨b, off, o, he, _, h1, h2, h3, h4⟩ := hone i hi
          rw [addr_add_o] at he
          injection he with he1 he2
          subst he1
          subst he2
          exact ⟨o, fun _ => ⟨h1, h2, h3, h4⟩⟩
        · exact ⟨⟨0, 0⟩, fun h => absurd h hi⟩
      have hget : ∀ (j : Nat) (o : Od), ((List.range len).map fun i => Classical.choose (hch i))[j]? = some o → j < len ∧ o = Classical.choose (hch j) := by
        intro j o hj
        rw [List.getElem?_map] at hj
        have hjl : j < len := by
          rcases Nat.lt_or_ge j len with h | h
          · exact h
          · rw [List.getElem?_eq_none (by simpa using h)] at hj; cases hj
        rw [List.getElem?_range hjl] at hj
        simp at hj
        exact ⟨hjl, hj.symm⟩
      refine ⟨some ⟨b0, off0, none⟩, (List.range len).map fun i => Classical.choose (hch i), cap, by simp, ⟨fun _ => ⟨b0, off0, rfl, hb0, fun j o hj => ?_⟩, fun o ho => ?_, ?_⟩, fun e => by cases e⟩
      · obtain ⟨hjl, rfl⟩ := hget j o hj
        have := Classical.choose_spec (hch j) hjl
        exact ⟨this.1, this.2.1⟩
      · obtain ⟨j, hj, rfl⟩ := List.getElem_of_mem ho
        obtain ⟨hjl, e⟩ := hget j _ (List.getElem?_eq_getElem hj)
        rw [e]
        exact (Classical.choose_spec (hch j) hjl).2.2
      · simp
        unfold maxLen at hm
        omega

end

end Go.Proofs.YtilopekdeehaoabDoor
