/-
  Lemmas, several texts in one: NewSh, WatB, Ops.
-/
import Derived.Test.YtilopekdeehaoacDoorPjAk
import Derived.Test.YtilopekdeehaoacDoorSb
import Derived.Test.YtilopekdeehaoacDoorShpR
import Derived.Deep.Cut
import Derived.Test.YtilopekdeehaoacDoorPjAa
import Derived.Test.YtilopekdeehaoacDoorRows
import Derived.ProofKit
import Derived.OpenShut
import Derived.ShutString
import Derived.ChangeOld
import Derived.Deep.Slices
import Derived.Deep.Fields
import Derived.Lib.SmallJoins
namespace Go.Proofs.YtilopekdeehaoacDoor
open Go.RowKit
set_option linter.unusedVariables false

set_option maxRecDepth 100000 in
set_option maxHeartbeats 1000000 in
theorem implNewShapes_any (w : World) : Calls Tryd.prog 24 #[] w (GivesSh w w.heap.size Shp.new) := by
  obtain ⟨R, hR⟩ : ∃ R, R = List.replicate 20 (-1 : Int) := ⟨_, rfl⟩
  rw [show Shp.new = ⟨[], [], [], R, false⟩ from by rw [hR]; rfl]
  have HR := hide hR
  clear hR
  have hB0 := (Below.refl w.heap.size w).alloc (Nat.le_refl _) (.cells zero5 36)
  have L0 := Lies.new w zero5 36
  have HB0 := hide hB0
  have HL0 := hide L0
  clear hB0 L0
  go_enter Tryd.func24, Tryd.ntmps24
  go_upto_region 1 with fail
  unfold zero5 at HB0 HL0
  generalize w.alloc (.cells #[.slice none 0 0, .slice none 0 0, .slice none 0 0, .slice none 0 0, .bool false] 36) = W at HB0 HL0 ⊢
  have hlt := HL0.out.lt
  have HC := hide (repeat_20 W.heap.size (-1) 1 (W.alloc (.cells #[.int .i64 (-1)] 3)) (by simp) (by simp) (by constructor <;> omega))
  have HA := hide ((Below.refl W.heap.size W).alloc (Nat.le_refl _) (.cells #[.int .i64 (-1)] 3))
  have hz : (W.alloc (.cells #[.int .i64 (-1)] 3)).heap.size = W.heap.size + 1 := by simp
  rw [← HR.out] at HC
  generalize hV : W.alloc (.cells #[.int .i64 (-1)] 3) = V at HC HA hz
  have HV := hide hV
  clear hV
  go_wp2_with (go_at_call 34; rw [HV.out]; refine HC.out.mono ?_; rintro e w2 ⟨A, c, rfl, ho, hb⟩; have hS := (show Lies w2 w.heap.size #[.slice none 0 0, .slice none 0 0, .slice none 0 0, .slice none 0 0, .bool false] 36 from (Lies.below (HL0.out.below HA.out hlt) hb (by omega))); obtain ⟨⟨r0, r1, r2, r3, r4, f0, f1, f2, f3, f4, s0, s1, s2, s3, s4⟩, hlf⟩ := Lies.set5 hS (.slice none 0 0) (.slice none 0 0) (.slice none 0 0) (.slice A R.length c) (.bool false); have HS := hide hS; clear hS; have HO := hide (And.intro ho hb); clear ho hb hlf)
  refine bodyPost_ret (v := shVal ⟨none, 0, none, 0, none, 0, A, c⟩ ⟨[], [], [], R, false⟩) (by simp [shVal, shCells, results, Tryd.results24, go_sem, s0, s1, s2, s3, s4]) rfl ?_
  obtain ⟨ho, hb⟩ := HO.out
  have hbw : Below w.heap.size w w2 := (HB0.out.trans (HA.out.mono (by omega))).trans (hb.mono (by omega))
  have hoff : ShPtr.Off ⟨none, 0, none, 0, none, 0, A, c⟩ w.heap.size := ⟨by simp [blockOf], by simp [blockOf], by simp [blockOf], fun e => by have := ho.blocks w.heap.size e; omega⟩
  refine ⟨⟨none, 0, none, 0, none, 0, A, c⟩, rfl, ?_, set5_below hbw (Nat.le_refl _)⟩
  refine ShOwn.set5 ⟨OwnI.empty _ _, OwnB.empty _ _, OwnI.empty _ _, ho.mono (by omega), ?_, ?_, ?_, ?_, ?_, ?_⟩ hoff <;> simp [blockOf]

end Go.Proofs.YtilopekdeehaoacDoor

namespace Go.Proofs.YtilopekdeehaoacDoor
open Go.RowKit
set_option linter.unusedVariables false

/-- no valid program -/
def GivesNoRun (w : World) (e : Ending) (w' : World) : Prop := e = .returned (.tuple #[shVal ShPtr.nil Shp.zero, .int .i64 (-1)]) ∧ Below w.heap.size w w'

set_option maxRecDepth 100000 in
set_option maxHeartbeats 1000000 in
theorem watched_bad (A : Option Addr) (os : List Od) (c : Nat) (v : Value) (w : World) (h : OpsAt w w.heap.size A os) (hF : FormsAt w w.heap.size) (hok : ¬ OpsOk os) :
    Calls Tryd.prog 16 #[.slice A os.length c, v] w (GivesNoRun w) := by
  have hB0 := (Below.refl w.heap.size w).alloc (Nat.le_refl _) (.cells zero5 36)
  have HB0 := hide hB0
  have L0 := hide (Lies.new w zero5 36)
  have HV := hide (implValidOps_any A os c _ (h.later hB0 (Nat.le_refl _)) (hF.later hB0 (Nat.le_refl _)))
  have Ht := hide (show tf (OpsOk os) = false from tf_false hok)
  clear hok hB0
  go_enter Tryd.func16, Tryd.ntmps16
  go_upto_region 1 with fail
  unfold zero5 at HB0 L0 HV
  have hlt := L0.out.lt
  generalize w.alloc (.cells #[.slice none 0 0, .slice none 0 0, .slice none 0 0, .slice none 0 0, .bool false] 36) = W at HB0 L0 HV hlt ⊢
  go_wp2_with fail
  refine HV.out.mono ?_
  rw [Ht.out]
  rintro e w2 ⟨rfl, hb⟩
  have hS := Lies.below L0.out hb hlt
  obtain ⟨⟨r0, r1, r2, r3, r4, f0, f1, f2, f3, f4, s0, s1, s2, s3, s4⟩, _⟩ := Lies.set5 hS (.slice none 0 0) (.slice none 0 0) (.slice none 0 0) (.slice none 0 0) (.bool false)
  have HB := hide (set5_below (v0 := .slice none 0 0) (v1 := .slice none 0 0) (v2 := .slice none 0 0) (v3 := .slice none 0 0) (v4 := .bool false) (HB0.out.trans (hb.mono HB0.out.size)) (Nat.le_refl _))
  clear hS hb HB0 L0 HV
  go_wp2
  refine bodyPost_ret (v := .tuple #[shVal ShPtr.nil Shp.zero, .int .i64 (-1)]) (by simp [shVal, shCells, ShPtr.nil, Shp.zero, results, Tryd.results16, go_sem, s0, s1, s2, s3, s4]) rfl ?_
  exact ⟨rfl, HB.out⟩

end Go.Proofs.YtilopekdeehaoacDoor

namespace Go.Proofs.YtilopekdeehaoacDoor
open Go.ChangeShapes Go.WideShapes Go.ChangeAt Go.RowKit Go.Deep
set_option linter.unusedVariables false

theorem readOpCellsI : Tryd.prog.cellsOf 3 = 1 := by kernel_rfl
theorem readOpCellsO : Tryd.prog.cellsOf 42 = 2 := by kernel_rfl

theorem list2 {α : Type} (l : List α) (h : l.length = 2) : ∃ a b, l = [a, b] := by
  match l, h with
  | [a, b], _ => exact ⟨a, b, rfl⟩

section
variable {H : Type} {enc : TypeId × Value → H} {w : World} {base : Nat} {spare : Nat → Bool} {held : Bool}

theorem addr_add_o (b off j : Nat) : (⟨b, off, none⟩ : Addr).add j = ⟨b, off + j, none⟩ := by
  unfold Addr.add
  split
  · rename_i h0; subst h0; rfl
  · rfl

/-- a slice of orders that came in -/
theorem read_ops {m : Nat} {v : Value} {y : DataW H × List MemPlace} (h : DataW.trod enc Tryd.prog w base spare held m 22 [v] = some y) :
    ∃ (A : Option Addr) (os : List Od) (c : Nat), v = .slice A os.length c ∧ OpsAt w w.heap.size A os ∧ (A = none → c = 0) := by
  rcases open_slice Tryd.underlying22 h with ⟨hcs, _⟩ | ⟨a, len, cap, m', n', D, Pl, hcs, _, hl, hm, hmm, _, hel⟩
  · simp at hcs
    subst hcs
    exact ⟨none, [], 0, rfl, ⟨fun hx => absurd rfl hx, fun x hx => (by cases hx), by simp⟩, fun _ => rfl⟩
  · simp at hcs
    subst hcs
    have hlen : len ≤ m' := by rw [hmm]; split <;> omega
    have hone : ∀ i, i < len → ∃ (b off : Nat) (o : Od), a.add (i * 2) = ⟨b, off, none⟩ ∧ b < w.heap.size ∧ w.cell? ⟨b, off, none⟩ = some (.int .i64 o.code) ∧ w.cell? ⟨b, off + 1, none⟩ = some (.int .i64 o.arg) ∧ In64 o.code ∧ In64 o.arg := by
      intro i hi
      obtain ⟨cs', hc', ht'⟩ := hel i (by omega)
      rw [readOpCellsO] at hc'
      obtain ⟨ys, n2, _, _, hcl, hyl, hf⟩ := DataW.trod_struct Tryd.underlying42 ht'
      obtain ⟨_, hcl3, hat⟩ := World.cells?_some hc'
      obtain ⟨v0, v1, rfl⟩ := list2 cs' hcl3
      have h0 : DataW.trod enc Tryd.prog w base spare held n2 3 (([v0, v1].drop 0).take (Tryd.prog.cellsOf 3)) = ys[0]? := hf 0 _ rfl
      have h1 : DataW.trod enc Tryd.prog w base spare held n2 3 (([v0, v1].drop 1).take (Tryd.prog.cellsOf 3)) = ys[1]? := hf 1 _ rfl
      rw [readOpCellsI] at h0 h1
      simp only [List.drop_zero, List.drop_succ_cons, List.take_succ_cons, List.take_zero] at h0 h1
      have hy : ∀ k, k < 2 → ∃ z, ys[k]? = some z := fun k hk => ⟨_, List.getElem?_eq_getElem (by rw [hyl]; exact hk)⟩
      obtain ⟨z0, e0⟩ := hy 0 (by omega)
      obtain ⟨z1, e1⟩ := hy 1 (by omega)
      rw [e0] at h0
      rw [e1] at h1
      obtain ⟨kd, hv0, _, hw0⟩ := DataW.trod_int Tryd.underlying3 h0
      obtain ⟨vl, hv1, _, hw1⟩ := DataW.trod_int Tryd.underlying3 h1
      simp at hv0 hv1
      subst hv0
      subst hv1
      have c0 := hat 0 (by omega)
      have c1 := hat 1 (by omega)
      generalize a.add (i * 2) = p at c0 c1 ⊢
      obtain ⟨b, off, sp⟩ := p
      have hsp : sp = none := by simpa [Addr.add] using World.cell?_spot c0
      subst hsp
      rw [addr_add_o] at c0 c1
      simp at c0 c1
      exact ⟨b, off, ⟨kd, vl⟩, rfl, World.block_lt_of_cell? w _ c0, c0, c1, bounds_i64 hw0, bounds_i64 hw1⟩
    rcases Nat.eq_zero_or_pos len with h0 | h0
    · subst h0
      exact ⟨some a, [], cap, rfl, ⟨fun hx => absurd rfl hx, fun x hx => (by cases hx), by simp⟩, fun e => by cases e⟩
    · obtain ⟨b0, off0, _, ha0, hb0, _⟩ := hone 0 h0
      rw [Nat.zero_mul] at ha0
      have ha : a = ⟨b0, off0, none⟩ := by
        have : a.add 0 = a := by simp [Addr.add]
        rw [this] at ha0
        exact ha0
      subst ha
      have hch : ∀ i, ∃ o : Od, i < len → w.cell? ⟨b0, off0 + i * 2, none⟩ = some (.int .i64 o.code) ∧ w.cell? ⟨b0, off0 + i * 2 + 1, none⟩ = some (.int .i64 o.arg) ∧ In64 o.code ∧ In64 o.arg := by
        intro i
        by_cases hi : i < len
        · obtain ⟨b, off, o, he, _, h1, h2, h3, h4⟩ := hone i hi
          rw [addr_add_o] at he
          injection he with he1 he2
          subst he1
          subst he2
          exact ⟨o, fun _ => ⟨h1, h2, h3, h4⟩⟩
        · exact ⟨⟨0, 0⟩, fun h => absurd h hi⟩
      have hget : ∀ (j : Nat) (o : Od), ((List.range len).map fun i => Classical.choose (hch i))[j]? = some o → j < len ∧ o = Classical.choose (hch j) := by
        intro j o hj
        rw [List.getElem?_map] at hj
        have hjl : j < len := by
          rcases Nat.lt_or_ge j len with h | h
          · exact h
          · rw [List.getElem?_eq_none (by simpa using h)] at hj; cases hj
        rw [List.getElem?_range hjl] at hj
        simp at hj
        exact ⟨hjl, hj.symm⟩
      refine ⟨some ⟨b0, off0, none⟩, (List.range len).map fun i => Classical.choose (hch i), cap, by simp, ⟨fun _ => ⟨b0, off0, rfl, hb0, fun j o hj => ?_⟩, fun o ho => ?_, ?_⟩, fun e => by cases e⟩
      · obtain ⟨hjl, rfl⟩ := hget j o hj
        have := Classical.choose_spec (hch j) hjl
        exact ⟨this.1, this.2.1⟩
      · obtain ⟨j, hj, rfl⟩ := List.getElem_of_mem ho
        obtain ⟨hjl, e⟩ := hget j _ (List.getElem?_eq_getElem hj)
        rw [e]
        exact (Classical.choose_spec (hch j) hjl).2.2
      · simp
        unfold maxLen at hm
        omega

end

end Go.Proofs.YtilopekdeehaoacDoor
