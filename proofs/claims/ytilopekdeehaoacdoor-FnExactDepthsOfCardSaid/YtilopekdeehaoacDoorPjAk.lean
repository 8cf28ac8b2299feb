/-
  Lemmas, several texts in one: Rep, ImplO, OwnOO.
-/
import Derived.Test.YtilopekdeehaoacDoorPjAf
import Derived.Laws.CopyOwn
import Derived.Laws.OwnMore
import Derived.Deep.RegionLaw
import Derived.Deep.LoopGhost
import Derived.Deep.Cut
import Derived.Test.YtilopekdeehaoacDoorPjAa
import Derived.Test.YtilopekdeehaoacDoorPjAi
import Derived.Deep.QuietTactic
import Derived.BigQuiet
import Derived.Test.YtilopekdeehaoacDoorPjAj
import Derived.Maps.AppendAt
import Derived.Laws.AppendOwnNone
namespace Go.Proofs.YtilopekdeehaoacDoor
open Go.RowKit
set_option linter.unusedVariables false

set_option maxRecDepth 100000 in
set_option maxHeartbeats 1000000 in
theorem mul64_one (w : World) : Calls Tryd.prog 46 #[.int .u64 1, .int .u64 20] w fun e w' => e = .returned (.tuple #[.int .u64 0, .int .u64 20]) ∧ w = w' := by
  go_enter Tryd.func46, Tryd.ntmps46
  go_wp2
  go_ret2
  exact ⟨rfl, rfl⟩

set_option maxRecDepth 100000 in
set_option maxHeartbeats 1000000 in
theorem mul_one' (w : World) : Calls Tryd.prog 40 #[.int .u64 1, .int .u64 20] w fun e w' => e = .returned (.tuple #[.int .u64 0, .int .u64 20]) ∧ w = w' := by
  go_enter Tryd.func40, Tryd.ntmps40
  go_wp2_with (go_at_call 46; refine (mul64_one _).mono ?_; rintro e w' ⟨rfl, rfl⟩)
  go_ret2
  exact ⟨rfl, rfl⟩

/-- k numbers x, and zeros behind them -/
def rowL (x : Int) (k : Nat) : List Value := List.replicate k (.int .i64 x) ++ List.replicate (20 - k) (.int .i64 0)
theorem rowL_len (x : Int) {k : Nat} (h : k ≤ 20) : (rowL x k).length = 20 := by unfold rowL; simp; omega
theorem rowL_splice (x : Int) {k m : Nat} (h : k + m ≤ 20) : splice (rowL x k) k (List.replicate m (.int .i64 x)) = rowL x (k + m) := by
  unfold splice rowL
  rw [List.take_left' (by simp), List.length_replicate, List.drop_append, List.drop_eq_nil_of_le (by simp), List.nil_append, List.length_replicate, List.drop_replicate, ← List.append_assoc, List.replicate_append_replicate]
  congr 2
  omega
theorem rowL_at (x : Int) {k j : Nat} (h : j < k) : (rowL x k)[j]? = some (.int .i64 x) := by
  unfold rowL
  rw [List.getElem?_append_left (by simpa using h), List.getElem?_replicate, if_pos h]

theorem made20 (x : Int) : madeCells (Value.int .i64 0).cells (20 * 1) = (rowL x 0).toArray := by
  apply Array.ext'
  rw [show (Value.int .i64 0).cells = #[.int .i64 0] from rfl, toList_madeCells_one]
  rfl

theorem LieL.cell {w : World} {g : Nat} {L : List Value} {t : TypeId} (h : w.heap[g]? = some (.cells L.toArray t (0, 0))) {j : Nat} {v : Value} (hj : L[j]? = some v) : w.cell? ⟨g, j, none⟩ = some v := by
  have := Lies.cell h j
  rw [this]
  simpa using hj

theorem rowL_src {w : World} {g k m : Nat} {x : Int} {t : TypeId} (h : w.heap[g]? = some (.cells (rowL x k).toArray t (0, 0))) (hm : m ≤ k) : ∀ j v, (List.replicate m (Value.int .i64 x))[j]? = some v → w.drew.cell? ((⟨g, 0, none⟩ : Addr).add j) = some v := by
  intro j v hv
  rw [List.getElem?_replicate] at hv
  split at hv
  · next hj =>
    have hadd : (⟨g, 0, none⟩ : Addr).add j = ⟨g, j, none⟩ := by
      unfold Addr.add
      split
      · rename_i h0; subst h0; rfl
      · simp
    rw [hadd]
    rw [← hv]
    exact LieL.cell (w := w) h (rowL_at x (by omega))
  · cases hv

set_option maxRecDepth 100000 in
set_option maxHeartbeats 1000000 in
theorem repeat_20 (b : Nat) (x : Int) (c : Nat) (w : World) (hb : b < w.heap.size) (hx : w.cell? ⟨b, 0, none⟩ = some (.int .i64 x)) (hx64 : In64 x) :
    Calls Tryd.prog 34 #[.slice (some ⟨b, 0, none⟩) 1 c, .int .i64 20] w (GivesInts w (List.replicate 20 x)) := by
  obtain ⟨R, hR⟩ : ∃ R, R = List.replicate 20 x := ⟨_, rfl⟩
  rw [← hR]
  have HR := hide hR
  clear hR
  have hmk : ∀ w' : World, (Instr.makeSlice 24 (.int .i64 20) (.int .i64 20)).run Tryd.prog w' = .ok (.slice (some ⟨w'.heap.size, 0, none⟩) 20 20) (w'.alloc (.cells (rowL x 0).toArray 3)) := fun w' =>
    (run_make_rows 24 3 (.int .i64 0) 1 8 Tryd.underlying24 infoI .i64 .i64 20 (by omega) (by omega) w').trans (by rw [made20 x])
  go_enter Tryd.func34, Tryd.ntmps34
  go_upto_region 7 with (go_at_call 40; refine (mul_one' _).mono ?_; rintro e w' ⟨rfl, rfl⟩)
  have hlie : (w.alloc (.cells (rowL x 0).toArray 3)).heap[w.heap.size]? = some (.cells (rowL x 0).toArray 3 (0, 0)) := heap_alloc_new w _
  have hB0 := (Below.refl w.heap.size w).alloc (Nat.le_refl _) (.cells (rowL x 0).toArray 3)
  have hx2 := (hB0.cell (p := ⟨b, 0, none⟩) hb).trans hx
  have HL0 := hide hlie
  have HB0 := hide hB0
  clear hlie hB0 hmk
  generalize w.alloc (.cells (rowL x 0).toArray 3) = W at HL0 HB0 hx2 ⊢
  generalize hG : w.heap.size = g at HL0 ⊢
  have HG := hide hG
  clear hG hx
  have hc1 : ∀ j v, [Value.int .i64 x][j]? = some v → W.cell? ((⟨b, 0, none⟩ : Addr).add j) = some v := by
    intro j v hv
    match j, hv with
    | 0, hv =>
      simp at hv
      subst hv
      exact hx2
  have hc2 : 0 + [Value.int .i64 x].length ≤ (rowL x 0).length := by rw [rowL_len x (by omega)]; simp
  have hc3 : ∀ v ∈ [Value.int .i64 x], v.oneCell' = true := by intro v hv; simp at hv; subst hv; rfl
  have HC1 := hide hc1
  have HC3 := hide hc3
  clear hc1 hc3
  go_upto_region 8 with (with_reducible refine wpList_copy_splice rfl (.tmp 31) (.tmp 32) 24 24 rfl 3 Tryd.underlying24 (by kernel_rfl) (some ⟨g, 0, none⟩) (some ⟨b, 0, none⟩) 20 20 1 c rfl rfl g 0 (rowL x 0) 3 HL0.out [.int .i64 x] rfl (fun _ => ⟨rfl, _, rfl, HC1.out⟩) hc2 HC3.out w.heap.size w HB0.out (by rw [HG.out]; exact Nat.le_refl _) ?_; intro w2 hL2 hB2)
  have HL2 := hide (show w2.heap[g]? = some (.cells (rowL x 1).toArray 3 (0, 0)) from by
    have h := hL2.out
    rw [show splice (rowL x 0) 0 [Value.int .i64 x] = rowL x (0 + 1) from rowL_splice x (k := 0) (m := 1) (by omega)] at h
    exact h)
  clear hL2 HL0 HB0 hc2 HC1 HC3 hx2
  have HB2 := hide hB2
  clear hB2
  go_wp2_with fail
  go_loopg [8] 19 (fun gk nv wr => ∃ k : Nat, 1 ≤ k ∧ k ≤ 20 ∧ gk = 20 - k ∧ nv = .int .i64 (k : Int) ∧ wr.heap[g]? = some (.cells (rowL x k).toArray 3 (0, 0)) ∧ Below w.heap.size w wr)
  case atStart => exact ⟨1, by omega, by omega, by omega, by go_num, HL2.out, HB2.out⟩
  case round =>
    clear HL2 HB2
    obtain ⟨k, hk1, hk2, rfl, rfl, hL, hB⟩ := hrel
    have HL := hide hL
    have HB := hide hB
    clear hL hB
    by_cases hlt : k < 20
    · have hlt2 : (k : Int) < 20 := by omega
      have hk0 : (0 : Int) ≤ (k : Int) := by omega
      have hle2 : (k : Int) ≤ 20 := by omega
      have hn20 : ¬ k = 20 := by omega
      have hn20' : ¬ 20 = k := by omega
      obtain ⟨d, hd⟩ : ∃ d, 20 - k = d := ⟨_, rfl⟩
      obtain ⟨m, hm⟩ : ∃ m, min k d = m := ⟨_, rfl⟩
      have Hm := hide hm
      have hm1 : 1 ≤ m := by omega
      have hm2 : m ≤ k := by omega
      have hm3 : m ≤ d := by omega
      clear hm
      have hkd1 : k + d ≤ 20 := by omega
      have hkd2 : 20 ≤ k + d := by omega
      have hwr : IntKind.i64.wrap ((k : Int) + (m : Int)) = (k : Int) + (m : Int) := by rw [IntKind.wrap_i64]; omega
      go_wp2_with fail
      go_region_law (first
        | (refine step_copy_splice (by rfl) (.tmp 41) (.tmp 44) 24 24 (by rfl) 3 Tryd.underlying24 (by kernel_rfl) (some ⟨g, k, none⟩) (some ⟨g, 0, none⟩) d d k 20 (by simp [Act.eval, Act.put]) (by simp [Act.eval, Act.put]) g k (rowL x k) 3 HL.out (List.replicate m (.int .i64 x)) (by rw [List.length_replicate]; exact Hm.out.symm) (fun _ => ⟨rfl, _, rfl, rowL_src HL.out hm2⟩) (by rw [rowL_len x (by omega)]; simp; omega) (by intro v hv; rw [List.eq_of_mem_replicate hv]; rfl) w.heap.size w HB.out.drew (by rw [HG.out]; exact Nat.le_refl _) ?_; intro w3 hL3 hB3))
      all_goals
        have HL3 := hide (show w3.heap[g]? = some (.cells (rowL x (k + m)).toArray 3 (0, 0)) from by
          have h := hL3.out
          rw [rowL_splice x (by omega)] at h
          exact h)
        have HB3 := hide hB3
        clear hL3 hB3 hd hwr
        go_wp2
        go_roundg (20 - (k + m))
        case measure => omega
        case rel => exact ⟨k + m, by omega, by omega, rfl, by go_num, HL3.out, HB3.out⟩
    · obtain rfl : k = 20 := by omega
      rw [show ((20 : Nat) : Int) = 20 from rfl]
      go_wp2
      go_ret
      rw [HR.out]
      exact ⟨some ⟨g, 0, none⟩, 20, rfl, ⟨⟨by simp, .inr ⟨g, 20, (rowL x 20).toArray, rfl, by rw [HG.out]; exact Nat.le_refl _, HL.out, by simp, by unfold maxLen; omega, by simp [rowL], by simp [rowL]⟩⟩⟩, HB.out⟩

end Go.Proofs.YtilopekdeehaoacDoor

namespace Go.Proofs.YtilopekdeehaoacDoor
open Go.RowKit
set_option linter.unusedVariables false

set_option maxRecDepth 100000 in
set_option maxHeartbeats 1000000 in
theorem implValidOps_any (A : Option Addr) (os : List Od) (c : Nat) (w : World) (h : OpsAt w w.heap.size A os) (hF : FormsAt w w.heap.size) :
    Calls Tryd.prog 23 #[.slice A os.length c] w fun e w' => e = .returned (.bool (tf (OpsOk os))) ∧ Below w.heap.size w w' := by
  have hl := h.len
  by_cases h3 : os.length ≤ 300
  · have t3 : decide ((300 : Int) < (os.length : Int)) = false := by simp; omega
    go_enter Tryd.func23, Tryd.ntmps23
    go_wp2_with fail
    go_loopw [10] (fun i wr => ∃ k : Nat, k ≤ os.length ∧ i = .int .i64 k ∧ Below w.heap.size w wr ∧ ∀ j x, j < k → os[j]? = some x → OdOk x) (fun i _ => os.length - (intOf i).toNat)
    case atStart => exact ⟨0, Nat.zero_le _, rfl, Below.refl _ _, fun j _ hj => absurd hj (by omega)⟩
    case round =>
      obtain ⟨k, hk, rfl, hb, he0⟩ := hrel
      have he := hide he0
      clear he0
      by_cases hlt : k < os.length
      · obtain ⟨b, off, x, rfl, hbl, hx, hmem, hc0, hc1⟩ := (h.below hb).at_ hlt
        have Hx := hide hx
        clear hx
        have hFr := hF.below hb
        have hb2 : Below w.heap.size w (wr.alloc (.cells #[.int .i64 x.code, .int .i64 x.arg] 40)) := hb.alloc hb.size _
        have lx := Lies.new wr #[.int .i64 x.code, .int .i64 x.arg] 40
        have hF2 := hF.below hb2
        clear hFr
        go_wp2_with fail
        generalize wr.alloc (.cells #[.int .i64 x.code, .int .i64 x.arg] 40) = w2 at hb2 lx hF2 ⊢
        have x0 := lx.cell 0
        have x1 := lx.cell 1
        simp at x0 x1
        by_cases hc : 0 ≤ x.code ∧ x.code ≤ 19
        · have u1 := upB_yes hc
          obtain ⟨m, hm⟩ := Int.eq_ofNat_of_zero_le hc.1
          have hm19 : m < 20 := by omega
          have harg := hF2.arg m hm19
          have hi1 : (0 : Int) ≤ x.code := hc.1
          have hi2 : x.code < 20 := by omega
          have hmn : x.code.toNat = m := by omega
          rw [← hm, ← hmn] at harg
          by_cases ha : 0 ≤ x.arg ∧ x.arg ≤ argTop x.code
          · have u2 := upB_yes ha
            have He : Hid (∀ j y, j < k + 1 → os[j]? = some y → OdOk y) := by
              intro j y hj hy
              by_cases e : j = k
              · subst e
                obtain rfl := Option.some.inj (Hx.out.symm.trans hy)
                exact (OdOk.iff _).2 ⟨hc, ha⟩
              · exact he.out j y (by omega) hy
            generalize argTop x.code = T at harg u2
            clear he hmem hm hmn ha hc hF2 lx
            go_quiet ((go_at_call 33; exact Calls.quiet_of_same (isUpTo_q _ _ _)))
            go_wp2
            go_roundw
            case rel => exact ⟨k + 1, by omega, by go_num, below_drewN hb2 _, He.out⟩
            case measure => simp [intOf]; omega
          · have u2 := upB_no ha
            have HF := hide (show tf (OpsOk os) = false from tf_false fun hall => ha ((OdOk.iff _).1 (hall.2 x hmem)).2)
            generalize argTop x.code = T at harg u2
            clear he hmem hm hmn ha hc hF2 lx
            go_quiet ((go_at_call 33; exact Calls.quiet_of_same (isUpTo_q _ _ _)))
            go_wp2
            go_ret
            exact ⟨ret_bool HF.out.symm, below_drewN hb2 _⟩
        · have u1 := upB_no hc
          have HF := hide (show tf (OpsOk os) = false from tf_false fun hall => hc (hall.2 x hmem).1)
          clear he hmem hc hF2 lx
          go_quiet ((go_at_call 33; exact Calls.quiet_of_same (isUpTo_q _ _ _)))
          go_wp2
          go_ret
          exact ⟨ret_bool HF.out.symm, below_drewN hb2 _⟩
      · obtain rfl : k = os.length := by omega
        have HF := hide (show tf (OpsOk os) = true from tf_true ⟨h3, fun x hx => by
          obtain ⟨j, hj, rfl⟩ := List.getElem_of_mem hx
          exact he.out j _ hj (List.getElem?_eq_getElem hj)⟩)
        clear hlt
        go_wp2
        go_ret
        exact ⟨ret_bool HF.out.symm, hb⟩
  · have t3 : decide ((300 : Int) < (os.length : Int)) = true := by simp; omega
    have HF := hide (show tf (OpsOk os) = false from tf_false fun hh => h3 hh.1)
    clear h3
    go_enter Tryd.func23, Tryd.ntmps23
    go_wp2
    go_ret
    exact ⟨ret_bool HF.out.symm, Below.refl _ _⟩

end Go.Proofs.YtilopekdeehaoacDoor

namespace Go.Proofs.YtilopekdeehaoacDoor
open Go.RowKit
set_option linter.unusedVariables false

theorem opVals_one (os : List Od) : ∀ u ∈ opVals os, u.oneCell' = true := by
  intro u hu
  obtain ⟨o, _, hu⟩ := List.mem_flatMap.1 hu
  simp at hu
  rcases hu with rfl | rfl <;> rfl

theorem opVals_append (os ps : List Od) : opVals (os ++ ps) = opVals os ++ opVals ps := by simp [opVals]

theorem OpsAt.vals {w : World} {B b off : Nat} {os : List Od} (h : OpsAt w B (some ⟨b, off, none⟩) os) : ∀ j u, (opVals os)[j]? = some u → w.cell? ⟨b, off + j, none⟩ = some u := by
  intro j u hu
  have hj : j < os.length * 2 := by have := (List.getElem?_eq_some_iff.1 hu).1; rwa [opVals_len] at this
  have hk : j / 2 < os.length := by omega
  obtain ⟨b', off', o, e, _, ho, _, hc0, hc1⟩ := h.at_ hk
  injection e with e
  injection e with e1 e2
  subst e1 e2
  rcases Nat.mod_two_eq_zero_or_one j with hm | hm
  · have ej : j = j / 2 * 2 := by omega
    have := opVals_code ho
    rw [← ej] at this hc0
    rw [this] at hu
    injection hu with hu
    rw [← hu]
    exact hc0
  · have ej : j = j / 2 * 2 + 1 := by omega
    have := opVals_arg ho
    rw [← ej] at this
    rw [Nat.add_assoc, ← ej] at hc1
    rw [this] at hu
    injection hu with hu
    rw [← hu]
    exact hc1

/-- append(s, t...) where s is the call's own and t is any slice of orders that reads as ys -/
theorem append_ops {w : World} {ops : Array Oper} {rest : List Oper} {o : Oper} {a : Act} {Q : Exit → Act → World → Prop} (hgd : o.guard = none) (s x : Operand)
    (ho : o.op = .call { callee := .builtin .append, args := #[s, x], argTypes := #[26, 26] })
    (base : Nat) (A : Option Addr) (c : Nat) (xs : List Od) (hs : a.eval s = .slice A xs.length c) (hown : OwnO w base A c xs)
    (B : Nat) (A2 : Option Addr) (c2 : Nat) (ys : List Od) (hx : a.eval x = .slice A2 ys.length c2) (hnil : A2 = none → c2 = 0) (hr : OpsAt w B A2 ys)
    (hsum : xs.length + ys.length ≤ 8388608) (hbase : base ≤ w.heap.size)
    (h : ∀ (zs : List Od) (A' : Option Addr) (c' : Nat) (w' : World), Hid (zs = xs ++ ys) → OwnO w' base A' c' zs → w.grownBy w' (blockOf A) → (blockOf A' = blockOf A ∨ blockOf A' = some w.heap.size) →
      wpList Tryd.prog ops Q rest (a.put o.dst (.slice A' zs.length c')) w') : wpList Tryd.prog ops Q (o :: rest) a w := by
  obtain ⟨i0, hi, hz0, hz1, hz2⟩ := info_parts infoOp
  have hempty : A2 = none → ys = [] := by
    intro e
    cases ys with
    | nil => rfl
    | cons y ys =>
      obtain ⟨b, off, e2, _⟩ := hr.row (by simp)
      rw [e] at e2; cases e2
  rcases A2 with _ | ad
  · obtain rfl := hnil rfl
    obtain rfl := hempty rfl
    exact wpList_append_own_none hgd s x 26 ho base 40 i0 2 Tryd.underlying26 hi _ _ _ hs hown.own hx
      (h xs A c w (by simp [Hid]) hown (World.grownBy.refl w _) (.inl rfl))
  · have hcells : ∀ j u, (opVals ys)[j]? = some u → w.cell? (ad.add j) = some u := by
      intro j u hu
      have hy : ys ≠ [] := by intro e; subst e; simp [opVals] at hu
      obtain ⟨b, off, e2, _⟩ := hr.row hy
      obtain rfl : ad = ⟨b, off, none⟩ := Option.some.inj e2
      have hadd : (⟨b, off, none⟩ : Addr).add j = ⟨b, off + j, none⟩ := by
        unfold Addr.add
        split
        · rename_i h0; subst h0; rfl
        · rfl
      rw [hadd]
      exact hr.vals j u hu
    refine wpList_append_own_at w hgd s x 26 ho base 40 i0 _ 2 16 Tryd.underlying26 hi hz0 hz1 hz2 rfl (by omega) _ _ _ hs hown.own ad ys.length c2 (opVals ys) hx (by rw [opVals_len]) hcells (opVals_one ys)
      (by unfold maxLen; omega) (by omega) hbase ?_
    intro v' w' h2 h3 _ h5
    have hlen : xs.length + ys.length = (xs ++ ys).length := by simp
    rw [ownBlock_slice] at h3 h5
    rw [← opVals_append, hlen] at h2
    rcases h2.2 with ⟨rfl, h6⟩ | ⟨g, cap, cur, rfl, _⟩
    · have hzs : xs ++ ys = [] := List.eq_nil_of_length_eq_zero h6
      have := h (xs ++ ys) none 0 w' (by simp [Hid]) ⟨by rw [h6] at h2 ⊢; exact h2⟩ h3 (by simpa [blockOf, Value.ownBlock] using h5)
      rw [h6] at this
      exact this
    · exact h (xs ++ ys) _ _ w' (by simp [Hid]) ⟨h2⟩ h3 (by simpa [ownBlock_slice] using h5)

theorem OpsAt.upto {w : World} {B : Nat} {A : Option Addr} {os : List Od} (h : OpsAt w B A os) (n : Nat) : OpsAt w B A (os.take n) := by
  refine ⟨fun hx => ?_, fun x hx => h.wf x (List.mem_of_mem_take hx), Nat.le_trans (by simp; omega) h.len⟩
  obtain ⟨b, off, e, hlt, hc⟩ := h.row (by intro e; subst e; simp at hx)
  refine ⟨b, off, e, hlt, fun j x hj => hc j x ?_⟩
  rw [List.getElem?_take] at hj
  split at hj
  · exact hj
  · cases hj

end Go.Proofs.YtilopekdeehaoacDoor
