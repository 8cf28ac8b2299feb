/-
  Lemmas, several texts in one: DpI, CutM.
-/
import Derived.Test.YtilopekdeehaoacDoorPjAo
import Derived.Test.YtilopekdeehaoacDoorPjAl
import Derived.Test.YtilopekdeehaoacDoorPjAh
import Derived.Test.YtilopekdeehaoacDoorPjAa
namespace Go.Proofs.YtilopekdeehaoacDoor
open Go.RowKit
set_option linter.unusedVariables false

set_option maxRecDepth 100000 in
set_option maxHeartbeats 1000000 in
theorem depWatch_any (base bc k : Nat) (os : List Od) (D : Nat → Prop) (Ap : Option Addr) (cp : Nat) (W : World) (hJ : Coll base bc List.length os k D W) (hbase : base ≤ W.heap.size) (hn : (stk os (k + 1)).length ≤ 300) (hk : k ≤ 300) :
    Calls Tryd.prog 17 (#[.slice Ap (stk os (k + 1)).length cp] ++ #[.pointer (some ⟨bc, 0, none⟩)]) W (Watched W (k + 1) D (Coll base bc List.length os)) := by
  obtain ⟨A, c, hl, ho, hA, hD⟩ := hJ
  have hs := toldOf_succ List.length os k
  have hxl := toldOf_len List.length os k
  obtain ⟨xs, hxs⟩ : ∃ xs, xs = toldOf List.length os k := ⟨_, rfl⟩
  rw [← hxs] at hs hxl ho
  rw [← hxl] at hl
  have hc := hl.cell 0
  have hf := hl.frozen 0
  simp only [List.getElem?_toArray, List.getElem?_cons_zero] at hc
  have hl2 : xs.length ≤ 300 := by omega
  have Hs := hide hs
  have Hxl := hide hxl
  have HL := hide hl
  have HO := hide ho
  have HD := hide hD
  clear hs hxl hl ho hD hxs
  generalize hN : (stk os (k + 1)).length = n at hn Hs
  clear hN
  show Calls _ _ #[.slice Ap n cp, .pointer (some ⟨bc, 0, none⟩)] _ _
  go_enter Tryd.func17, Tryd.ntmps17
  go_wp2_with (at_builtin; refine append_ints rfl (.tmp 3) (.tmp 6) rfl base A c xs rfl (HO.out.alloc _) _ _ 1 [(n : Int)] rfl (fun e => by cases e) (IntsAt.oneN _ W.heap.size (n : Int) (by constructor <;> omega) rfl) (by simp <;> omega) (by simp <;> omega) ?_; intro zs A5 c5 w5 hz5 ho5 hg5 ha5; have hc5 : w5.cell? ⟨bc, 0, none⟩ = some (.slice A xs.length c) := (hg5.cell_far _ (by have := HL.out.lt; simp; omega) (fun e => hA e.symm)).trans ((World.cell?_alloc_some _ _ _ (Option.isSome_iff_exists.2 ⟨_, hc⟩)).trans hc); have hf5 : w5.frozen? ⟨bc, 0, none⟩ = false := (hg5.frozen_far _ (by have := HL.out.lt; simp; omega) (fun e => hA e.symm)).trans (Lies.frozen (HL.out.alloc _) 0))
  go_end0
  have hL := HL.out
  rw [Hxl.out] at hL
  exact Coll.next hL hA HD.out (by rw [hz5.out, Hs.out]) ho5 hg5 ha5

theorem enter_dep (args : Array Value) (W : World) : (callFunc 17 args).run Tryd.prog W = .ok (.enter 17 args) W := by
  kernel_rfl

set_option maxRecDepth 100000 in
set_option maxHeartbeats 1000000 in
theorem implDepthsOf_any (A : Option Addr) (os : List Od) (c : Nat) (w : World) (h : OpsAt w w.heap.size A os) (hF : FormsAt w w.heap.size) (hN : NeedsAt w w.heap.size) :
    Calls Tryd.prog 7 #[.slice A os.length c] w (GivesInts w (depthsOf os)) := by
  have hB0 := (Below.refl w.heap.size w).alloc (Nat.le_refl _) (.cells #[.slice none 0 0] 24)
  have HB0 := hide hB0
  have L0 := hide (Lies.new w #[.slice none 0 0] 24)
  have hsz : w.heap.size ≤ (w.alloc (.cells #[.slice none 0 0] 24)).heap.size := hB0.size
  by_cases hok : OpsOk os
  · have HV := hide (show depthsOf os = toldOf List.length os (runShp Shp.new os).2 by unfold depthsOf; rw [if_pos hok])
    have HC := hide (watched_any A os c w.heap.size 17 #[.pointer (some ⟨w.heap.size, 0, none⟩)] (Coll w.heap.size w.heap.size List.length os) (fun b => b = w.heap.size ∨ blockOf none = some b) _ (h.below hB0) (hF.below hB0) (hN.below hB0) hok hsz
      (fun b hb => by rcases hb with rfl | hb; exact Nat.le_refl _; cases hb) (Coll.watcher _ _ _ _ _ _)
      ⟨none, 0, L0.out, OwnI.empty _ _, by simp [blockOf], fun b => Iff.rfl⟩ enter_dep
      (fun k D W Ap cp hk hJ hI hA => depWatch_any w.heap.size w.heap.size k os D Ap cp W hJ (by obtain ⟨A9, c9, hl9, _⟩ := hJ; have := hl9.lt; omega) (stk_le hok.2 _) (by have := hok.1; omega)))
    obtain ⟨R, hR⟩ : ∃ R, R = runShp Shp.new os := ⟨_, rfl⟩
    rw [← hR] at HC HV
    obtain ⟨s, n⟩ := R
    rw [HV.out]
    clear hR hok hB0 HV h hF hN
    go_enter Tryd.func7, Tryd.ntmps7
    go_upto_region 2 with fail
    generalize w.alloc (.cells #[.slice none 0 0] 24) = W at HB0 L0 HC hsz ⊢
    go_wp2_with (go_at_call 16; refine HC.out.mono ?_; rintro e w2 ⟨p, D, rfl, ho, ⟨A2, c2, hl2, hown2, hA2, hD2⟩, _, _, hf⟩; have hcc := hl2.cell 0; simp only [List.getElem?_toArray, List.getElem?_cons_zero] at hcc; have HX := hide (And.intro hown2 (HB0.out.trans (hf.belowB (B := w.heap.size) (fun b hb => by rcases hb with rfl | hb; exact Nat.le_refl _; cases hb) hsz))); clear ho hl2 hown2 hD2 hf)
    go_ret
    refine ⟨A2, c2, ?_, HX.out.1, HX.out.2⟩
    rw [toldOf_len]
    rfl
  · have HV := hide (show depthsOf os = [] by unfold depthsOf; rw [if_neg hok])
    have HC := hide (watched_bad A os c (.func (.func 17) #[] #[.pointer (some ⟨w.heap.size, 0, none⟩)]) _ (h.later hB0 (Nat.le_refl _)) (hF.later hB0 (Nat.le_refl _)) hok)
    rw [HV.out]
    clear hok hB0 HV h hF hN
    go_enter Tryd.func7, Tryd.ntmps7
    go_upto_region 2 with fail
    have hlt := L0.out.lt
    generalize w.alloc (.cells #[.slice none 0 0] 24) = W at HB0 L0 HC hsz hlt ⊢
    go_wp2_with (go_at_call 16; refine HC.out.mono ?_; rintro e w2 ⟨rfl, hb⟩; have hcc := (L0.out.below hb hlt).cell 0; simp only [List.getElem?_toArray, List.getElem?_cons_zero] at hcc; have HX := hide (HB0.out.trans (hb.mono hsz)); clear hb)
    go_ret
    exact ⟨none, 0, rfl, OwnI.empty _ _, HX.out⟩

end Go.Proofs.YtilopekdeehaoacDoor

namespace Go.Proofs.YtilopekdeehaoacDoor
set_option linter.unusedVariables false

open Classical in
/-- what CutOps returns -/
noncomputable def cutOf (os : List Od) : List Od := if OpsOk os then os.take (runShp Shp.new os).2 else []
theorem cutOf_ok {os : List Od} (h : OpsOk os) : cutOf os = os.take (runShp Shp.new os).2 := by unfold cutOf; rw [if_pos h]
theorem cutOf_no {os : List Od} (h : ¬ OpsOk os) : cutOf os = [] := by unfold cutOf; rw [if_neg h]

theorem runNew_le {os : List Od} (h : ∀ o ∈ os, OdOk o) : (runShp Shp.new os).1.Ok ∧ (runShp Shp.new os).1.Fits ∧ (runShp Shp.new os).2 ≤ os.length :=
  runShp_ok Shp.new_ok ⟨by simp [Shp.new], by simp [Shp.new]⟩ (fun o ho => (h o ho).get)

theorem cutOf_few {os : List Od} : (cutOf os).length ≤ 300 := by
  by_cases h : OpsOk os
  · rw [cutOf_ok h]
    have := h.1
    simp only [List.length_take]
    omega
  · rw [cutOf_no h]; simp
theorem cutOf_mem {os : List Od} : ∀ o ∈ cutOf os, OdOk o := by
  by_cases h : OpsOk os
  · rw [cutOf_ok h]
    exact fun o ho => h.2 o (List.mem_of_mem_take ho)
  · rw [cutOf_no h]; intro o ho; cases ho

/-- how many marks are among the first k things of a stack -/
def negs (l : List Int) : Nat → Nat
  | 0 => 0
  | k + 1 => negs l k + (if l.getD k 0 < 0 then 1 else 0)
theorem negs_le (l : List Int) (k : Nat) : negs l k ≤ k := by
  induction k with
  | zero => exact Nat.le_refl _
  | succ k ih => unfold negs; split <;> omega

/-- how many things lie below the first mark -/
def free : List Int → Nat
  | [] => 0
  | x :: l => if 0 ≤ x then free l + 1 else 0
theorem free_le (l : List Int) : free l ≤ l.length := by
  induction l with
  | nil => exact Nat.le_refl _
  | cons x l ih => unfold free; split <;> simp only [List.length_cons] <;> omega
theorem free_at {l : List Int} {k : Nat} (h : k < free l) : 0 ≤ l.getD k 0 := by
  induction l generalizing k with
  | nil => simp [free] at h
  | cons x l ih =>
    unfold free at h
    split at h
    · cases k with
      | zero => simpa
      | succ k => simpa using ih (k := k) (by omega)
    · omega
theorem free_stop {l : List Int} (h : free l < l.length) : l.getD (free l) 0 < 0 := by
  induction l with
  | nil => simp at h
  | cons x l ih =>
    unfold free at h ⊢
    split
    · next hx =>
      rw [if_pos hx] at h
      simpa using ih (by simpa using h)
    · next hx => simp; omega

/-- the orders that end a program behind which things lie on the stack -/
def tailOps (l : List Int) : List Od :=
  List.replicate (negs l l.length) ⟨3, 0⟩ ++ List.replicate (free l + (if 0 < negs l l.length then 1 else 0) - 1) ⟨6, 0⟩ ++
    (if free l + (if 0 < negs l l.length then 1 else 0) = 0 then [⟨4, 0⟩] else []) ++ [⟨19, 0⟩]

theorem od_fix {c : Int} (h0 : 0 ≤ c) (h1 : c ≤ 19) (h : argMost c < 0) : OdOk ⟨c, 0⟩ := ⟨⟨h0, h1⟩, .inl ⟨h, rfl⟩⟩

theorem od_64 {o : Od} (h : OdOk o) : (-9223372036854775808 ≤ o.code ∧ o.code ≤ 9223372036854775807) ∧ (-9223372036854775808 ≤ o.arg ∧ o.arg ≤ 9223372036854775807) := by
  obtain ⟨h1, h2⟩ := h
  have := argMost_range o.code
  constructor <;> constructor <;> omega

theorem tailOps_mem (l : List Int) : ∀ o ∈ tailOps l, OdOk o := by
  have h3 : OdOk ⟨3, 0⟩ := od_fix (by omega) (by omega) (by simp [argMost])
  have h6 : OdOk ⟨6, 0⟩ := od_fix (by omega) (by omega) (by simp [argMost])
  have h4 : OdOk ⟨4, 0⟩ := od_fix (by omega) (by omega) (by simp [argMost])
  have h19 : OdOk ⟨19, 0⟩ := od_fix (by omega) (by omega) (by simp [argMost])
  intro o ho
  unfold tailOps at ho
  rcases List.mem_append.1 ho with ho | ho
  · rcases List.mem_append.1 ho with ho | ho
    · rcases List.mem_append.1 ho with ho | ho
      · rw [List.eq_of_mem_replicate ho]; exact h3
      · rw [List.eq_of_mem_replicate ho]; exact h6
    · by_cases hc : free l + (if 0 < negs l l.length then 1 else 0) = 0
      · rw [if_pos hc] at ho
        rw [List.mem_singleton.1 ho]; exact h4
      · rw [if_neg hc] at ho; cases ho
  · rw [List.mem_singleton.1 ho]; exact h19

theorem tail_a {st : List Int} {m k : Nat} (hm : m = negs st st.length) (hk : k = free st) (h0 : 0 < m) : tailOps st = (List.replicate m ⟨3, 0⟩ ++ List.replicate (k + 1 - 1) ⟨6, 0⟩) ++ [⟨19, 0⟩] := by
  unfold tailOps
  rw [← hm, ← hk, if_pos h0, if_neg (by omega), List.append_nil]
theorem tail_b {st : List Int} {m k : Nat} (hm : m = negs st st.length) (hk : k = free st) (h0 : ¬ 0 < m) (hk0 : ¬ k = 0) : tailOps st = (List.replicate m ⟨3, 0⟩ ++ List.replicate (k - 1) ⟨6, 0⟩) ++ [⟨19, 0⟩] := by
  unfold tailOps
  rw [← hm, ← hk, if_neg h0, if_neg (by omega), List.append_nil, Nat.add_zero]
theorem tail_c {st : List Int} {m : Nat} (hm : m = negs st st.length) (hk : 0 = free st) (h0 : ¬ 0 < m) : tailOps st = (List.replicate m ⟨3, 0⟩ ++ List.replicate (0 - 1) ⟨6, 0⟩ ++ [⟨4, 0⟩]) ++ [⟨19, 0⟩] := by
  unfold tailOps
  rw [← hm, ← hk, if_neg h0, if_pos (by omega), Nat.add_zero]

theorem tailOps_len (l : List Int) : (tailOps l).length ≤ 2 * l.length + 3 := by
  have h1 := negs_le l l.length
  have h2 := free_le l
  unfold tailOps
  simp only [List.length_append, List.length_replicate]
  split <;> split <;> simp <;> omega

open Classical in
/-- what EndOps returns -/
noncomputable def endOf (os : List Od) : Option (List Od) :=
  if OpsOk os then
    if (runShp Shp.new os).1.done = true then some []
    else if OpsOk (os.take (runShp Shp.new os).2 ++ tailOps (runShp Shp.new os).1.stack) ∧ (runShp Shp.new (os.take (runShp Shp.new os).2 ++ tailOps (runShp Shp.new os).1.stack)).2 = (os.take (runShp Shp.new os).2 ++ tailOps (runShp Shp.new os).1.stack).length then some (tailOps (runShp Shp.new os).1.stack)
    else none
  else none

end Go.Proofs.YtilopekdeehaoacDoor
