/-
  Lemmas, several texts in one: Needs, NewSh, DpM, MkM, ShpM, InR, InfoO, HeldI.
-/
import Derived.Test.YtgkbblaaodcmnaaDoorChkM
import Derived.Test.YtgkbblaaodcmnaaDoorMem
import Derived.LaidMore
import Derived.Test.YtgkbblaaodcmnaaDoorPjAe
import Derived.Test.YtgkbblaaodcmnaaDoorSb
import Derived.Test.YtgkbblaaodcmnaaDoorPjAa
import Derived.Test.YtgkbblaaodcmnaaDoorShpMa
import Derived.Test.YtgkbblaaodcmnaaDoorShpMb
import Derived.Test.YtgkbblaaodcmnaaDoorShpMc
import Derived.Test.YtgkbblaaodcmnaaDoorShpMd
import Derived.Test.YtgkbblaaodcmnaaDoorPjAd
namespace Go.Proofs.YtgkbblaaodcmnaaDoor
open Go.RowKit Go.ChangeShapes

/-- the cells of the table -/
structure NeedsAt (w : World) (B : Nat) : Prop where
  lt : 1 < B
  n0 : ∀ c : Nat, c < 20 → w.cell? ⟨1, c * 3, none⟩ = some (.int .i64 (need0 (c : Int) : Int))
  n1 : ∀ c : Nat, c < 20 → w.cell? ⟨1, c * 3 + 1, none⟩ = some (.int .i64 (need1 (c : Int) : Int))
  n2 : ∀ c : Nat, c < 20 → w.cell? ⟨1, c * 3 + 2, none⟩ = some (.int .i64 (need2 (c : Int) : Int))

theorem NeedsAt.below {w w' : World} {B : Nat} (h : NeedsAt w B) (hb : Below B w w') : NeedsAt w' B :=
  ⟨h.lt, fun c hc => (hb.cell (p := ⟨1, c * 3, none⟩) h.lt).trans (h.n0 c hc), fun c hc => (hb.cell (p := ⟨1, c * 3 + 1, none⟩) h.lt).trans (h.n1 c hc), fun c hc => (hb.cell (p := ⟨1, c * 3 + 2, none⟩) h.lt).trans (h.n2 c hc)⟩

theorem NeedsAt.more {w : World} {B B' : Nat} (h : NeedsAt w B) (hB : B ≤ B') : NeedsAt w B' := ⟨Nat.lt_of_lt_of_le h.lt hB, h.n0, h.n1, h.n2⟩

theorem NeedsAt.later {w w' : World} {B : Nat} (h : NeedsAt w B) (hb : Below B w w') (hB : B ≤ w.heap.size) : NeedsAt w' w'.heap.size :=
  (h.below hb).more (Nat.le_trans hB hb.size)

end Go.Proofs.YtgkbblaaodcmnaaDoor

namespace Go.Proofs.YtgkbblaaodcmnaaDoor
open Go.RowKit
set_option linter.unusedVariables false

set_option maxRecDepth 100000 in
set_option maxHeartbeats 1000000 in
theorem implNewShapes_any (w : World) : Calls Tryd.prog 24 #[] w (GivesSh w w.heap.size Shp.new) := by
  obtain ⟨R, hR⟩ : ∃ R, R = List.replicate 20 (-1 : Int) := ⟨_, rfl⟩
  rw [show Shp.new = ⟨[], [], [], R, false⟩ from by rw [hR]; rfl]
  have HR := hide hR
  clear hR
  have hB0 := (Below.refl w.heap.size w).alloc (Nat.le_refl _) (.cells zero5 36)
  have L0 := Lies.new w zero5 36
  have HB0 := hide hB0
  have HL0 := hide L0
  clear hB0 L0
  go_enter Tryd.func24, Tryd.ntmps24
  go_upto_region 1 with fail
  unfold zero5 at HB0 HL0
  generalize w.alloc (.cells #[.slice none 0 0, .slice none 0 0, .slice none 0 0, .slice none 0 0, .bool false] 36) = W at HB0 HL0 ⊢
  have hlt := HL0.out.lt
  have HC := hide (repeat_20 W.heap.size (-1) 1 (W.alloc (.cells #[.int .i64 (-1)] 3)) (by simp) (by simp) (by constructor <;> omega))
  have HA := hide ((Below.refl W.heap.size W).alloc (Nat.le_refl _) (.cells #[.int .i64 (-1)] 3))
  have hz : (W.alloc (.cells #[.int .i64 (-1)] 3)).heap.size = W.heap.size + 1 := by simp
  rw [← HR.out] at HC
  generalize hV : W.alloc (.cells #[.int .i64 (-1)] 3) = V at HC HA hz
  have HV := hide hV
  clear hV
  go_wp2_with (go_at_call 34; rw [HV.out]; refine HC.out.mono ?_; rintro e w2 ⟨A, c, rfl, ho, hb⟩; have hS := (show Lies w2 w.heap.size #[.slice none 0 0, .slice none 0 0, .slice none 0 0, .slice none 0 0, .bool false] 36 from (Lies.below (HL0.out.below HA.out hlt) hb (by omega))); obtain ⟨⟨r0, r1, r2, r3, r4, f0, f1, f2, f3, f4, s0, s1, s2, s3, s4⟩, hlf⟩ := Lies.set5 hS (.slice none 0 0) (.slice none 0 0) (.slice none 0 0) (.slice A R.length c) (.bool false); have HS := hide hS; clear hS; have HO := hide (And.intro ho hb); clear ho hb hlf)
  refine bodyPost_ret (v := shVal ⟨none, 0, none, 0, none, 0, A, c⟩ ⟨[], [], [], R, false⟩) (by simp [shVal, shCells, results, Tryd.results24, go_sem, s0, s1, s2, s3, s4]) rfl ?_
  obtain ⟨ho, hb⟩ := HO.out
  have hbw : Below w.heap.size w w2 := (HB0.out.trans (HA.out.mono (by omega))).trans (hb.mono (by omega))
  have hoff : ShPtr.Off ⟨none, 0, none, 0, none, 0, A, c⟩ w.heap.size := ⟨by simp [blockOf], by simp [blockOf], by simp [blockOf], fun e => by have := ho.blocks w.heap.size e; omega⟩
  refine ⟨⟨none, 0, none, 0, none, 0, A, c⟩, rfl, ?_, set5_below hbw (Nat.le_refl _)⟩
  refine ShOwn.set5 ⟨OwnI.empty _ _, OwnB.empty _ _, OwnI.empty _ _, ho.mono (by omega), ?_, ?_, ?_, ?_, ?_, ?_⟩ hoff <;> simp [blockOf]

end Go.Proofs.YtgkbblaaodcmnaaDoor

namespace Go.Proofs.YtgkbblaaodcmnaaDoor
set_option linter.unusedVariables false

/-- how many marks a stack has -/
def marksIn (l : List Int) : Nat := (l.filter fun x => decide (x < 0)).length

/-- what is told of the stack after each of the first n orders -/
noncomputable def toldOf (f : List Int → Nat) (os : List Od) (n : Nat) : List Int := (List.range n).map fun j => ((f (stk os (j + 1)) : Nat) : Int)

theorem toldOf_len (f : List Int → Nat) (os : List Od) (n : Nat) : (toldOf f os n).length = n := by simp [toldOf]
theorem toldOf_succ (f : List Int → Nat) (os : List Od) (n : Nat) : toldOf f os (n + 1) = toldOf f os n ++ [((f (stk os (n + 1)) : Nat) : Int)] := by
  unfold toldOf
  rw [List.range_succ, List.map_append]
  rfl

open Classical in
/-- how many things are on the stack after each order -/
noncomputable def depthsOf (os : List Od) : List Int := if OpsOk os then toldOf List.length os (runShp Shp.new os).2 else []
open Classical in
/-- how many marks are on the stack after each order -/
noncomputable def marksOf (os : List Od) : List Int := if OpsOk os then toldOf marksIn os (runShp Shp.new os).2 else []

theorem stk_le {os : List Od} (h : ∀ o ∈ os, OdOk o) (j : Nat) : (stk os j).length ≤ 300 :=
  (runShp_ok (s := Shp.new) (os := os.take j) Shp.new_ok ⟨by simp [Shp.new], by simp [Shp.new]⟩ (fun o ho => (h o (List.mem_of_mem_take ho)).get)).2.1.2
theorem stk_ok {os : List Od} (h : ∀ o ∈ os, OdOk o) (j : Nat) : (runShp Shp.new (os.take j)).1.Ok :=
  (runShp_ok (s := Shp.new) (os := os.take j) Shp.new_ok ⟨by simp [Shp.new], by simp [Shp.new]⟩ (fun o ho => (h o (List.mem_of_mem_take ho)).get)).1
theorem marksIn_le (l : List Int) : marksIn l ≤ l.length := List.length_filter_le _ _
theorem run_le {os : List Od} (h : ∀ o ∈ os, OdOk o) : (runShp Shp.new os).2 ≤ os.length :=
  (runShp_ok (s := Shp.new) (os := os) Shp.new_ok ⟨by simp [Shp.new], by simp [Shp.new]⟩ (fun o ho => (h o ho).get)).2.2

theorem toldOf_64 {f : List Int → Nat} (hf : ∀ l, f l ≤ l.length) {os : List Od} (h : ∀ o ∈ os, OdOk o) (n : Nat) : ∀ x ∈ toldOf f os n, In64 x := by
  intro x hx
  unfold toldOf at hx
  obtain ⟨j, _, rfl⟩ := List.mem_map.1 hx
  have h1 := hf (stk os (j + 1))
  have h2 := stk_le h (j + 1)
  constructor <;> omega

theorem depthsOf_few {os : List Od} : (depthsOf os).length ≤ 300 := by
  unfold depthsOf
  split
  · next h => rw [toldOf_len]; exact Nat.le_trans (run_le h.2) h.1
  · simp
theorem depthsOf_64 {os : List Od} : ∀ x ∈ depthsOf os, In64 x := by
  unfold depthsOf
  split
  · next h => exact toldOf_64 (fun l => Nat.le_refl _) h.2 _
  · intro x hx; simp at hx
theorem marksOf_few {os : List Od} : (marksOf os).length ≤ 300 := by
  unfold marksOf
  split
  · next h => rw [toldOf_len]; exact Nat.le_trans (run_le h.2) h.1
  · simp
theorem marksOf_64 {os : List Od} : ∀ x ∈ marksOf os, In64 x := by
  unfold marksOf
  split
  · next h => exact toldOf_64 marksIn_le h.2 _
  · intro x hx; simp at hx

end Go.Proofs.YtgkbblaaodcmnaaDoor

namespace Go.Proofs.YtgkbblaaodcmnaaDoor

theorem marksIn_step {l : List Int} {i : Nat} {x : Int} (h : l[i]? = some x) : marksIn (l.take (i + 1)) = marksIn (l.take i) + (if x < 0 then 1 else 0) := by
  unfold marksIn
  rw [List.take_add_one, h, List.filter_append, List.length_append]
  by_cases hx : x < 0 <;> simp [hx]

end Go.Proofs.YtgkbblaaodcmnaaDoor

namespace Go.Proofs.YtgkbblaaodcmnaaDoor
open Go.RowKit

theorem markShapes_any (p : ShPtr) (s : Shp) (c : Int) (base : Nat) (w : World) (h : ShOwn w base p s) (hbase : base ≤ w.heap.size) (hs : s.Small) (hc : IsMarkOp c) :
    Calls Tryd.prog 30 #[shVal p s, .int .i64 c] w (TriesSh w p base (markStep s c)) := by
  rcases hc with rfl | rfl | rfl | rfl
  · exact markShapes_3 p s base w h hbase hs
  · exact markShapes_9 p s base w h hbase hs
  · exact markShapes_12 p s base w h hbase hs
  · exact markShapes_18 p s base w h hbase hs

end Go.Proofs.YtgkbblaaodcmnaaDoor

namespace Go.Proofs.YtgkbblaaodcmnaaDoor
open Go.RowKit

theorem inRange_yes (n lo hi : Int) (w : World) (h1 : lo ≤ n) (h2 : n ≤ hi) :
    Calls Tryd.prog 27 #[.int .i64 n, .int .i64 lo, .int .i64 hi] w fun e w' => e = .returned (.bool true) ∧ w = w' := by
  have d1 : decide (lo ≤ n) = true := by simpa using h1
  have d2 : decide (n ≤ hi) = true := by simpa using h2
  go_enter Tryd.func27, Tryd.ntmps27
  go_wp2
  go_ret
  exact ⟨rfl, rfl⟩

theorem inRange_no (n lo hi : Int) (w : World) (h : n < lo ∨ hi < n) :
    Calls Tryd.prog 27 #[.int .i64 n, .int .i64 lo, .int .i64 hi] w fun e w' => e = .returned (.bool false) ∧ w = w' := by
  by_cases h1 : lo ≤ n
  · have h2 : ¬ n ≤ hi := by omega
    have d1 : decide (lo ≤ n) = true := by simpa using h1
    have d2 : decide (n ≤ hi) = false := by simpa using h2
    clear h
    go_enter Tryd.func27, Tryd.ntmps27
    go_wp2
    go_ret
    exact ⟨rfl, rfl⟩
  · have d1 : decide (lo ≤ n) = false := by simpa using h1
    clear h
    go_enter Tryd.func27, Tryd.ntmps27
    go_wp2
    go_ret
    exact ⟨rfl, rfl⟩

end Go.Proofs.YtgkbblaaodcmnaaDoor

namespace Go.Proofs.YtgkbblaaodcmnaaDoor

theorem infoOp : (Tryd.prog.info? 40).map (fun i => (i.zero, i.size, i.bytes)) = some (some (.agg #[.int .i64 0, .int .i64 0]), 2, 16) := by kernel_rfl

end Go.Proofs.YtgkbblaaodcmnaaDoor

namespace Go.Proofs.YtgkbblaaodcmnaaDoor
open Go.RowKit
set_option linter.unusedVariables false

set_option maxHeartbeats 1000000 in
theorem heldIntS_any (A : Option Addr) (n c : Nat) (k0 : Int) (w : World) (h : IntsAt w w.heap.size A (marks k0 n)) (hk0 : 0 ≤ k0) (hk1 : k0 ≤ 4611686018427387904) (hn : n ≤ 1048576) :
    Calls Tryd.prog 12 #[.slice A n c, .int .i64 k0] w fun e w' => e = .returned (.int .i64 (k0 + n)) ∧ w = w' := by
  go_enter Tryd.func12, Tryd.ntmps12
  go_wp2_with fail
  go_loop [1, 5] (fun kv iv => ∃ j : Nat, j ≤ n ∧ iv = .int .i64 j ∧ kv = .int .i64 (k0 + (j : Int))) (fun _ iv => n - (intOf iv).toNat)
  case atStart => exact ⟨0, Nat.zero_le _, rfl, by go_num⟩
  case round =>
    obtain ⟨j, hj, rfl, rfl⟩ := hrel
    by_cases hlt : j < n
    · obtain ⟨b, off, x, rfl, hbl, hx, _, hc⟩ := h.at_ (k := j) (by rw [marks_len]; exact hlt)
      rw [marks_at hlt] at hx
      obtain rfl : k0 + (j : Int) = x := Option.some.inj hx
      have t : ((k0 + (j : Int)) != (k0 + (j : Int))) = false := by simp
      have hk2 : k0 + (j : Int) ≤ 9223372036854775806 := by omega
      clear hx
      go_wp2
      go_round
      case rel => exact ⟨j + 1, by omega, by go_num, by go_num⟩
      case measure => simp [intOf]; omega
    · obtain rfl : j = n := by omega
      clear hlt
      go_wp2
      go_ret
      exact ⟨rfl, rfl⟩

end Go.Proofs.YtgkbblaaodcmnaaDoor
