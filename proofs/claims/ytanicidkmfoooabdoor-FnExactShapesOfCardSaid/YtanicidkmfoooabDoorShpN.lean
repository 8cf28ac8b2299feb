/-
  The model's newShapes, keyKind and newKind: what they return.
-/
import Derived.Test.YtanicidkmfoooabDoorShpR
import Derived.Deep.QuietTactic
import Derived.Deep.Cut
import Derived.BigQuiet
namespace Go.Proofs.YtanicidkmfoooabDoor
open Go.RowKit
set_option linter.unusedVariables false

set_option maxRecDepth 100000 in
set_option maxHeartbeats 1000000 in
theorem newShapes_any (w : World) : Calls Tryd.prog 26 #[] w (GivesSh w w.heap.size Shp.new) := by
  have hB0 : Below w.heap.size w ((w.alloc (.cells zero5 27)).alloc (.cells zero5 27)) := ((Below.refl _ _).alloc (Nat.le_refl _) _).alloc (by simp) _
  have hZ0 := (Lies.new w zero5 27).alloc (.cells zero5 27)
  have hL0 := Lies.new (w.alloc (.cells zero5 27)) zero5 27
  simp only [World.size_alloc] at hL0
  have hsz : ((w.alloc (.cells zero5 27)).alloc (.cells zero5 27)).heap.size = w.heap.size + 2 := by simp
  have hS : ShSt w ((w.alloc (.cells zero5 27)).alloc (.cells zero5 27)) ShPtr.nil w.heap.size (w.heap.size + 2) (w.heap.size + 1) w.heap.size ⟨none, 0, none, 0, none, 0, none, 0⟩ ⟨[], [], [], [], false⟩ := by
    refine ⟨⟨hL0, ⟨OwnI.empty _ _, OwnB.empty _ _, OwnI.empty _ _, OwnI.empty _ _, ?_, ?_, ?_, ?_, ?_, ?_⟩, ⟨?_, ?_, ?_, ?_⟩⟩, hZ0, ⟨?_, ?_, ?_, ?_⟩, hB0, by omega, by rw [hsz]; omega, by omega, by omega, Nat.le_refl _, fun k hk _ => hB0.block k hk, fun k _ _ => ⟨?_, ?_, ?_, ?_⟩, by omega, Nat.le_refl _⟩ <;> simp [blockOf]
  have hm1 : In64 (-1) := by constructor <;> omega
  have HS := hide hS
  clear hS hL0 hZ0 hB0 hsz
  unfold zero5 at *
  go_enter Tryd.func26, Tryd.ntmps26
  go_wp2_with fail
  go_loopw [2] (fun iv wr => ∃ (k : Nat) (A : Option Addr) (c : Nat), k ≤ 20 ∧ iv = .int .i64 (k : Int) ∧ ShSt w wr ShPtr.nil w.heap.size (w.heap.size + 2) (w.heap.size + 1) w.heap.size ⟨none, 0, none, 0, none, 0, A, c⟩ ⟨[], [], [], List.replicate k (-1), false⟩) (fun iv _ => 20 - (intOf iv).toNat)
  case atStart => exact ⟨0, none, 0, Nat.zero_le _, rfl, HS.out⟩
  case round =>
    clear HS
    obtain ⟨k, A, c, hk, rfl, hS⟩ := hrel
    by_cases hlt : k < 20
    · have hd : decide ((k : Int) < 20) = true := by simp; omega
      have hrs := hide (show List.replicate k (-1 : Int) ++ [-1] = List.replicate (k + 1) (-1) by rw [List.replicate_succ'])
      have hll : (List.replicate k (-1 : Int)).length ≤ 20 := by simp; omega
      generalize List.replicate k (-1 : Int) = L at hS hrs hll
      obtain ⟨e0, e1, e2, e3, e4⟩ := hS.bx.cells
      have hwz : w.heap.size + 2 ≤ wr.heap.size := by have := hS.bx.box.lt; omega
      dsimp only at e0 e1 e2 e3 e4
      go_wp2_with (at_builtin; refine append_ints rfl (.tmp 9) (.tmp 10) rfl (w.heap.size + 2) A c L rfl (hS.bx.own.m.alloc _) (wr.heap.size + 1) _ 1 [(-1 : Int)] rfl (fun e => by cases e) (IntsAt.one wr (-1) hm1) (by simp <;> omega) (by simp <;> omega) ?_; intro zs A2 c2 w5 hz hown5 hgrow5 hat5; obtain ⟨d0, d1, d2, d3, d4, f0, f1, f2, f3⟩ := hS.cells hgrow5 hS.bx.off.m; have HS5 := hide (hS.pushM hown5 hgrow5 hat5))
      go_roundw
      case rel =>
        refine ⟨k + 1, A2, c2, by omega, by go_num, ?_⟩
        rw [← hrs.out, ← hz.out]
        exact HS5.out
      case measure => simp [intOf]; omega
    · obtain rfl : k = 20 := by omega
      have hdd : decide ((20 : Int) < 20) = false := rfl
      obtain ⟨⟨e0, e1, e2, e3, e4⟩, hs5, hown, hbel, _⟩ := hS.ret
      obtain ⟨c0, c1, c2, c3, c4, f0, f1, f2, f3, f4, s0, s1, s2, s3, s4⟩ := hs5
      have HR := hide (And.intro hown hbel)
      clear hS hown hbel hlt hk
      dsimp only [List.length_replicate, List.length_nil] at e0 e1 e2 e3 e4 c0 c1 c2 c3 c4 s0 s1 s2 s3 s4
      simp only [List.length_replicate] at e3 s0 s1 s2 s3 s4
      rw [show ((20 : Nat) : Int) = (20 : Int) from rfl]
      go_wp2
      refine bodyPost_ret (v := shVal ⟨none, 0, none, 0, none, 0, A, c⟩ Shp.new) (by simp [shVal, shCells, Shp.new, results, Tryd.results26, go_sem, s0, s1, s2, s3, s4]) rfl ?_
      have h1 := HR.out.1
      have h2 := HR.out.2
      simp only [List.length_replicate, List.length_nil] at h1 h2
      exact ⟨_, rfl, h1.mono (by omega), h2⟩

set_option maxHeartbeats 400000 in
theorem keyKind_any (k : Int) (w : World) :
    Calls Tryd.prog 45 #[.int .i64 k] w fun e w' => e = .returned (.bool (tf (KeyK k))) ∧ w' = w := by
  by_cases h0 : k = 0
  · have HF := hide (show tf (KeyK k) = true from tf_true (.inl h0))
    have t : (k == 0) = true := by simpa using h0
    clear h0
    go_enter Tryd.func45, Tryd.ntmps45
    go_wp2
    go_ret
    exact ⟨ret_bool HF.out.symm, rfl⟩
  · by_cases h1 : k = 1
    · have HF := hide (show tf (KeyK k) = true from tf_true (.inr h1))
      have t : (k == 0) = false := by simpa using h0
      have t1 : (k == 1) = true := by simpa using h1
      clear h0 h1
      go_enter Tryd.func45, Tryd.ntmps45
      go_wp2
      go_ret
      exact ⟨ret_bool HF.out.symm, rfl⟩
    · have HF := hide (show tf (KeyK k) = false from tf_false (fun h => h.elim h0 h1))
      have t : (k == 0) = false := by simpa using h0
      have t1 : (k == 1) = false := by simpa using h1
      clear h0 h1
      go_enter Tryd.func45, Tryd.ntmps45
      go_wp2
      go_ret
      exact ⟨ret_bool HF.out.symm, rfl⟩

set_option maxHeartbeats 400000 in
theorem newKind_any (c : Int) (w : World) (hc : 0 ≤ c ∧ c ≤ 19) :
    Calls Tryd.prog 34 #[.int .i64 c] w fun e w' => e = .returned (.int .i64 (newK c)) ∧ w' = w := by
  have h20 : c = 0 ∨ c = 1 ∨ c = 2 ∨ c = 3 ∨ c = 4 ∨ c = 5 ∨ c = 6 ∨ c = 7 ∨ c = 8 ∨ c = 9 ∨ c = 10 ∨ c = 11 ∨ c = 12 ∨ c = 13 ∨ c = 14 ∨ c = 15 ∨ c = 16 ∨ c = 17 ∨ c = 18 ∨ c = 19 := by omega
  clear hc
  rcases h20 with rfl | rfl | rfl | rfl | rfl | rfl | rfl | rfl | rfl | rfl | rfl | rfl | rfl | rfl | rfl | rfl | rfl | rfl | rfl | rfl
  all_goals
    go_enter Tryd.func34, Tryd.ntmps34
    go_wp2
    go_ret
    exact ⟨ret_int (by decide), rfl⟩

end Go.Proofs.YtanicidkmfoooabDoor
