/-
  The laws' eqOpSS, markOpSS, heldOpSS.
-/
import Derived.Test.YtngohlegdjppeabDoorOos
import Derived.Test.YtngohlegdjppeabDoorEqO
namespace Go.Proofs.YtngohlegdjppeabDoor
open Go.RowKit
set_option linter.unusedVariables false

set_option maxHeartbeats 1000000 in
theorem eqOpSS_same (A A' : Option Addr) (oss : List (List Od)) (c c' : Nat) (w : World) (h : OpsSAt w w.heap.size A oss) (h' : OpsSAt w w.heap.size A' oss) :
    Calls Tryd.prog 8 #[.slice A oss.length c, .slice A' oss.length c'] w fun e w' => e = .returned (.bool true) ∧ Below w.heap.size w w' := by
  have hl := h.len
  have hb0 : ((oss.length : Int) != (oss.length : Int)) = false := by simp
  go_enter Tryd.func8, Tryd.ntmps8
  go_wp2_with fail
  go_loopw [5] (fun i wr => ∃ k : Nat, k ≤ oss.length ∧ i = .int .i64 k ∧ Below w.heap.size w wr) (fun i _ => oss.length - (intOf i).toNat)
  case atStart => exact ⟨0, Nat.zero_le _, rfl, Below.refl _ _⟩
  case round =>
    obtain ⟨k, hk, rfl, hb⟩ := hrel
    by_cases hlt : k < oss.length
    · obtain ⟨b, off, os, A1, c1, rfl, hbl, hx, hc1, hO1⟩ := (h.below hb).at_ hlt
      obtain ⟨b', off', os', A2, c2, rfl, hbl', hy, hc2, hO2⟩ := (h'.below hb).at_ hlt
      obtain rfl : os = os' := by rw [hx] at hy; injection hy
      clear hx hy
      have hk1 : (0 : Int) ≤ (k : Int) := by omega
      have hk2 : (k : Int) < (oss.length : Int) := by omega
      have hb2 : Below w.heap.size w wr.drew := hb.drew
      have hJ1 : OpsAt wr.drew wr.drew.heap.size A1 os := hO1.later (Below.refl _ _).drew hb.size
      have hJ2 : OpsAt wr.drew wr.drew.heap.size A2 os := hO2.later (Below.refl _ _).drew hb.size
      clear hO1 hO2
      go_wp2_with fail
      go_still_tail 8, (by kernel_rfl)
      change wpList _ _ _ _ _ wr.drew
      generalize wr.drew = w2 at hb2 hJ1 hJ2 ⊢
      go_wp2_with fail
      refine (eqOpS_any A1 A2 os os c1 c2 w2 hJ1 hJ2).mono ?_
      rintro e w' ⟨rfl, hb3⟩
      have hb4 := hb2.trans (hb3.mono hb2.size)
      clear hb2 hb3 hJ1 hJ2
      have t : decide (os = os) = true := by simp
      rw [t]
      clear t
      go_wp2
      go_roundw
      case rel => exact ⟨k + 1, by omega, by go_num, hb4⟩
      case measure => simp [intOf]; omega
    · obtain rfl : k = oss.length := by omega
      go_wp2
      go_ret
      exact ⟨rfl, hb⟩

/-- how far the marks have come -/
structure MkOS (w wr : World) (base lo hi : Nat) (A : Option Addr) (c : Nat) (ps : List (Option Addr × Nat)) (oss : List (List Od)) (k0 : Int) (j : Nat) : Prop where
  own : OwnOS wr base A c ps ((marksOS k0 oss).take j ++ oss.drop j)
  only : Only lo hi w wr

theorem take_drop_len {α : Type} {l m : List α} {j : Nat} (h : l.length = m.length) : (l.take j ++ m.drop j).length = m.length := by simp; omega

theorem MkOS.step {w wr w' : World} {base lo hi : Nat} {A : Option Addr} {c : Nat} {ps : List (Option Addr × Nat)} {oss : List (List Od)} {k0 : Int} {j : Nat} {p : Option Addr × Nat} {os : List Od} (h : MkOS w wr base lo hi A c ps oss k0 j) (hp : ps[j]? = some p) (ho : oss[j]? = some os)
    (hin : OwnOS.In A ps lo hi) (hown : OwnO w' base p.1 p.2 (marksO (endOS k0 (oss.take j)) os.length)) (hO : ∀ l h2, (∀ g, blockOf p.1 = some g → l ≤ g ∧ g < h2) → Only l h2 wr w') : MkOS w w' base lo hi A c ps oss k0 (j + 1) := by
  have hjl := (List.getElem?_eq_some_iff.1 ho).1
  have hml : (marksOS k0 oss).length = oss.length := marksOS_len _ _
  have hblk : ∀ g, blockOf p.1 ≠ some g → w'.heap[g]? = wr.heap[g]? := by
    intro g hg
    cases hb : blockOf p.1 with
    | none => exact (hO g g (fun q hq => by rw [hb] at hq; cases hq)).block g (by omega)
    | some q => exact (hO q (q + 1) (fun q' hq' => by rw [hb] at hq'; injection hq' with hq'; omega)).block g (by have : g ≠ q := fun e => hg (by rw [hb, e]); omega)
  have hmj := marksOS_at k0 ho
  have hold : ∀ i, i ≠ j → ((marksOS k0 oss).take (j + 1) ++ oss.drop (j + 1))[i]? = ((marksOS k0 oss).take j ++ oss.drop j)[i]? := by
    intro i hi
    rw [List.getElem?_append, List.getElem?_append]
    simp only [List.length_take, hml]
    by_cases h1 : i < j
    · rw [if_pos (by omega), if_pos (by omega), List.getElem?_take_of_lt (by omega), List.getElem?_take_of_lt h1]
    · rw [if_neg (by omega), if_neg (by omega), List.getElem?_drop, List.getElem?_drop]
      congr 1
      omega
  have hnew : ((marksOS k0 oss).take (j + 1) ++ oss.drop (j + 1))[j]? = some (marksO (endOS k0 (oss.take j)) os.length) := by
    rw [List.getElem?_append_left (by simp; omega), List.getElem?_take_of_lt (by omega), hmj]
  have hlen : ((marksOS k0 oss).take (j + 1) ++ oss.drop (j + 1)).length = oss.length := take_drop_len hml
  have hlen0 : ((marksOS k0 oss).take j ++ oss.drop j).length = oss.length := take_drop_len hml
  have hcells : cellsOS ps ((marksOS k0 oss).take (j + 1) ++ oss.drop (j + 1)) = cellsOS ps ((marksOS k0 oss).take j ++ oss.drop j) := by
    refine cellsOS_same ?_
    rw [List.map_append, List.map_append, List.map_take, List.map_take, List.map_drop, List.map_drop, marksOS_lens, List.take_append_drop, List.take_append_drop]
  refine ⟨⟨by rw [hlen]; rw [← hlen0]; exact h.own.len, ?_, fun i q qs hi hq => ?_, h.own.ap⟩, h.only.trans (hO lo hi (hin.2 j p hp))⟩
  · rw [hcells, hlen]
    have hr := h.own.row
    rw [hlen0] at hr
    refine ⟨hr.1, ?_⟩
    rcases hr.2 with h5 | ⟨g, cap, cur, hv, hg, hh, r⟩
    · exact .inl h5
    · refine .inr ⟨g, cap, cur, hv, hg, ?_, r⟩
      injection hv with hv _ _
      rw [hblk g (fun e => ops_row_ne h.own.row (h.own.own j p _ hp (show _ = some os from by
        rw [List.getElem?_append_right (by rw [List.length_take]; omega), List.getElem?_drop]
        simp only [List.length_take, hml]
        rw [show j + (j - min j oss.length) = j by omega]
        exact ho)).own g (by rw [hv]; rfl) e)]
      exact hh
  · by_cases e : i = j
    · subst e
      rw [hp] at hi
      injection hi with hi
      subst hi
      rw [hnew] at hq
      injection hq with hq
      subst hq
      exact hown
    · rw [hold i e] at hq
      refine (h.own.own i q qs hi hq).of_block fun g hg => hblk g fun e2 => ?_
      rcases Nat.lt_or_gt_of_ne e with h3 | h3
      · exact h.own.ap i j q p h3 hi hp g hg e2
      · exact h.own.ap j i p q h3 hp hi g e2 hg

set_option maxHeartbeats 1000000 in
theorem markOpSS_own (base lo hi : Nat) (A : Option Addr) (c : Nat) (ps : List (Option Addr × Nat)) (oss : List (List Od)) (w : World) (h : OwnOS w base A c ps oss) (hin : OwnOS.In A ps lo hi) (hwf : Wf64 oss) (hn : oss.length ≤ 300) (hs : ∀ os ∈ oss, os.length ≤ 300) :
    Calls Tryd.prog 11 #[.slice A oss.length c, .int .i64 1] w fun e w' => e = .returned (.int .i64 (endOS 1 oss)) ∧ OwnOS w' base A c ps (marksOS 1 oss) ∧ Only lo hi w w' := by
  have HS0 := hide (show MkOS w w base lo hi A c ps oss 1 0 from ⟨by simpa using h, Only.refl _ _ _⟩)
  have Hs := hide hs
  have hl2 := h.len
  clear h hs
  go_enter Tryd.func11, Tryd.ntmps11
  go_wp2_with fail
  go_loopw [1, 5] (fun kv iv wr => ∃ j : Nat, j ≤ oss.length ∧ iv = .int .i64 (j : Int) ∧ kv = .int .i64 (endOS 1 (oss.take j)) ∧ MkOS w wr base lo hi A c ps oss 1 j) (fun _ iv _ => oss.length - (intOf iv).toNat)
  case atStart => exact ⟨0, Nat.zero_le _, rfl, rfl, HS0.out⟩
  case round =>
    clear HS0
    obtain ⟨j, hj, rfl, rfl, hS⟩ := hrel
    by_cases hlt : j < oss.length
    · have ho : oss[j]? = some oss[j] := List.getElem?_eq_getElem hlt
      have hp : ps[j]? = some ps[j] := List.getElem?_eq_getElem (by omega)
      have hT := endOS_take 1 ho
      have hle := endOS_le (oss.take j) 1 (fun p hp => Hs.out p (List.mem_of_mem_take hp))
      have hlt2 : (oss.take j).length ≤ 300 := by simp; omega
      have h300 := Hs.out _ (List.mem_of_getElem? ho)
      have hml : (marksOS 1 oss).length = oss.length := marksOS_len _ _
      have hat : ((marksOS 1 oss).take j ++ oss.drop j)[j]? = some oss[j] := by
        rw [List.getElem?_append_right (by rw [List.length_take]; omega), List.getElem?_drop]
        simp only [List.length_take, hml]
        rw [show j + (j - min j oss.length) = j by omega]
        exact ho
      have hown := hS.own.own j _ _ hp hat
      have hrow := hS.own.row
      rw [take_drop_len hml] at hrow
      have hcell : ∃ g, A = some ⟨g, 0, none⟩ ∧ wr.cell? ⟨g, j, none⟩ = some (.slice ps[j].1 oss[j].length ps[j].2) := by
        rcases hrow.2 with ⟨_, h6⟩ | ⟨g, cap, cur, hv, _, hh, _⟩
        · omega
        · injection hv with hv _ hcc
          subst hv hcc
          exact ⟨g, rfl, by rw [hrow.cellAt j (by omega)]; exact cellsOS_at hp hat⟩
      obtain ⟨g, rfl, hc⟩ := hcell
      have HS := hide hS
      have Ho := hide ho
      have Hp := hide hp
      have Hin := hide hin
      generalize hosd : oss[j] = os at hT h300 hown hc Ho
      generalize hpd : ps[j] = p at hown hc Hp
      obtain ⟨A1, c1⟩ := p
      have HT := hide hT
      generalize hkd : endOS 1 (oss.take j) = k at hT hle HT ⊢
      have Hk := hide hkd
      clear hT hkd hat hrow ho hp hS hosd hpd hin hml
      simp only at hc hown
      have hj0 : (0 : Int) ≤ (j : Int) := by omega
      have hj2 : (j : Int) < (oss.length : Int) := by omega
      go_wp2_with fail
      refine (markOpS_own base A1 c1 os k wr hown (by omega) (by omega) (by omega)).mono ?_
      rintro e w' ⟨rfl, hown', hO⟩
      have HS' := hide (HS.out.step Hp.out Ho.out Hin.out (by rw [Hk.out]; exact hown') hO)
      clear hO hown hown' HS
      go_wp2
      go_roundw
      case rel => exact ⟨j + 1, by omega, by go_num, by rw [HT.out], HS'.out⟩
      case measure => simp [intOf]; omega
    · obtain rfl : j = oss.length := by omega
      have hown := hS.own
      rw [List.take_of_length_le (by rw [marksOS_len]; exact Nat.le_refl _), List.drop_length, List.append_nil] at hown
      have HO := hide hown
      have HY := hide hS.only
      rw [List.take_length]
      clear hown hS
      go_wp2
      go_ret
      exact ⟨rfl, HO.out, HY.out⟩

set_option maxHeartbeats 1000000 in
theorem heldOpSS_any (A : Option Addr) (c : Nat) (oss : List (List Od)) (w : World) (h : OpsSAt w w.heap.size A (marksOS 1 oss)) (hs : ∀ os ∈ oss, os.length ≤ 300) (hn : oss.length ≤ 300) :
    Calls Tryd.prog 12 #[.slice A oss.length c, .int .i64 1] w fun e w' => e = .returned (.int .i64 (endOS 1 oss)) ∧ w = w' := by
  have Hs := hide hs
  clear hs
  go_enter Tryd.func12, Tryd.ntmps12
  go_wp2_with fail
  go_loop [1, 5] (fun kv iv => ∃ j : Nat, j ≤ oss.length ∧ iv = .int .i64 (j : Int) ∧ kv = .int .i64 (endOS 1 (oss.take j))) (fun _ iv => oss.length - (intOf iv).toNat)
  case atStart => exact ⟨0, Nat.zero_le _, rfl, rfl⟩
  case round =>
    obtain ⟨j, hj, rfl, rfl⟩ := hrel
    by_cases hlt : j < oss.length
    · have ho : oss[j]? = some oss[j] := List.getElem?_eq_getElem hlt
      have hT := endOS_take 1 ho
      have hle := endOS_le (oss.take j) 1 (fun p hp => Hs.out p (List.mem_of_mem_take hp))
      have hlt2 : (oss.take j).length ≤ 300 := by simp; omega
      have h300 := Hs.out _ (List.mem_of_getElem? ho)
      obtain ⟨b, off, os', A1, c1, rfl, hbl, hx, hc1, hO1⟩ := h.at_ (k := j) (by rw [marksOS_len]; exact hlt)
      rw [marksOS_at 1 ho] at hx
      injection hx with hx
      subst hx
      rw [marksO_len] at hc1
      generalize oss[j] = os at hT h300 hc1 hO1
      have HT := hide hT
      generalize endOS 1 (oss.take j) = k at hT hle HT hO1 ⊢
      clear hT ho
      have hj0 : (0 : Int) ≤ (j : Int) := by omega
      have hj2 : (j : Int) < (oss.length : Int) := by omega
      go_wp2_with fail
      refine (heldOpS_any A1 os.length c1 k w hO1 (by omega) (by omega) (by omega)).mono ?_
      rintro e w' ⟨rfl, rfl⟩
      have hd : decide (k + 2 * (os.length : Int) < 0) = false := by simp; omega
      go_wp2
      go_round
      case rel => exact ⟨j + 1, by omega, by go_num, by rw [HT.out]⟩
      case measure => simp [intOf]; omega
    · obtain rfl : j = oss.length := by omega
      rw [List.take_length]
      go_wp2
      go_ret
      exact ⟨rfl, rfl⟩

end Go.Proofs.YtngohlegdjppeabDoor
