/-
  The model's SplitStops: what it returns.
-/
import Derived.Deep.Cut
import Derived.Test.YtfhmmdiicnfjbaaDoorSpB
import Derived.Test.YtfhmmdiicnfjbaaDoorSpecO
import Derived.Test.YtfhmmdiicnfjbaaDoorOwnOO
namespace Go.Proofs.YtfhmmdiicnfjbaaDoor
open Go.RowKit
set_option linter.unusedVariables false

open Classical in
/-- the parts of a valid program -/
noncomputable def splitOf (os : List Od) : List (List Od) := if OpsOk os then splitStops os else []
theorem splitOf_ok {os : List Od} (h : OpsOk os) : splitOf os = splitStops os := by unfold splitOf; rw [if_pos h]
theorem splitOf_no {os : List Od} (h : ¬ OpsOk os) : splitOf os = [] := by unfold splitOf; rw [if_neg h]
theorem splitOf_few (os : List Od) : (splitOf os).length ≤ 300 := by
  by_cases h : OpsOk os
  · rw [splitOf_ok h]; exact Nat.le_trans (splitStops_few os) h.1
  · rw [splitOf_no h]; simp
theorem splitOf_part {os p : List Od} (hp : p ∈ splitOf os) : p.length ≤ 300 ∧ ∀ o ∈ p, OdOk o := by
  by_cases h : OpsOk os
  · rw [splitOf_ok h] at hp
    have := splitStops_part hp
    exact ⟨Nat.le_trans this.1 h.1, fun o ho => h.2 o (this.2 o ho)⟩
  · rw [splitOf_no h] at hp; cases hp

set_option maxRecDepth 100000 in
set_option maxHeartbeats 2000000 in
theorem specSplitStops_any (A : Option Addr) (os : List Od) (c : Nat) (w : World) (h : OpsAt w w.heap.size A os) :
    Calls Tryd.prog 15 #[.slice A os.length c] w (GivesOS w (splitOf os)) := by
  by_cases hok : OpsOk os
  · rw [splitOf_ok hok]
    have ht := hide (tf_true hok)
    have hl := hok.1
    clear hok
    go_enter Tryd.func15, Tryd.ntmps15
    go_wp2_with fail
    refine (specValidOps_any A os c w h).mono ?_
    rintro e w1 ⟨rfl, hb1⟩
    rw [ht.out]
    have h1 := h.later hb1 (Nat.le_refl _)
    have HS0 := hide (SpS.start w1)
    have HB1 := hide hb1
    have hsz1 := hb1.size
    clear hb1 h
    go_wp2_with fail
    generalize (w1.alloc (.cells #[] 26)).alloc (.cells #[] 40) = W at HS0 ⊢
    obtain ⟨g1, hg1⟩ : ∃ g, g = w1.heap.size := ⟨_, rfl⟩
    rw [← hg1] at HS0 ⊢
    have Hg1 := hide hg1
    clear hg1
    go_loopw [3, 4, 5] (fun ov pv iv wr => ∃ (k : Nat) (Ao : Option Addr) (co : Nat) (ps : List (Option Addr × Nat)) (out : List (List Od)) (Ap : Option Addr) (cp : Nat) (part : List Od), k ≤ os.length ∧ iv = .int .i64 (k : Int) ∧ ov = .slice Ao out.length co ∧ pv = .slice Ap part.length cp ∧ SpS w1 wr Ao co ps out Ap cp part ∧ out ++ splitAux part (os.drop k) = splitStops os ∧ out.length ≤ k ∧ part.length ≤ k) (fun _ _ iv _ => os.length - (intOf iv).toNat)
    case atStart => exact ⟨0, _, 0, [], [], _, 0, [], Nat.zero_le _, rfl, rfl, rfl, HS0.out, rfl, Nat.le_refl _, Nat.le_refl _⟩
    case round =>
      clear HS0
      obtain ⟨k, Ao, co, ps, out, Ap, cp, part, hk, rfl, rfl, rfl, hS, hE, hol, hpl⟩ := hrel
      have HS := hide hS
      have hsz := hS.bel.size
      by_cases hlt : k < os.length
      · obtain ⟨b, off, o, rfl, hbl, hx, hmem, hc0, hc1⟩ := (h1.below hS.bel).at_ hlt
        have h64 := h1.wf o hmem
        have HX := hide (drop_at hx)
        have HE := hide hE
        have H64 := hide h64
        clear hx hmem h64 hS hE
        have HN := hide (Lies.new wr #[.int .i64 o.code, .int .i64 o.arg] 40)
        have hk1 : (0 : Int) ≤ (k : Int) := by omega
        have hk2 : (k : Int) < (os.length : Int) := by omega
        go_upto_region 9 with (at_builtin; refine append_op rfl (.tmp 17) (.tmp 22) rfl w1.heap.size Ap cp part rfl (HS.out.pown.alloc _) wr.heap.size o 40 rfl HN.out (by omega) (by simp; omega) ?_; intro zs A5 c5 w5 hz own5 hg5 hat5; have HS5 := hide (HS.out.grow own5 hg5 hat5); clear own5 hg5 hat5 HN)
        have hcc : w5.cell? ⟨b, off + k * 2, none⟩ = some (.int .i64 o.code) := ((HS5.out.bel.cell hbl).trans ((HS.out.bel.cell hbl).symm.trans hc0))
        have hzl : zs.length ≤ part.length + 1 := by rw [hz.out]; simp
        have hsz5 := HS5.out.bel.size
        clear hc0 hc1 HS
        by_cases h19 : o.code = 19
        · have hd : (o.code == 19) = true := by simp [h19]
          have HE2 : Hid ((out ++ [zs]) ++ splitAux [] (os.drop (k + 1)) = splitStops os) := hide (by
            rw [← HE.out, HX.out, splitAux_stop h19, ← hz.out, List.append_assoc]; rfl)
          have HN := hide (Lies.new w5 #[.slice A5 zs.length c5] 26)
          clear h19
          go_wp2_with (at_builtin; refine append_os rfl (.tmp 30) (.tmp 32) rfl w1.heap.size Ao co ps out rfl (HS5.out.own.below ((Below.refl _ _).alloc (Nat.le_refl _) _)) w5.heap.size A5 c5 zs 26 rfl HN.out (HS5.out.pown.alloc _) (by simp; omega) (by omega) HS5.out.ap ?_; intro A7 c7 w7 own7 hg7; have HS7 := hide (HS5.out.next own7 hg7); clear own7 hg7 HN)
          go_wp2
          have hll : (out ++ [zs]).length = out.length + 1 := by simp
          go_roundw
          case rel => exact ⟨k + 1, A7, c7, _, out ++ [zs], _, 0, [], by omega, by go_num, by rw [hll], rfl, HS7.out, HE2.out, by omega, by simp⟩
          case measure => simp [intOf]; omega
        · have hd : (o.code == 19) = false := by simp [h19]
          have HE2 : Hid (out ++ splitAux zs (os.drop (k + 1)) = splitStops os) := hide (by
            rw [← HE.out, HX.out, splitAux_go h19, ← hz.out])
          clear h19
          go_wp2
          go_roundw
          case rel => exact ⟨k + 1, Ao, co, ps, out, A5, c5, zs, by omega, by go_num, rfl, rfl, HS5.out, HE2.out, by omega, by omega⟩
          case measure => simp [intOf]; omega
      · obtain rfl : k = os.length := by omega
        rw [List.drop_length] at hE
        have HE := hide hE
        clear hE hS
        by_cases hp : part = []
        · subst hp
          have e1 : out = splitStops os := by rw [← HE.out, splitAux_nil, List.append_nil]
          subst e1
          go_wp2
          go_ret
          exact ⟨Ao, co, ps, rfl, HS.out.own.mono hsz1, HB1.out.trans (HS.out.bel.mono hsz1)⟩
        · have hpos : 0 < part.length := by
            cases part with
            | nil => exact absurd rfl hp
            | cons => simp
          have e1 : out ++ [part] = splitStops os := by rw [← HE.out, splitAux_end hp]
          have HE1 := hide e1
          have HN := hide (Lies.new wr #[.slice Ap part.length cp] 26)
          clear e1 hp
          go_wp2_with (at_builtin; refine append_os rfl (.tmp 38) (.tmp 40) rfl w1.heap.size Ao co ps out rfl (HS.out.own.below ((Below.refl _ _).alloc (Nat.le_refl _) _)) wr.heap.size Ap cp part 26 rfl HN.out (HS.out.pown.alloc _) (by simp; omega) (by omega) HS.out.ap ?_; intro A7 c7 w7 own7 hg7; have HO7 := hide own7; have HB7 := hide (HS.out.last own7 hg7); clear own7 hg7 HN)
          go_ret
          have hll : (out ++ [part]).length = out.length + 1 := by simp
          refine ⟨A7, c7, ps ++ [(Ap, cp)], ?_, ?_, HB1.out.trans (HB7.out.mono hsz1)⟩
          · exact congrArg (fun k => Ending.returned (Value.slice A7 k c7)) (by rw [← HE1.out, hll])
          · rw [← HE1.out]; exact HO7.out.mono hsz1
  · rw [splitOf_no hok]
    have ht := hide (tf_false hok)
    clear hok
    go_enter Tryd.func15, Tryd.ntmps15
    go_wp2_with fail
    refine (specValidOps_any A os c w h).mono ?_
    rintro e w1 ⟨rfl, hb1⟩
    rw [ht.out]
    go_wp2
    go_ret
    exact ⟨none, 0, [], rfl, OwnOS.empty _ _, hb1⟩

end Go.Proofs.YtfhmmdiicnfjbaaDoor
