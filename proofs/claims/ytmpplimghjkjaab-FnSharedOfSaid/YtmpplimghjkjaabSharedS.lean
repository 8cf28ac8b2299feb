/-
  The model's SharedOf: the indices of the nodes that are used more than once and are no numbers.
-/
import Derived.Test.YtmpplimghjkjaabUses
import Derived.Test.YtmpplimghjkjaabShDef
namespace Go.Proofs.Ytmpplimghjkjaab
open Go.RowKit
set_option linter.unusedVariables false

set_option maxRecDepth 100000 in
set_option maxHeartbeats 1000000 in
theorem specSharedOf_yes (A : Option Addr) (ns : List Nd) (c : Nat) (i : Nat) (w : World) (hr : NdsAt w w.heap.size A ns) (hv : ValidG ns (i : Int)) :
    Calls Try.prog 7 #[.agg #[.slice A ns.length c, .int .i64 (i : Int)]] w (GivesInts w (sharedOf ns i)) := by
  have hB : Below w.heap.size w (w.alloc (.cells #[.slice A ns.length c, .int .i64 (i : Int)] 25)) := (Below.refl _ _).alloc (Nat.le_refl _) _
  have l1 := Lies.new w #[.slice A ns.length c, .int .i64 (i : Int)] 25
  have hr2 := hr.below hB
  have h12 := hv.few
  have HV := hide hv
  clear hr hv
  go_enter Try.func7, Try.ntmps7
  go_wp2_with fail
  generalize hWd : w.alloc (.cells #[.slice A ns.length c, .int .i64 (i : Int)] 25) = W at hB l1 hr2 ⊢
  have hWs : Hid (W.heap.size = w.heap.size + 1) := by rw [← hWd]; simp [Hid]
  clear hWd
  refine (specValidGraph_any A ns c i W (hr2.more hB.size)).mono ?_
  rintro e w1 ⟨rfl, hb1⟩
  rw [tf_true HV.out]
  have l2 := l1.below hb1 l1.lt
  have hr3 := hr2.below (hb1.mono hB.size)
  have hB1 := hB.trans (hb1.mono hB.size)
  have e0 := l2.cell 0
  have e1 := l2.cell 1
  simp at e0 e1
  have hsz := l2.lt
  clear l1 hr2 hb1 hB
  go_wp2_with fail
  have hb2 : Below w1.heap.size w1 (w1.alloc (.cells #[] 3)) := (Below.refl _ _).alloc (Nat.le_refl _) _
  have hbare := OwnI.bare w1
  have hr4 := hr3.below (hb2.mono (by omega))
  have hB2 := hB1.trans (hb2.mono (by omega))
  have l4 := l2.below hb2 (by omega)
  have hs4 : Hid ((w1.alloc (.cells #[] 3)).heap.size = w1.heap.size + 1) := by simp [Hid]
  generalize w1.alloc (.cells #[] 3) = w2 at hb2 hr4 hB2 hbare l4 hs4 ⊢
  refine (specUses_any A ns c i w2 (hr4.more (by have := hs4.out; omega)) HV.out).mono ?_
  rintro e w3 ⟨rfl, hb3, hrow⟩
  have hown := hbare.below hb3
  have l5 := l4.below hb3 (by have := hs4.out; omega)
  have hr5 := hr4.below (hb3.mono (by have := hs4.out; omega))
  have hB3 := hB2.trans (hb3.mono (by have := hs4.out; omega))
  have hs5 := hb3.size
  have hul : (usesOf ns i (reachOf ns i)).length = ns.length := by simp [usesOf, bumps_len, bump_len]
  generalize husd : usesOf ns i (reachOf ns i) = us at hrow hul
  have Husd := hide husd
  clear husd e0 e1 hb2 hb3 l2 l4 hr3 hr4 hB1 hB2 hbare
  have hs6 : w1.heap.size + 1 < w3.heap.size := by have := hrow.lt; have := hs4.out; omega
  go_wp2_with fail
  go_loopw [3, 5] (fun ov iv wr => ∃ (k : Nat) (Ao : Option Addr) (co : Nat), k ≤ ns.length ∧ iv = .int .i64 k ∧ ov = .slice Ao (sharedTo ns us k).length co ∧ Below w1.heap.size w3 wr ∧ OwnI wr w1.heap.size Ao co (sharedTo ns us k) ∧ wr.rowIs (w2.heap.size + 1) 3 ns.length (intCell us) ∧ (∀ g, blockOf Ao = some g → g ≠ w2.heap.size + 1)) (fun _ iv _ => ns.length - (intOf iv).toNat)
  case atStart => exact ⟨0, _, _, Nat.zero_le _, rfl, by rw [sharedTo_zero]; rfl, Below.refl _ _, by rw [sharedTo_zero]; exact hown, hrow, fun g hg => by simp [blockOf] at hg; have := hs4.out; omega⟩
  case round =>
    clear hown hrow
    obtain ⟨k, Ao, co, hkl, rfl, rfl, hb, hown, hrow, hap⟩ := hrel
    have Hap := hide hap
    have hlen := sharedTo_len ns us k
    have hsr := hb.size
    clear hap
    by_cases hlt : k < ns.length
    · obtain ⟨b, off, n, rfl, hbb, hat, hmem, hN⟩ := (hr5.below (hb.mono (by omega))).at_ hlt
      obtain ⟨hn_k, _, _, _, _⟩ := hN
      have hkind : Hid (kindOf ns (k : Int) = n.kind) := kindOf_at hat
      have lr := l5.below hb (by omega)
      have e0 := lr.cell 0
      simp at e0
      have hk1 : (0 : Int) ≤ (k : Int) := by omega
      have hk2 : (k : Int) < (ns.length : Int) := by omega
      have u0 := hrow.cell hlt
      rw [show intCell us k = .int .i64 (us.getD k 0) from rfl] at u0
      have Hown := hide hown
      have Hrow := hide hrow
      have Hb := hide hb
      clear hat hmem lr hrow hown hb
      by_cases hu : 1 < us.getD k 0
      · have hud : decide (1 < us.getD k 0) = true := by simpa using hu
        by_cases hk0 : n.kind = 0
        · have hno : Hid (sharedTo ns us (k + 1) = sharedTo ns us k) := sharedTo_no (by rw [isShared, hkind.out, hk0]; simp)
          have hkd : (n.kind != 0) = false := by simp [hk0]
          generalize us.getD k 0 = u at u0 hu hud
          clear hk0
          go_wp2
          go_roundw
          case rel => exact ⟨k + 1, _, co, by omega, by go_num, by rw [hno.out], Hb.out, by rw [hno.out]; exact Hown.out, Hrow.out, Hap.out⟩
          case measure => simp [intOf]; omega
        · have hyes : Hid (sharedTo ns us (k + 1) = sharedTo ns us k ++ [(k : Int)]) := sharedTo_yes (by rw [isShared, hkind.out, hud]; simp [hk0])
          have hkd : (n.kind != 0) = true := by simp [hk0]
          generalize us.getD k 0 = u at u0 hu hud
          clear hk0
          have hIone := IntsAt.one wr k (by constructor <;> omega)
          generalize sharedTo ns us k = S at hyes Hown hlen
          have hown := Hown.out
          go_wp2_with (at_builtin; refine append_ints rfl (.tmp 32) (.tmp 34) rfl w1.heap.size Ao co S rfl (hown.alloc _) (wr.heap.size + 1) _ 1 [(k : Int)] rfl (fun e => by cases e) hIone (by simp; omega) (by simp; omega) ?_; intro zs A' c' w5 hz hown5 hg5 hat5)
          have hb5 : Below w1.heap.size w3 w5 := below_grown (Hb.out.alloc (by omega) _) hg5 (by simp; omega) (fun q hq => (hown.blocks q hq).1)
          have hrow5 : w5.rowIs (w2.heap.size + 1) 3 ns.length (intCell us) := (Hrow.out.alloc _).of_block (hg5.block _ (by have := Hrow.out.lt; simp; omega) (fun e => Hap.out _ e.symm rfl))
          have hap5 : Hid (∀ g, blockOf A' = some g → g ≠ w2.heap.size + 1) := by
            intro g hg e
            rcases hat5 with h | h
            · exact Hap.out g (by rw [← h]; exact hg) e
            · rw [hg] at h
              simp only [World.size_alloc, Option.some.injEq] at h
              have := Hrow.out.lt
              omega
          have hz2 : Hid (zs = sharedTo ns us (k + 1)) := by
            show _ = _
            rw [hyes.out]
            exact hz.out
          have Hown5 := hide hown5
          have Hrow5 := hide hrow5
          have Hb5 := hide hb5
          clear hown5 hrow5 hb5 hg5 hat5 hown hIone hz hyes
          go_wp2
          go_roundw
          case rel => exact ⟨k + 1, A', c', by omega, by go_num, by rw [hz2.out], Hb5.out, by rw [← hz2.out]; exact Hown5.out, Hrow5.out, hap5.out⟩
          case measure => simp [intOf]; omega
      · have hud : decide (1 < us.getD k 0) = false := by simpa using hu
        have hno : Hid (sharedTo ns us (k + 1) = sharedTo ns us k) := sharedTo_no (by rw [isShared, hud]; rfl)
        generalize us.getD k 0 = u at u0 hu hud
        go_wp2
        go_roundw
        case rel => exact ⟨k + 1, _, co, by omega, by go_num, by rw [hno.out], Hb.out, by rw [hno.out]; exact Hown.out, Hrow.out, Hap.out⟩
        case measure => simp [intOf]; omega
    · obtain rfl : k = ns.length := by omega
      have HF : Hid (GivesInts w (sharedOf ns i) (.returned (.slice Ao (sharedTo ns us ns.length).length co)) wr) := by
        show GivesInts _ _ _ _
        unfold sharedOf
        rw [if_pos HV.out, Husd.out]
        exact ⟨Ao, co, rfl, hown.mono (by omega), hB3.trans (hb.mono (by omega))⟩
      clear hlt hown hrow hb
      generalize sharedTo ns us ns.length = S at hlen HF ⊢
      go_wp2
      go_ret
      exact HF.out

theorem specSharedOf_any (A : Option Addr) (ns : List Nd) (c : Nat) (r : Int) (w : World) (hr : NdsAt w w.heap.size A ns) :
    Calls Try.prog 7 #[.agg #[.slice A ns.length c, .int .i64 r]] w (GivesInts w (sharedOf ns r)) := by
  by_cases hv : ValidG ns r
  · obtain ⟨i, rfl⟩ := Int.eq_ofNat_of_zero_le hv.root0
    exact specSharedOf_yes A ns c i w hr hv
  · have hB : Below w.heap.size w (w.alloc (.cells #[.slice A ns.length c, .int .i64 r] 25)) := (Below.refl _ _).alloc (Nat.le_refl _) _
    have hr2 := hr.later hB (Nat.le_refl _)
    have HV := hide hv
    clear hr hv
    go_enter Try.func7, Try.ntmps7
    go_wp2_with fail
    refine (specValidGraph_any A ns c r _ hr2).mono ?_
    rintro e w1 ⟨rfl, hb1⟩
    rw [tf_false HV.out]
    have hB1 := hB.trans (hb1.mono hB.size)
    clear hb1 hB hr2
    go_wp2
    go_ret
    unfold sharedOf
    rw [if_neg HV.out]
    exact ⟨none, 0, rfl, OwnI.empty _ _, hB1⟩

end Go.Proofs.Ytmpplimghjkjaab
