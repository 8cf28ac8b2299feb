/-
  The model's CyclesOf: the nodes that are reached and from which a way leads back to them, ascending.
-/
import Derived.Test.YtmpplimghjkjaacCycS
namespace Go.Proofs.Ytmpplimghjkjaac
open Go.RowKit
set_option linter.unusedVariables false

set_option maxRecDepth 100000 in
set_option maxHeartbeats 1000000 in
theorem specCyclesOf_yes (A : Option Addr) (ns : List Nd) (c : Nat) (i : Nat) (w : World) (hr : NdsAt w w.heap.size A ns) (hv : ValidG ns (i : Int)) :
    Calls Try.prog 7 #[.agg #[.slice A ns.length c, .int .i64 (i : Int)]] w (GivesInts w (cyclesOf ns i)) := by
  have hB : Below w.heap.size w (w.alloc (.cells #[.slice A ns.length c, .int .i64 (i : Int)] 25)) := (Below.refl _ _).alloc (Nat.le_refl _) _
  have l1 := Lies.new w #[.slice A ns.length c, .int .i64 (i : Int)] 25
  have hr2 := hr.below hB
  have h12 := hv.few
  have hi : i < ns.length := by have := hv.root; omega
  have HV := hide hv
  clear hr hv
  go_enter Try.func7, Try.ntmps7
  go_wp2_with fail
  generalize hWd : w.alloc (.cells #[.slice A ns.length c, .int .i64 (i : Int)] 25) = W at hB l1 hr2 ⊢
  have hWs : Hid (W.heap.size = w.heap.size + 1) := by rw [← hWd]; simp [Hid]
  clear hWd
  refine (specValidGraph_any A ns c i W (hr2.more hB.size)).mono ?_
  rintro e w1 ⟨rfl, hb1⟩
  rw [tf_true HV.out]
  have l2 := l1.below hb1 l1.lt
  have hr3 := hr2.below (hb1.mono hB.size)
  have hB1 := hB.trans (hb1.mono hB.size)
  have e0 := l2.cell 0
  have e1 := l2.cell 1
  simp at e0 e1
  have hsz := l2.lt
  clear l1 hr2 hb1 hB
  go_wp2_with fail
  have hb2 : Below w1.heap.size w1 ((w1.alloc (.cells #[] 3)).alloc (.cells #[] 3)) := ((Below.refl _ _).alloc (Nat.le_refl _) _).alloc (by simp) _
  have hbare := (OwnI.bare w1).alloc (.cells #[] 3)
  have hbm := OwnI.bare (w1.alloc (.cells #[] 3))
  simp only [World.size_alloc] at hbm
  have hr4 := hr3.below (hb2.mono (by omega))
  have hB2 := hB1.trans (hb2.mono (by omega))
  have l4 := l2.below hb2 (by omega)
  have hs4 : Hid (((w1.alloc (.cells #[] 3)).alloc (.cells #[] 3)).heap.size = w1.heap.size + 1 + 1) := by simp [Hid]
  clear e0 e1 hr3 hB1 l2
  generalize (w1.alloc (.cells #[] 3)).alloc (.cells #[] 3) = w2 at hb2 hr4 hB2 hbare hbm l4 hs4 ⊢
  have hI0 := hbm.ints (by simp) (by simp)
  refine (reach_any ns (kidsIn_of_valid HV.out) (fun n hn => (HV.out.nodes n hn).few) HV.out.few A c i (ns.length + 1) i [] (some ⟨w1.heap.size + 1, 0, none⟩) 0 w2 hi (Met.nil ns) (hr4.more (by have := hs4.out; omega)) hI0 (fun e => by cases e) (by simp)).mono ?_
  rintro e w3 ⟨A', c', rfl, hb3, _, _, hor⟩
  have he : reachOf ns i = dfs ns anyB (ns.length + 1) i [] := by
    unfold reachOf
    rw [if_pos HV.out]
  have hR12 : (reachOf ns i).length ≤ 12 := reachOf_few
  have hRm : Met ns (reachOf ns i) := reachOf_met
  rw [← he] at hor ⊢
  have hne : reachOf ns i ≠ [] := by
    rw [he, dfs_go rfl (by simp)]
    intro h
    have hw := (walkedAll ns anyB (kidsIn_of_valid HV.out) (kidsOf ns i) ([] ++ [(i : Int)]) ns.length ((Met.nil ns).snoc ⟨by omega, by have := HV.out.root; omega⟩ (by simp)) ((kidsIn_of_valid HV.out).of i) (by simp)).len
    rw [h] at hw
    simp at hw
  have hlist : OwnI w3 (w1.heap.size + 1 + 1) A' c' (reachOf ns i) := by
    rcases hor with ⟨_, _, h⟩ | h
    · exact absurd h hne
    · rw [← hs4.out]; exact h
  have hown := hbare.below (hb3.mono (Nat.le_refl _))
  have l5 := l4.below hb3 (by have := hs4.out; omega)
  have hr5 := hr4.below (hb3.mono (by have := hs4.out; omega))
  have hB3 := hB2.trans (hb3.mono (by have := hs4.out; omega))
  have hs5 : w1.heap.size + 1 + 1 ≤ w3.heap.size := by have := hb3.size; have := hs4.out; omega
  have h64 : ∀ x ∈ reachOf ns i, In64 x := fun x hx => by have := hRm.range x hx; constructor <;> omega
  generalize hRd : reachOf ns i = R at hR12 hRm hlist h64 ⊢
  have HRd := hide hRd
  have H64 := hide h64
  clear hor he hne hbare hbm hI0 hRd hRm h64 hb2 hb3 l4 hr4 hB2
  go_wp2_with fail
  go_loopw [3, 5] (fun ov iv wr => ∃ (k : Nat) (Ao : Option Addr) (co : Nat), k ≤ ns.length ∧ iv = .int .i64 k ∧ ov = .slice Ao (pickTo (isCyc ns i) k).length co ∧ Below w1.heap.size w3 wr ∧ OwnI wr w1.heap.size Ao co (pickTo (isCyc ns i) k) ∧ OwnI wr (w1.heap.size + 1 + 1) A' c' R ∧ (∀ g, blockOf Ao = some g → blockOf A' ≠ some g)) (fun _ iv _ => ns.length - (intOf iv).toNat)
  case atStart => exact ⟨0, _, _, Nat.zero_le _, rfl, by rw [pickTo_zero]; rfl, Below.refl _ _, by rw [pickTo_zero]; exact hown, hlist, fun g hg hg2 => by simp [blockOf] at hg; have := (hlist.blocks g hg2).1; omega⟩
  case round =>
    clear hown hlist
    obtain ⟨k, Ao, co, hkl, rfl, rfl, hb, hown, hlist, hap⟩ := hrel
    have Hap := hide hap
    have hlen := pickTo_len (isCyc ns i) k
    have hsr := hb.size
    clear hap
    have lr := l5.below hb (by omega)
    have hrr := (hr5.below (hb.mono (by omega))).more (show w.heap.size ≤ wr.heap.size by omega)
    have e0 := lr.cell 0
    have e1 := lr.cell 1
    simp at e0 e1
    by_cases hlt : k < ns.length
    · have hk1 : (0 : Int) ≤ (k : Int) := by omega
      have hk2 : (k : Int) < (ns.length : Int) := by omega
      have hil := hlist.ints H64.out (by omega)
      have Hown := hide hown
      have Hlist := hide hlist
      have Hb := hide hb
      clear hown hlist hb lr
      go_wp2_with fail
      refine (placeIn_any A' R c' k wr hil).mono ?_
      rintro e w' ⟨rfl, rfl⟩
      by_cases hmem : (k : Int) ∈ R
      · have hp := place_lt hmem
        have hd : decide (0 ≤ place R k) = true := by simp; omega
        generalize place R k = pl at hp hd ⊢
        have hin := hide (show tf ((k : Int) ∈ reachOf ns i) = true from tf_true (by rw [HRd.out]; exact hmem))
        clear hmem hil
        go_wp2_with fail
        refine (onCycle_any A ns c i k wr hrr HV.out hlt).mono ?_
        rintro e w5 ⟨rfl, hb5⟩
        have hown5 := Hown.out.below hb5
        have hlist5 := Hlist.out.below hb5
        have hB5 := Hb.out.trans (hb5.mono (by omega))
        have hs55 := hb5.size
        clear hb5 hrr e0 e1
        by_cases hc : OnCyc ns k
        · rw [tf_true hc]
          have hyes : Hid (pickTo (isCyc ns i) (k + 1) = pickTo (isCyc ns i) k ++ [(k : Int)]) := pickTo_yes (by unfold isCyc; rw [hin.out, tf_true hc]; rfl)
          have hIone := IntsAt.one w5 k (by constructor <;> omega)
          clear hc
          generalize pickTo (isCyc ns i) k = S at hyes hown5 hlen Hown
          go_wp2_with (at_builtin; refine append_ints rfl (.tmp 31) (.tmp 33) rfl w1.heap.size Ao co S rfl (hown5.alloc _) (w5.heap.size + 1) _ 1 [(k : Int)] rfl (fun e => by cases e) hIone (by simp; omega) (by simp; omega) ?_; intro zs Az cz w7 hz hown7 hg7 hat7)
          have hb7 : Below w1.heap.size w3 w7 := below_grown (hB5.alloc (by omega) _) hg7 (by simp; omega) (fun q hq => (hown5.blocks q hq).1)
          have hlist7 : OwnI w7 (w1.heap.size + 1 + 1) A' c' R := (hlist5.alloc _).kept hg7 (by
            cases hA : blockOf A' with
            | none => exact .inl rfl
            | some g => exact .inr (fun e => Hap.out g e.symm hA))
          have hap7 : Hid (∀ g, blockOf Az = some g → blockOf A' ≠ some g) := by
            intro g hg e
            rcases hat7 with h | h
            · exact Hap.out g (by rw [← h]; exact hg) e
            · rw [hg] at h
              simp only [World.size_alloc, Option.some.injEq] at h
              have := (hlist5.blocks g e).2
              omega
          have hz2 : Hid (zs = pickTo (isCyc ns i) (k + 1)) := by
            show _ = _
            rw [hyes.out]
            exact hz.out
          have Hown7 := hide hown7
          have Hlist7 := hide hlist7
          have Hb7 := hide hb7
          clear hown7 hlist7 hb7 hg7 hat7 hown5 hlist5 hIone hz hyes Hown hB5
          go_wp2
          go_roundw
          case rel => exact ⟨k + 1, Az, cz, by omega, by go_num, by rw [hz2.out], Hb7.out, by rw [← hz2.out]; exact Hown7.out, Hlist7.out, hap7.out⟩
          case measure => simp [intOf]; omega
        · rw [tf_false hc]
          have hno : Hid (pickTo (isCyc ns i) (k + 1) = pickTo (isCyc ns i) k) := pickTo_no (by unfold isCyc; rw [tf_false hc]; simp)
          have HB5 := hide hB5
          have Hown5 := hide hown5
          have Hlist5 := hide hlist5
          clear hc hB5 hown5 hlist5
          go_wp2
          go_roundw
          case rel => exact ⟨k + 1, Ao, co, by omega, by go_num, by rw [hno.out], HB5.out, by rw [hno.out]; exact Hown5.out, Hlist5.out, Hap.out⟩
          case measure => simp [intOf]; omega
      · rw [place_neg hmem]
        have hno : Hid (pickTo (isCyc ns i) (k + 1) = pickTo (isCyc ns i) k) := pickTo_no (by unfold isCyc; rw [HRd.out, tf_false hmem]; rfl)
        clear hmem hil
        go_wp2
        go_roundw
        case rel => exact ⟨k + 1, Ao, co, by omega, by go_num, by rw [hno.out], Hb.out, by rw [hno.out]; exact Hown.out, Hlist.out, Hap.out⟩
        case measure => simp [intOf]; omega
    · obtain rfl : k = ns.length := by omega
      have HF : Hid (GivesInts w (cyclesOf ns i) (.returned (.slice Ao (pickTo (isCyc ns i) ns.length).length co)) wr) := by
        show GivesInts _ _ _ _
        unfold cyclesOf
        rw [if_pos HV.out]
        exact ⟨Ao, co, rfl, hown.mono (by omega), hB3.trans (hb.mono (by omega))⟩
      clear hlt hown hb hlist hrr
      generalize pickTo (isCyc ns i) ns.length = S at hlen HF ⊢
      go_wp2
      go_ret
      exact HF.out

theorem specCyclesOf_any (A : Option Addr) (ns : List Nd) (c : Nat) (r : Int) (w : World) (hr : NdsAt w w.heap.size A ns) :
    Calls Try.prog 7 #[.agg #[.slice A ns.length c, .int .i64 r]] w (GivesInts w (cyclesOf ns r)) := by
  by_cases hv : ValidG ns r
  · obtain ⟨i, rfl⟩ := Int.eq_ofNat_of_zero_le hv.root0
    exact specCyclesOf_yes A ns c i w hr hv
  · have hB : Below w.heap.size w (w.alloc (.cells #[.slice A ns.length c, .int .i64 r] 25)) := (Below.refl _ _).alloc (Nat.le_refl _) _
    have hr2 := hr.later hB (Nat.le_refl _)
    have HV := hide hv
    clear hr hv
    go_enter Try.func7, Try.ntmps7
    go_wp2_with fail
    refine (specValidGraph_any A ns c r _ hr2).mono ?_
    rintro e w1 ⟨rfl, hb1⟩
    rw [tf_false HV.out]
    have hB1 := hB.trans (hb1.mono hB.size)
    clear hb1 hB hr2
    go_wp2
    go_ret
    unfold cyclesOf
    rw [if_neg HV.out]
    exact ⟨none, 0, rfl, OwnI.empty _ _, hB1⟩

end Go.Proofs.Ytmpplimghjkjaac
