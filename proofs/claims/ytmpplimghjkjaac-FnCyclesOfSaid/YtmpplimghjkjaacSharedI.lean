/-
  The program's SharedOf.
-/
import Derived.Test.YtmpplimghjkjaacShDef
import Derived.Test.YtmpplimghjkjaacInfoI
import Derived.StillTailTactics
import Derived.Test.YtmpplimghjkjaacImplR
namespace Go.Proofs.Ytmpplimghjkjaac
open Go.RowKit Go.Maps
set_option linter.unusedVariables false

set_option maxRecDepth 100000 in
set_option maxHeartbeats 1000000 in
theorem implSharedOf_yes (A : Option Addr) (ns : List Nd) (c : Nat) (i : Nat) (w : World) (hr : NdsAt w w.heap.size A ns) (hv : ValidG ns (i : Int)) :
    Calls Try.prog 8 #[.agg #[.slice A ns.length c, .int .i64 (i : Int)]] w (GivesInts w (sharedOf ns i)) := by
  have hmk := run_make_row' (P := Try.prog) 27 3 (.int .i64 0) 8 Try.underlying27 infoInt rfl .i64 .i64 ns.length (by have := hv.few; omega) (by have := hv.few; omega)
  have hB : Below w.heap.size w (w.alloc (.cells #[.slice A ns.length c, .int .i64 (i : Int)] 25)) := (Below.refl _ _).alloc (Nat.le_refl _) _
  have l1 := Lies.new w #[.slice A ns.length c, .int .i64 (i : Int)] 25
  have hr2 := hr.below hB
  have h12 := hv.few
  have hi : i < ns.length := by have := hv.root; omega
  have hi1 : (0 : Int) ≤ (i : Int) := by omega
  have hi2 : (i : Int) < (ns.length : Int) := by omega
  have HV := hide hv
  clear hr hv
  go_enter Try.func8, Try.ntmps8
  go_wp2_with fail
  generalize hWd : w.alloc (.cells #[.slice A ns.length c, .int .i64 (i : Int)] 25) = W at hB l1 hr2 ⊢
  have hWs : Hid (W.heap.size = w.heap.size + 1) := by rw [← hWd]; simp [Hid]
  clear hWd
  refine (implValid_any A ns c i W (hr2.more hB.size)).mono ?_
  rintro e w1 ⟨rfl, hb1⟩
  rw [tf_true HV.out]
  have l2 := l1.below hb1 l1.lt
  have hr3 := hr2.below (hb1.mono hB.size)
  have hB1 := hB.trans (hb1.mono hB.size)
  have e0 := l2.cell 0
  have e1 := l2.cell 1
  simp at e0 e1
  have hsz := l2.lt
  have hrow0 := World.rowIs_made w1 (.int .i64 0) ns.length 3
  have q1 := hrow0.cell hi
  have q2 := hrow0.frozen i
  clear l1 hr2 hb1 hB
  go_wp2_with fail
  have hrow1 := made_set w1 ns.length i (.int .i64 1) (.int .i64 0) 3
  have hb2 : Below w1.heap.size w1 (w1.alloc (.cells ((madeCells #[.int .i64 0] ns.length).setIfInBounds i (.int .i64 1)) 3)) := (Below.refl _ _).alloc (Nat.le_refl _) _
  have hr4 := hr3.below (hb2.mono (by omega))
  have hB2 := hB1.trans (hb2.mono (by omega))
  have l4 := l2.below hb2 (by omega)
  have hs4 : Hid ((w1.alloc (.cells ((madeCells #[.int .i64 0] ns.length).setIfInBounds i (.int .i64 1)) 3)).heap.size = w1.heap.size + 1) := by simp [Hid]
  clear hmk hrow0 q1 q2 e0 e1 hr3 hB1 l2
  generalize w1.alloc (.cells ((madeCells #[.int .i64 0] ns.length).setIfInBounds i (.int .i64 1)) 3) = w2 at hb2 hr4 hB2 hrow1 l4 hs4 ⊢
  refine (implReachOf_any A ns c i w2 (hr4.more (by have := hs4.out; omega))).mono ?_
  rintro e w3 ⟨A', c', rfl, hown, hb3⟩
  have hR12 : (reachOf ns i).length ≤ 12 := reachOf_few
  have hRm : Met ns (reachOf ns i) := reachOf_met
  generalize hRd : reachOf ns i = R at hR12 hRm hown ⊢
  have HRd := hide hRd
  have h64 : ∀ x ∈ R, In64 x := fun x hx => by have := hRm.range x hx; constructor <;> omega
  have HM := hide hRm
  have H64 := hide h64
  have hszW := hb3.size
  have hsz3 : w1.heap.size + 1 ≤ w3.heap.size := by have := hs4.out; omega
  have l5 := l4.below hb3 (by have := hs4.out; omega)
  have hr5 := hr4.below (hb3.mono (by have := hs4.out; omega))
  have hrow3 := rowIs_below hrow1 hb3 (by have := hs4.out; omega)
  have hB3 := hB2.trans (hb3.mono (by have := hs4.out; omega))
  have Hown := hide hown
  clear hRd hrow1 l4 hr4 hb3 hB2 hRm h64 hszW hb2 hown
  have hrow4 : w3.rowIs w1.heap.size 3 ns.length (intCell (bumps (bump (List.replicate ns.length 0) i) ((R.take 0).flatMap (kidsOf ns)))) := hrow3.congr (fun j hj => by
    rw [List.take_zero, List.flatMap_nil, bumps_nil, intCell_bump _ _ (by simpa using hi), intCell_zeros]
    simp [List.getD, hi])
  clear hrow3
  go_wp2_with fail
  go_loopw [28] (fun iv wr => ∃ k : Nat, k ≤ R.length ∧ iv = .int .i64 k ∧ Only w1.heap.size (w1.heap.size + 1) w3 wr ∧ wr.rowIs w1.heap.size 3 ns.length (intCell (bumps (bump (List.replicate ns.length 0) i) ((R.take k).flatMap (kidsOf ns))))) (fun iv _ => R.length - (intOf iv).toNat)
  case atStart => exact ⟨0, Nat.zero_le _, rfl, Only.refl _ _ _, hrow4⟩
  case round =>
    clear hrow4
    obtain ⟨k, hkl, rfl, ho, hrow⟩ := hrel
    have hbl := ho.below
    by_cases hlt : k < R.length
    · have hownr := Hown.out.only ho (fun g hg => .inr (by have := (Hown.out.blocks g hg).1; have := hs4.out; omega))
      obtain ⟨bk, ok, x, rfl, hbk, hx, hxm, hcx⟩ := (hownr.ints H64.out (by omega)).at_ hlt
      obtain ⟨hx0, hx1⟩ := HM.out.range x hxm
      obtain ⟨y, rfl⟩ := Int.eq_ofNat_of_zero_le hx0
      have Hx := hide hx
      obtain ⟨b, off, n, rfl, hbb, hat, hmem, hN⟩ := (hr5.below (hbl.mono (by omega))).at_ (k := y) (by omega)
      obtain ⟨_, _, ⟨A1, c1, hn_s, hI1, _⟩, _, _⟩ := hN
      have hkids : Hid (kidsOf ns (y : Int) = n.kids) := kidsOf_at hat
      have hk6 := (HV.out.nodes n hmem).few
      have hin := hide (HV.out.nodes n hmem).inn
      have HI1 := hide hI1
      have lr := l5.below hbl (by omega)
      have e0 := lr.cell 0
      simp at e0
      have hy1 : (0 : Int) ≤ (y : Int) := by omega
      have hy2 : (y : Int) < (ns.length : Int) := by omega
      have hk1 : (0 : Int) ≤ (k : Int) := by omega
      have hk2 : (k : Int) < (R.length : Int) := by omega
      have HO0 := hide ho
      have HR0 := hide hrow
      clear hx hxm hownr lr hat hmem hbl ho hrow hI1
      go_wp2_with fail
      clear e0 hn_s hcx
      go_loopw [39] (fun iv wr' => ∃ j : Nat, j ≤ n.kids.length ∧ iv = .int .i64 j ∧ Only w1.heap.size (w1.heap.size + 1) wr wr' ∧ wr'.rowIs w1.heap.size 3 ns.length (intCell (bumps (bump (List.replicate ns.length 0) i) ((R.take k).flatMap (kidsOf ns) ++ n.kids.take j)))) (fun iv _ => n.kids.length - (intOf iv).toNat)
      case atStart => exact ⟨0, Nat.zero_le _, rfl, Only.refl _ _ _, by rw [List.take_zero, List.append_nil]; exact HR0.out⟩
      case round =>
        obtain ⟨j, hjl, rfl, ho, hrow⟩ := hrel
        by_cases hlt2 : j < n.kids.length
        · obtain ⟨bz, oz, z0, rfl, hbz, hz, hzm, hcz⟩ := (HI1.out.below (ho.below.mono (by omega))).at_ hlt2
          obtain ⟨hz0, hz1⟩ := hin.out z0 hzm
          obtain ⟨z, rfl⟩ := Int.eq_ofNat_of_zero_le hz0
          have Hz := hide hz
          have hj1 : (0 : Int) ≤ (j : Int) := by omega
          have hj2 : (j : Int) < (n.kids.length : Int) := by omega
          have hz2 : z < ns.length := by omega
          have hup : Hid (Upto (bumps (bump (List.replicate ns.length 0) i) ((R.take k).flatMap (kidsOf ns) ++ n.kids.take j)) 100) := by
            have hfl := flatMap_few (ns := ns) (fun n hn => (HV.out.nodes n hn).few) (R.take k)
            have h1 := ((Upto.zeros ns.length).bump (by omega) (i : Int)).bumps (by omega) ((R.take k).flatMap (kidsOf ns) ++ n.kids.take j)
            refine h1.mono ?_
            rw [List.length_append, List.length_take]
            rw [List.length_take] at hfl
            omega
          generalize hus : bumps (bump (List.replicate ns.length 0) i) ((R.take k).flatMap (kidsOf ns) ++ n.kids.take j) = us at hrow hup
          have husl : us.length = ns.length := by rw [← hus, bumps_len, bump_len]; simp
          have Hus := hide hus
          have hu := hup.out.getD (by omega) z
          have c1 := hrow.cell hz2
          have c2 := hrow.frozen z
          have HR := hide hrow
          have HO := hide ho
          rw [show intCell us z = .int .i64 (us.getD z 0) from rfl] at c1
          generalize hud : us.getD z 0 = u at c1 hu
          have Hud := hide hud
          clear hus hz hzm hrow ho hud
          go_wp2
          go_roundw
          case rel =>
            refine ⟨j + 1, by omega, by go_num, HO.out.setCell (Nat.le_refl _) (Nat.lt_succ_self _) _, (World.rowIs.set HR.out z _).congr (fun q hq => ?_)⟩
            rw [List.take_add_one, Hz.out, Option.toList_some, ← List.append_assoc, bumps_snoc, Hus.out, intCell_bump us z (by omega), Hud.out]
          case measure => simp [intOf]; omega
        · obtain rfl : j = n.kids.length := by omega
          have HR := hide hrow
          have HO := hide (HO0.out.trans ho)
          clear hrow ho
          go_wp2
          go_roundw
          case rel => exact ⟨k + 1, by omega, by go_num, HO.out, by rw [take_flat Hx.out, hkids.out]; have h := HR.out; rw [List.take_length] at h; exact h⟩
          case measure => simp [intOf]; omega
    · obtain rfl : k = R.length := by omega
      rw [List.take_length] at hrow
      have hrow5 : wr.rowIs w1.heap.size 3 ns.length (intCell (usesOf ns i R)) := hrow
      have husl : (usesOf ns i R).length = ns.length := by simp [usesOf, bumps_len, bump_len]
      have hr6 := hr5.below (hbl.mono (by omega))
      have l6 := l5.below hbl (by omega)
      have hB6 := hB3.trans (hbl.mono (by omega))
      have hs6 : w3.heap.size = wr.heap.size := ho.size.symm
      have hs7 : w1.heap.size + 1 ≤ wr.heap.size := by omega
      generalize husd : usesOf ns i R = us at hrow5 husl
      have Husd := hide husd
      have e0 := l6.cell 0
      simp at e0
      clear hlt hrow ho hbl husd hs6 hr5 l5 hB3
      obtain ⟨b, off, n0, rfl, _, _, _, _⟩ := hr6.at_ hi
      go_wp2_with fail
      obtain ⟨wA, rfl⟩ : ∃ wA, wA = wr := ⟨_, rfl⟩
      clear e0
      go_loopw [8, 54] (fun ov iv wr => ∃ (k : Nat) (Ao : Option Addr) (co : Nat), k ≤ ns.length ∧ iv = .int .i64 k ∧ ov = .slice Ao (sharedTo ns us k).length co ∧ Below wA.heap.size wA wr ∧ OwnI wr wA.heap.size Ao co (sharedTo ns us k)) (fun _ iv _ => ns.length - (intOf iv).toNat)
      case atStart => exact ⟨0, none, 0, Nat.zero_le _, rfl, by rw [sharedTo_zero]; rfl, Below.refl _ _, by rw [sharedTo_zero]; exact OwnI.empty _ _⟩
      case round =>
        obtain ⟨k, Ao, co, hkl, rfl, rfl, hb, hown⟩ := hrel
        have hlen := sharedTo_len ns us k
        have hsr := hb.size
        by_cases hlt : k < ns.length
        · obtain ⟨b', off', n, he', hbb, hat, hmem, hN⟩ := (hr6.below (hb.mono (by omega))).at_ hlt
          simp only [Option.some.injEq, Addr.mk.injEq, and_true] at he'
          obtain ⟨rfl, rfl⟩ := he'
          obtain ⟨hn_k, hn_v, ⟨A1, c1, hn_s, _, _⟩, _, _⟩ := hN
          have hkind : Hid (kindOf ns (k : Int) = n.kind) := kindOf_at hat
          have hk1 : (0 : Int) ≤ (k : Int) := by omega
          have hk2 : (k : Int) < (ns.length : Int) := by omega
          have u0 := ((rowIs_below hrow5 hb (by omega)).alloc (.cells #[.int .i64 n.kind, .int .i64 n.value, .slice A1 n.kids.length c1] 32)).cell hlt
          rw [show intCell us k = .int .i64 (us.getD k 0) from rfl] at u0
          have Hown := hide hown
          have Hb := hide hb
          clear hat hmem hown hb
          by_cases hk0 : n.kind = 0
          · have hno : Hid (sharedTo ns us (k + 1) = sharedTo ns us k) := sharedTo_no (by rw [isShared, hkind.out, hk0]; simp)
            have hkd : (n.kind != 0) = false := by simp [hk0]
            clear hk0
            go_wp2
            go_roundw
            case rel => exact ⟨k + 1, _, co, by omega, by go_num, by rw [hno.out], Hb.out.alloc (by omega) _, by rw [hno.out]; exact Hown.out.alloc _⟩
            case measure => simp [intOf]; omega
          · have hkd : (n.kind != 0) = true := by simp [hk0]
            by_cases hu : 1 < us.getD k 0
            · have hud : decide (1 < us.getD k 0) = true := by simpa using hu
              have hyes : Hid (sharedTo ns us (k + 1) = sharedTo ns us k ++ [(k : Int)]) := sharedTo_yes (by rw [isShared, hkind.out, hud]; simp [hk0])
              generalize us.getD k 0 = u at u0 hu hud
              clear hk0
              have hIone := IntsAt.one (wr.alloc (.cells #[.int .i64 n.kind, .int .i64 n.value, .slice A1 n.kids.length c1] 32)) k (by constructor <;> omega)
              generalize sharedTo ns us k = S at hyes Hown hlen
              have hown := Hown.out
              simp only [World.size_alloc] at hIone
              go_wp2_with (at_builtin; refine append_ints rfl (.tmp 69) (.tmp 71) rfl wA.heap.size Ao co S rfl ((hown.alloc _).alloc _) (wr.heap.size + 1 + 1) _ 1 [(k : Int)] rfl (fun e => by cases e) hIone (by simp; omega) (by simp; omega) ?_; intro zs A' c' w7 hz hown7 hg7 hat7)
              have hb7 : Below wA.heap.size wA w7 := below_grown ((Hb.out.alloc (by omega) _).alloc (by simp; omega) _) hg7 (by simp; omega) (fun q hq => (hown.blocks q hq).1)
              have hz2 : Hid (zs = sharedTo ns us (k + 1)) := by
                show _ = _
                rw [hyes.out]
                exact hz.out
              have Hown7 := hide hown7
              have Hb7 := hide hb7
              clear hown7 hb7 hg7 hat7 hown hIone hz hyes
              go_wp2
              go_roundw
              case rel => exact ⟨k + 1, A', c', by omega, by go_num, by rw [hz2.out], Hb7.out, by rw [← hz2.out]; exact Hown7.out⟩
              case measure => simp [intOf]; omega
            · have hud : decide (1 < us.getD k 0) = false := by simpa using hu
              have hno : Hid (sharedTo ns us (k + 1) = sharedTo ns us k) := sharedTo_no (by rw [isShared, hud]; rfl)
              generalize us.getD k 0 = u at u0 hu hud
              clear hk0
              go_wp2
              go_roundw
              case rel => exact ⟨k + 1, _, co, by omega, by go_num, by rw [hno.out], Hb.out.alloc (by omega) _, by rw [hno.out]; exact Hown.out.alloc _⟩
              case measure => simp [intOf]; omega
        · obtain rfl : k = ns.length := by omega
          have HF : Hid (GivesInts w (sharedOf ns i) (.returned (.slice Ao (sharedTo ns us ns.length).length co)) wr) := by
            show GivesInts _ _ _ _
            unfold sharedOf
            rw [if_pos HV.out, HRd.out, Husd.out]
            exact ⟨Ao, co, rfl, hown.mono (by omega), hB6.trans (hb.mono (by omega))⟩
          clear hlt hown hb
          generalize sharedTo ns us ns.length = S at hlen HF ⊢
          go_wp2
          go_ret
          exact HF.out

theorem implSharedOf_any (A : Option Addr) (ns : List Nd) (c : Nat) (r : Int) (w : World) (hr : NdsAt w w.heap.size A ns) :
    Calls Try.prog 8 #[.agg #[.slice A ns.length c, .int .i64 r]] w (GivesInts w (sharedOf ns r)) := by
  by_cases hv : ValidG ns r
  · obtain ⟨i, rfl⟩ := Int.eq_ofNat_of_zero_le hv.root0
    exact implSharedOf_yes A ns c i w hr hv
  · have hB : Below w.heap.size w (w.alloc (.cells #[.slice A ns.length c, .int .i64 r] 25)) := (Below.refl _ _).alloc (Nat.le_refl _) _
    have hr2 := hr.later hB (Nat.le_refl _)
    have HV := hide hv
    clear hr hv
    go_enter Try.func8, Try.ntmps8
    go_wp2_with fail
    refine (implValid_any A ns c r _ hr2).mono ?_
    rintro e w1 ⟨rfl, hb1⟩
    rw [tf_false HV.out]
    have hB1 := hB.trans (hb1.mono hB.size)
    clear hb1 hB hr2
    go_wp2
    go_ret
    unfold sharedOf
    rw [if_neg HV.out]
    exact ⟨none, 0, rfl, OwnI.empty _ _, hB1⟩

end Go.Proofs.Ytmpplimghjkjaac
