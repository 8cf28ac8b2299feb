/-
  How often the nodes of a graph are used: the model's uses.
-/
import Derived.Test.YtmpplimghjkjaabReach2
import Derived.Test.YtmpplimghjkjaabInfoI
import Derived.Test.YtmpplimghjkjaabUsesM
import Derived.StillTailTactics
namespace Go.Proofs.Ytmpplimghjkjaab
open Go.RowKit
set_option linter.unusedVariables false

set_option maxRecDepth 100000 in
set_option maxHeartbeats 1000000 in
theorem specUses_any (A : Option Addr) (ns : List Nd) (c : Nat) (i : Nat) (w : World) (hr : NdsAt w w.heap.size A ns) (hv : ValidG ns (i : Int)) :
    Calls Try.prog 16 #[.agg #[.slice A ns.length c, .int .i64 (i : Int)]] w (fun e w' => e = .returned (.slice (some ⟨w.heap.size + 1, 0, none⟩) ns.length ns.length) ∧ Below w.heap.size w w' ∧
      w'.rowIs (w.heap.size + 1) 3 ns.length (intCell (usesOf ns i (reachOf ns i)))) := by
  have hmk := run_make_row' (P := Try.prog) 27 3 (.int .i64 0) 8 Try.underlying27 infoInt rfl .i64 .i64 ns.length (by have := hv.few; omega) (by have := hv.few; omega)
  have hB : Below w.heap.size w (w.alloc (.cells #[.slice A ns.length c, .int .i64 (i : Int)] 25)) := (Below.refl _ _).alloc (Nat.le_refl _) _
  have l1 := Lies.new w #[.slice A ns.length c, .int .i64 (i : Int)] 25
  have hr2 := hr.later hB (Nat.le_refl _)
  have hi : i < ns.length := by have := hv.root; omega
  have HV := hide hv
  have hrow0 := World.rowIs_made (w.alloc (.cells #[.slice A ns.length c, .int .i64 (i : Int)] 25)) (.int .i64 0) ns.length 3
  simp only [World.size_alloc] at hrow0
  have q1 := hrow0.cell hi
  have q2 := hrow0.frozen i
  have hrow1 := hrow0.set i (.int .i64 1)
  have Hrow1 := hide hrow1
  have hi1 : (0 : Int) ≤ (i : Int) := by omega
  have hi2 : (i : Int) < (ns.length : Int) := by omega
  clear hv hrow0 hrow1
  go_enter Try.func16, Try.ntmps16
  go_wp2_with fail
  clear hmk
  have hrow1 := made_set (w.alloc (.cells #[.slice A ns.length c, .int .i64 (i : Int)] 25)) ns.length i (.int .i64 1) (.int .i64 0) 3
  simp only [World.size_alloc] at hrow1
  have hrow2 := hrow1.alloc (.cells #[] 3)
  have hbare := OwnI.bare ((w.alloc (.cells #[.slice A ns.length c, .int .i64 (i : Int)] 25)).alloc (.cells ((madeCells #[.int .i64 0] ns.length).setIfInBounds i (.int .i64 1)) 3))
  simp only [World.size_alloc] at hbare
  have hB2 : Below w.heap.size w (((w.alloc (.cells #[.slice A ns.length c, .int .i64 (i : Int)] 25)).alloc (.cells ((madeCells #[.int .i64 0] ns.length).setIfInBounds i (.int .i64 1)) 3)).alloc (.cells #[] 3)) := (hB.alloc (by simp) _).alloc (by simp; omega) _
  have l2 := (l1.alloc (.cells ((madeCells #[.int .i64 0] ns.length).setIfInBounds i (.int .i64 1)) 3)).alloc (.cells #[] 3)
  have hsz2 : Hid ((((w.alloc (.cells #[.slice A ns.length c, .int .i64 (i : Int)] 25)).alloc (.cells ((madeCells #[.int .i64 0] ns.length).setIfInBounds i (.int .i64 1)) 3)).alloc (.cells #[] 3)).heap.size = w.heap.size + 1 + 1 + 1) := by simp [Hid]
  have hr0 := hr.below hB2
  clear hr2 l1 hB q1 q2 Hrow1 hrow1
  generalize ((w.alloc (.cells #[.slice A ns.length c, .int .i64 (i : Int)] 25)).alloc (.cells ((madeCells #[.int .i64 0] ns.length).setIfInBounds i (.int .i64 1)) 3)).alloc (.cells #[] 3) = W at hrow2 hbare hB2 l2 hsz2 hr0 ⊢
  have hI0 := hbare.ints (by simp) (by simp)
  refine (reach_any ns (kidsIn_of_valid HV.out) (fun n hn => (HV.out.nodes n hn).few) HV.out.few A c i (ns.length + 1) i [] (some ⟨w.heap.size + 1 + 1, 0, none⟩) 0 W hi (Met.nil ns) (hr0.more (by have := hsz2.out; omega)) hI0 (fun e => by cases e) (by simp)).mono ?_
  rintro e w3 ⟨A', c', rfl, hb3, _, _, hor⟩
  have he : reachOf ns i = dfs ns anyB (ns.length + 1) i [] := by
    unfold reachOf
    rw [if_pos HV.out]
  have hR12 : (reachOf ns i).length ≤ 12 := reachOf_few
  have hRm : Met ns (reachOf ns i) := reachOf_met
  rw [← he] at hor ⊢
  have hne : reachOf ns i ≠ [] := by
    rw [he, dfs_go rfl (by simp)]
    intro h
    have hw := (walkedAll ns anyB (kidsIn_of_valid HV.out) (kidsOf ns i) ([] ++ [(i : Int)]) ns.length ((Met.nil ns).snoc ⟨by omega, by omega⟩ (by simp)) ((kidsIn_of_valid HV.out).of i) (by simp)).len
    rw [h] at hw
    simp at hw
  have hown : OwnI w3 (w.heap.size + 1 + 1 + 1) A' c' (reachOf ns i) := by
    rcases hor with ⟨_, _, h⟩ | h
    · exact absurd h hne
    · rw [← hsz2.out]; exact h
  clear hor he hne hbare hI0
  generalize hRd : reachOf ns i = R at hR12 hRm hown ⊢
  have HRd := hide hRd
  clear hRd
  have h64 : ∀ x ∈ R, In64 x := fun x hx => by have := hRm.range x hx; have := HV.out.few; constructor <;> omega
  have HM := hide hRm
  have H64 := hide h64
  have hszW := hb3.size
  have hsz3 : w.heap.size + 3 ≤ w3.heap.size := by have := hsz2.out; omega
  have l3 := l2.below hb3 l2.lt
  have hr3 := hr0.below (hb3.mono (by have := hsz2.out; omega))
  have hrow3 := rowIs_below hrow2 hb3 (by have := hsz2.out; omega)
  have hB3 := hB2.trans (hb3.mono (by have := hsz2.out; omega))
  have h12 := HV.out.few
  clear hrow2 l2 hr0 hb3 hB2 hRm h64 hszW
  have hrow4 : w3.rowIs (w.heap.size + 1) 3 ns.length (intCell (bumps (bump (List.replicate ns.length 0) i) ((R.take 0).flatMap (kidsOf ns)))) := hrow3.congr (fun j hj => by
    rw [List.take_zero, List.flatMap_nil, bumps_nil, intCell_bump _ _ (by simpa using hi), intCell_zeros]
    simp [List.getD, hi])
  clear hrow3
  go_wp2_with fail
  go_loopw [5] (fun iv wr => ∃ k : Nat, k ≤ R.length ∧ iv = .int .i64 k ∧ Only (w.heap.size + 1) (w.heap.size + 1 + 1) w3 wr ∧ wr.rowIs (w.heap.size + 1) 3 ns.length (intCell (bumps (bump (List.replicate ns.length 0) i) ((R.take k).flatMap (kidsOf ns))))) (fun iv _ => R.length - (intOf iv).toNat)
  case atStart => exact ⟨0, Nat.zero_le _, rfl, Only.refl _ _ _, hrow4⟩
  case round =>
    clear hrow4
    obtain ⟨k, hkl, rfl, ho, hrow⟩ := hrel
    by_cases hlt : k < R.length
    · have hownr := hown.only ho (fun g hg => .inr (by have := (hown.blocks g hg).1; omega))
      obtain ⟨bk, ok, x, rfl, hbk, hx, hxm, hcx⟩ := (hownr.ints H64.out (by omega)).at_ hlt
      obtain ⟨hx0, hx1⟩ := HM.out.range x hxm
      obtain ⟨y, rfl⟩ := Int.eq_ofNat_of_zero_le hx0
      have Hx := hide hx
      clear hx hxm hownr hcx
      have hk1 : (0 : Int) ≤ (k : Int) := by omega
      have hk2 : (k : Int) < (R.length : Int) := by omega
      go_wp2_with fail
      go_loopw [6] (fun iv wr => ∃ j : Nat, j ≤ (kidsOf ns y).length ∧ iv = .int .i64 j ∧ Only (w.heap.size + 1) (w.heap.size + 1 + 1) w3 wr ∧ wr.rowIs (w.heap.size + 1) 3 ns.length (intCell (bumps (bump (List.replicate ns.length 0) i) ((R.take k).flatMap (kidsOf ns) ++ (kidsOf ns y).take j)))) (fun iv _ => (kidsOf ns y).length - (intOf iv).toNat)
      case atStart => exact ⟨0, Nat.zero_le _, rfl, ho, by rw [List.take_zero, List.append_nil]; exact hrow⟩
      case round =>
        clear ho hrow
        obtain ⟨j, hjl, rfl, ho, hrow⟩ := hrel
        have hbl := ho.below
        have hownr := hown.only ho (fun g hg => .inr (by have := (hown.blocks g hg).1; omega))
        obtain ⟨_, _, x', hq, _, hx', _, hcx⟩ := (hownr.ints H64.out (by omega)).at_ hlt
        simp only [Option.some.injEq, Addr.mk.injEq, and_true] at hq
        obtain ⟨rfl, rfl⟩ := hq
        obtain rfl := Option.some.inj (Hx.out.symm.trans hx')
        obtain ⟨b, off, n, rfl, hbb, hat, hmem, hN⟩ := (hr3.below (hbl.mono (by omega))).at_ (k := y) (by omega)
        obtain ⟨_, _, ⟨A1, c1, hn_s, hI1, _⟩, _, _⟩ := hN
        have hkids : Hid (kidsOf ns (y : Int) = n.kids) := kidsOf_at hat
        have hk6 := (HV.out.nodes n hmem).few
        have hin := hide (HV.out.nodes n hmem).inn
        rw [hkids.out] at hjl
        have lr := l3.below hbl (by omega)
        have e0 := lr.cell 0
        simp at e0
        have hy1 : (0 : Int) ≤ (y : Int) := by omega
        have hy2 : (y : Int) < (ns.length : Int) := by omega
        clear hx' hat hmem hownr lr
        by_cases hlt2 : j < n.kids.length
        · obtain ⟨bz, oz, z0, rfl, hbz, hz, hzm, hcz⟩ := hI1.at_ hlt2
          obtain ⟨hz0, hz1⟩ := hin.out z0 hzm
          obtain ⟨z, rfl⟩ := Int.eq_ofNat_of_zero_le hz0
          have Hz := hide hz
          have hj1 : (0 : Int) ≤ (j : Int) := by omega
          have hj2 : (j : Int) < (n.kids.length : Int) := by omega
          have hz2 : z < ns.length := by omega
          have hup : Hid (Upto (bumps (bump (List.replicate ns.length 0) i) ((R.take k).flatMap (kidsOf ns) ++ (kidsOf ns y).take j)) 100) := by
            have hfl := flatMap_few (ns := ns) (fun n hn => (HV.out.nodes n hn).few) (R.take k)
            have h1 := ((Upto.zeros ns.length).bump (by omega) (i : Int)).bumps (by omega) ((R.take k).flatMap (kidsOf ns) ++ (kidsOf ns y).take j)
            refine h1.mono ?_
            rw [List.length_append, List.length_take, hkids.out]
            rw [List.length_take] at hfl
            omega
          generalize hus : bumps (bump (List.replicate ns.length 0) i) ((R.take k).flatMap (kidsOf ns) ++ (kidsOf ns y).take j) = us at hrow hup
          have husl : us.length = ns.length := by rw [← hus, bumps_len, bump_len]; simp
          have Hus := hide hus
          have hu := hup.out.getD (by omega) z
          have c1 := hrow.cell hz2
          have c2 := hrow.frozen z
          have HR := hide hrow
          have HO := hide ho
          rw [show intCell us z = .int .i64 (us.getD z 0) from rfl] at c1
          generalize hud : us.getD z 0 = u at c1 hu
          have Hud := hide hud
          clear hus hz hzm hrow hbl ho hin hud
          go_wp2_with fail
          go_quiet (fail)
          go_wp2_with fail
          go_quiet (fail)
          go_wp2
          go_roundw
          case rel =>
            refine ⟨j + 1, by rw [hkids.out]; omega, by go_num, (HO.out.drewN _).setCell (Nat.le_refl _) (Nat.lt_succ_self _) _, (World.rowIs.set (w := wr.drewN _) HR.out z _).congr (fun q hq => ?_)⟩
            rw [List.take_add_one, hkids.out, Hz.out, Option.toList_some, ← List.append_assoc, bumps_snoc, ← hkids.out, Hus.out, intCell_bump us z (by omega), Hud.out]
          case measure => rw [hkids.out]; simp [intOf]; omega
        · obtain rfl : j = n.kids.length := by omega
          have HR := hide hrow
          have HO := hide ho
          clear hrow ho hbl hin
          go_wp2_with fail
          go_quiet (fail)
          go_wp2
          go_roundw
          case rel => exact ⟨k + 1, by omega, by go_num, HO.out.drewN _, by rw [take_flat Hx.out, hkids.out]; have h := HR.out; rw [hkids.out, List.take_length] at h; exact h⟩
          case measure => simp [intOf]; omega
    · obtain rfl : k = R.length := by omega
      rw [List.take_length] at hrow
      have HF := hide (show Below w.heap.size w wr ∧ wr.rowIs (w.heap.size + 1) 3 ns.length (intCell (usesOf ns i R)) from ⟨hB3.trans (ho.below.mono (by omega)), hrow⟩)
      clear hlt ho hrow
      go_wp2
      go_ret
      rw [HRd.out]
      exact ⟨rfl, HF.out.1, HF.out.2⟩

end Go.Proofs.Ytmpplimghjkjaab
