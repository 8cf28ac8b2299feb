/-
  The model's treeSize and TreeSize.
-/
import Derived.Test.YtmpplimghjkjaaeTree
import Derived.StillTailTactics
import Derived.Deep.RegionHeld3
namespace Go.Proofs.Ytmpplimghjkjaae
open Go.RowKit
set_option linter.unusedVariables false

set_option maxRecDepth 100000 in
set_option maxHeartbeats 2000000 in
theorem treeSize1_any (ns : List Nd) (r : Int) (hv : ValidG ns r) (A : Option Addr) (c : Nat) (d : Nat)
    (ih : ∀ (m i : Nat) (w : World), i < ns.length → 1 ≤ m → m ≤ d → d ≤ 5000 → NdsAt w w.heap.size A ns →
      Calls Try.prog 16 #[.agg #[.slice A ns.length c, .int .i64 r], .int .i64 (i : Int), .int .i64 (m : Int)] w fun e w' => e = .returned (.int .i64 ((min (unf ns d i) m : Nat) : Int)) ∧ Below w.heap.size w w')
    (m i : Nat) (w : World) (hi : i < ns.length) (hm1 : 1 ≤ m) (hmd : m ≤ d + 1) (hd : d + 1 ≤ 5000) (hr : NdsAt w w.heap.size A ns) :
      Calls Try.prog 16 #[.agg #[.slice A ns.length c, .int .i64 r], .int .i64 (i : Int), .int .i64 (m : Int)] w fun e w' => e = .returned (.int .i64 ((min (unf ns (d + 1) i) m : Nat) : Int)) ∧ Below w.heap.size w w' := by
  have hB : Below w.heap.size w (w.alloc (.cells #[.slice A ns.length c, .int .i64 r] 25)) := (Below.refl _ _).alloc (Nat.le_refl _) _
  have l1 := Lies.new w #[.slice A ns.length c, .int .i64 r] 25
  have hr2 := hr.below hB
  have hk := kidsIn_of_valid hv
  have HV := hide hv
  have Hk := hide hk
  have Hih := hide ih
  have hi1 : (0 : Int) ≤ (i : Int) := by omega
  have hi2 : (i : Int) < (ns.length : Int) := by omega
  have hus : Hid (unf ns (d + 1) i = unfTo ns d (kidsOf ns i)) := unf_succ ns d i
  clear hr hv hk ih
  go_enter Try.func16, Try.ntmps16
  go_wp2_with fail
  generalize hWd : w.alloc (.cells #[.slice A ns.length c, .int .i64 r] 25) = W at hB l1 hr2 ⊢
  have HWs : Hid (W.heap.size = w.heap.size + 1) := by show W.heap.size = _; rw [← hWd]; simp
  clear hWd
  go_loopw [7, 8] (fun nv iv wr => ∃ (k q : Nat), k ≤ (kidsOf ns i).length ∧ iv = .int .i64 k ∧ nv = .int .i64 q ∧ q = min (unfTo ns d ((kidsOf ns i).take k)) m ∧ Below W.heap.size W wr) (fun _ iv _ => (kidsOf ns i).length - (intOf iv).toNat)
  case atStart => exact ⟨0, 1, Nat.zero_le _, rfl, rfl, by rw [List.take_zero, unfTo_nil]; omega, Below.refl _ _⟩
  case round =>
    obtain ⟨k, q, hkl, rfl, rfl, hq, hb⟩ := hrel
    obtain ⟨b, off, n, rfl, hbl, hat, hmem, hN⟩ := (hr2.below (hb.mono (by have := HWs.out; omega))).at_ hi
    obtain ⟨hn_k, hn_v, ⟨A1, c1, hn_s, hI1, _⟩, _, _⟩ := hN
    have hkids : Hid (kidsOf ns (i : Int) = n.kids) := kidsOf_at hat
    have hk6 := (HV.out.nodes n hmem).few
    have hpos := unfTo_pos ns d ((kidsOf ns i).take k)
    have hq1 : 1 ≤ q := by omega
    have hqm : q ≤ m := by omega
    have Hq := hide hq
    rw [hkids.out] at hkl
    have lr := l1.below hb (by have := HWs.out; omega)
    have e0 := lr.cell 0
    have e1 := lr.cell 1
    simp at e0 e1
    have HB := hide hb
    clear hat hmem lr hq hpos
    by_cases hlt : k < n.kids.length
    · by_cases hqlt : q < m
      · obtain ⟨bk, ok, x, rfl, hbk, hx, hxm, hcx⟩ := hI1.at_ hlt
        obtain ⟨hx0, hx1⟩ := Hk.out.of (i : Int) x (by rw [hkids.out]; exact hxm)
        obtain ⟨y, rfl⟩ := Int.eq_ofNat_of_zero_le hx0
        have Hx := hide hx
        have hk1 : (0 : Int) ≤ (k : Int) := by omega
        have hk2 : (k : Int) < (n.kids.length : Int) := by omega
        have hq2 : (q : Int) < (m : Int) := by omega
        have hbd : Below W.heap.size W wr.drew := hb.drew
        have hrd : NdsAt wr.drew wr.drew.heap.size (some ⟨b, off, none⟩) ns := (hr2.below (hb.mono (by have := HWs.out; omega))).later (Below.refl _ _).drew (by have := HWs.out; have := hb.size; omega)
        have hcall := hide (fun X : World => fun h : NdsAt X X.heap.size (some ⟨b, off, none⟩) ns => Hih.out (m - q) y X (by omega) (by omega) (by omega) (by omega) h)
        have hwr : IntKind.i64.wrap ((m : Int) - (q : Int)) = ((m - q : Nat) : Int) := by rw [IntKind.wrap_i64]; omega
        have Hwr := hide hwr
        clear hwr
        have z1 : w.heap.size < wr.heap.size := by have := HWs.out; have := HB.out.size; omega
        have z2 : b < wr.heap.size := by omega
        have z3 : bk < wr.heap.size := by omega
        clear hx hxm hI1 hb HB
        go_wp2_with fail
        go_region_held3 (fun w' => w'.cell? ⟨w.heap.size, 0, none⟩ = some (.slice (some ⟨b, off, none⟩) ns.length c) ∧ w'.cell? ⟨w.heap.size, 1, none⟩ = some (.int .i64 r) ∧ w'.cell? ⟨b, off + i * 3 + 2, none⟩ = some (.slice (some ⟨bk, ok, none⟩) n.kids.length c1) ∧ w'.cell? ⟨bk, ok + k, none⟩ = some (.int .i64 (y : Int)))
          (first
            | (go_split_ands; refine ⟨?_, ?_, ?_, ?_⟩ <;> assumption))
          (first
            | (go_at_call 16; rw [Hwr.out]; refine (hcall.out _ hrd).mono ?_; rintro e w4 ⟨rfl, hb4⟩; generalize hud : min (unf ns d y) (m - q) = u; have hule : u ≤ m - q := by omega
               have q0 := (hb4.cell (p := ⟨w.heap.size, 0, none⟩) z1).trans e0; have q1 := (hb4.cell (p := ⟨w.heap.size, 1, none⟩) z1).trans e1; have q2 := (hb4.cell (p := ⟨b, off + i * 3 + 2, none⟩) z2).trans hn_s; have q3 := (hb4.cell (p := ⟨bk, ok + k, none⟩) z3).trans hcx))
        have HB4 := hide (hbd.trans (hb4.mono hbd.size))
        have hnew : Hid (q + u = min (unfTo ns d (n.kids.take (k + 1))) m) := by
          show _ = _
          have h := Hq.out
          rw [hkids.out] at h
          rw [List.take_add_one, Hx.out, Option.toList_some, unfTo_snoc]
          omega
        have hwq : Hid (IntKind.i64.wrap ((q : Int) + (u : Int)) = ((q + u : Nat) : Int)) := by show _ = _; rw [IntKind.wrap_i64]; omega
        clear hb4 hrd hbd hcall hud
        go_wp2
        go_roundw
        case rel => exact ⟨k + 1, q + u, by rw [hkids.out]; omega, by go_num, by rw [hwq.out], by rw [hkids.out]; exact hnew.out, HB4.out⟩
        case measure => rw [hkids.out]; simp [intOf]; omega
      · have hqe : q = m := by omega
        have hq2 : ¬ (q : Int) < (m : Int) := by omega
        have hk1 : (0 : Int) ≤ (k : Int) := by omega
        have hk2 : (k : Int) < (n.kids.length : Int) := by omega
        have hfin : Hid ((q : Int) = ((min (unf ns (d + 1) i) m : Nat) : Int)) := by
          show _ = _
          have h := Hq.out
          have hp := unfTo_part ns d (kidsOf ns i) k
          rw [hus.out]
          omega
        have HBw := hide (hB.trans (HB.out.mono (by have := HWs.out; omega)))
        subst hqe
        clear hb HB hI1
        go_wp2
        go_ret
        exact ⟨ret_int (by have := hfin.out; omega), HBw.out⟩
    · obtain rfl : k = n.kids.length := by omega
      have hfin : Hid ((q : Int) = ((min (unf ns (d + 1) i) m : Nat) : Int)) := by
        show _ = _
        have h := Hq.out
        rw [hkids.out, List.take_length] at h
        rw [hus.out, hkids.out]
        omega
      have HBw := hide (hB.trans (HB.out.mono (by have := HWs.out; omega)))
      clear hlt hb HB hI1
      go_wp2
      go_ret
      exact ⟨ret_int (by have := hfin.out; omega), HBw.out⟩

theorem treeSize_any (ns : List Nd) (r : Int) (hv : ValidG ns r) (A : Option Addr) (c : Nat) : ∀ (d m i : Nat) (w : World), i < ns.length → 1 ≤ m → m ≤ d → d ≤ 5000 → NdsAt w w.heap.size A ns →
      Calls Try.prog 16 #[.agg #[.slice A ns.length c, .int .i64 r], .int .i64 (i : Int), .int .i64 (m : Int)] w fun e w' => e = .returned (.int .i64 ((min (unf ns d i) m : Nat) : Int)) ∧ Below w.heap.size w w'
  | 0, m, i, w, _, h1, h2, _, _ => by omega
  | d + 1, m, i, w, hi, h1, h2, h3, hr => treeSize1_any ns r hv A c d (fun m i w a1 a2 a3 a4 a5 => treeSize_any ns r hv A c d m i w a1 a2 a3 a4 a5) m i w hi h1 h2 h3 hr

set_option maxRecDepth 100000 in
set_option maxHeartbeats 1000000 in
theorem specTreeSize_any (A : Option Addr) (ns : List Nd) (c : Nat) (r : Int) (w : World) (hr : NdsAt w w.heap.size A ns) :
    Calls Try.prog 6 #[.agg #[.slice A ns.length c, .int .i64 r]] w fun e w' => e = .returned (.int .i64 (treeSizeOf ns r)) ∧ Below w.heap.size w w' := by
  have hB : Below w.heap.size w (w.alloc (.cells #[.slice A ns.length c, .int .i64 r] 25)) := (Below.refl _ _).alloc (Nat.le_refl _) _
  have l1 := Lies.new w #[.slice A ns.length c, .int .i64 r] 25
  have hr2 := hr.below hB
  clear hr
  go_enter Try.func6, Try.ntmps6
  go_wp2_with fail
  generalize w.alloc (.cells #[.slice A ns.length c, .int .i64 r] 25) = W at hB l1 hr2 ⊢
  refine (specValidGraph_any A ns c r W (hr2.more hB.size)).mono ?_
  rintro e w1 ⟨rfl, hb1⟩
  have l2 := l1.below hb1 l1.lt
  have hr3 := hr2.below (hb1.mono hB.size)
  have hB1 := hB.trans (hb1.mono hB.size)
  have e0 := l2.cell 0
  have e1 := l2.cell 1
  simp at e0 e1
  have hsz := l2.lt
  have hws := hB1.size
  clear l1 hr2 hb1 hB
  by_cases hv : ValidG ns r
  · rw [tf_true hv]
    have HV := hide hv
    obtain ⟨i, rfl⟩ := Int.eq_ofNat_of_zero_le hv.root0
    have hi : i < ns.length := by have := hv.root; omega
    have hcall := hide (fun X : World => fun h : NdsAt X X.heap.size A ns => treeSize_any ns (i : Int) HV.out A c 5000 5000 i X hi (by omega) (by omega) (by omega) h)
    have hr4 := hr3.more hws
    clear hv l2
    go_wp2_with fail
    refine (hcall.out w1 hr4).mono ?_
    rintro e w2 ⟨rfl, hb2⟩
    have hfin : Hid (((min (unf ns 5000 (i : Int)) 5000 : Nat) : Int) = treeSizeOf ns (i : Int)) := by
      show _ = _
      unfold treeSizeOf treeN
      rw [if_pos HV.out]
    have HBw := hide (hB1.trans (hb2.mono hws))
    generalize min (unf ns 5000 (i : Int)) 5000 = u at hfin ⊢
    clear hb2 hcall hr3 hr4
    go_wp2
    go_ret
    exact ⟨ret_int hfin.out, HBw.out⟩
  · rw [tf_false hv]
    have hfin : Hid ((-1 : Int) = treeSizeOf ns r) := by
      show _ = _
      unfold treeSizeOf
      rw [if_neg hv]
    have HBw := hide hB1
    clear hv l2
    go_wp2
    go_ret
    exact ⟨ret_int hfin.out, HBw.out⟩

end Go.Proofs.Ytmpplimghjkjaae
