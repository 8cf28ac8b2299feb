/-
  The model's sameClass: what it returns.
-/
import Derived.Test.YtkgnijbdbkopkaaPjAi
import Derived.Deep.LoopGhost
import Derived.Deep.RegionHeld3
import Derived.Deep.QuietTactic
import Derived.BigQuiet
namespace Go.Proofs.Ytkgnijbdbkopkaa
open Go.RowKit
set_option linter.unusedVariables false

/-- nodes of an equal class that look alike, with kids of equal classes -/
def SameC (ns : List Nd) (cl : List Int) (i k : Nat) : Prop := look cl i = look cl k ∧ ∃ n m, ns[i]? = some n ∧ ns[k]? = some m ∧ sigOf cl n = sigOf cl m

set_option maxRecDepth 100000 in
set_option maxHeartbeats 2000000 in
theorem sameClass_any (A : Option Addr) (ns : List Nd) (c : Nat) (Ac : Option Addr) (cl : List Int) (cc : Nat) (i k : Nat) (w : World) (hr : NdsAt w w.heap.size A ns) (hC : IntsAt w w.heap.size Ac cl) (hl : cl.length = ns.length) (hK : KidsIn ns) (hi : i < ns.length) (hk : k < ns.length) :
    Calls Try.prog 29 #[.slice A ns.length c, .slice Ac cl.length cc, .int .i64 (i : Int), .int .i64 (k : Int)] w fun e w' => e = .returned (.bool (tf (SameC ns cl i k))) ∧ Below w.heap.size w w' := by
  have hnl := hr.len
  obtain ⟨b1, o1, x1, rfl, hb1, hx1, hm1, hc1⟩ := hC.at_ (k := i) (by omega)
  obtain ⟨b2, o2, x2, e2, hb2, hx2, hm2, hc2⟩ := hC.at_ (k := k) (by omega)
  injection e2 with e2
  injection e2 with e3 e4
  subst e3 e4
  obtain ⟨b, off, n, rfl, hbn, hn, hmn, hnd⟩ := hr.at_ hi
  obtain ⟨b3, o3, m, e2, hbm, hm, hmm, hnm⟩ := hr.at_ hk
  injection e2 with e2
  injection e2 with e3 e4
  subst e3 e4
  obtain ⟨An, cn, kn2, hkn, _⟩ := hnd.kids
  obtain ⟨Am, cm, km2, hkm, _⟩ := hnm.kids
  have kn0 := hnd.kind
  have kn1 := hnd.value
  have km0 := hnm.kind
  have km1 := hnm.value
  have HN := hide hn
  have HM := hide hm
  have HX1 := hide hx1
  have HX2 := hide hx2
  have hi0 : (0 : Int) ≤ (i : Int) := by omega
  have hi1 : (i : Int) < (ns.length : Int) := by omega
  have hi2 : (i : Int) < (cl.length : Int) := by omega
  have hk0 : (0 : Int) ≤ (k : Int) := by omega
  have hk1 : (k : Int) < (ns.length : Int) := by omega
  have hk2 : (k : Int) < (cl.length : Int) := by omega
  have HKn := hide (hK n hmn)
  have HKm := hide (hK m hmm)
  have Hl := hide hl
  have Hkn := hide hkn
  have Hkm := hide hkm
  have HCl := hide hC
  have hlkn := hkn.len
  have hb1' : b1 < w.heap.size := hb1
  have hlkm := hkm.len
  clear hn hm hx1 hx2 hmn hmm hm1 hm2 hr hC hK hnd hnm hkn hkm hl
  by_cases hx : x1 = x2
  · subst hx
    have t0 : (x1 != x1) = false := by simp
    by_cases ha : Alike n m
    · have Hlen : Hid (n.kids.length = m.kids.length) := ha.2.2
      have HA := hide ha
      have HAt := hide (tf_true ha)
      clear ha
      go_enter Try.func29, Try.ntmps29
      go_wp2_with fail
      go_region_held3 (fun w' => w'.cell? ⟨b1, o1 + i, none⟩ = some (.int .i64 x1) ∧ w'.cell? ⟨b1, o1 + k, none⟩ = some (.int .i64 x1) ∧ w'.cell? ⟨b, off + i * 3, none⟩ = some (.int .i64 n.kind) ∧ w'.cell? ⟨b, off + i * 3 + 1, none⟩ = some (.int .i64 n.value) ∧ w'.cell? ⟨b, off + i * 3 + 2, none⟩ = some (.slice An n.kids.length cn) ∧ w'.cell? ⟨b, off + k * 3, none⟩ = some (.int .i64 m.kind) ∧ w'.cell? ⟨b, off + k * 3 + 1, none⟩ = some (.int .i64 m.value) ∧ w'.cell? ⟨b, off + k * 3 + 2, none⟩ = some (.slice Am m.kids.length cm))
        (first
          | (go_split_ands; refine ⟨?_, ?_, ?_, ?_, ?_, ?_, ?_, ?_⟩ <;> assumption))
        (first
          | (go_at_call 44; refine (alike_any An Am cn cm n m w.drew).mono ?_; rintro e w1 ⟨rfl, hb1⟩; have hbw : Below w.heap.size w w1 := (Below.refl _ _).drew.trans (hb1.mono (by simp)); have p0 := (hbw.cell (p := ⟨b1, o1 + i, none⟩) hb1').trans hc1; have p1 := (hbw.cell (p := ⟨b1, o1 + k, none⟩) hb1').trans hc2; have p2 := (hbw.cell (p := ⟨b, off + i * 3, none⟩) hbn).trans kn0; have p3 := (hbw.cell (p := ⟨b, off + i * 3 + 1, none⟩) hbn).trans kn1; have p4 := (hbw.cell (p := ⟨b, off + i * 3 + 2, none⟩) hbn).trans kn2; have p5 := (hbw.cell (p := ⟨b, off + k * 3, none⟩) hbn).trans km0; have p6 := (hbw.cell (p := ⟨b, off + k * 3 + 1, none⟩) hbn).trans km1; have p7 := (hbw.cell (p := ⟨b, off + k * 3 + 2, none⟩) hbn).trans km2))
      rw [HAt.out]
      have HB := hide hbw
      have hnlt : b < w1.heap.size := by have := hbw.size; omega
      clear hbw hb1 p0 p1 p2 p3 p5 p6
      clear hc1 hc2 kn0 kn1 kn2 km0 km1 km2
      go_wp2_with fail
      go_loopg [9] n.kids.length (fun gk jv wr => ∃ j : Nat, j ≤ n.kids.length ∧ gk = n.kids.length - j ∧ jv = .int .i64 (j : Int) ∧ Below w.heap.size w wr ∧ w1.heap.size ≤ wr.heap.size ∧ wr.cell? ⟨b, off + i * 3 + 2, none⟩ = some (.slice An n.kids.length cn) ∧ wr.cell? ⟨b, off + k * 3 + 2, none⟩ = some (.slice Am m.kids.length cm) ∧ ∀ (q : Nat) (x y : Int), q < j → n.kids[q]? = some x → m.kids[q]? = some y → look cl x = look cl y)
      case atStart => exact ⟨0, Nat.zero_le _, rfl, rfl, HB.out, Nat.le_refl _, p4, p7, fun q x y hq => absurd hq (by omega)⟩
      case round =>
        clear p4 p7
        obtain ⟨j, hj, rfl, rfl, hb, hsz, e4, e7, hall0⟩ := hrel
        have hall := hide hall0
        have Hb := hide hb
        clear hall0 hb
        by_cases hlj : j < n.kids.length
        · obtain ⟨b5, o5, x, rfl, hb5, hx, hxm, hcx⟩ := (Hkn.out.below Hb.out).at_ hlj
          obtain ⟨b6, o6, y, rfl, hb6, hy, hym, hcy⟩ := (Hkm.out.below Hb.out).at_ (k := j) (by have := Hlen.out; omega)
          have HX := hide hx
          have HY := hide hy
          obtain ⟨x0, x2⟩ := HKn.out x hxm
          obtain ⟨y0, y2⟩ := HKm.out y hym
          obtain ⟨xn, rfl⟩ := Int.eq_ofNat_of_zero_le x0
          obtain ⟨yn, rfl⟩ := Int.eq_ofNat_of_zero_le y0
          obtain ⟨b7, o7, u, e1, hb7, hu, _, hcu⟩ := (HCl.out.below Hb.out).at_ (k := xn) (by have := Hl.out; omega)
          injection e1 with e1
          injection e1 with e2 e3
          subst e2 e3
          obtain ⟨b8, o8, v, e1, hb8, hv, _, hcv⟩ := (HCl.out.below Hb.out).at_ (k := yn) (by have := Hl.out; omega)
          injection e1 with e1
          injection e1 with e2 e3
          subst e2 e3
          have HU := hide (look_at hu)
          have HV := hide (look_at hv)
          have hxc : (xn : Int) < (cl.length : Int) := by have := Hl.out; omega
          have hyc : (yn : Int) < (cl.length : Int) := by have := Hl.out; omega
          have hj0 : (0 : Int) ≤ (j : Int) := by omega
          have hj1 : (j : Int) < (n.kids.length : Int) := by omega
          have hj2 : (j : Int) < (m.kids.length : Int) := by have := Hlen.out; omega
          clear hx hy hxm hym x2 y2 hu hv hb5 hb6 hb7 hb8
          by_cases huv : u = v
          · subst huv
            have t3 : (u != u) = false := by simp
            go_wp2_with fail
            go_quiet (fail)
            go_wp2
            go_roundg (n.kids.length - (j + 1))
            case measure => omega
            case rel => exact ⟨j + 1, by omega, rfl, by go_num, below_drewN Hb.out _, by simpa using hsz, by simpa using e4, by simpa using e7, fun q a c hq ha hc => by
              by_cases e : q = j
              · subst e
                rw [HX.out] at ha
                rw [HY.out] at hc
                injection ha with ha
                injection hc with hc
                rw [← ha, ← hc, HU.out, HV.out]
              · exact hall.out q a c (by omega) ha hc⟩
          · have t3 : (u != v) = true := by simpa using huv
            have HF := hide (show tf (SameC ns cl i k) = false from tf_false (fun h => by
              obtain ⟨_, n', m', g1, g2, g3⟩ := h
              rw [HN.out] at g1
              rw [HM.out] at g2
              injection g1 with g1
              injection g2 with g2
              subst g1 g2
              have := (alike_sig g3).2 j _ _ HX.out HY.out
              rw [HU.out, HV.out] at this
              exact huv this))
            clear huv
            go_wp2_with fail
            go_quiet (fail)
            go_wp2
            go_ret
            exact ⟨ret_bool HF.out.symm, below_drewN Hb.out _⟩
        · obtain rfl : j = n.kids.length := by omega
          have HF := hide (show tf (SameC ns cl i k) = true from tf_true ⟨by rw [look_at HX1.out, look_at HX2.out], n, m, HN.out, HM.out, sig_alike HA.out (fun q x y hx hy => hall.out q x y (List.getElem?_eq_some_iff.1 hx).1 hx hy)⟩)
          have hj1 : decide ((n.kids.length : Int) < (n.kids.length : Int)) = false := by simp
          go_wp2
          go_ret
          exact ⟨ret_bool HF.out.symm, Hb.out⟩
    · have HF := hide (show tf (SameC ns cl i k) = false from tf_false (fun h => by
        obtain ⟨_, n', m', g1, g2, g3⟩ := h
        rw [HN.out] at g1
        rw [HM.out] at g2
        injection g1 with g1
        injection g2 with g2
        subst g1 g2
        exact ha (alike_sig g3).1))
      have HAt := hide (tf_false ha)
      clear ha
      go_enter Try.func29, Try.ntmps29
      go_wp2_with fail
      go_region_held3 (fun w' => w'.cell? ⟨b1, o1 + i, none⟩ = some (.int .i64 x1) ∧ w'.cell? ⟨b1, o1 + k, none⟩ = some (.int .i64 x1) ∧ w'.cell? ⟨b, off + i * 3, none⟩ = some (.int .i64 n.kind) ∧ w'.cell? ⟨b, off + i * 3 + 1, none⟩ = some (.int .i64 n.value) ∧ w'.cell? ⟨b, off + i * 3 + 2, none⟩ = some (.slice An n.kids.length cn) ∧ w'.cell? ⟨b, off + k * 3, none⟩ = some (.int .i64 m.kind) ∧ w'.cell? ⟨b, off + k * 3 + 1, none⟩ = some (.int .i64 m.value) ∧ w'.cell? ⟨b, off + k * 3 + 2, none⟩ = some (.slice Am m.kids.length cm))
        (first
          | (go_split_ands; refine ⟨?_, ?_, ?_, ?_, ?_, ?_, ?_, ?_⟩ <;> assumption))
        (first
          | (go_at_call 44; refine (alike_any An Am cn cm n m w.drew).mono ?_; rintro e w1 ⟨rfl, hb1⟩; have hbw : Below w.heap.size w w1 := (Below.refl _ _).drew.trans (hb1.mono (by simp)); have p0 := (hbw.cell (p := ⟨b1, o1 + i, none⟩) hb1').trans hc1; have p1 := (hbw.cell (p := ⟨b1, o1 + k, none⟩) hb1').trans hc2; have p2 := (hbw.cell (p := ⟨b, off + i * 3, none⟩) hbn).trans kn0; have p3 := (hbw.cell (p := ⟨b, off + i * 3 + 1, none⟩) hbn).trans kn1; have p4 := (hbw.cell (p := ⟨b, off + i * 3 + 2, none⟩) hbn).trans kn2; have p5 := (hbw.cell (p := ⟨b, off + k * 3, none⟩) hbn).trans km0; have p6 := (hbw.cell (p := ⟨b, off + k * 3 + 1, none⟩) hbn).trans km1; have p7 := (hbw.cell (p := ⟨b, off + k * 3 + 2, none⟩) hbn).trans km2))
      rw [HAt.out]
      have HB := hide hbw
      go_wp2
      go_ret
      exact ⟨ret_bool HF.out.symm, HB.out⟩
  · have HF := hide (show tf (SameC ns cl i k) = false from tf_false (fun h => hx (by
      have := h.1
      rw [look_at HX1.out, look_at HX2.out] at this
      exact this)))
    have t0 : (x1 != x2) = true := by simpa using hx
    clear hx
    go_enter Try.func29, Try.ntmps29
    go_wp2_with fail
    go_quiet (fail)
    go_wp2
    go_ret
    exact ⟨ret_bool HF.out.symm, below_drewN (Below.refl _ _) _⟩

end Go.Proofs.Ytkgnijbdbkopkaa
