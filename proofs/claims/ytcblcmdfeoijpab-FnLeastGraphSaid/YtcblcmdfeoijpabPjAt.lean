/-
  Lemmas, several texts in one: AlkS, ClnI.
-/
import Derived.Test.YtcblcmdfeoijpabPjAo
import Derived.Deep.LoopGhost
import Derived.Deep.RegionHeld3
import Derived.Deep.QuietTactic
import Derived.BigQuiet
import Derived.Test.YtcblcmdfeoijpabPjAh
import Derived.Test.YtcblcmdfeoijpabPjAd
import Derived.Deep.Cut
import Derived.Deep.RegionHeld
namespace Go.Proofs.Ytcblcmdfeoijpab
open Go.RowKit
set_option linter.unusedVariables false

/-- nodes of an equal class that look alike, with kids of equal classes -/
def SameC (ns : List Nd) (cl : List Int) (i k : Nat) : Prop := look cl i = look cl k ∧ ∃ n m, ns[i]? = some n ∧ ns[k]? = some m ∧ sigOf cl n = sigOf cl m

set_option maxRecDepth 100000 in
set_option maxHeartbeats 2000000 in
theorem sameClass_any (A : Option Addr) (ns : List Nd) (c : Nat) (Ac : Option Addr) (cl : List Int) (cc : Nat) (i k : Nat) (w : World) (hr : NdsAt w w.heap.size A ns) (hC : IntsAt w w.heap.size Ac cl) (hl : cl.length = ns.length) (hK : KidsIn ns) (hi : i < ns.length) (hk : k < ns.length) :
    Calls Try.prog 57 #[.slice A ns.length c, .slice Ac cl.length cc, .int .i64 (i : Int), .int .i64 (k : Int)] w fun e w' => e = .returned (.bool (tf (SameC ns cl i k))) ∧ Below w.heap.size w w' := by
  have hnl := hr.len
  obtain ⟨b1, o1, x1, rfl, hb1, hx1, hm1, hc1⟩ := hC.at_ (k := i) (by omega)
  obtain ⟨b2, o2, x2, e2, hb2, hx2, hm2, hc2⟩ := hC.at_ (k := k) (by omega)
  injection e2 with e2
  injection e2 with e3 e4
  subst e3 e4
  obtain ⟨b, off, n, rfl, hbn, hn, hmn, hnd⟩ := hr.at_ hi
  obtain ⟨b3, o3, m, e2, hbm, hm, hmm, hnm⟩ := hr.at_ hk
  injection e2 with e2
  injection e2 with e3 e4
  subst e3 e4
  obtain ⟨An, cn, kn2, hkn, _⟩ := hnd.kids
  obtain ⟨Am, cm, km2, hkm, _⟩ := hnm.kids
  have kn0 := hnd.kind
  have kn1 := hnd.value
  have km0 := hnm.kind
  have km1 := hnm.value
  have HN := hide hn
  have HM := hide hm
  have HX1 := hide hx1
  have HX2 := hide hx2
  have hi0 : (0 : Int) ≤ (i : Int) := by omega
  have hi1 : (i : Int) < (ns.length : Int) := by omega
  have hi2 : (i : Int) < (cl.length : Int) := by omega
  have hk0 : (0 : Int) ≤ (k : Int) := by omega
  have hk1 : (k : Int) < (ns.length : Int) := by omega
  have hk2 : (k : Int) < (cl.length : Int) := by omega
  have HKn := hide (hK n hmn)
  have HKm := hide (hK m hmm)
  have Hl := hide hl
  have Hkn := hide hkn
  have Hkm := hide hkm
  have HCl := hide hC
  have hlkn := hkn.len
  have hb1' : b1 < w.heap.size := hb1
  have hlkm := hkm.len
  clear hn hm hx1 hx2 hmn hmm hm1 hm2 hr hC hK hnd hnm hkn hkm hl
  by_cases hx : x1 = x2
  · subst hx
    have t0 : (x1 != x1) = false := by simp
    by_cases ha : Alike n m
    · have Hlen : Hid (n.kids.length = m.kids.length) := ha.2.2
      have HA := hide ha
      have HAt := hide (tf_true ha)
      clear ha
      go_enter Try.func57, Try.ntmps57
      go_wp2_with fail
      go_region_held3 (fun w' => w'.cell? ⟨b1, o1 + i, none⟩ = some (.int .i64 x1) ∧ w'.cell? ⟨b1, o1 + k, none⟩ = some (.int .i64 x1) ∧ w'.cell? ⟨b, off + i * 3, none⟩ = some (.int .i64 n.kind) ∧ w'.cell? ⟨b, off + i * 3 + 1, none⟩ = some (.int .i64 n.value) ∧ w'.cell? ⟨b, off + i * 3 + 2, none⟩ = some (.slice An n.kids.length cn) ∧ w'.cell? ⟨b, off + k * 3, none⟩ = some (.int .i64 m.kind) ∧ w'.cell? ⟨b, off + k * 3 + 1, none⟩ = some (.int .i64 m.value) ∧ w'.cell? ⟨b, off + k * 3 + 2, none⟩ = some (.slice Am m.kids.length cm))
        (first
          | (go_split_ands; refine ⟨?_, ?_, ?_, ?_, ?_, ?_, ?_, ?_⟩ <;> assumption))
        (first
          | (go_at_call 69; refine (alike_any An Am cn cm n m w.drew).mono ?_; rintro e w1 ⟨rfl, hb1⟩; have hbw : Below w.heap.size w w1 := (Below.refl _ _).drew.trans (hb1.mono (by simp)); have p0 := (hbw.cell (p := ⟨b1, o1 + i, none⟩) hb1').trans hc1; have p1 := (hbw.cell (p := ⟨b1, o1 + k, none⟩) hb1').trans hc2; have p2 := (hbw.cell (p := ⟨b, off + i * 3, none⟩) hbn).trans kn0; have p3 := (hbw.cell (p := ⟨b, off + i * 3 + 1, none⟩) hbn).trans kn1; have p4 := (hbw.cell (p := ⟨b, off + i * 3 + 2, none⟩) hbn).trans kn2; have p5 := (hbw.cell (p := ⟨b, off + k * 3, none⟩) hbn).trans km0; have p6 := (hbw.cell (p := ⟨b, off + k * 3 + 1, none⟩) hbn).trans km1; have p7 := (hbw.cell (p := ⟨b, off + k * 3 + 2, none⟩) hbn).trans km2))
      rw [HAt.out]
      have HB := hide hbw
      have hnlt : b < w1.heap.size := by have := hbw.size; omega
      clear hbw hb1 p0 p1 p2 p3 p5 p6
      clear hc1 hc2 kn0 kn1 kn2 km0 km1 km2
      go_wp2_with fail
      go_loopg [9] n.kids.length (fun gk jv wr => ∃ j : Nat, j ≤ n.kids.length ∧ gk = n.kids.length - j ∧ jv = .int .i64 (j : Int) ∧ Below w.heap.size w wr ∧ w1.heap.size ≤ wr.heap.size ∧ wr.cell? ⟨b, off + i * 3 + 2, none⟩ = some (.slice An n.kids.length cn) ∧ wr.cell? ⟨b, off + k * 3 + 2, none⟩ = some (.slice Am m.kids.length cm) ∧ ∀ (q : Nat) (x y : Int), q < j → n.kids[q]? = some x → m.kids[q]? = some y → look cl x = look cl y)
      case atStart => exact ⟨0, Nat.zero_le _, rfl, rfl, HB.out, Nat.le_refl _, p4, p7, fun q x y hq => absurd hq (by omega)⟩
      case round =>
        clear p4 p7
        obtain ⟨j, hj, rfl, rfl, hb, hsz, e4, e7, hall0⟩ := hrel
        have hall := hide hall0
        have Hb := hide hb
        clear hall0 hb
        by_cases hlj : j < n.kids.length
        · obtain ⟨b5, o5, x, rfl, hb5, hx, hxm, hcx⟩ := (Hkn.out.below Hb.out).at_ hlj
          obtain ⟨b6, o6, y, rfl, hb6, hy, hym, hcy⟩ := (Hkm.out.below Hb.out).at_ (k := j) (by have := Hlen.out; omega)
          have HX := hide hx
          have HY := hide hy
          obtain ⟨x0, x2⟩ := HKn.out x hxm
          obtain ⟨y0, y2⟩ := HKm.out y hym
          obtain ⟨xn, rfl⟩ := Int.eq_ofNat_of_zero_le x0
          obtain ⟨yn, rfl⟩ := Int.eq_ofNat_of_zero_le y0
          obtain ⟨b7, o7, u, e1, hb7, hu, _, hcu⟩ := (HCl.out.below Hb.out).at_ (k := xn) (by have := Hl.out; omega)
          injection e1 with e1
          injection e1 with e2 e3
          subst e2 e3
          obtain ⟨b8, o8, v, e1, hb8, hv, _, hcv⟩ := (HCl.out.below Hb.out).at_ (k := yn) (by have := Hl.out; omega)
          injection e1 with e1
          injection e1 with e2 e3
          subst e2 e3
          have HU := hide (look_at hu)
          have HV := hide (look_at hv)
          have hxc : (xn : Int) < (cl.length : Int) := by have := Hl.out; omega
          have hyc : (yn : Int) < (cl.length : Int) := by have := Hl.out; omega
          have hj0 : (0 : Int) ≤ (j : Int) := by omega
          have hj1 : (j : Int) < (n.kids.length : Int) := by omega
          have hj2 : (j : Int) < (m.kids.length : Int) := by have := Hlen.out; omega
          clear hx hy hxm hym x2 y2 hu hv hb5 hb6 hb7 hb8
          by_cases huv : u = v
          · subst huv
            have t3 : (u != u) = false := by simp
            go_wp2_with fail
            go_quiet (fail)
            go_wp2
            go_roundg (n.kids.length - (j + 1))
            case measure => omega
            case rel => exact ⟨j + 1, by omega, rfl, by go_num, below_drewN Hb.out _, by simpa using hsz, by simpa using e4, by simpa using e7, fun q a c hq ha hc => by
              by_cases e : q = j
              · subst e
                rw [HX.out] at ha
                rw [HY.out] at hc
                injection ha with ha
                injection hc with hc
                rw [← ha, ← hc, HU.out, HV.out]
              · exact hall.out q a c (by omega) ha hc⟩
          · have t3 : (u != v) = true := by simpa using huv
            have HF := hide (show tf (SameC ns cl i k) = false from tf_false (fun h => by
              obtain ⟨_, n', m', g1, g2, g3⟩ := h
              rw [HN.out] at g1
              rw [HM.out] at g2
              injection g1 with g1
              injection g2 with g2
              subst g1 g2
              have := (alike_sig g3).2 j _ _ HX.out HY.out
              rw [HU.out, HV.out] at this
              exact huv this))
            clear huv
            go_wp2_with fail
            go_quiet (fail)
            go_wp2
            go_ret
            exact ⟨ret_bool HF.out.symm, below_drewN Hb.out _⟩
        · obtain rfl : j = n.kids.length := by omega
          have HF := hide (show tf (SameC ns cl i k) = true from tf_true ⟨by rw [look_at HX1.out, look_at HX2.out], n, m, HN.out, HM.out, sig_alike HA.out (fun q x y hx hy => hall.out q x y (List.getElem?_eq_some_iff.1 hx).1 hx hy)⟩)
          have hj1 : decide ((n.kids.length : Int) < (n.kids.length : Int)) = false := by simp
          go_wp2
          go_ret
          exact ⟨ret_bool HF.out.symm, Hb.out⟩
    · have HF := hide (show tf (SameC ns cl i k) = false from tf_false (fun h => by
        obtain ⟨_, n', m', g1, g2, g3⟩ := h
        rw [HN.out] at g1
        rw [HM.out] at g2
        injection g1 with g1
        injection g2 with g2
        subst g1 g2
        exact ha (alike_sig g3).1))
      have HAt := hide (tf_false ha)
      clear ha
      go_enter Try.func57, Try.ntmps57
      go_wp2_with fail
      go_region_held3 (fun w' => w'.cell? ⟨b1, o1 + i, none⟩ = some (.int .i64 x1) ∧ w'.cell? ⟨b1, o1 + k, none⟩ = some (.int .i64 x1) ∧ w'.cell? ⟨b, off + i * 3, none⟩ = some (.int .i64 n.kind) ∧ w'.cell? ⟨b, off + i * 3 + 1, none⟩ = some (.int .i64 n.value) ∧ w'.cell? ⟨b, off + i * 3 + 2, none⟩ = some (.slice An n.kids.length cn) ∧ w'.cell? ⟨b, off + k * 3, none⟩ = some (.int .i64 m.kind) ∧ w'.cell? ⟨b, off + k * 3 + 1, none⟩ = some (.int .i64 m.value) ∧ w'.cell? ⟨b, off + k * 3 + 2, none⟩ = some (.slice Am m.kids.length cm))
        (first
          | (go_split_ands; refine ⟨?_, ?_, ?_, ?_, ?_, ?_, ?_, ?_⟩ <;> assumption))
        (first
          | (go_at_call 69; refine (alike_any An Am cn cm n m w.drew).mono ?_; rintro e w1 ⟨rfl, hb1⟩; have hbw : Below w.heap.size w w1 := (Below.refl _ _).drew.trans (hb1.mono (by simp)); have p0 := (hbw.cell (p := ⟨b1, o1 + i, none⟩) hb1').trans hc1; have p1 := (hbw.cell (p := ⟨b1, o1 + k, none⟩) hb1').trans hc2; have p2 := (hbw.cell (p := ⟨b, off + i * 3, none⟩) hbn).trans kn0; have p3 := (hbw.cell (p := ⟨b, off + i * 3 + 1, none⟩) hbn).trans kn1; have p4 := (hbw.cell (p := ⟨b, off + i * 3 + 2, none⟩) hbn).trans kn2; have p5 := (hbw.cell (p := ⟨b, off + k * 3, none⟩) hbn).trans km0; have p6 := (hbw.cell (p := ⟨b, off + k * 3 + 1, none⟩) hbn).trans km1; have p7 := (hbw.cell (p := ⟨b, off + k * 3 + 2, none⟩) hbn).trans km2))
      rw [HAt.out]
      have HB := hide hbw
      go_wp2
      go_ret
      exact ⟨ret_bool HF.out.symm, HB.out⟩
  · have HF := hide (show tf (SameC ns cl i k) = false from tf_false (fun h => hx (by
      have := h.1
      rw [look_at HX1.out, look_at HX2.out] at this
      exact this)))
    have t0 : (x1 != x2) = true := by simpa using hx
    clear hx
    go_enter Try.func57, Try.ntmps57
    go_wp2_with fail
    go_quiet (fail)
    go_wp2
    go_ret
    exact ⟨ret_bool HF.out.symm, below_drewN (Below.refl _ _) _⟩

end Go.Proofs.Ytcblcmdfeoijpab

namespace Go.Proofs.Ytcblcmdfeoijpab
open Go.RowKit Go.Maps
set_option linter.unusedVariables false

set_option maxHeartbeats 1000000 in
theorem cloneI_any (A : Option Addr) (xs : List Int) (c : Nat) (w : World) (h : IntsAt w w.heap.size A xs) (hnil : A = none → c = 0) (hl : xs.length ≤ 1000000) :
    Calls Try.prog 74 #[.slice A xs.length c] w (GivesInts w xs) := by
  cases A with
  | none =>
    have hos : xs = [] := by
      cases xs with
      | nil => rfl
      | cons o os =>
        obtain ⟨b, off, e, _⟩ := h.row (by simp)
        cases e
    have hq := fun W : World => Go.Lib.run_eql_slice_nil (P := Try.prog) W 29 3 none 0 0 0 0 Try.underlying29
    subst hos
    obtain rfl := hnil rfl
    clear h hnil
    show Calls _ _ #[.slice none 0 0] _ _
    go_enter Try.func74, Try.ntmps74
    go_wp2
    go_ret
    exact ⟨none, 0, rfl, OwnI.empty _ _, Below.refl _ _⟩
  | some ad =>
    have hq := fun W : World => Go.Lib.run_eql_slice_nil (P := Try.prog) W 29 3 (some ad) xs.length c 0 0 Try.underlying29
    have HO := hide (OwnI.bare w)
    have HB := hide ((Below.refl w.heap.size w).alloc (Nat.le_refl _) (.cells #[] 3))
    have HA := hide (h.below HB.out)
    clear h
    go_enter Try.func74, Try.ntmps74
    go_wp2_with (at_builtin; refine append_ints rfl (.tmp 5) (.tmp 6) rfl w.heap.size _ 0 [] rfl HO.out w.heap.size (some ad) c xs rfl (fun e => by cases e) HA.out (by simp; omega) HB.out.size ?_; intro zs A5 c5 w5 e5 own5 hg5 _; have HG5 := hide hg5; have HO5 := hide own5; clear hg5 own5)
    go_ret
    have e6 : zs = xs := by rw [e5.out, List.nil_append]
    subst e6
    exact ⟨A5, c5, rfl, HO5.out, below_grown HB.out HG5.out HB.out.size (fun q hq => (HO.out.blocks q hq).1)⟩

set_option maxRecDepth 100000 in
set_option maxHeartbeats 1000000 in
theorem clonedNode_any (n : Nd) (A : Option Addr) (c : Nat) (w : World) (hI : IntsAt w w.heap.size A n.kids) (hnil : A = none → c = 0) (hk : n.kids.length ≤ 1000) :
    Calls Try.prog 64 #[.agg #[.int .i64 n.kind, .int .i64 n.value, .slice A n.kids.length c]] w (GivesNd w n.kind n.value n.kids) := by
  have hB : Below w.heap.size w ((w.alloc (.cells #[.int .i64 n.kind, .int .i64 n.value, .slice A n.kids.length c] 41)).alloc (.cells #[.int .i64 0, .int .i64 0, .slice none 0 0] 41)) := ((Below.refl _ _).alloc (Nat.le_refl _) _).alloc (by simp) _
  have l1 := (Lies.new w #[.int .i64 n.kind, .int .i64 n.value, .slice A n.kids.length c] 41).alloc (.cells #[.int .i64 0, .int .i64 0, .slice none 0 0] 41)
  have l2 := Lies.new (w.alloc (.cells #[.int .i64 n.kind, .int .i64 n.value, .slice A n.kids.length c] 41)) #[.int .i64 0, .int .i64 0, .slice none 0 0] 41
  simp only [World.size_alloc] at l2
  have HI := hide (hI.later hB (Nat.le_refl _))
  clear hI
  go_enter Try.func64, Try.ntmps64
  go_upto_region 1 with fail
  generalize (w.alloc (.cells #[.int .i64 n.kind, .int .i64 n.value, .slice A n.kids.length c] 41)).alloc (.cells #[.int .i64 0, .int .i64 0, .slice none 0 0] 41) = W at hB l1 l2 HI ⊢
  have HL1 := hide l1
  have HL2 := hide l2
  have HB := hide hB
  have hq1 : w.heap.size < W.heap.size := l1.lt
  have hq2 : w.heap.size + 1 < W.heap.size := l2.lt
  have e0 := l1.cell 0
  have e1 := l1.cell 1
  have e2 := l1.cell 2
  simp only [List.getElem?_toArray, List.getElem?_cons_zero, List.getElem?_cons_succ] at e0 e1 e2
  have hS0 : W.cell? ⟨w.heap.size, 0, none⟩ = some (.int .i64 n.kind) ∧ W.cell? ⟨w.heap.size, 1, none⟩ = some (.int .i64 n.value) ∧ W.cell? ⟨w.heap.size, 2, none⟩ = some (.slice A n.kids.length c) := ⟨e0, e1, e2⟩
  have hxq : w.heap.size + 1 ≠ w.heap.size := by omega
  clear l1 l2 hB e0 e1 e2
  refine wp_region_held_drew (S := fun w' => w'.cell? ⟨w.heap.size, 0, none⟩ = some (.int .i64 n.kind) ∧ w'.cell? ⟨w.heap.size, 1, none⟩ = some (.int .i64 n.value) ∧ w'.cell? ⟨w.heap.size, 2, none⟩ = some (.slice A n.kids.length c)) (by kernel_rfl) hS0 (fun hHeld => ?_)
  refine wpAnyH_take (i := 0) (oi := { dst := some 3, op := _, type := _, pos := _, after := _, guard := _ }) (v := ?_) rfl (by kernel_rfl) (by kernel_rfl) (by kernel_rfl) (fun _ _ _ h => h) (Or.inl ⟨by rfl, ?_⟩) (by assumption) ?_
  rotate_left
  · (intro w hSw; (try dsimp only at hSw); obtain ⟨u0, u1, u2⟩ := hSw; go_simp; try with_reducible rfl)
  try simp only [Act.put, List.setIfInBounds_toArray, List.set_cons_zero, List.set_cons_succ]
  refine wpAnyH_take (i := 1) (oi := { dst := some 4, op := _, type := _, pos := _, after := _, guard := _ }) (v := ?_) rfl (by kernel_rfl) (by kernel_rfl) (by kernel_rfl) (fun _ _ _ h => h) (Or.inl ⟨by rfl, ?_⟩) (by assumption) ?_
  rotate_left
  · (intro w hSw; (try dsimp only at hSw); obtain ⟨u0, u1, u2⟩ := hSw; go_simp; try with_reducible rfl)
  try simp only [Act.put, List.setIfInBounds_toArray, List.set_cons_zero, List.set_cons_succ]
  refine wpAnyH_take (i := 2) (oi := { dst := some 5, op := _, type := _, pos := _, after := _, guard := _ }) (v := ?_) rfl (by kernel_rfl) (by kernel_rfl) (by kernel_rfl) (fun _ _ _ h => h) (Or.inl ⟨by rfl, ?_⟩) (by assumption) ?_
  rotate_left
  · (intro w hSw; (try dsimp only at hSw); obtain ⟨u0, u1, u2⟩ := hSw; go_simp; try with_reducible rfl)
  try simp only [Act.put, List.setIfInBounds_toArray, List.set_cons_zero, List.set_cons_succ]
  refine wpAnyH_take (i := 3) (oi := { dst := some 6, op := _, type := _, pos := _, after := _, guard := _ }) (v := ?_) rfl (by kernel_rfl) (by kernel_rfl) (by kernel_rfl) (fun _ _ _ h => h) (Or.inl ⟨by rfl, ?_⟩) (by assumption) ?_
  rotate_left
  · (intro w hSw; (try dsimp only at hSw); obtain ⟨u0, u1, u2⟩ := hSw; go_simp; try with_reducible rfl)
  try simp only [Act.put, List.setIfInBounds_toArray, List.set_cons_zero, List.set_cons_succ]
  refine wpAnyH_take (i := 4) (oi := { dst := some 7, op := _, type := _, pos := _, after := _, guard := _ }) (v := ?_) rfl (by kernel_rfl) (by kernel_rfl) (by kernel_rfl) (fun _ _ _ h => h) (Or.inl ⟨by rfl, ?_⟩) (by assumption) ?_
  rotate_left
  · (intro w hSw; (try dsimp only at hSw); obtain ⟨u0, u1, u2⟩ := hSw; go_simp; try with_reducible rfl)
  try simp only [Act.put, List.setIfInBounds_toArray, List.set_cons_zero, List.set_cons_succ]
  refine wpAnyH_take (i := 5) (oi := { dst := some 8, op := _, type := _, pos := _, after := _, guard := _ }) (v := ?_) rfl (by kernel_rfl) (by kernel_rfl) (by kernel_rfl) (fun _ _ _ h => h) (Or.inl ⟨by rfl, ?_⟩) (by assumption) ?_
  rotate_left
  · (intro w hSw; (try dsimp only at hSw); obtain ⟨u0, u1, u2⟩ := hSw; go_simp; try with_reducible rfl)
  try simp only [Act.put, List.setIfInBounds_toArray, List.set_cons_zero, List.set_cons_succ]
  refine wpAnyH_ready (rs := [6]) (by kernel_rfl) (by simp) ?_
  refine AllReadyH.cons (o := { dst := some 9, op := _, type := _, pos := _, after := _, guard := _ }) rfl (fun K hK => ?_) AllReadyH.nil
  go_simp
  go_at_call 74
  refine (cloneI_any A n.kids c _ (HI.out.later (Below.refl _ _).drew (Nat.le_refl _)) hnil (by omega)).mono ?_
  rintro e w5 ⟨Ac, cc, rfl, hoc, hb5⟩
  have hbw : Below W.heap.size W w5 := (Below.refl _ _).drew.trans (hb5.mono (by simp))
  have q0 : w5.cell? ⟨w.heap.size, 0, none⟩ = some (.int .i64 n.kind) ∧ w5.cell? ⟨w.heap.size, 1, none⟩ = some (.int .i64 n.value) ∧ w5.cell? ⟨w.heap.size, 2, none⟩ = some (.slice A n.kids.length c) := ⟨(hbw.cell (p := ⟨w.heap.size, 0, none⟩) hq1).trans hS0.1, (hbw.cell (p := ⟨w.heap.size, 1, none⟩) hq1).trans hS0.2.1, (hbw.cell (p := ⟨w.heap.size, 2, none⟩) hq1).trans hS0.2.2⟩
  have l4 := Lies.below HL2.out hbw hq2
  have l5 := ((l4.set 0 (.int .i64 n.kind)).set 1 (.int .i64 n.value)).set 2 (.slice Ac n.kids.length cc)
  simp only [List.setIfInBounds_toArray, List.set_cons_succ, List.set_cons_zero] at l5
  have s0 := l5.cell 0
  have s1 := l5.cell 1
  have s2 := l5.cell 2
  have p0 := l4.cell 0
  have p1 := l4.cell 1
  have p2 := l4.cell 2
  have f0 := l4.frozen 0
  have f1 := l4.frozen 1
  have f2 := l4.frozen 2
  simp only [List.getElem?_toArray, List.getElem?_cons_zero, List.getElem?_cons_succ] at s0 s1 s2 p0 p1 p2
  clear l4 l5
  refine hK.out _ _ q0 (fun hH => ?_)
  clear hK K hHeld
  have hHeld := hH
  clear hH
  try simp only [Act.put, List.setIfInBounds_toArray, List.set_cons_zero, List.set_cons_succ]
  refine wpAnyH_take (i := 7) (oi := { dst := some 10, op := _, type := _, pos := _, after := _, guard := _ }) (v := ?_) rfl (by kernel_rfl) (by kernel_rfl) (by kernel_rfl) (fun _ _ _ h => h) (Or.inl ⟨by rfl, ?_⟩) (by assumption) ?_
  rotate_left
  · (intro w hSw; (try dsimp only at hSw); obtain ⟨u0, u1, u2⟩ := hSw; go_simp; try with_reducible rfl)
  try simp only [Act.put, List.setIfInBounds_toArray, List.set_cons_zero, List.set_cons_succ]
  refine wpAnyH_ready (rs := [8]) (by kernel_rfl) (by simp) ?_
  refine AllReadyH.cons (o := { dst := none, op := _, type := _, pos := _, after := _, guard := _ }) rfl (fun K hK => ?_) AllReadyH.nil
  go_simp
  refine hK.out _ _ ⟨((World.cell?_setCell_far _ _ _ _ hxq).trans ((World.cell?_setCell_far _ _ _ _ hxq).trans ((World.cell?_setCell_far _ _ _ _ hxq).trans hHeld.1))), ((World.cell?_setCell_far _ _ _ _ hxq).trans ((World.cell?_setCell_far _ _ _ _ hxq).trans ((World.cell?_setCell_far _ _ _ _ hxq).trans hHeld.2.1))), ((World.cell?_setCell_far _ _ _ _ hxq).trans ((World.cell?_setCell_far _ _ _ _ hxq).trans ((World.cell?_setCell_far _ _ _ _ hxq).trans hHeld.2.2)))⟩ (fun hH => ?_)
  clear hK K hHeld
  have hHeld := hH
  clear hH
  try simp only [Act.put, List.setIfInBounds_toArray, List.set_cons_zero, List.set_cons_succ]
  refine wpAnyH_done (by kernel_rfl) ?_ _
  have HO := hide (hoc.of_blk (w' := ((w5.setCell ⟨w.heap.size + 1, 0, none⟩ (.int .i64 n.kind)).setCell ⟨w.heap.size + 1, 1, none⟩ (.int .i64 n.value)).setCell ⟨w.heap.size + 1, 2, none⟩ (.slice Ac n.kids.length cc)) (fun b hb => by
    have := (hoc.blocks b hb).1
    simp at this
    rw [Below.heap_setCell _ _ _ _ (by show b ≠ w.heap.size + 1; omega), Below.heap_setCell _ _ _ _ (by show b ≠ w.heap.size + 1; omega), Below.heap_setCell _ _ _ _ (by show b ≠ w.heap.size + 1; omega)]))
  have HBf := hide ((((HB.out.trans (hbw.mono HB.out.size)).setCell (p := ⟨w.heap.size + 1, 0, none⟩) (by show w.heap.size ≤ w.heap.size + 1; omega) (.int .i64 n.kind)).setCell (p := ⟨w.heap.size + 1, 1, none⟩) (by show w.heap.size ≤ w.heap.size + 1; omega) (.int .i64 n.value)).setCell (p := ⟨w.heap.size + 1, 2, none⟩) (by show w.heap.size ≤ w.heap.size + 1; omega) (.slice Ac n.kids.length cc))
  clear hbw hb5 hoc q0 hS0 p0 p1 p2 f0 f1 f2
  go_wp2
  refine bodyPost_ret (v := .agg #[.int .i64 n.kind, .int .i64 n.value, .slice Ac n.kids.length cc]) (by simp [results, Try.results64, go_sem, s0, s1, s2]) rfl ?_
  exact ⟨Ac, cc, rfl, HO.out.mono (by simp; omega), HBf.out⟩

end Go.Proofs.Ytcblcmdfeoijpab
