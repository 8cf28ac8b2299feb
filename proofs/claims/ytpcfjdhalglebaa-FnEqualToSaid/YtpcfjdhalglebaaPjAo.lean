/-
  Lemmas, several texts in one: AlkS, EqqM.
-/
import Derived.Test.YtpcfjdhalglebaaPjAn
import Derived.Deep.LoopGhost
import Derived.Deep.RegionHeld3
import Derived.Deep.QuietTactic
import Derived.BigQuiet
namespace Go.Proofs.Ytpcfjdhalglebaa
open Go.RowKit
set_option linter.unusedVariables false

/-- nodes of an equal class that look alike, with kids of equal classes -/
def SameC (ns : List Nd) (cl : List Int) (i k : Nat) : Prop := look cl i = look cl k ∧ ∃ n m, ns[i]? = some n ∧ ns[k]? = some m ∧ sigOf cl n = sigOf cl m

set_option maxRecDepth 100000 in
set_option maxHeartbeats 2000000 in
theorem sameClass_any (A : Option Addr) (ns : List Nd) (c : Nat) (Ac : Option Addr) (cl : List Int) (cc : Nat) (i k : Nat) (w : World) (hr : NdsAt w w.heap.size A ns) (hC : IntsAt w w.heap.size Ac cl) (hl : cl.length = ns.length) (hK : KidsIn ns) (hi : i < ns.length) (hk : k < ns.length) :
    Calls Try.prog 54 #[.slice A ns.length c, .slice Ac cl.length cc, .int .i64 (i : Int), .int .i64 (k : Int)] w fun e w' => e = .returned (.bool (tf (SameC ns cl i k))) ∧ Below w.heap.size w w' := by
  have hnl := hr.len
  obtain ⟨b1, o1, x1, rfl, hb1, hx1, hm1, hc1⟩ := hC.at_ (k := i) (by omega)
  obtain ⟨b2, o2, x2, e2, hb2, hx2, hm2, hc2⟩ := hC.at_ (k := k) (by omega)
  injection e2 with e2
  injection e2 with e3 e4
  subst e3 e4
  obtain ⟨b, off, n, rfl, hbn, hn, hmn, hnd⟩ := hr.at_ hi
  obtain ⟨b3, o3, m, e2, hbm, hm, hmm, hnm⟩ := hr.at_ hk
  injection e2 with e2
  injection e2 with e3 e4
  subst e3 e4
  obtain ⟨An, cn, kn2, hkn, _⟩ := hnd.kids
  obtain ⟨Am, cm, km2, hkm, _⟩ := hnm.kids
  have kn0 := hnd.kind
  have kn1 := hnd.value
  have km0 := hnm.kind
  have km1 := hnm.value
  have HN := hide hn
  have HM := hide hm
  have HX1 := hide hx1
  have HX2 := hide hx2
  have hi0 : (0 : Int) ≤ (i : Int) := by omega
  have hi1 : (i : Int) < (ns.length : Int) := by omega
  have hi2 : (i : Int) < (cl.length : Int) := by omega
  have hk0 : (0 : Int) ≤ (k : Int) := by omega
  have hk1 : (k : Int) < (ns.length : Int) := by omega
  have hk2 : (k : Int) < (cl.length : Int) := by omega
  have HKn := hide (hK n hmn)
  have HKm := hide (hK m hmm)
  have Hl := hide hl
  have Hkn := hide hkn
  have Hkm := hide hkm
  have HCl := hide hC
  have hlkn := hkn.len
  have hb1' : b1 < w.heap.size := hb1
  have hlkm := hkm.len
  clear hn hm hx1 hx2 hmn hmm hm1 hm2 hr hC hK hnd hnm hkn hkm hl
  by_cases hx : x1 = x2
  · subst hx
    have t0 : (x1 != x1) = false := by simp
    by_cases ha : Alike n m
    · have Hlen : Hid (n.kids.length = m.kids.length) := ha.2.2
      have HA := hide ha
      have HAt := hide (tf_true ha)
      clear ha
      go_enter Try.func54, Try.ntmps54
      go_wp2_with fail
      go_region_held3 (fun w' => w'.cell? ⟨b1, o1 + i, none⟩ = some (.int .i64 x1) ∧ w'.cell? ⟨b1, o1 + k, none⟩ = some (.int .i64 x1) ∧ w'.cell? ⟨b, off + i * 3, none⟩ = some (.int .i64 n.kind) ∧ w'.cell? ⟨b, off + i * 3 + 1, none⟩ = some (.int .i64 n.value) ∧ w'.cell? ⟨b, off + i * 3 + 2, none⟩ = some (.slice An n.kids.length cn) ∧ w'.cell? ⟨b, off + k * 3, none⟩ = some (.int .i64 m.kind) ∧ w'.cell? ⟨b, off + k * 3 + 1, none⟩ = some (.int .i64 m.value) ∧ w'.cell? ⟨b, off + k * 3 + 2, none⟩ = some (.slice Am m.kids.length cm))
        (first
          | (go_split_ands; refine ⟨?_, ?_, ?_, ?_, ?_, ?_, ?_, ?_⟩ <;> assumption))
        (first
          | (go_at_call 37; refine (alike_any An Am cn cm n m w.drew).mono ?_; rintro e w1 ⟨rfl, hb1⟩; have hbw : Below w.heap.size w w1 := (Below.refl _ _).drew.trans (hb1.mono (by simp)); have p0 := (hbw.cell (p := ⟨b1, o1 + i, none⟩) hb1').trans hc1; have p1 := (hbw.cell (p := ⟨b1, o1 + k, none⟩) hb1').trans hc2; have p2 := (hbw.cell (p := ⟨b, off + i * 3, none⟩) hbn).trans kn0; have p3 := (hbw.cell (p := ⟨b, off + i * 3 + 1, none⟩) hbn).trans kn1; have p4 := (hbw.cell (p := ⟨b, off + i * 3 + 2, none⟩) hbn).trans kn2; have p5 := (hbw.cell (p := ⟨b, off + k * 3, none⟩) hbn).trans km0; have p6 := (hbw.cell (p := ⟨b, off + k * 3 + 1, none⟩) hbn).trans km1; have p7 := (hbw.cell (p := ⟨b, off + k * 3 + 2, none⟩) hbn).trans km2))
      rw [HAt.out]
      have HB := hide hbw
      have hnlt : b < w1.heap.size := by have := hbw.size; omega
      clear hbw hb1 p0 p1 p2 p3 p5 p6
      clear hc1 hc2 kn0 kn1 kn2 km0 km1 km2
      go_wp2_with fail
      go_loopg [9] n.kids.length (fun gk jv wr => ∃ j : Nat, j ≤ n.kids.length ∧ gk = n.kids.length - j ∧ jv = .int .i64 (j : Int) ∧ Below w.heap.size w wr ∧ w1.heap.size ≤ wr.heap.size ∧ wr.cell? ⟨b, off + i * 3 + 2, none⟩ = some (.slice An n.kids.length cn) ∧ wr.cell? ⟨b, off + k * 3 + 2, none⟩ = some (.slice Am m.kids.length cm) ∧ ∀ (q : Nat) (x y : Int), q < j → n.kids[q]? = some x → m.kids[q]? = some y → look cl x = look cl y)
      case atStart => exact ⟨0, Nat.zero_le _, rfl, rfl, HB.out, Nat.le_refl _, p4, p7, fun q x y hq => absurd hq (by omega)⟩
      case round =>
        clear p4 p7
        obtain ⟨j, hj, rfl, rfl, hb, hsz, e4, e7, hall0⟩ := hrel
        have hall := hide hall0
        have Hb := hide hb
        clear hall0 hb
        by_cases hlj : j < n.kids.length
        · obtain ⟨b5, o5, x, rfl, hb5, hx, hxm, hcx⟩ := (Hkn.out.below Hb.out).at_ hlj
          obtain ⟨b6, o6, y, rfl, hb6, hy, hym, hcy⟩ := (Hkm.out.below Hb.out).at_ (k := j) (by have := Hlen.out; omega)
          have HX := hide hx
          have HY := hide hy
          obtain ⟨x0, x2⟩ := HKn.out x hxm
          obtain ⟨y0, y2⟩ := HKm.out y hym
          obtain ⟨xn, rfl⟩ := Int.eq_ofNat_of_zero_le x0
          obtain ⟨yn, rfl⟩ := Int.eq_ofNat_of_zero_le y0
          obtain ⟨b7, o7, u, e1, hb7, hu, _, hcu⟩ := (HCl.out.below Hb.out).at_ (k := xn) (by have := Hl.out; omega)
          injection e1 with e1
          injection e1 with e2 e3
          subst e2 e3
          obtain ⟨b8, o8, v, e1, hb8, hv, _, hcv⟩ := (HCl.out.below Hb.out).at_ (k := yn) (by have := Hl.out; omega)
          injection e1 with e1
          injection e1 with e2 e3
          subst e2 e3
          have HU := hide (look_at hu)
          have HV := hide (look_at hv)
          have hxc : (xn : Int) < (cl.length : Int) := by have := Hl.out; omega
          have hyc : (yn : Int) < (cl.length : Int) := by have := Hl.out; omega
          have hj0 : (0 : Int) ≤ (j : Int) := by omega
          have hj1 : (j : Int) < (n.kids.length : Int) := by omega
          have hj2 : (j : Int) < (m.kids.length : Int) := by have := Hlen.out; omega
          clear hx hy hxm hym x2 y2 hu hv hb5 hb6 hb7 hb8
          by_cases huv : u = v
          · subst huv
            have t3 : (u != u) = false := by simp
            go_wp2_with fail
            go_quiet (fail)
            go_wp2
            go_roundg (n.kids.length - (j + 1))
            case measure => omega
            case rel => exact ⟨j + 1, by omega, rfl, by go_num, below_drewN Hb.out _, by simpa using hsz, by simpa using e4, by simpa using e7, fun q a c hq ha hc => by
              by_cases e : q = j
              · subst e
                rw [HX.out] at ha
                rw [HY.out] at hc
                injection ha with ha
                injection hc with hc
                rw [← ha, ← hc, HU.out, HV.out]
              · exact hall.out q a c (by omega) ha hc⟩
          · have t3 : (u != v) = true := by simpa using huv
            have HF := hide (show tf (SameC ns cl i k) = false from tf_false (fun h => by
              obtain ⟨_, n', m', g1, g2, g3⟩ := h
              rw [HN.out] at g1
              rw [HM.out] at g2
              injection g1 with g1
              injection g2 with g2
              subst g1 g2
              have := (alike_sig g3).2 j _ _ HX.out HY.out
              rw [HU.out, HV.out] at this
              exact huv this))
            clear huv
            go_wp2_with fail
            go_quiet (fail)
            go_wp2
            go_ret
            exact ⟨ret_bool HF.out.symm, below_drewN Hb.out _⟩
        · obtain rfl : j = n.kids.length := by omega
          have HF := hide (show tf (SameC ns cl i k) = true from tf_true ⟨by rw [look_at HX1.out, look_at HX2.out], n, m, HN.out, HM.out, sig_alike HA.out (fun q x y hx hy => hall.out q x y (List.getElem?_eq_some_iff.1 hx).1 hx hy)⟩)
          have hj1 : decide ((n.kids.length : Int) < (n.kids.length : Int)) = false := by simp
          go_wp2
          go_ret
          exact ⟨ret_bool HF.out.symm, Hb.out⟩
    · have HF := hide (show tf (SameC ns cl i k) = false from tf_false (fun h => by
        obtain ⟨_, n', m', g1, g2, g3⟩ := h
        rw [HN.out] at g1
        rw [HM.out] at g2
        injection g1 with g1
        injection g2 with g2
        subst g1 g2
        exact ha (alike_sig g3).1))
      have HAt := hide (tf_false ha)
      clear ha
      go_enter Try.func54, Try.ntmps54
      go_wp2_with fail
      go_region_held3 (fun w' => w'.cell? ⟨b1, o1 + i, none⟩ = some (.int .i64 x1) ∧ w'.cell? ⟨b1, o1 + k, none⟩ = some (.int .i64 x1) ∧ w'.cell? ⟨b, off + i * 3, none⟩ = some (.int .i64 n.kind) ∧ w'.cell? ⟨b, off + i * 3 + 1, none⟩ = some (.int .i64 n.value) ∧ w'.cell? ⟨b, off + i * 3 + 2, none⟩ = some (.slice An n.kids.length cn) ∧ w'.cell? ⟨b, off + k * 3, none⟩ = some (.int .i64 m.kind) ∧ w'.cell? ⟨b, off + k * 3 + 1, none⟩ = some (.int .i64 m.value) ∧ w'.cell? ⟨b, off + k * 3 + 2, none⟩ = some (.slice Am m.kids.length cm))
        (first
          | (go_split_ands; refine ⟨?_, ?_, ?_, ?_, ?_, ?_, ?_, ?_⟩ <;> assumption))
        (first
          | (go_at_call 37; refine (alike_any An Am cn cm n m w.drew).mono ?_; rintro e w1 ⟨rfl, hb1⟩; have hbw : Below w.heap.size w w1 := (Below.refl _ _).drew.trans (hb1.mono (by simp)); have p0 := (hbw.cell (p := ⟨b1, o1 + i, none⟩) hb1').trans hc1; have p1 := (hbw.cell (p := ⟨b1, o1 + k, none⟩) hb1').trans hc2; have p2 := (hbw.cell (p := ⟨b, off + i * 3, none⟩) hbn).trans kn0; have p3 := (hbw.cell (p := ⟨b, off + i * 3 + 1, none⟩) hbn).trans kn1; have p4 := (hbw.cell (p := ⟨b, off + i * 3 + 2, none⟩) hbn).trans kn2; have p5 := (hbw.cell (p := ⟨b, off + k * 3, none⟩) hbn).trans km0; have p6 := (hbw.cell (p := ⟨b, off + k * 3 + 1, none⟩) hbn).trans km1; have p7 := (hbw.cell (p := ⟨b, off + k * 3 + 2, none⟩) hbn).trans km2))
      rw [HAt.out]
      have HB := hide hbw
      go_wp2
      go_ret
      exact ⟨ret_bool HF.out.symm, HB.out⟩
  · have HF := hide (show tf (SameC ns cl i k) = false from tf_false (fun h => hx (by
      have := h.1
      rw [look_at HX1.out, look_at HX2.out] at this
      exact this)))
    have t0 : (x1 != x2) = true := by simpa using hx
    clear hx
    go_enter Try.func54, Try.ntmps54
    go_wp2_with fail
    go_quiet (fail)
    go_wp2
    go_ret
    exact ⟨ret_bool HF.out.symm, below_drewN (Below.refl _ _) _⟩

end Go.Proofs.Ytpcfjdhalglebaa

namespace Go.Proofs.Ytpcfjdhalglebaa
open Go.RowKit Go.Maps
set_option linter.unusedVariables false

/-- nodes of two graphs are equal up to a depth -/
def Eqq (ns ms : List Nd) : Nat → Int → Int → Prop
  | 0, _, _ => True
  | d + 1, x, y => ∃ (i j : Nat) (n m : Nd), x = (i : Int) ∧ y = (j : Int) ∧ ns[i]? = some n ∧ ms[j]? = some m ∧ Alike n m ∧ ∀ (p : Nat) (a b : Int), n.kids[p]? = some a → m.kids[p]? = some b → Eqq ns ms d a b

theorem eqq_step {ns ms : List Nd} {i j : Nat} {n m : Nd} (hn : ns[i]? = some n) (hm : ms[j]? = some m) (d : Nat) :
    Eqq ns ms (d + 1) (i : Int) (j : Int) ↔ Alike n m ∧ ∀ (p : Nat) (a b : Int), n.kids[p]? = some a → m.kids[p]? = some b → Eqq ns ms d a b := by
  constructor
  · rintro ⟨i', j', n', m', e1, e2, h1, h2, h3⟩
    obtain rfl : i = i' := by omega
    obtain rfl : j = j' := by omega
    rw [hn] at h1
    rw [hm] at h2
    injection h1 with h1
    injection h2 with h2
    subst h1 h2
    exact h3
  · intro h
    exact ⟨i, j, n, m, rfl, rfl, hn, hm, h⟩

theorem Alike.symm {n m : Nd} (h : Alike n m) : Alike m n := ⟨h.1.symm, h.2.1.symm, h.2.2.symm⟩
theorem Alike.trans {n m q : Nd} (h : Alike n m) (g : Alike m q) : Alike n q := ⟨h.1.trans g.1, h.2.1.trans g.2.1, h.2.2.trans g.2.2⟩

theorem Eqq.refl {ns : List Nd} (hk : KidsIn ns) : ∀ (d : Nat) (x : Int), 0 ≤ x → x < ns.length → Eqq ns ns d x x
  | 0, _, _, _ => trivial
  | d + 1, x, h0, h1 => by
    obtain ⟨i, n, rfl, hn⟩ := in_at ⟨h0, h1⟩
    refine (eqq_step hn hn d).2 ⟨⟨rfl, rfl, rfl⟩, fun p a b ha hb => ?_⟩
    obtain rfl := Option.some.inj (ha.symm.trans hb)
    have := hk n (List.mem_of_getElem? hn) a (List.mem_of_getElem? ha)
    exact Eqq.refl hk d a this.1 this.2
theorem Eqq.symm {ns ms : List Nd} : ∀ {d : Nat} {x y : Int}, Eqq ns ms d x y → Eqq ms ns d y x
  | 0, _, _, _ => trivial
  | d + 1, _, _, ⟨i, j, n, m, e1, e2, h1, h2, h3, h4⟩ => ⟨j, i, m, n, e2, e1, h2, h1, h3.symm, fun p a b ha hb => (h4 p b a hb ha).symm⟩
theorem Eqq.trans {ns ms ps : List Nd} : ∀ {d : Nat} {x y z : Int}, Eqq ns ms d x y → Eqq ms ps d y z → Eqq ns ps d x z
  | 0, _, _, _, _, _ => trivial
  | d + 1, _, _, _, ⟨i, j, n, m, e1, e2, h1, h2, h3, h4⟩, ⟨j', k, m', q, e3, e4, g1, g2, g3, g4⟩ => by
    obtain rfl : j = j' := by omega
    rw [h2] at g1
    injection g1 with g1
    subst g1
    refine ⟨i, k, n, q, e1, e4, h1, g2, h3.trans g3, fun p a b ha hb => ?_⟩
    have hp : p < m.kids.length := by rw [← h3.2.2]; exact (List.getElem?_eq_some_iff.1 ha).1
    exact (h4 p a _ ha (List.getElem?_eq_getElem hp)).trans (g4 p _ b (List.getElem?_eq_getElem hp) hb)
theorem Eqq.less {ns ms : List Nd} : ∀ {d : Nat} {x y : Int}, Eqq ns ms (d + 1) x y → Eqq ns ms d x y
  | 0, _, _, _ => trivial
  | d + 1, _, _, ⟨i, j, n, m, e1, e2, h1, h2, h3, h4⟩ => ⟨i, j, n, m, e1, e2, h1, h2, h3, fun p a b ha hb => (h4 p a b ha hb).less⟩
theorem Eqq.down {ns ms : List Nd} {x y : Int} {d e : Nat} (h : Eqq ns ms d x y) (he : e ≤ d) : Eqq ns ms e x y := by
  induction d with
  | zero => obtain rfl : e = 0 := by omega
            exact h
  | succ d ih =>
    by_cases hd : e = d + 1
    · subst hd; exact h
    · exact ih h.less (by omega)

theorem eqN_iff {ns ms : List Nd} (hk : KidsIn ns) (hl : KidsIn ms) : ∀ (d : Nat) (x y : Int), 0 ≤ x → x < ns.length → 0 ≤ y → y < ms.length → (EqN ns ms d x y ↔ Eqq ns ms d x y)
  | 0, x, y, _, _, _, _ => ⟨fun _ => trivial, fun _ => eqN_zero ns ms x y⟩
  | d + 1, x, y, x0, x1, y0, y1 => by
    obtain ⟨i, n, rfl, hn⟩ := in_at ⟨x0, x1⟩
    obtain ⟨j, m, rfl, hm⟩ := in_at ⟨y0, y1⟩
    rw [eqN_step hn hm d, eqq_step hn hm d]
    have key : ∀ (p : Nat) (a b : Int), n.kids[p]? = some a → m.kids[p]? = some b → (EqN ns ms d a b ↔ Eqq ns ms d a b) := fun p a b ha hb => by
      have h1 := hk n (List.mem_of_getElem? hn) a (List.mem_of_getElem? ha)
      have h2 := hl m (List.mem_of_getElem? hm) b (List.mem_of_getElem? hb)
      exact eqN_iff hk hl d a b h1.1 h1.2 h2.1 h2.2
    exact ⟨fun h => ⟨h.1, fun p a b ha hb => (key p a b ha hb).1 (h.2 p a b ha hb)⟩, fun h => ⟨h.1, fun p a b ha hb => (key p a b ha hb).2 (h.2 p a b ha hb)⟩⟩

theorem cls_iff {ns : List Nd} (hk : KidsIn ns) : ∀ (d : Nat) (x y : Int), 0 ≤ x → x < ns.length → 0 ≤ y → y < ns.length → (look (clsN ns d) x = look (clsN ns d) y ↔ Eqq ns ns d x y)
  | 0, x, y, _, _, _, _ => ⟨fun _ => trivial, fun _ => by rw [look_zero, look_zero]⟩
  | d + 1, x, y, x0, x1, y0, y1 => by
    obtain ⟨i, n, rfl, hn⟩ := in_at ⟨x0, x1⟩
    obtain ⟨j, m, rfl, hm⟩ := in_at ⟨y0, y1⟩
    rw [eqq_step hn hm d]
    refine Iff.trans (finer_eq (cl := clsN ns d) hn hm) ?_
    have key : ∀ (p : Nat) (a b : Int), n.kids[p]? = some a → m.kids[p]? = some b → (look (clsN ns d) a = look (clsN ns d) b ↔ Eqq ns ns d a b) := fun p a b ha hb => by
      have h1 := hk n (List.mem_of_getElem? hn) a (List.mem_of_getElem? ha)
      have h2 := hk m (List.mem_of_getElem? hm) b (List.mem_of_getElem? hb)
      exact cls_iff hk d a b h1.1 h1.2 h2.1 h2.2
    constructor
    · intro h
      obtain ⟨h1, h2⟩ := alike_sig h
      exact ⟨h1, fun p a b ha hb => (key p a b ha hb).1 (h2 p a b ha hb)⟩
    · intro h
      exact sig_alike h.1 (fun p a b ha hb => (key p a b ha hb).2 (h.2 p a b ha hb))

/-- equal however deep -/
def EqqAll (ns ms : List Nd) (x y : Int) : Prop := ∀ d, Eqq ns ms d x y
theorem EqqAll.refl {ns : List Nd} (hk : KidsIn ns) {x : Int} (h0 : 0 ≤ x) (h1 : x < ns.length) : EqqAll ns ns x x := fun d => Eqq.refl hk d x h0 h1
theorem EqqAll.symm {ns ms : List Nd} {x y : Int} (h : EqqAll ns ms x y) : EqqAll ms ns y x := fun d => (h d).symm
theorem EqqAll.trans {ns ms ps : List Nd} {x y z : Int} (h : EqqAll ns ms x y) (g : EqqAll ms ps y z) : EqqAll ns ps x z := fun d => (h d).trans (g d)

/-- the classes of as many depths as there are nodes tell what is equal however deep -/
theorem cls_all_iff {ns : List Nd} (hk : KidsIn ns) {x y : Int} (x0 : 0 ≤ x) (x1 : x < ns.length) (y0 : 0 ≤ y) (y1 : y < ns.length) : look (clsN ns ns.length) x = look (clsN ns ns.length) y ↔ EqqAll ns ns x y := by
  constructor
  · intro h d
    have h1 := (cls_iff hk (ns.length + d) x y x0 x1 y0 y1).1 (by rw [cls_all hk]; exact h)
    exact h1.down (by omega)
  · intro h
    exact (cls_iff hk ns.length x y x0 x1 y0 y1).2 (h _)

theorem rootsEq_iff {ns ms : List Nd} {r s : Int} (hk : KidsIn ns) (hl : KidsIn ms) (r0 : 0 ≤ r) (r1 : r < ns.length) (s0 : 0 ≤ s) (s1 : s < ms.length) : RootsEq ns r ms s (joinNs ns ms).length ↔ EqqAll ns ms r s := by
  constructor
  · intro h d
    have h1 : EqN ns ms ((joinNs ns ms).length + d) r s := by
      unfold EqN
      rw [cls_all (joinNs_kids hk hl)]
      exact h
    exact ((eqN_iff hk hl _ r s r0 r1 s0 s1).1 h1).down (by omega)
  · intro h
    exact (eqN_iff hk hl _ r s r0 r1 s0 s1).2 (h _)

theorem eqDeep_iff {ns ms : List Nd} {r s : Int} (hv : ValidG ns r) (hw : ValidG ms s) : EqDeepG ns r ms s ↔ EqqAll ns ms r s := by
  constructor
  · intro h
    exact (rootsEq_iff (validG_kids hv) (validG_kids hw) hv.root0 hv.root hw.root0 hw.root).1 h.2.2
  · intro h
    exact ⟨hv, hw, (rootsEq_iff (validG_kids hv) (validG_kids hw) hv.root0 hv.root hw.root0 hw.root).2 h⟩

theorem eqTo_iff {ns ms : List Nd} {r s : Int} {d : Nat} (hv : ValidG ns r) (hw : ValidG ms s) (hd : d ≤ 8) : EqToG ns r ms s (d : Int) ↔ Eqq ns ms d r s := by
  have h := eqN_iff (validG_kids hv) (validG_kids hw) d r s hv.root0 hv.root hw.root0 hw.root
  constructor
  · intro h1
    exact h.1 (by have := h1.2.2.2.2; simpa [RootsEq, EqN] using this)
  · intro h1
    exact ⟨hv, hw, by omega, by omega, by simpa [RootsEq, EqN] using h.2 h1⟩

end Go.Proofs.Ytpcfjdhalglebaa
