/-
  Lemmas, several texts in one: AlkS, ClaS, ImplR, PrunI, SameGI.
-/
import Derived.Test.YthgklkpfmjgeoaaPjAw
import Derived.Deep.LoopGhost
import Derived.Deep.RegionHeld3
import Derived.Deep.QuietTactic
import Derived.BigQuiet
import Derived.Test.YthgklkpfmjgeoaaPjAl
import Derived.Test.YthgklkpfmjgeoaaPjAe
import Derived.Test.YthgklkpfmjgeoaaPjAo
import Derived.Test.YthgklkpfmjgeoaaPjAn
import Derived.Deep.Cut
import Derived.Test.YthgklkpfmjgeoaaPjAs
import Derived.Test.YthgklkpfmjgeoaaPjAf
import Derived.Test.YthgklkpfmjgeoaaPjAm
import Derived.Test.YthgklkpfmjgeoaaPjAt
import Derived.Deep.RegionWith
namespace Go.Proofs.Ythgklkpfmjgeoaa
open Go.RowKit
set_option linter.unusedVariables false

/-- nodes of an equal class that look alike, with kids of equal classes -/
def SameC (ns : List Nd) (cl : List Int) (i k : Nat) : Prop := look cl i = look cl k ∧ ∃ n m, ns[i]? = some n ∧ ns[k]? = some m ∧ sigOf cl n = sigOf cl m

set_option maxRecDepth 100000 in
set_option maxHeartbeats 2000000 in
theorem sameClass_any (A : Option Addr) (ns : List Nd) (c : Nat) (Ac : Option Addr) (cl : List Int) (cc : Nat) (i k : Nat) (w : World) (hr : NdsAt w w.heap.size A ns) (hC : IntsAt w w.heap.size Ac cl) (hl : cl.length = ns.length) (hK : KidsIn ns) (hi : i < ns.length) (hk : k < ns.length) :
    Calls Try.prog 44 #[.slice A ns.length c, .slice Ac cl.length cc, .int .i64 (i : Int), .int .i64 (k : Int)] w fun e w' => e = .returned (.bool (tf (SameC ns cl i k))) ∧ Below w.heap.size w w' := by
  have hnl := hr.len
  obtain ⟨b1, o1, x1, rfl, hb1, hx1, hm1, hc1⟩ := hC.at_ (k := i) (by omega)
  obtain ⟨b2, o2, x2, e2, hb2, hx2, hm2, hc2⟩ := hC.at_ (k := k) (by omega)
  injection e2 with e2
  injection e2 with e3 e4
  subst e3 e4
  obtain ⟨b, off, n, rfl, hbn, hn, hmn, hnd⟩ := hr.at_ hi
  obtain ⟨b3, o3, m, e2, hbm, hm, hmm, hnm⟩ := hr.at_ hk
  injection e2 with e2
  injection e2 with e3 e4
  subst e3 e4
  obtain ⟨An, cn, kn2, hkn, _⟩ := hnd.kids
  obtain ⟨Am, cm, km2, hkm, _⟩ := hnm.kids
  have kn0 := hnd.kind
  have kn1 := hnd.value
  have km0 := hnm.kind
  have km1 := hnm.value
  have HN := hide hn
  have HM := hide hm
  have HX1 := hide hx1
  have HX2 := hide hx2
  have hi0 : (0 : Int) ≤ (i : Int) := by omega
  have hi1 : (i : Int) < (ns.length : Int) := by omega
  have hi2 : (i : Int) < (cl.length : Int) := by omega
  have hk0 : (0 : Int) ≤ (k : Int) := by omega
  have hk1 : (k : Int) < (ns.length : Int) := by omega
  have hk2 : (k : Int) < (cl.length : Int) := by omega
  have HKn := hide (hK n hmn)
  have HKm := hide (hK m hmm)
  have Hl := hide hl
  have Hkn := hide hkn
  have Hkm := hide hkm
  have HCl := hide hC
  have hlkn := hkn.len
  have hb1' : b1 < w.heap.size := hb1
  have hlkm := hkm.len
  clear hn hm hx1 hx2 hmn hmm hm1 hm2 hr hC hK hnd hnm hkn hkm hl
  by_cases hx : x1 = x2
  · subst hx
    have t0 : (x1 != x1) = false := by simp
    by_cases ha : Alike n m
    · have Hlen : Hid (n.kids.length = m.kids.length) := ha.2.2
      have HA := hide ha
      have HAt := hide (tf_true ha)
      clear ha
      go_enter Try.func44, Try.ntmps44
      go_wp2_with fail
      go_region_held3 (fun w' => w'.cell? ⟨b1, o1 + i, none⟩ = some (.int .i64 x1) ∧ w'.cell? ⟨b1, o1 + k, none⟩ = some (.int .i64 x1) ∧ w'.cell? ⟨b, off + i * 3, none⟩ = some (.int .i64 n.kind) ∧ w'.cell? ⟨b, off + i * 3 + 1, none⟩ = some (.int .i64 n.value) ∧ w'.cell? ⟨b, off + i * 3 + 2, none⟩ = some (.slice An n.kids.length cn) ∧ w'.cell? ⟨b, off + k * 3, none⟩ = some (.int .i64 m.kind) ∧ w'.cell? ⟨b, off + k * 3 + 1, none⟩ = some (.int .i64 m.value) ∧ w'.cell? ⟨b, off + k * 3 + 2, none⟩ = some (.slice Am m.kids.length cm))
        (first
          | (go_split_ands; refine ⟨?_, ?_, ?_, ?_, ?_, ?_, ?_, ?_⟩ <;> assumption))
        (first
          | (go_at_call 63; refine (alike_any An Am cn cm n m w.drew).mono ?_; rintro e w1 ⟨rfl, hb1⟩; have hbw : Below w.heap.size w w1 := (Below.refl _ _).drew.trans (hb1.mono (by simp)); have p0 := (hbw.cell (p := ⟨b1, o1 + i, none⟩) hb1').trans hc1; have p1 := (hbw.cell (p := ⟨b1, o1 + k, none⟩) hb1').trans hc2; have p2 := (hbw.cell (p := ⟨b, off + i * 3, none⟩) hbn).trans kn0; have p3 := (hbw.cell (p := ⟨b, off + i * 3 + 1, none⟩) hbn).trans kn1; have p4 := (hbw.cell (p := ⟨b, off + i * 3 + 2, none⟩) hbn).trans kn2; have p5 := (hbw.cell (p := ⟨b, off + k * 3, none⟩) hbn).trans km0; have p6 := (hbw.cell (p := ⟨b, off + k * 3 + 1, none⟩) hbn).trans km1; have p7 := (hbw.cell (p := ⟨b, off + k * 3 + 2, none⟩) hbn).trans km2))
      rw [HAt.out]
      have HB := hide hbw
      have hnlt : b < w1.heap.size := by have := hbw.size; omega
      clear hbw hb1 p0 p1 p2 p3 p5 p6
      clear hc1 hc2 kn0 kn1 kn2 km0 km1 km2
      go_wp2_with fail
      go_loopg [9] n.kids.length (fun gk jv wr => ∃ j : Nat, j ≤ n.kids.length ∧ gk = n.kids.length - j ∧ jv = .int .i64 (j : Int) ∧ Below w.heap.size w wr ∧ w1.heap.size ≤ wr.heap.size ∧ wr.cell? ⟨b, off + i * 3 + 2, none⟩ = some (.slice An n.kids.length cn) ∧ wr.cell? ⟨b, off + k * 3 + 2, none⟩ = some (.slice Am m.kids.length cm) ∧ ∀ (q : Nat) (x y : Int), q < j → n.kids[q]? = some x → m.kids[q]? = some y → look cl x = look cl y)
      case atStart => exact ⟨0, Nat.zero_le _, rfl, rfl, HB.out, Nat.le_refl _, p4, p7, fun q x y hq => absurd hq (by omega)⟩
      case round =>
        clear p4 p7
        obtain ⟨j, hj, rfl, rfl, hb, hsz, e4, e7, hall0⟩ := hrel
        have hall := hide hall0
        have Hb := hide hb
        clear hall0 hb
        by_cases hlj : j < n.kids.length
        · obtain ⟨b5, o5, x, rfl, hb5, hx, hxm, hcx⟩ := (Hkn.out.below Hb.out).at_ hlj
          obtain ⟨b6, o6, y, rfl, hb6, hy, hym, hcy⟩ := (Hkm.out.below Hb.out).at_ (k := j) (by have := Hlen.out; omega)
          have HX := hide hx
          have HY := hide hy
          obtain ⟨x0, x2⟩ := HKn.out x hxm
          obtain ⟨y0, y2⟩ := HKm.out y hym
          obtain ⟨xn, rfl⟩ := Int.eq_ofNat_of_zero_le x0
          obtain ⟨yn, rfl⟩ := Int.eq_ofNat_of_zero_le y0
          obtain ⟨b7, o7, u, e1, hb7, hu, _, hcu⟩ := (HCl.out.below Hb.out).at_ (k := xn) (by have := Hl.out; omega)
          injection e1 with e1
          injection e1 with e2 e3
          subst e2 e3
          obtain ⟨b8, o8, v, e1, hb8, hv, _, hcv⟩ := (HCl.out.below Hb.out).at_ (k := yn) (by have := Hl.out; omega)
          injection e1 with e1
          injection e1 with e2 e3
          subst e2 e3
          have HU := hide (look_at hu)
          have HV := hide (look_at hv)
          have hxc : (xn : Int) < (cl.length : Int) := by have := Hl.out; omega
          have hyc : (yn : Int) < (cl.length : Int) := by have := Hl.out; omega
          have hj0 : (0 : Int) ≤ (j : Int) := by omega
          have hj1 : (j : Int) < (n.kids.length : Int) := by omega
          have hj2 : (j : Int) < (m.kids.length : Int) := by have := Hlen.out; omega
          clear hx hy hxm hym x2 y2 hu hv hb5 hb6 hb7 hb8
          by_cases huv : u = v
          · subst huv
            have t3 : (u != u) = false := by simp
            go_wp2_with fail
            go_quiet (fail)
            go_wp2
            go_roundg (n.kids.length - (j + 1))
            case measure => omega
            case rel => exact ⟨j + 1, by omega, rfl, by go_num, below_drewN Hb.out _, by simpa using hsz, by simpa using e4, by simpa using e7, fun q a c hq ha hc => by
              by_cases e : q = j
              · subst e
                rw [HX.out] at ha
                rw [HY.out] at hc
                injection ha with ha
                injection hc with hc
                rw [← ha, ← hc, HU.out, HV.out]
              · exact hall.out q a c (by omega) ha hc⟩
          · have t3 : (u != v) = true := by simpa using huv
            have HF := hide (show tf (SameC ns cl i k) = false from tf_false (fun h => by
              obtain ⟨_, n', m', g1, g2, g3⟩ := h
              rw [HN.out] at g1
              rw [HM.out] at g2
              injection g1 with g1
              injection g2 with g2
              subst g1 g2
              have := (alike_sig g3).2 j _ _ HX.out HY.out
              rw [HU.out, HV.out] at this
              exact huv this))
            clear huv
            go_wp2_with fail
            go_quiet (fail)
            go_wp2
            go_ret
            exact ⟨ret_bool HF.out.symm, below_drewN Hb.out _⟩
        · obtain rfl : j = n.kids.length := by omega
          have HF := hide (show tf (SameC ns cl i k) = true from tf_true ⟨by rw [look_at HX1.out, look_at HX2.out], n, m, HN.out, HM.out, sig_alike HA.out (fun q x y hx hy => hall.out q x y (List.getElem?_eq_some_iff.1 hx).1 hx hy)⟩)
          have hj1 : decide ((n.kids.length : Int) < (n.kids.length : Int)) = false := by simp
          go_wp2
          go_ret
          exact ⟨ret_bool HF.out.symm, Hb.out⟩
    · have HF := hide (show tf (SameC ns cl i k) = false from tf_false (fun h => by
        obtain ⟨_, n', m', g1, g2, g3⟩ := h
        rw [HN.out] at g1
        rw [HM.out] at g2
        injection g1 with g1
        injection g2 with g2
        subst g1 g2
        exact ha (alike_sig g3).1))
      have HAt := hide (tf_false ha)
      clear ha
      go_enter Try.func44, Try.ntmps44
      go_wp2_with fail
      go_region_held3 (fun w' => w'.cell? ⟨b1, o1 + i, none⟩ = some (.int .i64 x1) ∧ w'.cell? ⟨b1, o1 + k, none⟩ = some (.int .i64 x1) ∧ w'.cell? ⟨b, off + i * 3, none⟩ = some (.int .i64 n.kind) ∧ w'.cell? ⟨b, off + i * 3 + 1, none⟩ = some (.int .i64 n.value) ∧ w'.cell? ⟨b, off + i * 3 + 2, none⟩ = some (.slice An n.kids.length cn) ∧ w'.cell? ⟨b, off + k * 3, none⟩ = some (.int .i64 m.kind) ∧ w'.cell? ⟨b, off + k * 3 + 1, none⟩ = some (.int .i64 m.value) ∧ w'.cell? ⟨b, off + k * 3 + 2, none⟩ = some (.slice Am m.kids.length cm))
        (first
          | (go_split_ands; refine ⟨?_, ?_, ?_, ?_, ?_, ?_, ?_, ?_⟩ <;> assumption))
        (first
          | (go_at_call 63; refine (alike_any An Am cn cm n m w.drew).mono ?_; rintro e w1 ⟨rfl, hb1⟩; have hbw : Below w.heap.size w w1 := (Below.refl _ _).drew.trans (hb1.mono (by simp)); have p0 := (hbw.cell (p := ⟨b1, o1 + i, none⟩) hb1').trans hc1; have p1 := (hbw.cell (p := ⟨b1, o1 + k, none⟩) hb1').trans hc2; have p2 := (hbw.cell (p := ⟨b, off + i * 3, none⟩) hbn).trans kn0; have p3 := (hbw.cell (p := ⟨b, off + i * 3 + 1, none⟩) hbn).trans kn1; have p4 := (hbw.cell (p := ⟨b, off + i * 3 + 2, none⟩) hbn).trans kn2; have p5 := (hbw.cell (p := ⟨b, off + k * 3, none⟩) hbn).trans km0; have p6 := (hbw.cell (p := ⟨b, off + k * 3 + 1, none⟩) hbn).trans km1; have p7 := (hbw.cell (p := ⟨b, off + k * 3 + 2, none⟩) hbn).trans km2))
      rw [HAt.out]
      have HB := hide hbw
      go_wp2
      go_ret
      exact ⟨ret_bool HF.out.symm, HB.out⟩
  · have HF := hide (show tf (SameC ns cl i k) = false from tf_false (fun h => hx (by
      have := h.1
      rw [look_at HX1.out, look_at HX2.out] at this
      exact this)))
    have t0 : (x1 != x2) = true := by simpa using hx
    clear hx
    go_enter Try.func44, Try.ntmps44
    go_wp2_with fail
    go_quiet (fail)
    go_wp2
    go_ret
    exact ⟨ret_bool HF.out.symm, below_drewN (Below.refl _ _) _⟩

end Go.Proofs.Ythgklkpfmjgeoaa

namespace Go.Proofs.Ythgklkpfmjgeoaa
open Go.RowKit
set_option linter.unusedVariables false

theorem sameC_sig {ns : List Nd} (hK : KidsIn ns) {d i k : Nat} {n m : Nd} (hi : ns[i]? = some n) (hk : ns[k]? = some m) : SameC ns (clsN ns d) i k ↔ sigOf (clsN ns d) m = sigOf (clsN ns d) n := by
  constructor
  · rintro ⟨_, n', m', g1, g2, g3⟩
    rw [hi] at g1
    rw [hk] at g2
    injection g1 with g1
    injection g2 with g2
    subst g1 g2
    exact g3.symm
  · intro h
    refine ⟨?_, n, m, hi, hk, h.symm⟩
    have h1 : look (clsN ns (d + 1)) i = look (clsN ns (d + 1)) k := (finer_eq (cl := clsN ns d) hi hk).2 h.symm
    exact cls_mono hK d i k (by have := (List.getElem?_eq_some_iff.1 hi).1; omega) (by have := (List.getElem?_eq_some_iff.1 hk).1; omega) h1

theorem clsS_64 {ns : List Nd} (hn : ns.length ≤ 1000) (d : Nat) : ∀ x ∈ clsN ns d, In64 x := by
  intro x hx
  have := clsN_in ns d x hx
  constructor <;> omega

set_option maxRecDepth 100000 in
set_option maxHeartbeats 4000000 in
theorem specClasses_any (A : Option Addr) (ns : List Nd) (c : Nat) (w : World) (hr : NdsAt w w.heap.size A ns) (hK : KidsIn ns) (hn : ns.length ≤ 1000) :
    Calls Try.prog 17 #[.slice A ns.length c] w (GivesInts w (clsN ns ns.length)) := by
  have hmk : ∀ w : World, _ := run_make_row' (P := Try.prog) 35 3 (.int .i64 0) 8 Try.underlying35 infoInt rfl .i64 .i64 ns.length (by omega) (by omega)
  have Hr := hide hr
  have HK := hide hK
  have hR1 := RowL.made w ns.length
  have hB0 := (Below.refl w.heap.size w).alloc (Nat.le_refl _) (.cells (madeCells #[.int .i64 0] ns.length) 3)
  clear hr hK
  go_enter Try.func17, Try.ntmps17
  go_wp2_with fail
  clear hmk
  generalize w.alloc (.cells (madeCells #[.int .i64 0] ns.length) 3) = W at hR1 hB0 ⊢
  have HO0 := hide (hR1.own (base := w.heap.size) (Nat.le_refl _) (by simp; unfold maxLen; omega))
  have HB0 := hide hB0
  clear hR1 hB0
  go_loopg [3, 4, 5, 6, 7] (ns.length + 1) (fun gk nv tv _ _ _ wr => ∃ (t : Nat) (An : Option Addr) (cn : Nat), t ≤ ns.length + 1 ∧ gk = ns.length + 1 - t ∧ tv = .int .i64 (t : Int) ∧ nv = .slice An (clsN ns t).length cn ∧ OwnI wr w.heap.size An cn (clsN ns t) ∧ Below w.heap.size w wr)
  case atStart => exact ⟨0, some ⟨w.heap.size, 0, none⟩, ns.length, Nat.zero_le _, rfl, rfl, by simp [clsN], by have := HO0.out; simpa [clsN] using this, HB0.out⟩
  case round =>
    clear HO0
    obtain ⟨t, An, cn, ht, rfl, rfl, rfl, ho, hb⟩ := hrel
    have HO := hide ho
    have Hb := hide hb
    have hC64 := hide (clsS_64 hn t)
    have hl0 : Hid ((clsN ns t).length = ns.length) := clsN_len ns t
    have hl1 : Hid ((finer ns (clsN ns t)).length = ns.length) := finer_len ns _
    have hSame := hide (fun (i k : Nat) (n m : Nd) (hi : ns[i]? = some n) (hk : ns[k]? = some m) => sameC_sig HK.out (d := t) hi hk)
    have HSt : Hid (finer ns (clsN ns t) = clsN ns (t + 1)) := rfl
    have H164 := hide (clsS_64 hn (t + 1))
    have hFirst := hide (fun (i j : Nat) (n m : Nd) (hi : ns[i]? = some n) (hj : ns[j]? = some m) (hs : sigOf (clsN ns t) m = sigOf (clsN ns t) n) (hf : ∀ k q, k < j → ns[k]? = some q → sigOf (clsN ns t) q ≠ sigOf (clsN ns t) n) => finer_first hi hj hs hf)
    clear ho hb
    by_cases hlt : t ≤ ns.length
    · have hlt2 : (t : Int) ≤ (ns.length : Int) := by omega
      have hcl : (clsN ns t).length ≤ 1000 := by rw [hl0.out]; exact hn
      generalize hC1 : finer ns (clsN ns t) = C1 at hl1 HSt hFirst
      have hin1 : C1.length ≤ 1000 := by rw [hl1.out]; exact hn
      have HC1 := hide hC1
      clear hC1
      rw [← HSt.out] at H164
      generalize hC : clsN ns t = C at HO hC64 hl0 hSame HSt hcl hFirst HC1 ⊢
      have HC := hide hC
      clear hC
      have hww : w.heap.size ≤ wr.heap.size := Hb.out.size
      have HN0 := hide (OwnI.bare wr)
      have HOn := hide (HO.out.alloc (.cells #[] 3))
      have HBn := hide (Hb.out.alloc hww (.cells #[] 3))
      have hd1 : ∀ b, blockOf An = some b → b < wr.heap.size := fun b hb => (HO.out.blocks b hb).2
      have Hd1 := hide hd1
      clear hd1
      go_wp2_with fail
      have hsz1 : wr.heap.size ≤ (wr.alloc (.cells #[] 3)).heap.size := by simp
      generalize wr.alloc (.cells #[] 3) = W1 at HN0 HOn HBn hsz1 ⊢
      generalize hbn : wr.heap.size = bn at HN0 hww Hd1 hsz1 ⊢
      clear hbn
      go_loopg [5, 6, 7] ns.length (fun gk xv iv _ wi => ∃ (i : Nat) (Ax : Option Addr) (cx : Nat) (xs : List Int), i ≤ ns.length ∧ gk = ns.length - i ∧ iv = .int .i64 (i : Int) ∧ xv = .slice Ax xs.length cx ∧ Hid (xs = C1.take i) ∧ OwnI wi bn Ax cx xs ∧ OwnI wi w.heap.size An cn C ∧ bn ≤ wi.heap.size ∧ Below w.heap.size w wi)
      case atStart => exact ⟨0, some ⟨bn, 0, none⟩, 0, [], Nat.zero_le _, rfl, rfl, rfl, hide (by simp), HN0.out, HOn.out, hsz1, HBn.out⟩
      case round =>
        clear HN0 HOn HBn HO Hb
        obtain ⟨i, Ax, cx, xs, hi, rfl, rfl, rfl, hxs, hox, hon, hszi, hb⟩ := hrel
        have Hox := hide hox
        have Hon := hide hon
        have Hb := hide hb
        have hxl : xs.length ≤ 1000 := by rw [hxs.out]; simp; omega
        clear hox hon hb
        by_cases hli : i < ns.length
        · obtain ⟨n, hn'⟩ : ∃ n, ns[i]? = some n := ⟨_, List.getElem?_eq_getElem hli⟩
          have HN := hide hn'
          have hi1 : (i : Int) < (ns.length : Int) := by omega
          have hi64 : In64 (i : Int) := by constructor <;> omega
          have hwi : w.heap.size ≤ wr.heap.size := Hb.out.size
          clear hn'
          have HbW := hide (Below.refl wr.heap.size wr)
          go_wp2_with fail
          obtain ⟨W2, hW2⟩ : ∃ X, X = wr := ⟨_, rfl⟩
          subst hW2
          go_loopg [7] i (fun gk kv wi => ∃ k : Nat, k ≤ i ∧ gk = i - k ∧ kv = .int .i64 (k : Int) ∧ Below W2.heap.size W2 wi ∧ ∀ (q : Nat) (m : Nd), q < k → ns[q]? = some m → sigOf C m ≠ sigOf C n)
          case atStart => exact ⟨0, Nat.zero_le _, rfl, rfl, HbW.out, fun q m hq => absurd hq (by omega)⟩
          case round =>
            clear HbW
            obtain ⟨k, hk, rfl, rfl, hb, hall0⟩ := hrel
            have hall := hide hall0
            have HB := hide hb
            clear hall0 hb
            have HBw := hide (Hb.out.trans (HB.out.mono hwi))
            by_cases hki : k < i
            · have hki1 : (k : Int) < (i : Int) := by omega
              obtain ⟨m, hm⟩ : ∃ m, ns[k]? = some m := ⟨_, List.getElem?_eq_getElem (by omega)⟩
              have HM := hide hm
              have hcall := hide (sameClass_any A ns c An C cn i k wr ((Hr.out.below HBw.out).more HBw.out.size) ((Hon.out.ints hC64.out (by omega)).later HB.out (Nat.le_refl _)) hl0.out HK.out hli (by omega))
              have HSm := hide (hSame.out i k n m HN.out hm)
              clear hm
              by_cases hs : SameC ns C i k
              · have hsig := HSm.out.1 hs
                have h1 := hide (hFirst.out i k n m HN.out HM.out hsig (fun q p hq hp => hall.out q p hq hp))
                have h2 := hide (hFirst.out k k m m HM.out HM.out rfl (fun q p hq hp e => hall.out q p hq hp (e.trans hsig)))
                rw [tf_true hs] at hcall
                clear hs hsig
                have hxk : xs[k]? = some (k : Int) := by
                  rw [hxs.out, List.getElem?_take, if_pos hki]
                  exact h2.out
                have hxk2 : k < xs.length := (List.getElem?_eq_some_iff.1 hxk).1
                have hk0 : (0 : Int) ≤ (k : Int) := by omega
                have hkx : (k : Int) < (xs.length : Int) := by omega
                have hk64 : In64 (k : Int) := by constructor <;> omega
                go_wp2_with fail
                refine hcall.out.mono ?_
                rintro e wy ⟨rfl, hby⟩
                have HBy := hide (HB.out.trans (hby.mono HB.out.size))
                have Hxy := hide (Hox.out.below HBy.out)
                obtain ⟨gx, rfl⟩ : ∃ gx, Ax = some ⟨gx, 0, none⟩ := by
                  rcases Hox.out.form with ⟨_, _, h3⟩ | ⟨gx, h3, _⟩
                  · rw [h3] at hxk2; simp at hxk2
                  · exact ⟨gx, h3⟩
                have hce : wy.cell? ⟨gx, k, none⟩ = some (.int .i64 (k : Int)) := Hxy.out.cellM hxk
                have hbn : bn ≤ wy.heap.size := by have := (Hxy.out.blocks gx rfl); omega
                have HY1 := hide (Hon.out.below HBy.out)
                have hgn : ∀ b, blockOf An = some b → b ≠ gx := fun b hb e => by have := Hd1.out b hb; have := (Hxy.out.blocks gx rfl).1; omega
                have HG := hide hgn
                have hwy := HBy.out.size
                clear hcall hby hgn
                go_wp2_with (at_builtin; refine append_ints rfl (.tmp 40) (.tmp 45) rfl bn (some ⟨gx, 0, none⟩) cx xs rfl (Hxy.out.alloc _) (wy.heap.size + 1) _ 1 [(k : Int)] rfl (fun e => by cases e) (IntsAt.one wy (k : Int) hk64) (by simp <;> omega) (by simp <;> omega) ?_; intro zs A3 c3 w5 hz hown5 hg5 _)
                have hbg : Below bn wy w5 := below_grown ((Below.refl _ _).alloc hbn _) hg5 (by simp; omega) (fun q hq => (Hxy.out.blocks q hq).1)
                have HZ : Hid (zs = C1.take (i + 1)) := hide (by
                  rw [hz.out, hxs.out, List.take_add_one, h1.out]
                  rfl)
                have H5 := hide (HY1.out.ofB (w' := w5) (fun b hb => hbg.block b (Hd1.out b hb)))
                have HB5 := hide (((Hb.out.trans (HBy.out.mono hwi))).trans (hbg.mono hww))
                have HO5 := hide hown5
                have hs5 : bn ≤ w5.heap.size := Nat.le_trans hbn hbg.size
                clear hbg hown5 hg5 hce hxk hxk2 HY1 HG Hxy
                go_wp2
                go_roundg (ns.length - (i + 1))
                case measure => omega
                case rel => exact ⟨i + 1, A3, c3, zs, by omega, rfl, by go_num, rfl, HZ, HO5.out, H5.out, hs5, HB5.out⟩
              · rw [tf_false hs] at hcall
                have hns : sigOf C m ≠ sigOf C n := fun e => hs (HSm.out.2 e)
                have Hns := hide hns
                clear hs hns
                go_wp2_with fail
                refine hcall.out.mono ?_
                rintro e wy ⟨rfl, hby⟩
                have HBy := hide (HB.out.trans (hby.mono HB.out.size))
                clear hby hcall
                go_wp2
                go_roundg (i - (k + 1))
                case measure => omega
                case rel => exact ⟨k + 1, by omega, rfl, by go_num, HBy.out, fun q p hq hp => by
                  by_cases e : q = k
                  · subst e
                    rw [HM.out] at hp
                    injection hp with hp
                    rw [← hp]
                    exact Hns.out
                  · exact hall.out q p (by omega) hp⟩
            · obtain rfl : k = i := by omega
              have hkk : decide ((k : Int) < (k : Int)) = false := by simp
              have h1 := hide (hFirst.out k k n n HN.out HN.out rfl (fun q p hq hp => hall.out q p hq hp))
              have hk64 : In64 (k : Int) := by constructor <;> omega
              have Hxy := hide (Hox.out.below HB.out)
              have HY1 := hide (Hon.out.below HB.out)
              have hwy := HB.out.size
              have hbn : bn ≤ wr.heap.size := by omega
              clear hki
              go_wp2_with (at_builtin; refine append_ints rfl (.tmp 47) (.tmp 49) rfl bn Ax cx xs rfl (Hxy.out.alloc _) (wr.heap.size + 1) _ 1 [(k : Int)] rfl (fun e => by cases e) (IntsAt.one wr (k : Int) hk64) (by simp <;> omega) (by simp <;> omega) ?_; intro zs A3 c3 w5 hz hown5 hg5 _)
              have hbg : Below bn wr w5 := below_grown ((Below.refl _ _).alloc hbn _) hg5 (by simp; omega) (fun q hq => (Hxy.out.blocks q hq).1)
              have HZ : Hid (zs = C1.take (k + 1)) := hide (by
                rw [hz.out, hxs.out, List.take_add_one, h1.out]
                rfl)
              have H5 := hide (HY1.out.ofB (w' := w5) (fun b hb => hbg.block b (Hd1.out b hb)))
              have HB5 := hide (((Hb.out.trans (HB.out.mono hwi))).trans (hbg.mono hww))
              have HO5 := hide hown5
              have hs5 : bn ≤ w5.heap.size := Nat.le_trans hbn hbg.size
              clear hbg hown5 hg5 HY1 Hxy
              go_wp2
              go_roundg (ns.length - (k + 1))
              case measure => omega
              case rel => exact ⟨k + 1, A3, c3, zs, by omega, rfl, by go_num, rfl, HZ, HO5.out, H5.out, hs5, HB5.out⟩
        · obtain rfl : i = ns.length := by omega
          have hii : decide ((ns.length : Int) < (ns.length : Int)) = false := by simp
          have Hx1 : Hid (xs = clsN ns (t + 1)) := hide (by rw [hxs.out, ← HSt.out, ← hl1.out, List.take_length])
          clear hxs hli
          go_wp2
          go_roundg (ns.length + 1 - (t + 1))
          case measure => omega
          case rel => exact ⟨t + 1, Ax, cx, by omega, rfl, by go_num, by rw [Hx1.out], by have := Hox.out.mono hww; rw [Hx1.out] at this; exact this, Hb.out⟩
    · obtain rfl : t = ns.length + 1 := by omega
      have hlt2 : decide (((ns.length + 1 : Nat) : Int) ≤ (ns.length : Int)) = false := decide_eq_false (by omega)
      have HA : Hid (clsN ns (ns.length + 1) = clsN ns ns.length) := cls_all HK.out 1
      clear hSame hFirst HSt H164 hl1
      rw [HA.out] at HO hC64 hl0 ⊢
      go_wp2
      go_ret
      exact ⟨An, cn, rfl, HO.out, Hb.out⟩

end Go.Proofs.Ythgklkpfmjgeoaa

namespace Go.Proofs.Ythgklkpfmjgeoaa
open Go.RowKit Go.Maps
set_option linter.unusedVariables false

set_option maxHeartbeats 400000 in
theorem enters_any (ns : List Nd) : WalkA.Enters ns anyB := by
  intro k n A c w _
  go_enter Try.func80, Try.ntmps80
  go_wp2
  go_ret
  exact ⟨rfl, (Below.refl _ _).alloc (Nat.le_refl _) _⟩

set_option maxHeartbeats 1000000 in
theorem reachFrom_yes (A : Option Addr) (ns : List Nd) (c : Nat) (i : Nat) (w : World) (hr : NdsAt w w.heap.size A ns) (hv : ValidG ns (i : Int)) :
    Calls Try.prog 71 #[.agg #[.slice A ns.length c, .int .i64 (i : Int)]] w (GivesInts w (reachOf ns i)) := by
  have hB : Below w.heap.size w (w.alloc (.cells #[.slice A ns.length c, .int .i64 (i : Int)] 25)) := (Below.refl _ _).alloc (Nat.le_refl _) _
  have l1 := Lies.new w #[.slice A ns.length c, .int .i64 (i : Int)] 25
  have hr3 := hr.later hB (Nat.le_refl _)
  have hi : i < ns.length := by have := hv.root; omega
  have hi12 := hv.few
  have HV := hide hv
  clear hr hv
  go_enter Try.func71, Try.ntmps71
  go_wp2_with fail
  have l2 := l1
  have hzz : (w.alloc (.cells #[.slice A ns.length c, .int .i64 (i : Int)] 25)).heap.size = w.heap.size + 1 := by simp
  have HZZ := hide hzz
  clear hzz
  generalize w.alloc (.cells #[.slice A ns.length c, .int .i64 (i : Int)] 25) = w1 at hB l1 l2 hr3 HZZ ⊢
  have hB1 := hB
  have hsz := l2.lt
  clear l1 hB
  have hb2 : Below w1.heap.size w1 (w1.alloc (.cells #[.int .i64 (i : Int)] 3)) := (Below.refl _ _).alloc (Nat.le_refl _) _
  have hr4 := hr3.later hb2 (Nat.le_refl _)
  have hB2 := hB1.trans (hb2.mono (by omega))
  have hI : IntsAt (w1.alloc (.cells #[.int .i64 (i : Int)] 3)) (w1.alloc (.cells #[.int .i64 (i : Int)] 3)).heap.size (some ⟨w.heap.size + 1, 0, none⟩) [(i : Int)] := by
    have := IntsAt.one w1 (i : Int) (by constructor <;> omega)
    rw [← HZZ.out]
    simpa using this
  generalize w1.alloc (.cells #[.int .i64 (i : Int)] 3) = w2 at hb2 hr4 hB2 hI ⊢
  refine (WalkA.walkFrom_any ns anyB (enters_any ns) (kidsIn_of_valid HV.out) (by omega) A c (some ⟨w.heap.size + 1, 0, none⟩) [(i : Int)] 1 w2 hr4 hI (fun x hx => by simp at hx; omega)).mono ?_
  rintro e w3 ⟨A', c', rfl, hown, hb3⟩
  have HG : Hid (GivesInts w (reachOf ns i) (.returned (.slice A' (dfsL ns anyB (ns.length + 1) [(i : Int)] []).length c')) w3) := by
    show GivesInts _ _ _ _
    have e : reachOf ns i = dfsL ns anyB (ns.length + 1) [(i : Int)] [] := by
      unfold reachOf
      rw [if_pos HV.out, dfsL_cons, dfsL_nil]
    rw [e]
    exact ⟨A', c', rfl, hown.mono hB2.size, hB2.trans (hb3.mono hB2.size)⟩
  clear hown hb3
  go_wp2
  go_ret
  exact HG.out

set_option maxHeartbeats 1000000 in
theorem implReachOf_yes (A : Option Addr) (ns : List Nd) (c : Nat) (i : Nat) (w : World) (hr : NdsAt w w.heap.size A ns) (hv : ValidG ns (i : Int)) :
    Calls Try.prog 51 #[.agg #[.slice A ns.length c, .int .i64 (i : Int)]] w (GivesInts w (reachOf ns i)) := by
  have hB : Below w.heap.size w (w.alloc (.cells #[.slice A ns.length c, .int .i64 (i : Int)] 25)) := (Below.refl _ _).alloc (Nat.le_refl _) _
  have l1 := Lies.new w #[.slice A ns.length c, .int .i64 (i : Int)] 25
  have hr2 := hr.later hB (Nat.le_refl _)
  have HV := hide hv
  clear hr hv
  go_enter Try.func51, Try.ntmps51
  go_wp2_with fail
  generalize w.alloc (.cells #[.slice A ns.length c, .int .i64 (i : Int)] 25) = W at hB l1 hr2 ⊢
  refine (implValid_any A ns c i W hr2).mono ?_
  rintro e w1 ⟨rfl, hb1⟩
  rw [tf_true HV.out]
  have l2 := l1.below hb1 l1.lt
  have hr3 := hr2.later hb1 (Nat.le_refl _)
  have hB1 := hB.trans (hb1.mono hB.size)
  have e0 := l2.cell 0
  have e1 := l2.cell 1
  simp at e0 e1
  clear l1 hr2 hb1 hB
  go_wp2_with fail
  refine (reachFrom_yes A ns c i w1 hr3 HV.out).mono ?_
  rintro e w3 ⟨A', c', rfl, hown, hb3⟩
  have HG : Hid (∃ n, n = (reachOf ns i).length ∧ OwnI w3 w.heap.size A' c' (reachOf ns i) ∧ Below w.heap.size w w3) := ⟨_, rfl, hown.mono hB1.size, hB1.trans (hb3.mono hB1.size)⟩
  clear hown hb3 l2 hr3
  go_wp2
  go_ret
  obtain ⟨_, _, h1, h2⟩ := HG.out
  exact ⟨A', c', rfl, h1, h2⟩

set_option maxHeartbeats 1000000 in
theorem implReachOf_any (A : Option Addr) (ns : List Nd) (c : Nat) (r : Int) (w : World) (hr : NdsAt w w.heap.size A ns) :
    Calls Try.prog 51 #[.agg #[.slice A ns.length c, .int .i64 r]] w (GivesInts w (reachOf ns r)) := by
  by_cases hv : ValidG ns r
  · obtain ⟨i, rfl⟩ := Int.eq_ofNat_of_zero_le hv.root0
    exact implReachOf_yes A ns c i w hr hv
  · have hB : Below w.heap.size w (w.alloc (.cells #[.slice A ns.length c, .int .i64 r] 25)) := (Below.refl _ _).alloc (Nat.le_refl _) _
    have hr2 := hr.later hB (Nat.le_refl _)
    have HV := hide hv
    clear hr hv
    go_enter Try.func51, Try.ntmps51
    go_wp2_with fail
    refine (implValid_any A ns c r _ hr2).mono ?_
    rintro e w1 ⟨rfl, hb1⟩
    rw [tf_false HV.out]
    have hB1 := hB.trans (hb1.mono hB.size)
    clear hb1 hB hr2
    go_wp2
    go_ret
    unfold reachOf
    rw [if_neg HV.out]
    exact ⟨none, 0, rfl, OwnI.empty _ _, hB1⟩

end Go.Proofs.Ythgklkpfmjgeoaa

namespace Go.Proofs.Ythgklkpfmjgeoaa
open Go.RowKit Go.Maps
set_option linter.unusedVariables false

set_option maxHeartbeats 1000000 in
theorem implPruned_any (A : Option Addr) (ns : List Nd) (c : Nat) (r : Int) (w : World) (hr : NdsAt w w.heap.size A ns) :
    Calls Try.prog 24 #[.agg #[.slice A ns.length c, .int .i64 r]] w (GivesG w (prunedOf ns r) 0) := by
  have hB2 : Below w.heap.size w ((w.alloc (.cells #[.slice A ns.length c, .int .i64 r] 25)).alloc (.cells #[.slice none 0 0, .int .i64 0] 25)) := ((Below.refl _ _).alloc (Nat.le_refl _) _).alloc (by simp) _
  have lG := (Lies.new w #[.slice A ns.length c, .int .i64 r] 25).alloc (.cells #[.slice none 0 0, .int .i64 0] 25)
  have lR := Lies.new (w.alloc (.cells #[.slice A ns.length c, .int .i64 r] 25)) #[.slice none 0 0, .int .i64 0] 25
  simp only [World.size_alloc] at lR
  have hr2 := hr.later hB2 (Nat.le_refl _)
  clear hr
  go_enter Try.func24, Try.ntmps24
  go_wp2_with fail
  generalize (w.alloc (.cells #[.slice A ns.length c, .int .i64 r] 25)).alloc (.cells #[.slice none 0 0, .int .i64 0] 25) = W at hB2 lG lR hr2 ⊢
  refine (implValid_any A ns c r W hr2).mono ?_
  rintro e w1 ⟨rfl, hb1⟩
  have lG1 := lG.below hb1 lG.lt
  have lR1 := lR.below hb1 lR.lt
  have hr3 := hr2.later hb1 (Nat.le_refl _)
  have hB3 := hB2.trans (hb1.mono hB2.size)
  have e0 := lG1.cell 0
  have e1 := lG1.cell 1
  simp at e0 e1
  clear lG lR hr2 hB2 hb1
  by_cases hv : ValidG ns r
  · rw [tf_true hv]
    have HV := hide hv
    have hGl := lG1.lt
    have hRl := lR1.lt
    have hne : w.heap.size + 1 ≠ w.heap.size := by omega
    have hr3d : NdsAt w1.drew w1.drew.heap.size A ns := hr3.later (Below.refl _ _).drew (Nat.le_refl _)
    have lRd : Lies w1.drew (w.heap.size + 1) #[.slice none 0 0, .int .i64 0] 25 := lR1
    have hGd : w.heap.size < w1.drew.heap.size := hGl
    have hRd : w.heap.size + 1 < w1.drew.heap.size := hRl
    have hBd : Below w.heap.size w w1.drew := hB3.drew
    clear hv
    go_wp2_with fail
    go_region_held3 (fun w' => w'.cell? ⟨w.heap.size, 0, none⟩ = some (.slice A ns.length c) ∧ w'.cell? ⟨w.heap.size, 1, none⟩ = some (.int .i64 r))
      (first
        | (go_split_ands; refine ⟨?_, ?_⟩ <;> assumption)
        | go_keep)
      (first
        | (go_at_call 51; refine (implReachOf_any A ns c r w1.drew hr3d).mono ?_; rintro e w2 ⟨Ag, cg, rfl, hoG, hb2⟩; have q0 := (hb2.cell (p := ⟨w.heap.size, 0, none⟩) hGd).trans e0; have q1 := (hb2.cell (p := ⟨w.heap.size, 1, none⟩) hGd).trans e1; have lR2 := lRd.below hb2 hRd; have HoG := hide hoG; clear hoG)
        | (go_at_call 50; refine (implPicked_any A ns c r Ag (reachOf ns r) cg w2 (hr3d.later hb2 (Nat.le_refl _)) (HoG.out.ints (in64_met HV.out.few reachOf_met) (by have := @reachOf_few ns r; omega)) (reach_pickable HV.out)).mono ?_; rintro e w3 ⟨Ap, cp, rfl, hoP, hb3⟩; have z0 := (hb3.cell (p := ⟨w.heap.size, 0, none⟩) (Nat.lt_of_lt_of_le hGd hb2.size)).trans q0; have z1 := (hb3.cell (p := ⟨w.heap.size, 1, none⟩) (Nat.lt_of_lt_of_le hGd hb2.size)).trans q1; have lR3 := lR2.below hb3 lR2.lt; have HoP := hide hoP; have b0 := lR3.cell 0; have b1 := lR3.cell 1; have f0 := lR3.frozen 0; have f1 := lR3.frozen 1; simp at b0 b1; clear hoP))
    have l5 := (lR3.set 0 (.slice Ap (pickNs ns (reachOf ns r)).length cp)).set 1 (.int .i64 (place (reachOf ns r) r))
    simp only [List.setIfInBounds_toArray, List.set_cons_succ, List.set_cons_zero] at l5
    have s0 := l5.cell 0
    have s1 := l5.cell 1
    simp only [List.getElem?_toArray, List.getElem?_cons_zero, List.getElem?_cons_succ] at s0 s1
    have HG := hide (GivesG.put (r := place (reachOf ns r) r) hRd hBd hb2 hb3 HoP.out)
    clear l5 lR3 lR2 hb2 hb3 q0 q1 z0 z1 b0 b1 f0 f1 lR1 lG1 hr3 hr3d lRd hBd hB3 e0 e1
    go_wp2
    refine bodyPost_ret (v := .agg #[.slice Ap (pickNs ns (reachOf ns r)).length cp, .int .i64 (place (reachOf ns r) r)]) (by simp [results, Try.results24, go_sem, s0, s1]) rfl ?_
    have h := HG.out
    unfold prunedOf
    rw [if_pos HV.out]
    rw [reach_place HV.out] at h ⊢
    exact h
  · rw [tf_false hv]
    have HV := hide hv
    have l5 := (lR1.set 0 (.slice none 0 0)).set 1 (.int .i64 0)
    simp only [List.setIfInBounds_toArray, List.set_cons_succ, List.set_cons_zero] at l5
    have s0 := l5.cell 0
    have s1 := l5.cell 1
    have b0 := lR1.cell 0
    have b1 := lR1.cell 1
    have f0 := lR1.frozen 0
    have f1 := lR1.frozen 1
    simp only [List.getElem?_toArray, List.getElem?_cons_zero, List.getElem?_cons_succ] at s0 s1 b0 b1
    have HB := hide ((hB3.setCell (p := ⟨w.heap.size + 1, 0, none⟩) (by show w.heap.size ≤ w.heap.size + 1; omega) (.slice none 0 0)).setCell (p := ⟨w.heap.size + 1, 1, none⟩) (by show w.heap.size ≤ w.heap.size + 1; omega) (.int .i64 0))
    clear hv l5 lR1 lG1 hr3 hB3 e0 e1
    go_wp2
    refine bodyPost_ret (v := .agg #[.slice none 0 0, .int .i64 0]) (by simp [results, Try.results24, go_sem, s0, s1]) rfl ?_
    unfold prunedOf
    rw [if_neg HV.out]
    exact GivesG.zero _ _ HB.out

end Go.Proofs.Ythgklkpfmjgeoaa

namespace Go.Proofs.Ythgklkpfmjgeoaa
open Go.RowKit Go.Maps
set_option linter.unusedVariables false

/-- both valid, with equal codes -/
def SameG (ns : List Nd) (r : Int) (ms : List Nd) (s : Int) : Prop := ValidG ns r ∧ ValidG ms s ∧ codeOf ns r = codeOf ms s

set_option maxRecDepth 100000 in
set_option maxHeartbeats 2000000 in
theorem implSame_any (A A' : Option Addr) (ns ms : List Nd) (c c' : Nat) (r s : Int) (w : World) (hr : NdsAt w w.heap.size A ns) (hq : NdsAt w w.heap.size A' ms) :
    Calls Try.prog 8 #[.agg #[.slice A ns.length c, .int .i64 r], .agg #[.slice A' ms.length c', .int .i64 s]] w fun e w' =>
      e = .returned (.bool (tf (SameG ns r ms s))) ∧ Below w.heap.size w w' := by
  have hB : Below w.heap.size w ((w.alloc (.cells #[.slice A ns.length c, .int .i64 r] 25)).alloc (.cells #[.slice A' ms.length c', .int .i64 s] 25)) :=
    ((Below.refl _ _).alloc (Nat.le_refl _) _).alloc (by simp) _
  have l1 := (Lies.new w #[.slice A ns.length c, .int .i64 r] 25).alloc (.cells #[.slice A' ms.length c', .int .i64 s] 25)
  have l2 := Lies.new (w.alloc (.cells #[.slice A ns.length c, .int .i64 r] 25)) #[.slice A' ms.length c', .int .i64 s] 25
  simp only [World.size_alloc] at l2
  have hr2 := hr.below hB
  have hq2 := hq.below hB
  have hwfn := hide hr.wf
  have hwfm := hide hq.wf
  have yesA := fun (h : ValidG ns r) (X : World) (hx : NdsAt X X.heap.size A ns) => (implValid_any A ns c r X hx).mono (R' := fun e w' => e = .returned (.bool true) ∧ Below X.heap.size X w') fun e w' ⟨h1, h2⟩ => ⟨by rw [h1, tf_true h], h2⟩
  have noA := fun (h : ¬ ValidG ns r) (X : World) (hx : NdsAt X X.heap.size A ns) => (implValid_any A ns c r X hx).mono (R' := fun e w' => e = .returned (.bool false) ∧ Below X.heap.size X w') fun e w' ⟨h1, h2⟩ => ⟨by rw [h1, tf_false h], h2⟩
  have yesB := fun (h : ValidG ms s) (X : World) (hx : NdsAt X X.heap.size A' ms) => (implValid_any A' ms c' s X hx).mono (R' := fun e w' => e = .returned (.bool true) ∧ Below X.heap.size X w') fun e w' ⟨h1, h2⟩ => ⟨by rw [h1, tf_true h], h2⟩
  have noB := fun (h : ¬ ValidG ms s) (X : World) (hx : NdsAt X X.heap.size A' ms) => (implValid_any A' ms c' s X hx).mono (R' := fun e w' => e = .returned (.bool false) ∧ Below X.heap.size X w') fun e w' ⟨h1, h2⟩ => ⟨by rw [h1, tf_false h], h2⟩
  clear hr hq
  by_cases hva : ValidG ns r
  · have YA := hide (yesA hva)
    by_cases hvb : ValidG ms s
    · have YB := hide (yesB hvb)
      have CA := hide (fun (X : World) (hx : NdsAt X X.heap.size A ns) => implCodeOf_any A ns c r X hx)
      have CB := hide (fun (X : World) (hx : NdsAt X X.heap.size A' ms) => implCodeOf_any A' ms c' s X hx)
      have HF := hide (show tf (SameG ns r ms s) = decide (codeOf ns r = codeOf ms s) from by
        by_cases he : codeOf ns r = codeOf ms s
        · rw [tf_true ⟨hva, hvb, he⟩]; simp [he]
        · rw [tf_false (fun h => he h.2.2)]; simp [he])
      have ha64 := hide (codeOf_64 (r := r) hwfn.out)
      have hb64 := hide (codeOf_64 (r := s) hwfm.out)
      have hal := codeOf_few (r := r) hwfn.out
      have hbl := codeOf_few (r := s) hwfm.out
      generalize codeOf ns r = xs at CA HF ha64 hal
      generalize codeOf ms s = ys at CB HF hb64 hbl
      clear yesA noA yesB noB hva hvb
      go_enter Try.func8, Try.ntmps8
      go_wp2_with fail
      generalize hWd : (w.alloc (.cells #[.slice A ns.length c, .int .i64 r] 25)).alloc (.cells #[.slice A' ms.length c', .int .i64 s] 25) = W at hB l1 l2 hr2 hq2 ⊢
      have hWs : Hid (W.heap.size = w.heap.size + 1 + 1) := by show _ = _; rw [← hWd]; simp
      clear hWd
      have z1 := l1.lt
      have z2 := l2.lt
      have e0 := l1.cell 0
      have e1 := l1.cell 1
      have d0 := l2.cell 0
      have d1 := l2.cell 1
      simp at e0 e1 d0 d1
      have tok1 : True := trivial
      have tok2 : True := trivial
      have tok3 : True := trivial
      have tok4 : True := trivial
      go_region_held3 (fun w' => w'.cell? ⟨w.heap.size, 0, none⟩ = some (.slice A ns.length c) ∧ w'.cell? ⟨w.heap.size, 1, none⟩ = some (.int .i64 r) ∧ w'.cell? ⟨w.heap.size + 1, 0, none⟩ = some (.slice A' ms.length c') ∧ w'.cell? ⟨w.heap.size + 1, 1, none⟩ = some (.int .i64 s))
        (first
          | (go_split_ands; refine ⟨?_, ?_, ?_, ?_⟩ <;> assumption))
        (first
          | (go_at_call 7; have _t := tok1; clear tok1; refine (YA.out _ (hr2.later (Below.refl _ _).drew (by omega))).mono ?_; rintro e w3 ⟨rfl, hb3⟩; have hbw : Below W.heap.size W w3 := (Below.refl _ _).drew.trans (hb3.mono (by simp)); have q0 := (hbw.cell (p := ⟨w.heap.size, 0, none⟩) z1).trans e0; have q1 := (hbw.cell (p := ⟨w.heap.size, 1, none⟩) z1).trans e1; have q2 := (hbw.cell (p := ⟨w.heap.size + 1, 0, none⟩) z2).trans d0; have q3 := (hbw.cell (p := ⟨w.heap.size + 1, 1, none⟩) z2).trans d1)
          | (go_at_call 7; have _t := tok2; clear tok2; refine (YB.out _ (hq2.later (hbw.mono (by omega)) (by omega))).mono ?_; rintro e w4 ⟨rfl, hb4⟩; have hbx : Below W.heap.size W w4 := hbw.trans (hb4.mono hbw.size); have p0 := (hbx.cell (p := ⟨w.heap.size, 0, none⟩) z1).trans e0; have p1 := (hbx.cell (p := ⟨w.heap.size, 1, none⟩) z1).trans e1; have p2 := (hbx.cell (p := ⟨w.heap.size + 1, 0, none⟩) z2).trans d0; have p3 := (hbx.cell (p := ⟨w.heap.size + 1, 1, none⟩) z2).trans d1)
          | (go_at_call 23; have _t := tok3; clear tok3; refine (CA.out _ (hr2.later (hbx.mono (by omega)) (by omega))).mono ?_; rintro e w5 ⟨Aa, ca, rfl, hoA, hb5⟩; have hby : Below W.heap.size W w5 := hbx.trans (hb5.mono hbx.size); have o0 := (hby.cell (p := ⟨w.heap.size, 0, none⟩) z1).trans e0; have o1 := (hby.cell (p := ⟨w.heap.size, 1, none⟩) z1).trans e1; have o2 := (hby.cell (p := ⟨w.heap.size + 1, 0, none⟩) z2).trans d0; have o3 := (hby.cell (p := ⟨w.heap.size + 1, 1, none⟩) z2).trans d1)
          | (go_at_call 23; have _t := tok4; clear tok4; refine (CB.out _ (hq2.later (hby.mono (by omega)) (by omega))).mono ?_; rintro e w6 ⟨Ab, cb, rfl, hoB, hb6⟩; have hbz : Below W.heap.size W w6 := hby.trans (hb6.mono hby.size); have n0 := (hbz.cell (p := ⟨w.heap.size, 0, none⟩) z1).trans e0; have n1 := (hbz.cell (p := ⟨w.heap.size, 1, none⟩) z1).trans e1; have n2 := (hbz.cell (p := ⟨w.heap.size + 1, 0, none⟩) z2).trans d0; have n3 := (hbz.cell (p := ⟨w.heap.size + 1, 1, none⟩) z2).trans d1)
          | (go_at_call 22; refine (equalI_any Aa Ab xs ys ca cb w6 ((hoA.below hb6).ints ha64.out (by omega)) (hoB.ints hb64.out (by omega))).mono ?_; rintro e w7 ⟨rfl, hb7⟩; have hbt : Below W.heap.size W w7 := hbz.trans (hb7.mono hbz.size); have m0 := (hbt.cell (p := ⟨w.heap.size, 0, none⟩) z1).trans e0; have m1 := (hbt.cell (p := ⟨w.heap.size, 1, none⟩) z1).trans e1; have m2 := (hbt.cell (p := ⟨w.heap.size + 1, 0, none⟩) z2).trans d0; have m3 := (hbt.cell (p := ⟨w.heap.size + 1, 1, none⟩) z2).trans d1))
      go_wp2
      go_ret
      exact ⟨ret_bool HF.out.symm, hB.trans (hbt.mono (by have := hWs.out; omega))⟩
    · have NB := hide (noB hvb)
      have HF := hide (show tf (SameG ns r ms s) = false from tf_false fun h => hvb h.2.1)
      clear yesA noA yesB noB hva hvb
      go_enter Try.func8, Try.ntmps8
      go_wp2_with fail
      generalize hWd : (w.alloc (.cells #[.slice A ns.length c, .int .i64 r] 25)).alloc (.cells #[.slice A' ms.length c', .int .i64 s] 25) = W at hB l1 l2 hr2 hq2 ⊢
      have hWs : Hid (W.heap.size = w.heap.size + 1 + 1) := by show _ = _; rw [← hWd]; simp
      clear hWd
      have z1 := l1.lt
      have z2 := l2.lt
      have e0 := l1.cell 0
      have e1 := l1.cell 1
      have d0 := l2.cell 0
      have d1 := l2.cell 1
      simp at e0 e1 d0 d1
      have tok1 : True := trivial
      have tok2 : True := trivial
      have tok3 : True := trivial
      have tok4 : True := trivial
      go_region_with
        (first
          | (go_at_call 7; have _t := tok1; clear tok1; refine (YA.out _ (hr2.later (Below.refl _ _).drew (by omega))).mono ?_; rintro e w3 ⟨rfl, hb3⟩; have hbw : Below W.heap.size W w3 := (Below.refl _ _).drew.trans (hb3.mono (by simp)); have q0 := (hbw.cell (p := ⟨w.heap.size, 0, none⟩) z1).trans e0; have q1 := (hbw.cell (p := ⟨w.heap.size, 1, none⟩) z1).trans e1; have q2 := (hbw.cell (p := ⟨w.heap.size + 1, 0, none⟩) z2).trans d0; have q3 := (hbw.cell (p := ⟨w.heap.size + 1, 1, none⟩) z2).trans d1)
          | (go_at_call 7; have _t := tok2; clear tok2; refine (NB.out _ (hq2.later (hbw.mono (by omega)) (by omega))).mono ?_; rintro e w4 ⟨rfl, hb4⟩; have hbx : Below W.heap.size W w4 := hbw.trans (hb4.mono hbw.size); have p0 := (hbx.cell (p := ⟨w.heap.size, 0, none⟩) z1).trans e0; have p1 := (hbx.cell (p := ⟨w.heap.size, 1, none⟩) z1).trans e1; have p2 := (hbx.cell (p := ⟨w.heap.size + 1, 0, none⟩) z2).trans d0; have p3 := (hbx.cell (p := ⟨w.heap.size + 1, 1, none⟩) z2).trans d1))
      all_goals
        go_wp2
        go_ret
        exact ⟨ret_bool HF.out.symm, hB.trans (hbx.mono (by have := hWs.out; omega))⟩
  · have NA := hide (noA hva)
    have HF := hide (show tf (SameG ns r ms s) = false from tf_false fun h => hva h.1)
    clear yesA noA yesB noB hva
    go_enter Try.func8, Try.ntmps8
    go_wp2_with fail
    generalize hWd : (w.alloc (.cells #[.slice A ns.length c, .int .i64 r] 25)).alloc (.cells #[.slice A' ms.length c', .int .i64 s] 25) = W at hB l1 l2 hr2 hq2 ⊢
    have hWs : Hid (W.heap.size = w.heap.size + 1 + 1) := by show _ = _; rw [← hWd]; simp
    clear hWd
    have z1 := l1.lt
    have z2 := l2.lt
    have e0 := l1.cell 0
    have e1 := l1.cell 1
    have d0 := l2.cell 0
    have d1 := l2.cell 1
    simp at e0 e1 d0 d1
    go_region_with
      (first
        | (go_at_call 7; refine (NA.out _ (hr2.later (Below.refl _ _).drew (by omega))).mono ?_; rintro e w3 ⟨rfl, hb3⟩; have hbw : Below W.heap.size W w3 := (Below.refl _ _).drew.trans (hb3.mono (by simp)); have q0 := (hbw.cell (p := ⟨w.heap.size, 0, none⟩) z1).trans e0; have q1 := (hbw.cell (p := ⟨w.heap.size, 1, none⟩) z1).trans e1; have q2 := (hbw.cell (p := ⟨w.heap.size + 1, 0, none⟩) z2).trans d0; have q3 := (hbw.cell (p := ⟨w.heap.size + 1, 1, none⟩) z2).trans d1))
    all_goals
      go_wp2
      go_ret
      exact ⟨ret_bool HF.out.symm, hB.trans (hbw.mono (by have := hWs.out; omega))⟩

end Go.Proofs.Ythgklkpfmjgeoaa
