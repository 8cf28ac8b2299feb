/-
  Lemmas, several texts in one: AlkS, ClaS.
-/
import Derived.Test.YtkgnijbdbkopkabPjAs
import Derived.Deep.LoopGhost
import Derived.Deep.RegionHeld3
import Derived.Deep.QuietTactic
import Derived.BigQuiet
import Derived.Test.YtkgnijbdbkopkabPjAd
import Derived.Test.YtkgnijbdbkopkabPjAh
import Derived.Test.YtkgnijbdbkopkabPjAe
import Derived.Test.YtkgnijbdbkopkabPjAi
import Derived.Deep.Cut
namespace Go.Proofs.Ytkgnijbdbkopkab
open Go.RowKit
set_option linter.unusedVariables false

/-- nodes of an equal class that look alike, with kids of equal classes -/
def SameC (ns : List Nd) (cl : List Int) (i k : Nat) : Prop := look cl i = look cl k ∧ ∃ n m, ns[i]? = some n ∧ ns[k]? = some m ∧ sigOf cl n = sigOf cl m

set_option maxRecDepth 100000 in
set_option maxHeartbeats 2000000 in
theorem sameClass_any (A : Option Addr) (ns : List Nd) (c : Nat) (Ac : Option Addr) (cl : List Int) (cc : Nat) (i k : Nat) (w : World) (hr : NdsAt w w.heap.size A ns) (hC : IntsAt w w.heap.size Ac cl) (hl : cl.length = ns.length) (hK : KidsIn ns) (hi : i < ns.length) (hk : k < ns.length) :
    Calls Try.prog 60 #[.slice A ns.length c, .slice Ac cl.length cc, .int .i64 (i : Int), .int .i64 (k : Int)] w fun e w' => e = .returned (.bool (tf (SameC ns cl i k))) ∧ Below w.heap.size w w' := by
  have hnl := hr.len
  obtain ⟨b1, o1, x1, rfl, hb1, hx1, hm1, hc1⟩ := hC.at_ (k := i) (by omega)
  obtain ⟨b2, o2, x2, e2, hb2, hx2, hm2, hc2⟩ := hC.at_ (k := k) (by omega)
  injection e2 with e2
  injection e2 with e3 e4
  subst e3 e4
  obtain ⟨b, off, n, rfl, hbn, hn, hmn, hnd⟩ := hr.at_ hi
  obtain ⟨b3, o3, m, e2, hbm, hm, hmm, hnm⟩ := hr.at_ hk
  injection e2 with e2
  injection e2 with e3 e4
  subst e3 e4
  obtain ⟨An, cn, kn2, hkn, _⟩ := hnd.kids
  obtain ⟨Am, cm, km2, hkm, _⟩ := hnm.kids
  have kn0 := hnd.kind
  have kn1 := hnd.value
  have km0 := hnm.kind
  have km1 := hnm.value
  have HN := hide hn
  have HM := hide hm
  have HX1 := hide hx1
  have HX2 := hide hx2
  have hi0 : (0 : Int) ≤ (i : Int) := by omega
  have hi1 : (i : Int) < (ns.length : Int) := by omega
  have hi2 : (i : Int) < (cl.length : Int) := by omega
  have hk0 : (0 : Int) ≤ (k : Int) := by omega
  have hk1 : (k : Int) < (ns.length : Int) := by omega
  have hk2 : (k : Int) < (cl.length : Int) := by omega
  have HKn := hide (hK n hmn)
  have HKm := hide (hK m hmm)
  have Hl := hide hl
  have Hkn := hide hkn
  have Hkm := hide hkm
  have HCl := hide hC
  have hlkn := hkn.len
  have hb1' : b1 < w.heap.size := hb1
  have hlkm := hkm.len
  clear hn hm hx1 hx2 hmn hmm hm1 hm2 hr hC hK hnd hnm hkn hkm hl
  by_cases hx : x1 = x2
  · subst hx
    have t0 : (x1 != x1) = false := by simp
    by_cases ha : Alike n m
    · have Hlen : Hid (n.kids.length = m.kids.length) := ha.2.2
      have HA := hide ha
      have HAt := hide (tf_true ha)
      clear ha
      go_enter Try.func60, Try.ntmps60
      go_wp2_with fail
      go_region_held3 (fun w' => w'.cell? ⟨b1, o1 + i, none⟩ = some (.int .i64 x1) ∧ w'.cell? ⟨b1, o1 + k, none⟩ = some (.int .i64 x1) ∧ w'.cell? ⟨b, off + i * 3, none⟩ = some (.int .i64 n.kind) ∧ w'.cell? ⟨b, off + i * 3 + 1, none⟩ = some (.int .i64 n.value) ∧ w'.cell? ⟨b, off + i * 3 + 2, none⟩ = some (.slice An n.kids.length cn) ∧ w'.cell? ⟨b, off + k * 3, none⟩ = some (.int .i64 m.kind) ∧ w'.cell? ⟨b, off + k * 3 + 1, none⟩ = some (.int .i64 m.value) ∧ w'.cell? ⟨b, off + k * 3 + 2, none⟩ = some (.slice Am m.kids.length cm))
        (first
          | (go_split_ands; refine ⟨?_, ?_, ?_, ?_, ?_, ?_, ?_, ?_⟩ <;> assumption))
        (first
          | (go_at_call 39; refine (alike_any An Am cn cm n m w.drew).mono ?_; rintro e w1 ⟨rfl, hb1⟩; have hbw : Below w.heap.size w w1 := (Below.refl _ _).drew.trans (hb1.mono (by simp)); have p0 := (hbw.cell (p := ⟨b1, o1 + i, none⟩) hb1').trans hc1; have p1 := (hbw.cell (p := ⟨b1, o1 + k, none⟩) hb1').trans hc2; have p2 := (hbw.cell (p := ⟨b, off + i * 3, none⟩) hbn).trans kn0; have p3 := (hbw.cell (p := ⟨b, off + i * 3 + 1, none⟩) hbn).trans kn1; have p4 := (hbw.cell (p := ⟨b, off + i * 3 + 2, none⟩) hbn).trans kn2; have p5 := (hbw.cell (p := ⟨b, off + k * 3, none⟩) hbn).trans km0; have p6 := (hbw.cell (p := ⟨b, off + k * 3 + 1, none⟩) hbn).trans km1; have p7 := (hbw.cell (p := ⟨b, off + k * 3 + 2, none⟩) hbn).trans km2))
      rw [HAt.out]
      have HB := hide hbw
      have hnlt : b < w1.heap.size := by have := hbw.size; omega
      clear hbw hb1 p0 p1 p2 p3 p5 p6
      clear hc1 hc2 kn0 kn1 kn2 km0 km1 km2
      go_wp2_with fail
      go_loopg [9] n.kids.length (fun gk jv wr => ∃ j : Nat, j ≤ n.kids.length ∧ gk = n.kids.length - j ∧ jv = .int .i64 (j : Int) ∧ Below w.heap.size w wr ∧ w1.heap.size ≤ wr.heap.size ∧ wr.cell? ⟨b, off + i * 3 + 2, none⟩ = some (.slice An n.kids.length cn) ∧ wr.cell? ⟨b, off + k * 3 + 2, none⟩ = some (.slice Am m.kids.length cm) ∧ ∀ (q : Nat) (x y : Int), q < j → n.kids[q]? = some x → m.kids[q]? = some y → look cl x = look cl y)
      case atStart => exact ⟨0, Nat.zero_le _, rfl, rfl, HB.out, Nat.le_refl _, p4, p7, fun q x y hq => absurd hq (by omega)⟩
      case round =>
        clear p4 p7
        obtain ⟨j, hj, rfl, rfl, hb, hsz, e4, e7, hall0⟩ := hrel
        have hall := hide hall0
        have Hb := hide hb
        clear hall0 hb
        by_cases hlj : j < n.kids.length
        · obtain ⟨b5, o5, x, rfl, hb5, hx, hxm, hcx⟩ := (Hkn.out.below Hb.out).at_ hlj
          obtain ⟨b6, o6, y, rfl, hb6, hy, hym, hcy⟩ := (Hkm.out.below Hb.out).at_ (k := j) (by have := Hlen.out; omega)
          have HX := hide hx
          have HY := hide hy
          obtain ⟨x0, x2⟩ := HKn.out x hxm
          obtain ⟨y0, y2⟩ := HKm.out y hym
          obtain ⟨xn, rfl⟩ := Int.eq_ofNat_of_zero_le x0
          obtain ⟨yn, rfl⟩ := Int.eq_ofNat_of_zero_le y0
          obtain ⟨b7, o7, u, e1, hb7, hu, _, hcu⟩ := (HCl.out.below Hb.out).at_ (k := xn) (by have := Hl.out; omega)
          injection e1 with e1
          injection e1 with e2 e3
          subst e2 e3
          obtain ⟨b8, o8, v, e1, hb8, hv, _, hcv⟩ := (HCl.out.below Hb.out).at_ (k := yn) (by have := Hl.out; omega)
          injection e1 with e1
          injection e1 with e2 e3
          subst e2 e3
          have HU := hide (look_at hu)
          have HV := hide (look_at hv)
          have hxc : (xn : Int) < (cl.length : Int) := by have := Hl.out; omega
          have hyc : (yn : Int) < (cl.length : Int) := by have := Hl.out; omega
          have hj0 : (0 : Int) ≤ (j : Int) := by omega
          have hj1 : (j : Int) < (n.kids.length : Int) := by omega
          have hj2 : (j : Int) < (m.kids.length : Int) := by have := Hlen.out; omega
          clear hx hy hxm hym x2 y2 hu hv hb5 hb6 hb7 hb8
          by_cases huv : u = v
          · subst huv
            have t3 : (u != u) = false := by simp
            go_wp2_with fail
            go_quiet (fail)
            go_wp2
            go_roundg (n.kids.length - (j + 1))
            case measure => omega
            case rel => exact ⟨j + 1, by omega, rfl, by go_num, below_drewN Hb.out _, by simpa using hsz, by simpa using e4, by simpa using e7, fun q a c hq ha hc => by
              by_cases e : q = j
              · subst e
                rw [HX.out] at ha
                rw [HY.out] at hc
                injection ha with ha
                injection hc with hc
                rw [← ha, ← hc, HU.out, HV.out]
              · exact hall.out q a c (by omega) ha hc⟩
          · have t3 : (u != v) = true := by simpa using huv
            have HF := hide (show tf (SameC ns cl i k) = false from tf_false (fun h => by
              obtain ⟨_, n', m', g1, g2, g3⟩ := h
              rw [HN.out] at g1
              rw [HM.out] at g2
              injection g1 with g1
              injection g2 with g2
              subst g1 g2
              have := (alike_sig g3).2 j _ _ HX.out HY.out
              rw [HU.out, HV.out] at this
              exact huv this))
            clear huv
            go_wp2_with fail
            go_quiet (fail)
            go_wp2
            go_ret
            exact ⟨ret_bool HF.out.symm, below_drewN Hb.out _⟩
        · obtain rfl : j = n.kids.length := by omega
          have HF := hide (show tf (SameC ns cl i k) = true from tf_true ⟨by rw [look_at HX1.out, look_at HX2.out], n, m, HN.out, HM.out, sig_alike HA.out (fun q x y hx hy => hall.out q x y (List.getElem?_eq_some_iff.1 hx).1 hx hy)⟩)
          have hj1 : decide ((n.kids.length : Int) < (n.kids.length : Int)) = false := by simp
          go_wp2
          go_ret
          exact ⟨ret_bool HF.out.symm, Hb.out⟩
    · have HF := hide (show tf (SameC ns cl i k) = false from tf_false (fun h => by
        obtain ⟨_, n', m', g1, g2, g3⟩ := h
        rw [HN.out] at g1
        rw [HM.out] at g2
        injection g1 with g1
        injection g2 with g2
        subst g1 g2
        exact ha (alike_sig g3).1))
      have HAt := hide (tf_false ha)
      clear ha
      go_enter Try.func60, Try.ntmps60
      go_wp2_with fail
      go_region_held3 (fun w' => w'.cell? ⟨b1, o1 + i, none⟩ = some (.int .i64 x1) ∧ w'.cell? ⟨b1, o1 + k, none⟩ = some (.int .i64 x1) ∧ w'.cell? ⟨b, off + i * 3, none⟩ = some (.int .i64 n.kind) ∧ w'.cell? ⟨b, off + i * 3 + 1, none⟩ = some (.int .i64 n.value) ∧ w'.cell? ⟨b, off + i * 3 + 2, none⟩ = some (.slice An n.kids.length cn) ∧ w'.cell? ⟨b, off + k * 3, none⟩ = some (.int .i64 m.kind) ∧ w'.cell? ⟨b, off + k * 3 + 1, none⟩ = some (.int .i64 m.value) ∧ w'.cell? ⟨b, off + k * 3 + 2, none⟩ = some (.slice Am m.kids.length cm))
        (first
          | (go_split_ands; refine ⟨?_, ?_, ?_, ?_, ?_, ?_, ?_, ?_⟩ <;> assumption))
        (first
          | (go_at_call 39; refine (alike_any An Am cn cm n m w.drew).mono ?_; rintro e w1 ⟨rfl, hb1⟩; have hbw : Below w.heap.size w w1 := (Below.refl _ _).drew.trans (hb1.mono (by simp)); have p0 := (hbw.cell (p := ⟨b1, o1 + i, none⟩) hb1').trans hc1; have p1 := (hbw.cell (p := ⟨b1, o1 + k, none⟩) hb1').trans hc2; have p2 := (hbw.cell (p := ⟨b, off + i * 3, none⟩) hbn).trans kn0; have p3 := (hbw.cell (p := ⟨b, off + i * 3 + 1, none⟩) hbn).trans kn1; have p4 := (hbw.cell (p := ⟨b, off + i * 3 + 2, none⟩) hbn).trans kn2; have p5 := (hbw.cell (p := ⟨b, off + k * 3, none⟩) hbn).trans km0; have p6 := (hbw.cell (p := ⟨b, off + k * 3 + 1, none⟩) hbn).trans km1; have p7 := (hbw.cell (p := ⟨b, off + k * 3 + 2, none⟩) hbn).trans km2))
      rw [HAt.out]
      have HB := hide hbw
      go_wp2
      go_ret
      exact ⟨ret_bool HF.out.symm, HB.out⟩
  · have HF := hide (show tf (SameC ns cl i k) = false from tf_false (fun h => hx (by
      have := h.1
      rw [look_at HX1.out, look_at HX2.out] at this
      exact this)))
    have t0 : (x1 != x2) = true := by simpa using hx
    clear hx
    go_enter Try.func60, Try.ntmps60
    go_wp2_with fail
    go_quiet (fail)
    go_wp2
    go_ret
    exact ⟨ret_bool HF.out.symm, below_drewN (Below.refl _ _) _⟩

end Go.Proofs.Ytkgnijbdbkopkab

namespace Go.Proofs.Ytkgnijbdbkopkab
open Go.RowKit
set_option linter.unusedVariables false

theorem sameC_sig {ns : List Nd} (hK : KidsIn ns) {d i k : Nat} {n m : Nd} (hi : ns[i]? = some n) (hk : ns[k]? = some m) : SameC ns (clsN ns d) i k ↔ sigOf (clsN ns d) m = sigOf (clsN ns d) n := by
  constructor
  · rintro ⟨_, n', m', g1, g2, g3⟩
    rw [hi] at g1
    rw [hk] at g2
    injection g1 with g1
    injection g2 with g2
    subst g1 g2
    exact g3.symm
  · intro h
    refine ⟨?_, n, m, hi, hk, h.symm⟩
    have h1 : look (clsN ns (d + 1)) i = look (clsN ns (d + 1)) k := (finer_eq (cl := clsN ns d) hi hk).2 h.symm
    exact cls_mono hK d i k (by have := (List.getElem?_eq_some_iff.1 hi).1; omega) (by have := (List.getElem?_eq_some_iff.1 hk).1; omega) h1

theorem clsS_64 {ns : List Nd} (hn : ns.length ≤ 1000) (d : Nat) : ∀ x ∈ clsN ns d, In64 x := by
  intro x hx
  have := clsN_in ns d x hx
  constructor <;> omega

set_option maxRecDepth 100000 in
set_option maxHeartbeats 4000000 in
theorem specClasses_any (A : Option Addr) (ns : List Nd) (c : Nat) (w : World) (hr : NdsAt w w.heap.size A ns) (hK : KidsIn ns) (hn : ns.length ≤ 1000) :
    Calls Try.prog 45 #[.slice A ns.length c] w (GivesInts w (clsN ns ns.length)) := by
  have hmk : ∀ w : World, _ := run_make_row' (P := Try.prog) 37 3 (.int .i64 0) 8 Try.underlying37 infoInt rfl .i64 .i64 ns.length (by omega) (by omega)
  have Hr := hide hr
  have HK := hide hK
  have hR1 := RowL.made w ns.length
  have hB0 := (Below.refl w.heap.size w).alloc (Nat.le_refl _) (.cells (madeCells #[.int .i64 0] ns.length) 3)
  clear hr hK
  go_enter Try.func45, Try.ntmps45
  go_wp2_with fail
  clear hmk
  generalize w.alloc (.cells (madeCells #[.int .i64 0] ns.length) 3) = W at hR1 hB0 ⊢
  have HO0 := hide (hR1.own (base := w.heap.size) (Nat.le_refl _) (by simp; unfold maxLen; omega))
  have HB0 := hide hB0
  clear hR1 hB0
  go_loopg [3, 4, 5, 6, 7] (ns.length + 1) (fun gk nv tv _ _ _ wr => ∃ (t : Nat) (An : Option Addr) (cn : Nat), t ≤ ns.length + 1 ∧ gk = ns.length + 1 - t ∧ tv = .int .i64 (t : Int) ∧ nv = .slice An (clsN ns t).length cn ∧ OwnI wr w.heap.size An cn (clsN ns t) ∧ Below w.heap.size w wr)
  case atStart => exact ⟨0, some ⟨w.heap.size, 0, none⟩, ns.length, Nat.zero_le _, rfl, rfl, by simp [clsN], by have := HO0.out; simpa [clsN] using this, HB0.out⟩
  case round =>
    clear HO0
    obtain ⟨t, An, cn, ht, rfl, rfl, rfl, ho, hb⟩ := hrel
    have HO := hide ho
    have Hb := hide hb
    have hC64 := hide (clsS_64 hn t)
    have hl0 : Hid ((clsN ns t).length = ns.length) := clsN_len ns t
    have hl1 : Hid ((finer ns (clsN ns t)).length = ns.length) := finer_len ns _
    have hSame := hide (fun (i k : Nat) (n m : Nd) (hi : ns[i]? = some n) (hk : ns[k]? = some m) => sameC_sig HK.out (d := t) hi hk)
    have HSt : Hid (finer ns (clsN ns t) = clsN ns (t + 1)) := rfl
    have H164 := hide (clsS_64 hn (t + 1))
    have hFirst := hide (fun (i j : Nat) (n m : Nd) (hi : ns[i]? = some n) (hj : ns[j]? = some m) (hs : sigOf (clsN ns t) m = sigOf (clsN ns t) n) (hf : ∀ k q, k < j → ns[k]? = some q → sigOf (clsN ns t) q ≠ sigOf (clsN ns t) n) => finer_first hi hj hs hf)
    clear ho hb
    by_cases hlt : t ≤ ns.length
    · have hlt2 : (t : Int) ≤ (ns.length : Int) := by omega
      have hcl : (clsN ns t).length ≤ 1000 := by rw [hl0.out]; exact hn
      generalize hC1 : finer ns (clsN ns t) = C1 at hl1 HSt hFirst
      have hin1 : C1.length ≤ 1000 := by rw [hl1.out]; exact hn
      have HC1 := hide hC1
      clear hC1
      rw [← HSt.out] at H164
      generalize hC : clsN ns t = C at HO hC64 hl0 hSame HSt hcl hFirst HC1 ⊢
      have HC := hide hC
      clear hC
      have hww : w.heap.size ≤ wr.heap.size := Hb.out.size
      have HN0 := hide (OwnI.bare wr)
      have HOn := hide (HO.out.alloc (.cells #[] 3))
      have HBn := hide (Hb.out.alloc hww (.cells #[] 3))
      have hd1 : ∀ b, blockOf An = some b → b < wr.heap.size := fun b hb => (HO.out.blocks b hb).2
      have Hd1 := hide hd1
      clear hd1
      go_wp2_with fail
      have hsz1 : wr.heap.size ≤ (wr.alloc (.cells #[] 3)).heap.size := by simp
      generalize wr.alloc (.cells #[] 3) = W1 at HN0 HOn HBn hsz1 ⊢
      generalize hbn : wr.heap.size = bn at HN0 hww Hd1 hsz1 ⊢
      clear hbn
      go_loopg [5, 6, 7] ns.length (fun gk xv iv _ wi => ∃ (i : Nat) (Ax : Option Addr) (cx : Nat) (xs : List Int), i ≤ ns.length ∧ gk = ns.length - i ∧ iv = .int .i64 (i : Int) ∧ xv = .slice Ax xs.length cx ∧ Hid (xs = C1.take i) ∧ OwnI wi bn Ax cx xs ∧ OwnI wi w.heap.size An cn C ∧ bn ≤ wi.heap.size ∧ Below w.heap.size w wi)
      case atStart => exact ⟨0, some ⟨bn, 0, none⟩, 0, [], Nat.zero_le _, rfl, rfl, rfl, hide (by simp), HN0.out, HOn.out, hsz1, HBn.out⟩
      case round =>
        clear HN0 HOn HBn HO Hb
        obtain ⟨i, Ax, cx, xs, hi, rfl, rfl, rfl, hxs, hox, hon, hszi, hb⟩ := hrel
        have Hox := hide hox
        have Hon := hide hon
        have Hb := hide hb
        have hxl : xs.length ≤ 1000 := by rw [hxs.out]; simp; omega
        clear hox hon hb
        by_cases hli : i < ns.length
        · obtain ⟨n, hn'⟩ : ∃ n, ns[i]? = some n := ⟨_, List.getElem?_eq_getElem hli⟩
          have HN := hide hn'
          have hi1 : (i : Int) < (ns.length : Int) := by omega
          have hi64 : In64 (i : Int) := by constructor <;> omega
          have hwi : w.heap.size ≤ wr.heap.size := Hb.out.size
          clear hn'
          have HbW := hide (Below.refl wr.heap.size wr)
          go_wp2_with fail
          obtain ⟨W2, hW2⟩ : ∃ X, X = wr := ⟨_, rfl⟩
          subst hW2
          go_loopg [7] i (fun gk kv wi => ∃ k : Nat, k ≤ i ∧ gk = i - k ∧ kv = .int .i64 (k : Int) ∧ Below W2.heap.size W2 wi ∧ ∀ (q : Nat) (m : Nd), q < k → ns[q]? = some m → sigOf C m ≠ sigOf C n)
          case atStart => exact ⟨0, Nat.zero_le _, rfl, rfl, HbW.out, fun q m hq => absurd hq (by omega)⟩
          case round =>
            clear HbW
            obtain ⟨k, hk, rfl, rfl, hb, hall0⟩ := hrel
            have hall := hide hall0
            have HB := hide hb
            clear hall0 hb
            have HBw := hide (Hb.out.trans (HB.out.mono hwi))
            by_cases hki : k < i
            · have hki1 : (k : Int) < (i : Int) := by omega
              obtain ⟨m, hm⟩ : ∃ m, ns[k]? = some m := ⟨_, List.getElem?_eq_getElem (by omega)⟩
              have HM := hide hm
              have hcall := hide (sameClass_any A ns c An C cn i k wr ((Hr.out.below HBw.out).more HBw.out.size) ((Hon.out.ints hC64.out (by omega)).later HB.out (Nat.le_refl _)) hl0.out HK.out hli (by omega))
              have HSm := hide (hSame.out i k n m HN.out hm)
              clear hm
              by_cases hs : SameC ns C i k
              · have hsig := HSm.out.1 hs
                have h1 := hide (hFirst.out i k n m HN.out HM.out hsig (fun q p hq hp => hall.out q p hq hp))
                have h2 := hide (hFirst.out k k m m HM.out HM.out rfl (fun q p hq hp e => hall.out q p hq hp (e.trans hsig)))
                rw [tf_true hs] at hcall
                clear hs hsig
                have hxk : xs[k]? = some (k : Int) := by
                  rw [hxs.out, List.getElem?_take, if_pos hki]
                  exact h2.out
                have hxk2 : k < xs.length := (List.getElem?_eq_some_iff.1 hxk).1
                have hk0 : (0 : Int) ≤ (k : Int) := by omega
                have hkx : (k : Int) < (xs.length : Int) := by omega
                have hk64 : In64 (k : Int) := by constructor <;> omega
                go_wp2_with fail
                refine hcall.out.mono ?_
                rintro e wy ⟨rfl, hby⟩
                have HBy := hide (HB.out.trans (hby.mono HB.out.size))
                have Hxy := hide (Hox.out.below HBy.out)
                obtain ⟨gx, rfl⟩ : ∃ gx, Ax = some ⟨gx, 0, none⟩ := by
                  rcases Hox.out.form with ⟨_, _, h3⟩ | ⟨gx, h3, _⟩
                  · rw [h3] at hxk2; simp at hxk2
                  · exact ⟨gx, h3⟩
                have hce : wy.cell? ⟨gx, k, none⟩ = some (.int .i64 (k : Int)) := Hxy.out.cellM hxk
                have hbn : bn ≤ wy.heap.size := by have := (Hxy.out.blocks gx rfl); omega
                have HY1 := hide (Hon.out.below HBy.out)
                have hgn : ∀ b, blockOf An = some b → b ≠ gx := fun b hb e => by have := Hd1.out b hb; have := (Hxy.out.blocks gx rfl).1; omega
                have HG := hide hgn
                have hwy := HBy.out.size
                clear hcall hby hgn
                go_wp2_with (at_builtin; refine append_ints rfl (.tmp 40) (.tmp 45) rfl bn (some ⟨gx, 0, none⟩) cx xs rfl (Hxy.out.alloc _) (wy.heap.size + 1) _ 1 [(k : Int)] rfl (fun e => by cases e) (IntsAt.one wy (k : Int) hk64) (by simp <;> omega) (by simp <;> omega) ?_; intro zs A3 c3 w5 hz hown5 hg5 _)
                have hbg : Below bn wy w5 := below_grown ((Below.refl _ _).alloc hbn _) hg5 (by simp; omega) (fun q hq => (Hxy.out.blocks q hq).1)
                have HZ : Hid (zs = C1.take (i + 1)) := hide (by
                  rw [hz.out, hxs.out, List.take_add_one, h1.out]
                  rfl)
                have H5 := hide (HY1.out.ofB (w' := w5) (fun b hb => hbg.block b (Hd1.out b hb)))
                have HB5 := hide (((Hb.out.trans (HBy.out.mono hwi))).trans (hbg.mono hww))
                have HO5 := hide hown5
                have hs5 : bn ≤ w5.heap.size := Nat.le_trans hbn hbg.size
                clear hbg hown5 hg5 hce hxk hxk2 HY1 HG Hxy
                go_wp2
                go_roundg (ns.length - (i + 1))
                case measure => omega
                case rel => exact ⟨i + 1, A3, c3, zs, by omega, rfl, by go_num, rfl, HZ, HO5.out, H5.out, hs5, HB5.out⟩
              · rw [tf_false hs] at hcall
                have hns : sigOf C m ≠ sigOf C n := fun e => hs (HSm.out.2 e)
                have Hns := hide hns
                clear hs hns
                go_wp2_with fail
                refine hcall.out.mono ?_
                rintro e wy ⟨rfl, hby⟩
                have HBy := hide (HB.out.trans (hby.mono HB.out.size))
                clear hby hcall
                go_wp2
                go_roundg (i - (k + 1))
                case measure => omega
                case rel => exact ⟨k + 1, by omega, rfl, by go_num, HBy.out, fun q p hq hp => by
                  by_cases e : q = k
                  · subst e
                    rw [HM.out] at hp
                    injection hp with hp
                    rw [← hp]
                    exact Hns.out
                  · exact hall.out q p (by omega) hp⟩
            · obtain rfl : k = i := by omega
              have hkk : decide ((k : Int) < (k : Int)) = false := by simp
              have h1 := hide (hFirst.out k k n n HN.out HN.out rfl (fun q p hq hp => hall.out q p hq hp))
              have hk64 : In64 (k : Int) := by constructor <;> omega
              have Hxy := hide (Hox.out.below HB.out)
              have HY1 := hide (Hon.out.below HB.out)
              have hwy := HB.out.size
              have hbn : bn ≤ wr.heap.size := by omega
              clear hki
              go_wp2_with (at_builtin; refine append_ints rfl (.tmp 47) (.tmp 49) rfl bn Ax cx xs rfl (Hxy.out.alloc _) (wr.heap.size + 1) _ 1 [(k : Int)] rfl (fun e => by cases e) (IntsAt.one wr (k : Int) hk64) (by simp <;> omega) (by simp <;> omega) ?_; intro zs A3 c3 w5 hz hown5 hg5 _)
              have hbg : Below bn wr w5 := below_grown ((Below.refl _ _).alloc hbn _) hg5 (by simp; omega) (fun q hq => (Hxy.out.blocks q hq).1)
              have HZ : Hid (zs = C1.take (k + 1)) := hide (by
                rw [hz.out, hxs.out, List.take_add_one, h1.out]
                rfl)
              have H5 := hide (HY1.out.ofB (w' := w5) (fun b hb => hbg.block b (Hd1.out b hb)))
              have HB5 := hide (((Hb.out.trans (HB.out.mono hwi))).trans (hbg.mono hww))
              have HO5 := hide hown5
              have hs5 : bn ≤ w5.heap.size := Nat.le_trans hbn hbg.size
              clear hbg hown5 hg5 HY1 Hxy
              go_wp2
              go_roundg (ns.length - (k + 1))
              case measure => omega
              case rel => exact ⟨k + 1, A3, c3, zs, by omega, rfl, by go_num, rfl, HZ, HO5.out, H5.out, hs5, HB5.out⟩
        · obtain rfl : i = ns.length := by omega
          have hii : decide ((ns.length : Int) < (ns.length : Int)) = false := by simp
          have Hx1 : Hid (xs = clsN ns (t + 1)) := hide (by rw [hxs.out, ← HSt.out, ← hl1.out, List.take_length])
          clear hxs hli
          go_wp2
          go_roundg (ns.length + 1 - (t + 1))
          case measure => omega
          case rel => exact ⟨t + 1, Ax, cx, by omega, rfl, by go_num, by rw [Hx1.out], by have := Hox.out.mono hww; rw [Hx1.out] at this; exact this, Hb.out⟩
    · obtain rfl : t = ns.length + 1 := by omega
      have hlt2 : decide (((ns.length + 1 : Nat) : Int) ≤ (ns.length : Int)) = false := decide_eq_false (by omega)
      have HA : Hid (clsN ns (ns.length + 1) = clsN ns ns.length) := cls_all HK.out 1
      clear hSame hFirst HSt H164 hl1
      rw [HA.out] at HO hC64 hl0 ⊢
      go_wp2
      go_ret
      exact ⟨An, cn, rfl, HO.out, Hb.out⟩

end Go.Proofs.Ytkgnijbdbkopkab
