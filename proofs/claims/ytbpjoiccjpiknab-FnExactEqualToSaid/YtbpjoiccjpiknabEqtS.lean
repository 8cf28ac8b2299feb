/-
  The model's equalTo: what it returns, by depth.
-/
import Derived.Test.YtbpjoiccjpiknabAlkA
import Derived.Test.YtbpjoiccjpiknabPjAh
import Derived.Deep.Cut
namespace Go.Proofs.Ytbpjoiccjpiknab
open Go.RowKit Go.Maps
set_option linter.unusedVariables false

/-- nodes of two graphs that are equal up to a depth -/
def EqN (ns ms : List Nd) (d : Nat) (x y : Int) : Prop := look (clsN (joinNs ns ms) d) x = look (clsN (joinNs ns ms) d) ((ns.length : Int) + y)

theorem eqN_zero (ns ms : List Nd) (x y : Int) : EqN ns ms 0 x y := by
  unfold EqN
  rw [look_zero, look_zero]

theorem eqN_step {ns ms : List Nd} {i j : Nat} {n m : Nd} (hn : ns[i]? = some n) (hm : ms[j]? = some m) (d : Nat) :
    EqN ns ms (d + 1) (i : Int) (j : Int) ↔ Alike n m ∧ ∀ (p : Nat) (a b : Int), n.kids[p]? = some a → m.kids[p]? = some b → EqN ns ms d a b := by
  have hil := (List.getElem?_eq_some_iff.1 hn).1
  have h1 : (joinNs ns ms)[i]? = some n := by
    unfold joinNs
    rw [List.getElem?_append_left hil]; exact hn
  have h2 : (joinNs ns ms)[ns.length + j]? = some (shiftNd ns.length m) := by
    unfold joinNs
    rw [List.getElem?_append_right (by omega), show ns.length + j - ns.length = j by omega, List.getElem?_map, hm]
    rfl
  have h3 := finer_eq (cl := clsN (joinNs ns ms) d) h1 h2
  rw [Int.natCast_add] at h3
  refine Iff.trans h3 ⟨fun h => ?_, fun h => ?_⟩
  · obtain ⟨⟨a1, a2, a3⟩, h5⟩ := alike_sig h
    refine ⟨⟨a1, a2, by simpa [shiftNd] using a3⟩, fun p a b ha hb => h5 p a ((ns.length : Int) + b) ha (by unfold shiftNd; rw [List.getElem?_map, hb]; rfl)⟩
  · obtain ⟨⟨a1, a2, a3⟩, h5⟩ := h
    refine sig_alike ⟨a1, a2, by simpa [shiftNd] using a3⟩ (fun p a b ha hb => ?_)
    unfold shiftNd at hb
    rw [List.getElem?_map] at hb
    obtain ⟨b', hb', rfl⟩ := Option.map_eq_some_iff.1 hb
    exact h5 p a b' ha hb'

set_option maxRecDepth 100000 in
set_option maxHeartbeats 4000000 in
theorem equalTo_any : ∀ (d : Nat) (D : Int), Hid (D = (d : Int)) → d ≤ 1000 → ∀ (A B : Option Addr) (ns ms : List Nd) (ca cb : Nat) (r s : Int) (i j : Nat) (w : World), NdsAt w w.heap.size A ns → NdsAt w w.heap.size B ms → KidsIn ns → KidsIn ms → i < ns.length → j < ms.length →
    Calls Try.prog 12 #[.agg #[.slice A ns.length ca, .int .i64 r], .int .i64 (i : Int), .agg #[.slice B ms.length cb, .int .i64 s], .int .i64 (j : Int), .int .i64 D] w fun e w' => e = .returned (.bool (tf (EqN ns ms d (i : Int) (j : Int)))) ∧ Below w.heap.size w w'
  | 0, D, HD, _, A, B, ns, ms, ca, cb, r, s, i, j, w, ha, hb, hka, hkb, hi, hj => by
    have HF := hide (tf_true (eqN_zero ns ms (i : Int) (j : Int)))
    have t0 : (D == 0) = true := by rw [HD.out]; rfl
    have hB1 : Below w.heap.size w ((w.alloc (.cells #[.slice A ns.length ca, .int .i64 r] 29)).alloc (.cells #[.slice B ms.length cb, .int .i64 s] 29)) := ((Below.refl _ _).alloc (Nat.le_refl _) _).alloc (by simp) _
    have HB := hide hB1
    clear ha hb hB1 HD
    go_enter Try.func12, Try.ntmps12
    go_wp2
    go_ret
    exact ⟨ret_bool HF.out.symm, HB.out⟩
  | d + 1, D, HD, hd, A, B, ns, ms, ca, cb, r, s, i, j, w, ha, hb, hka, hkb, hi, hj => by
    have IH := hide (equalTo_any d)
    have t0 : (D == 0) = false := by rw [HD.out]; exact beq_eq_false_iff_ne.2 (by omega)
    have HW : Hid (IntKind.i64.wrap (D - 1) = D - 1) := hide (by rw [HD.out, IntKind.wrap_i64]; omega)
    have HD1 : Hid (D - 1 = (d : Int)) := hide (by rw [HD.out]; omega)
    have hnl := ha.len
    have hml := hb.len
    obtain ⟨b, off, n, rfl, hbn, hn, hmn, hnd⟩ := ha.at_ hi
    obtain ⟨b2, off2, m, rfl, hbm, hm, hmm, hnm⟩ := hb.at_ hj
    obtain ⟨An, cn, kn2, hkn, _⟩ := hnd.kids
    obtain ⟨Am, cm, km2, hkm, _⟩ := hnm.kids
    have kn0 := hnd.kind
    have kn1 := hnd.value
    have km0 := hnm.kind
    have km1 := hnm.value
    have HS := hide (eqN_step hn hm d)
    have hi0 : (0 : Int) ≤ (i : Int) := by omega
    have hi1 : (i : Int) < (ns.length : Int) := by omega
    have hj0 : (0 : Int) ≤ (j : Int) := by omega
    have hj1 : (j : Int) < (ms.length : Int) := by omega
    have HKn := hide (hka n hmn)
    have HKm := hide (hkb m hmm)
    have Hkn := hide hkn
    have Hkm := hide hkm
    have HA := hide ha
    have HBB := hide hb
    have HKA := hide hka
    have HKB := hide hkb
    have hlkn := hkn.len
    have hlkm := hkm.len
    have hB1 : Below w.heap.size w ((w.alloc (.cells #[.slice (some ⟨b, off, none⟩) ns.length ca, .int .i64 r] 29)).alloc (.cells #[.slice (some ⟨b2, off2, none⟩) ms.length cb, .int .i64 s] 29)) := ((Below.refl _ _).alloc (Nat.le_refl _) _).alloc (by simp) _
    have lA := (Lies.new w #[.slice (some ⟨b, off, none⟩) ns.length ca, .int .i64 r] 29).alloc (.cells #[.slice (some ⟨b2, off2, none⟩) ms.length cb, .int .i64 s] 29)
    have lB := Lies.new (w.alloc (.cells #[.slice (some ⟨b, off, none⟩) ns.length ca, .int .i64 r] 29)) #[.slice (some ⟨b2, off2, none⟩) ms.length cb, .int .i64 s] 29
    simp only [World.size_alloc] at lB
    clear hn hm hmn hmm ha hb hka hkb hnd hnm hkn hkm HD
    go_enter Try.func12, Try.ntmps12
    go_upto_region 3 with fail
    generalize (w.alloc (.cells #[.slice (some ⟨b, off, none⟩) ns.length ca, .int .i64 r] 29)).alloc (.cells #[.slice (some ⟨b2, off2, none⟩) ms.length cb, .int .i64 s] 29) = W at hB1 lA lB ⊢
    have hWA : w.heap.size < W.heap.size := lA.lt
    have hWB : w.heap.size + 1 < W.heap.size := lB.lt
    have hbW : b < W.heap.size := by omega
    have hb2W : b2 < W.heap.size := by omega
    have HCs := hide (show ∀ X : World, Below W.heap.size W X → X.cell? ⟨w.heap.size, 0, none⟩ = some (.slice (some ⟨b, off, none⟩) ns.length ca) ∧ X.cell? ⟨w.heap.size, 1, none⟩ = some (.int .i64 r) ∧ X.cell? ⟨w.heap.size + 1, 0, none⟩ = some (.slice (some ⟨b2, off2, none⟩) ms.length cb) ∧ X.cell? ⟨w.heap.size + 1, 1, none⟩ = some (.int .i64 s) ∧ X.cell? ⟨b, off + i * 3, none⟩ = some (.int .i64 n.kind) ∧ X.cell? ⟨b, off + i * 3 + 1, none⟩ = some (.int .i64 n.value) ∧ X.cell? ⟨b, off + i * 3 + 2, none⟩ = some (.slice An n.kids.length cn) ∧ X.cell? ⟨b2, off2 + j * 3, none⟩ = some (.int .i64 m.kind) ∧ X.cell? ⟨b2, off2 + j * 3 + 1, none⟩ = some (.int .i64 m.value) ∧ X.cell? ⟨b2, off2 + j * 3 + 2, none⟩ = some (.slice Am m.kids.length cm) from fun X hX => by
      have e0 := (lA.below hX hWA).cell 0
      have e1 := (lA.below hX hWA).cell 1
      have d0 := (lB.below hX hWB).cell 0
      have d1 := (lB.below hX hWB).cell 1
      simp only [List.getElem?_toArray, List.getElem?_cons_zero, List.getElem?_cons_succ] at e0 e1 d0 d1
      have hX2 := hB1.trans (hX.mono hB1.size)
      exact ⟨e0, e1, d0, d1, (hX2.cell (p := ⟨b, off + i * 3, none⟩) hbn).trans kn0, (hX2.cell (p := ⟨b, off + i * 3 + 1, none⟩) hbn).trans kn1, (hX2.cell (p := ⟨b, off + i * 3 + 2, none⟩) hbn).trans kn2, (hX2.cell (p := ⟨b2, off2 + j * 3, none⟩) hbm).trans km0, (hX2.cell (p := ⟨b2, off2 + j * 3 + 1, none⟩) hbm).trans km1, (hX2.cell (p := ⟨b2, off2 + j * 3 + 2, none⟩) hbm).trans km2⟩)
    have HB1 := hide hB1
    clear hB1 lA lB kn0 kn1 kn2 km0 km1 km2
    obtain ⟨a0, a1, a2, a3, kn0, kn1, kn2, km0, km1, km2⟩ := HCs.out W (Below.refl _ _)
    go_region_held3 (fun w' => w'.cell? ⟨w.heap.size, 0, none⟩ = some (.slice (some ⟨b, off, none⟩) ns.length ca) ∧ w'.cell? ⟨w.heap.size + 1, 0, none⟩ = some (.slice (some ⟨b2, off2, none⟩) ms.length cb) ∧ w'.cell? ⟨b, off + i * 3, none⟩ = some (.int .i64 n.kind) ∧ w'.cell? ⟨b, off + i * 3 + 1, none⟩ = some (.int .i64 n.value) ∧ w'.cell? ⟨b, off + i * 3 + 2, none⟩ = some (.slice An n.kids.length cn) ∧ w'.cell? ⟨b2, off2 + j * 3, none⟩ = some (.int .i64 m.kind) ∧ w'.cell? ⟨b2, off2 + j * 3 + 1, none⟩ = some (.int .i64 m.value) ∧ w'.cell? ⟨b2, off2 + j * 3 + 2, none⟩ = some (.slice Am m.kids.length cm))
      (first
        | (go_split_ands; refine ⟨?_, ?_, ?_, ?_, ?_, ?_, ?_, ?_⟩ <;> assumption))
      (first
        | (go_at_call 24; refine (alike_any An Am cn cm n m W.drew).mono ?_; rintro e w1 ⟨rfl, hb1⟩; have hbw : Below W.heap.size W w1 := (Below.refl _ _).drew.trans (hb1.mono (by simp)); obtain ⟨p0, p1, p2, p3, p4, p5, p6, p7, p8, p9⟩ := HCs.out w1 hbw))
    have HBw := hide hbw
    have hsz := hbw.size
    clear a0 a1 a2 a3 kn0 kn1 kn2 km0 km1 km2 hb1 hbw
    by_cases hal : Alike n m
    · rw [tf_true hal]
      have Hal := hide hal
      have Hlen : Hid (n.kids.length = m.kids.length) := hal.2.2
      clear hal
      go_wp2_with fail
      clear p0 p1 p2 p3 p4 p5 p6 p7 p8 p9
      go_loopg [11] n.kids.length (fun gk kv wr => ∃ k : Nat, k ≤ n.kids.length ∧ gk = n.kids.length - k ∧ kv = .int .i64 (k : Int) ∧ Below W.heap.size W wr ∧ ∀ (q : Nat) (x y : Int), q < k → n.kids[q]? = some x → m.kids[q]? = some y → EqN ns ms d x y)
      case atStart => exact ⟨0, Nat.zero_le _, rfl, rfl, HBw.out, fun q x y hq => absurd hq (by omega)⟩
      case round =>
        clear HBw hsz
        obtain ⟨k, hk, rfl, rfl, hbw, hall0⟩ := hrel
        have Hall := hide hall0
        have HBw := hide hbw
        have hsz := hbw.size
        obtain ⟨a0, a1, a2, a3, _, _, kn2, _, _, km2⟩ := HCs.out wr hbw
        clear hall0 hbw
        by_cases hlk : k < n.kids.length
        · obtain ⟨b5, o5, x, rfl, hb5, hx, hxm, hcx⟩ := (Hkn.out.below (HB1.out.trans (HBw.out.mono HB1.out.size))).at_ hlk
          obtain ⟨b6, o6, y, rfl, hb6, hy, hym, hcy⟩ := (Hkm.out.below (HB1.out.trans (HBw.out.mono HB1.out.size))).at_ (k := k) (by have := Hlen.out; omega)
          have HX := hide hx
          have HY := hide hy
          obtain ⟨x0, x2⟩ := HKn.out x hxm
          obtain ⟨y0, y2⟩ := HKm.out y hym
          obtain ⟨xn, rfl⟩ := Int.eq_ofNat_of_zero_le x0
          obtain ⟨yn, rfl⟩ := Int.eq_ofNat_of_zero_le y0
          have hj0' : (0 : Int) ≤ (k : Int) := by omega
          have hj1' : (k : Int) < (n.kids.length : Int) := by omega
          have hj2' : (k : Int) < (m.kids.length : Int) := by have := Hlen.out; omega
          have hxn : xn < ns.length := by omega
          have hyn : yn < ms.length := by omega
          have hb5W : b5 < W.heap.size := by omega
          have hb6W : b6 < W.heap.size := by omega
          have HCx := hide hcx
          have HCy := hide hcy
          have hszw := HB1.out.size
          have Hrec := hide (fun (X : World) (hX : Below W.heap.size wr X) => IH.out (D - 1) HD1 (by omega) (some ⟨b, off, none⟩) (some ⟨b2, off2, none⟩) ns ms ca cb r s xn yn X ((HA.out.below (HB1.out.trans (HBw.out.mono HB1.out.size))).later (hX.mono (by omega)) (by omega)) ((HBB.out.below (HB1.out.trans (HBw.out.mono HB1.out.size))).later (hX.mono (by omega)) (by omega)) HKA.out HKB.out hxn hyn)
          clear hx hxm hy hym x2 y2 hb5 hb6
          go_wp2_with fail
          go_region_held3 (fun w' => w'.cell? ⟨w.heap.size, 0, none⟩ = some (.slice (some ⟨b, off, none⟩) ns.length ca) ∧ w'.cell? ⟨w.heap.size, 1, none⟩ = some (.int .i64 r) ∧ w'.cell? ⟨w.heap.size + 1, 0, none⟩ = some (.slice (some ⟨b2, off2, none⟩) ms.length cb) ∧ w'.cell? ⟨w.heap.size + 1, 1, none⟩ = some (.int .i64 s) ∧ w'.cell? ⟨b, off + i * 3 + 2, none⟩ = some (.slice (some ⟨b5, o5, none⟩) n.kids.length cn) ∧ w'.cell? ⟨b2, off2 + j * 3 + 2, none⟩ = some (.slice (some ⟨b6, o6, none⟩) m.kids.length cm) ∧ w'.cell? ⟨b5, o5 + k, none⟩ = some (.int .i64 (xn : Int)) ∧ w'.cell? ⟨b6, o6 + k, none⟩ = some (.int .i64 (yn : Int)))
            (first
              | (go_split_ands; refine ⟨?_, ?_, ?_, ?_, ?_, ?_, ?_, ?_⟩ <;> assumption))
            (first
              | (go_at_call 12; rw [HW.out]; refine (Hrec.out _ (Below.refl _ _).drew).mono ?_; rintro e w5 ⟨rfl, hb5'⟩; have hbx : Below W.heap.size W w5 := HBw.out.trans ((Below.refl W.heap.size wr).drew.trans (hb5'.mono (by simp; omega))); obtain ⟨p0, p1, p2, p3, _, _, p6, _, _, p9⟩ := HCs.out w5 hbx; have p10 := (((Below.refl wr.heap.size wr).drew.trans (hb5'.mono (by simp))).cell (p := ⟨b5, o5 + k, none⟩) (by show b5 < wr.heap.size; omega)).trans HCx.out; have p11 := (((Below.refl wr.heap.size wr).drew.trans (hb5'.mono (by simp))).cell (p := ⟨b6, o6 + k, none⟩) (by show b6 < wr.heap.size; omega)).trans HCy.out))
          have HBx := hide hbx
          clear hb5' hbx a0 a1 a2 a3 kn2 km2 p0 p1 p2 p3 p6 p9 p10 p11 hcx hcy Hrec
          by_cases hq : EqN ns ms d (xn : Int) (yn : Int)
          · rw [tf_true hq]
            have HQ := hide hq
            clear hq
            go_wp2
            go_roundg (n.kids.length - (k + 1))
            case measure => omega
            case rel => exact ⟨k + 1, by omega, rfl, by go_num, HBx.out, fun q a c hq ha hc => by
              by_cases e : q = k
              · subst e
                rw [HX.out] at ha
                rw [HY.out] at hc
                injection ha with ha
                injection hc with hc
                rw [← ha, ← hc]
                exact HQ.out
              · exact Hall.out q a c (by omega) ha hc⟩
          · rw [tf_false hq]
            have HF := hide (show tf (EqN ns ms (d + 1) (i : Int) (j : Int)) = false from tf_false (fun h => hq ((HS.out.1 h).2 k _ _ HX.out HY.out)))
            have HBf := hide (HB1.out.trans (HBx.out.mono HB1.out.size))
            clear hq
            go_wp2
            go_ret
            exact ⟨ret_bool HF.out.symm, HBf.out⟩
        · obtain rfl : k = n.kids.length := by omega
          have HF := hide (show tf (EqN ns ms (d + 1) (i : Int) (j : Int)) = true from tf_true (HS.out.2 ⟨Hal.out, fun p a c ha hc => Hall.out p a c (List.getElem?_eq_some_iff.1 ha).1 ha hc⟩))
          have hj1' : decide ((n.kids.length : Int) < (n.kids.length : Int)) = false := by simp
          have HBf := hide (HB1.out.trans (HBw.out.mono HB1.out.size))
          go_wp2
          go_ret
          exact ⟨ret_bool HF.out.symm, HBf.out⟩
    · rw [tf_false hal]
      have HF := hide (show tf (EqN ns ms (d + 1) (i : Int) (j : Int)) = false from tf_false (fun h => hal (HS.out.1 h).1))
      have HBf := hide (HB1.out.trans (HBw.out.mono HB1.out.size))
      clear hal
      go_wp2
      go_ret
      exact ⟨ret_bool HF.out.symm, HBf.out⟩

end Go.Proofs.Ytbpjoiccjpiknab
