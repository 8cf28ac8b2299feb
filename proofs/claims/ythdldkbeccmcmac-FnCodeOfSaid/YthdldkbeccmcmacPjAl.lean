/-
  Lemmas, several texts in one: DrawCO, LawCO.
-/
import Derived.Test.YthdldkbeccmcmacPjAf
import Derived.Test.YthdldkbeccmcmacAnyGraph
import Derived.Test.YthdldkbeccmcmacPjAj
import Derived.Test.YthdldkbeccmcmacPjAk
import Derived.Test.YthdldkbeccmcmacPjAi
import Derived.Deep.RegionHeld3
namespace Go.Proofs.Ythdldkbeccmcmac
open Go.RowKit
set_option linter.unusedVariables false

/-- some graph that can be read comes back, and old memory is as it was -/
def DrawnG (w : World) (e : Ending) (w' : World) : Prop :=
  ∃ (g cap : Nat) (ns : List Nd) (r : Int), e = .returned (.agg #[.slice (some ⟨g, 0, none⟩) ns.length cap, .int .i64 r]) ∧ NdsAt w' w'.heap.size (some ⟨g, 0, none⟩) ns ∧ 1 ≤ ns.length ∧ ns.length ≤ 10 ∧ In64 r ∧ Below w.heap.size w w'

set_option maxHeartbeats 1000000 in
theorem drawCodeOf_any (A : Option Addr) (n c : Nat) (w : World) (h : BytesAt w w.heap.size A n) (hc : n ≤ c) (hn : n ≤ 9223372036854775807) :
    Calls Try.prog 4 #[.slice A n c] w (DrawnG w) := by
  have hB : Below w.heap.size w (w.alloc (.cells #[.slice none 0 0, .int .i64 0] 25)) := (Below.refl _ w).alloc (Nat.le_refl _) _
  have l2 := Lies.new w #[.slice none 0 0, .int .i64 0] 25
  have h2 := (h.later hB).more hB.size
  clear h
  go_enter Try.func4, Try.ntmps4
  go_wp2_with fail
  generalize w.alloc (.cells #[.slice none 0 0, .int .i64 0] 25) = W at hB l2 h2 ⊢
  refine (newReader_any A n c W h2 hc hn).mono ?_
  rintro e w1 ⟨rfl, ⟨n', c', hrd⟩, hb1⟩
  have l3 := l2.below hb1 l2.lt
  have hB1 := hB.trans (hb1.mono hB.size)
  have hrl := hrd.box.lt
  have hwl := l2.lt
  clear l2 h2 hB hb1
  go_wp2_with fail
  refine (anyGraph_any W.heap.size A n' c' 0 w1 hrd (by omega)).mono ?_
  rintro e w2 ⟨g, cap, p', ns, r, rfl, _, _, hnds, hg, h1, h10, hr64, hG, hkf⟩
  have hbl : Below W.heap.size w1 w2 := ⟨hG.os, hG.tape, hG.output, hG.size, fun k hk => hG.block k (by omega) (by omega)⟩
  have l4 := l3.below hbl hwl
  have hB2 := hB1.trans (hbl.mono (by omega))
  have hwW : w.heap.size < W.heap.size := hwl
  have hw1 : W.heap.size < w1.heap.size := hrl
  have hfin : Hid (NdsAt ((w2.setCell ⟨w.heap.size, 0, none⟩ (.slice (some ⟨g, 0, none⟩) ns.length cap)).setCell ⟨w.heap.size, 1, none⟩ (.int .i64 r)) ((w2.setCell ⟨w.heap.size, 0, none⟩ (.slice (some ⟨g, 0, none⟩) ns.length cap)).setCell ⟨w.heap.size, 1, none⟩ (.int .i64 r)).heap.size (some ⟨g, 0, none⟩) ns) := by
    have hbb : ∀ b, b ≠ w.heap.size → ((w2.setCell ⟨w.heap.size, 0, none⟩ (.slice (some ⟨g, 0, none⟩) ns.length cap)).setCell ⟨w.heap.size, 1, none⟩ (.int .i64 r)).heap[b]? = w2.heap[b]? := fun b hb => (Below.heap_setCell _ _ _ _ hb).trans (Below.heap_setCell _ _ _ _ hb)
    exact hide (hnds.keptK (by simp) (hbb g (by omega)) (fun j hj A3 k3 d3 h3 b hb => hbb b (by have := hkf j hj A3 k3 d3 h3 b hb; omega)))
  have l5 := (l4.set 0 (.slice (some ⟨g, 0, none⟩) ns.length cap)).set 1 (.int .i64 r)
  simp only [List.setIfInBounds_toArray, List.set_cons_succ, List.set_cons_zero] at l5
  have s0 := l5.cell 0
  have s1 := l5.cell 1
  have q0 := l4.cell 0
  have q1 := l4.cell 1
  have q2 := l4.frozen 0
  have q3 := l4.frozen 1
  simp only [List.getElem?_toArray, List.getElem?_cons_zero, List.getElem?_cons_succ] at s0 s1 q0 q1
  have HB := hide ((hB2.setCell (p := ⟨w.heap.size, 0, none⟩) (Nat.le_refl _) (.slice (some ⟨g, 0, none⟩) ns.length cap)).setCell (p := ⟨w.heap.size, 1, none⟩) (Nat.le_refl _) (.int .i64 r))
  clear l3 l4 l5 hnds hG hbl hB1 hB2 hrd hkf
  go_wp2
  refine bodyPost_ret (v := .agg #[.slice (some ⟨g, 0, none⟩) ns.length cap, .int .i64 r]) (by simp [results, Try.results4, go_sem, s0, s1]) rfl ?_
  exact ⟨g, cap, ns, r, rfl, hfin.out, h1, h10, hr64, HB.out⟩

end Go.Proofs.Ythdldkbeccmcmac

namespace Go.Proofs.Ythdldkbeccmcmac
open Go.RowKit Go.Maps
set_option linter.unusedVariables false

theorem codeOf_valid {ns : List Nd} {r : Int} (h : codeOf ns r ≠ []) : ValidG ns r := by
  by_cases hv : ValidG ns r
  · exact hv
  · unfold codeOf at h
    rw [if_neg hv] at h
    exact absurd rfl h

set_option maxRecDepth 100000 in
set_option maxHeartbeats 4000000 in
theorem lawCO_any (A : Option Addr) (n c : Nat) (w : World) (h : BytesAt w w.heap.size A n) (hc : n ≤ c) (hn : n ≤ 9223372036854775807) :
    Calls Try.prog 3 #[.slice A n c] w fun e w' => e = .returned (.bool true) ∧ Below w.heap.size w w' := by
  by_cases hbig : 1048576 < n
  · have d : decide ((1048576 : Int) < (n : Int)) = true := by simp; omega
    go_enter Try.func3, Try.ntmps3
    go_wp2
    go_ret
    exact ⟨rfl, Below.refl _ _⟩
  · have d : decide ((1048576 : Int) < (n : Int)) = false := by simp; omega
    go_enter Try.func3, Try.ntmps3
    go_wp2_with fail
    refine (drawCodeOf_any A n c w h hc hn).mono ?_
    rintro e w1 ⟨g, cap, ns, r, rfl, hnds, h1, h10, hr64, hb1⟩
    have hb2 := hb1.alloc hb1.size (.cells #[.slice (some ⟨g, 0, none⟩) ns.length cap, .int .i64 r] 25)
    have l2 := Lies.new w1 #[.slice (some ⟨g, 0, none⟩) ns.length cap, .int .i64 r] 25
    have hn2 := hnds.later ((Below.refl w1.heap.size w1).alloc (Nat.le_refl _) (.cells #[.slice (some ⟨g, 0, none⟩) ns.length cap, .int .i64 r] 25)) (Nat.le_refl _)
    have hsz := hb1.size
    have hwf := hide hnds.wf
    have e0 := l2.cell 0
    have e1 := l2.cell 1
    simp at e0 e1
    clear hnds hb1 h
    go_wp2_with fail
    generalize w1.alloc (.cells #[.slice (some ⟨g, 0, none⟩) ns.length cap, .int .i64 r] 25) = w2 at hb2 l2 hn2 e0 e1 ⊢
    generalize w1.heap.size = bg at l2 hsz e0 e1 ⊢
    have HI := implCodeOf_any (some ⟨g, 0, none⟩) ns cap r w2 hn2
    refine HI.mono ?_
    clear HI
    rintro e w3 ⟨Ag, cg, rfl, hoG, hb3⟩
    have l3 := l2.below hb3 l2.lt
    have hn3 := hn2.later hb3 (Nat.le_refl _)
    have hB3 := hb2.trans (hb3.mono hb2.size)
    have hSf := codeOf_few (r := r) hwf.out
    have H64 := hide (codeOf_64 (r := r) hwf.out)
    have e0 := l3.cell 0
    have e1 := l3.cell 1
    simp at e0 e1
    clear l2 hn2 hb2 hb3
    go_wp2_with fail
    have HI := specCodeOf_any (some ⟨g, 0, none⟩) ns cap r w3 hn3
    refine HI.mono ?_
    clear HI
    rintro e w4 ⟨Aw, cw, rfl, hoW, hb4⟩
    have HV : Hid (codeOf ns r ≠ [] → ValidG ns r ∧ ∃ l, codeOf ns r = kindOf ns r :: valueOf ns r :: l) := hide (fun hne => ⟨codeOf_valid hne, code_first (codeOf_valid hne)⟩)
    have HP : Hid (ValidG ns r → codeOf (prunedOf ns r) 0 = codeOf ns r) := hide (fun hv => pruned_code hv)
    generalize hSd : codeOf ns r = C at hoG hoW hSf HV HP H64 ⊢
    have HSd := hide hSd
    clear hSd
    have hoG4 := hoG.below hb4
    have iG := hoG4.ints H64.out (by omega)
    have iW := hoW.ints H64.out (by omega)
    have L4 : LawS w w4 bg g cap Ag ns r C := ⟨hB3.trans (hb4.mono hB3.size), l3.below hb4 l3.lt, hn3.later hb4 (Nat.le_refl _), iG⟩
    clear l3 hn3 hB3 hb4 hoG hoW e0 e1 hoG4
    go_wp2_with fail
    refine (equalInts_any Ag Aw C C cg cw w4 iG iW).mono ?_
    rintro e w5 ⟨rfl, hb5⟩
    have hself : decide (C = C) = true := by simp
    rw [hself]
    have L5 := L4.below hb5
    obtain ⟨e0, e1⟩ := L5.cells
    clear L4 iG iW hb5 hself
    by_cases hne : C = []
    · have HE := hide hne
      have hz : ((C.length : Int) == 0) = true := beq_iff_eq.2 (by rw [hne]; rfl)
      clear hne
      go_wp2_with fail
      refine (specCodeOf_any (some ⟨g, 0, none⟩) ns cap r w5 L5.nd).mono ?_
      rintro e w7 ⟨Ax, cx, rfl, hoX, hb7⟩
      rw [HSd.out] at hoX ⊢
      have L7 := L5.below hb7
      have iX := hoX.ints H64.out (by omega)
      clear hb7 L5 hoX e0 e1
      go_wp2_with fail
      refine (equalInts_any Ag Ax C C cg cx w7 L7.out iX).mono ?_
      rintro e w8 ⟨rfl, hb8⟩
      have hself : decide (C = C) = true := by simp
      rw [hself]
      have HB := hide (L7.below hb8).bel
      clear hb8 L7 iX hself
      go_wp2
      go_ret
      exact ⟨rfl, HB.out⟩
    · have hlen : 0 < C.length := List.length_pos_iff.2 hne
      have hz : ((C.length : Int) == 0) = false := beq_eq_false_iff_ne.2 (by omega)
      obtain ⟨hv, l, hl⟩ := HV.out hne
      have HPC := hide (HP.out hv)
      have HVv := hide hv
      obtain ⟨i, rfl⟩ := Int.eq_ofNat_of_zero_le hv.root0
      have hi : i < ns.length := by have := hv.root; omega
      obtain ⟨b', off', m, e2, hgb, hat, _, hnd⟩ := L5.nd.at_ hi
      injection e2 with e2
      injection e2 with e3 e4
      subst e3 e4
      have hc0 : C[0]? = some m.kind := by rw [hl, kindOf_at hat]; rfl
      have hc1 : C[1]? = some m.value := by rw [hl, valueOf_at hat]; rfl
      have hl2 : 1 < C.length := (List.getElem?_eq_some_iff.1 hc1).1
      obtain ⟨b, off, x0, rfl, hbb, hx0, _, hq0⟩ := L5.out.at_ hlen
      obtain ⟨b3, off3, x1, e5, _, hx1, _, hq1⟩ := L5.out.at_ hl2
      injection e5 with e5
      injection e5 with e6 e7
      subst e6 e7
      rw [hc0] at hx0
      rw [hc1] at hx1
      injection hx0 with hx0
      injection hx1 with hx1
      subst hx0 hx1
      have g0 := hnd.kind
      have g1 := hnd.value
      rw [Nat.zero_add] at g0 g1
      rw [Nat.add_zero] at hq0
      have hmsm := prunedOf_smallN ns (i : Int)
      have hml := hmsm.len
      have Hmwf := hide (pick_wf hv (reach_pickable hv))
      rw [← pruned_yes hv] at Hmwf
      have hr1 : (0 : Int) ≤ (i : Int) := by omega
      have hr2 : (i : Int) < (ns.length : Int) := by omega
      have hr3 : (0 : Int) < (C.length : Int) := by omega
      have hr4 : (1 : Int) < (C.length : Int) := by omega
      have L5h := hide L5
      have hlg : bg < w5.heap.size := L5.l.lt
      clear hv hl hc0 hc1 hnd hat HV HP L5
      generalize m.kind = kd at g0 hq0
      generalize m.value = vl at g1 hq1
      generalize hms : prunedOf ns (i : Int) = ms at hmsm hml Hmwf HPC
      have Hms := hide hms
      clear hms
      go_wp2_with fail
      go_region_held3 (fun w' => w'.cell? ⟨bg, 0, none⟩ = some (.slice (some ⟨g, 0, none⟩) ns.length cap) ∧ w'.cell? ⟨bg, 1, none⟩ = some (.int .i64 (i : Int)) ∧ w'.cell? ⟨b, off, none⟩ = some (.int .i64 kd) ∧ w'.cell? ⟨b, off + 1, none⟩ = some (.int .i64 vl) ∧ w'.cell? ⟨g, i * 3, none⟩ = some (.int .i64 kd) ∧ w'.cell? ⟨g, i * 3 + 1, none⟩ = some (.int .i64 vl))
        (first
          | (go_split_ands; refine ⟨?_, ?_, ?_, ?_, ?_, ?_⟩ <;> assumption))
        (first
          | (go_at_call 8; have HJ := implPruned_any (some ⟨g, 0, none⟩) ns cap (i : Int) w5.drew (L5h.out.nd.later (Below.refl _ _).drew (Nat.le_refl _)); rw [Hms.out] at HJ; refine HJ.mono ?_; clear HJ; rintro e w6 ⟨Ap, cp, rfl, hoP, hb6⟩; have hbw : Below w5.heap.size w5 w6 := (Below.refl _ _).drew.trans (hb6.mono (by simp)); have p0 := (hbw.cell (p := ⟨bg, 0, none⟩) hlg).trans e0; have p1 := (hbw.cell (p := ⟨bg, 1, none⟩) hlg).trans e1; have p2 := (hbw.cell (p := ⟨b, off, none⟩) hbb).trans hq0; have p3 := (hbw.cell (p := ⟨b, off + 1, none⟩) hbb).trans hq1; have p4 := (hbw.cell (p := ⟨g, i * 3, none⟩) hgb).trans g0; have p5 := (hbw.cell (p := ⟨g, i * 3 + 1, none⟩) hgb).trans g1)
          | (go_at_call 5; have HI := implCodeOf_any Ap ms cp 0 w6 (hoP.nds Hmwf.out (by omega)); rw [HPC.out] at HI; refine HI.mono ?_; clear HI; rintro e w7 ⟨Ac, cc, rfl, hoC, hb7⟩; have hbx : Below w5.heap.size w5 w7 := hbw.trans (hb7.mono hbw.size); have o0 := (hbx.cell (p := ⟨bg, 0, none⟩) hlg).trans e0; have o1 := (hbx.cell (p := ⟨bg, 1, none⟩) hlg).trans e1; have o2 := (hbx.cell (p := ⟨b, off, none⟩) hbb).trans hq0; have o3 := (hbx.cell (p := ⟨b, off + 1, none⟩) hbb).trans hq1; have o4 := (hbx.cell (p := ⟨g, i * 3, none⟩) hgb).trans g0; have o5 := (hbx.cell (p := ⟨g, i * 3 + 1, none⟩) hgb).trans g1)
          | (go_at_call 6; refine (equalInts_same Ac (some ⟨b, off, none⟩) C cc cg w7 (hoC.ints H64.out (by omega)) (L5h.out.out.later hbx (Nat.le_refl _))).mono ?_; rintro e w8 ⟨rfl, hb8⟩; have hby : Below w5.heap.size w5 w8 := hbx.trans (hb8.mono hbx.size); have n0 := (hby.cell (p := ⟨bg, 0, none⟩) hlg).trans e0; have n1 := (hby.cell (p := ⟨bg, 1, none⟩) hlg).trans e1; have n2 := (hby.cell (p := ⟨b, off, none⟩) hbb).trans hq0; have n3 := (hby.cell (p := ⟨b, off + 1, none⟩) hbb).trans hq1; have n4 := (hby.cell (p := ⟨g, i * 3, none⟩) hgb).trans g0; have n5 := (hby.cell (p := ⟨g, i * 3 + 1, none⟩) hgb).trans g1))
      have HB := hide (L5h.out.below hby).bel
      clear hby hbx hbw hb6 hb7 hb8 hoP hoC
      go_wp2
      go_ret
      exact ⟨rfl, HB.out⟩

end Go.Proofs.Ythdldkbeccmcmac
