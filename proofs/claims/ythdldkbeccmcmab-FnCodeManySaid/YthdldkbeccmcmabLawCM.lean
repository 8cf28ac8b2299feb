/-
  The walk of the law FnCodeMany: for every text it returns true and writes nothing that was there.
-/
import Derived.Test.YthdldkbeccmcmabDrawCM
import Derived.Test.YthdldkbeccmcmabCmS
import Derived.Test.YthdldkbeccmcmabCmI
import Derived.Test.YthdldkbeccmcmabCodOI
import Derived.Test.YthdldkbeccmcmabCmL
import Derived.Test.YthdldkbeccmcmabEqL
import Derived.Deep.RegionHeld3
namespace Go.Proofs.Ythdldkbeccmcmab
open Go.RowKit Go.Maps
set_option linter.unusedVariables false

theorem IntsAt.takeR {w : World} {B : Nat} {A : Option Addr} {xs : List Int} (h : IntsAt w B A xs) (k : Nat) : IntsAt w B A (xs.take k) := by
  refine ⟨fun hx => ?_, fun x hx => h.wf x (List.mem_of_mem_take hx), Nat.le_trans (List.length_take_le' _ _) h.len⟩
  obtain ⟨b, off, rfl, hb, hc⟩ := h.row (by intro e; rw [e] at hx; simp at hx)
  exact ⟨b, off, rfl, hb, fun j x hj => hc j x (by rw [List.getElem?_take] at hj; split at hj <;> simp_all)⟩

set_option maxRecDepth 100000 in
set_option maxHeartbeats 4000000 in
theorem lawCM_any (A : Option Addr) (n c : Nat) (w : World) (h : BytesAt w w.heap.size A n) (hc : n ≤ c) (hn : n ≤ 9223372036854775807) :
    Calls Try.prog 3 #[.slice A n c] w fun e w' => e = .returned (.bool true) ∧ Below w.heap.size w w' := by
  by_cases hbig : 1048576 < n
  · have d : decide ((1048576 : Int) < (n : Int)) = true := by simp; omega
    go_enter Try.func3, Try.ntmps3
    go_wp2
    go_ret
    exact ⟨rfl, Below.refl _ _⟩
  · have d : decide ((1048576 : Int) < (n : Int)) = false := by simp; omega
    go_enter Try.func3, Try.ntmps3
    go_wp2_with fail
    refine (drawCodeMany_any A n c w h hc hn).mono ?_
    rintro e w1 ⟨g, cap, ns, r, Aq, os, cq, rfl, hnds, h1, h10, hr64, hiq, h5, hcq, hb1⟩
    have hba := (Below.refl w1.heap.size w1).alloc (Nat.le_refl _) (.cells #[.slice (some ⟨g, 0, none⟩) ns.length cap, .int .i64 r] 25)
    have hb2 := hb1.trans (hba.mono hb1.size)
    have l2 := Lies.new w1 #[.slice (some ⟨g, 0, none⟩) ns.length cap, .int .i64 r] 25
    have hn2 := hnds.later hba (Nat.le_refl _)
    have hq2 := hiq.later hba (Nat.le_refl _)
    have hwf := hide hnds.wf
    have e0 := l2.cell 0
    have e1 := l2.cell 1
    simp at e0 e1
    have hsz := hb1.size
    clear hnds hb1 h hiq hba
    go_wp2_with fail
    generalize w1.alloc (.cells #[.slice (some ⟨g, 0, none⟩) ns.length cap, .int .i64 r] 25) = w2 at hb2 l2 hn2 hq2 e0 e1 ⊢
    generalize w1.heap.size = bg at l2 hsz e0 e1 ⊢
    have HI := implCodeMany_any (some ⟨g, 0, none⟩) ns cap r Aq os cq w2 hn2 hq2
    refine HI.mono ?_
    clear HI
    rintro e w3 ⟨Ag, cg, rfl, hoG, hb3⟩
    have l3 := l2.below hb3 l2.lt
    have hn3 := hn2.later hb3 (Nat.le_refl _)
    have hq3 := hq2.later hb3 (Nat.le_refl _)
    have hB3 := hb2.trans (hb3.mono hb2.size)
    have hSf := codeMany_few (r := r) (rs := os) hwf.out
    have H64 := hide (codeMany_64 (r := r) (rs := os) hwf.out)
    have e0 := l3.cell 0
    have e1 := l3.cell 1
    simp at e0 e1
    clear l2 hn2 hq2 hb2 hb3
    go_wp2_with fail
    have HI := specCodeMany_any (some ⟨g, 0, none⟩) ns cap r Aq os cq w3 hn3 hq3
    refine HI.mono ?_
    clear HI
    rintro e w4 ⟨Aw, cw, rfl, hoW, hb4⟩
    have HV : Hid (codeMany ns r os ≠ [] → ∃ x xs, os = x :: xs ∧ CmFacts ns r os x) := hide codeMany_facts
    generalize hSd : codeMany ns r os = C at hoG hoW hSf HV H64 ⊢
    have HSd := hide hSd
    clear hSd
    have hoG4 := hoG.below hb4
    have hcg0 := hide (hoG4.capR)
    have iG := hoG4.ints H64.out (by omega)
    have iW := hoW.ints H64.out (by omega)
    have l4 := l3.below hb4 l3.lt
    have hn4 := hn3.later hb4 (Nat.le_refl _)
    have hq4 := hq3.later hb4 (Nat.le_refl _)
    have hB4 := hB3.trans (hb4.mono hB3.size)
    clear l3 hn3 hq3 hB3 hb4 hoG hoW e0 e1
    go_wp2_with fail
    refine (equalInts_any Ag Aw C C cg cw w4 iG iW).mono ?_
    rintro e w5 ⟨rfl, hb5⟩
    have hself : decide (C = C) = true := by simp
    rw [hself]
    have l5 := l4.below hb5 l4.lt
    have hn5 := hn4.later hb5 (Nat.le_refl _)
    have hq5 := hq4.later hb5 (Nat.le_refl _)
    have hB5 := hB4.trans (hb5.mono hB4.size)
    have iG5 := iG.later hb5 (Nat.le_refl _)
    have e0 := l5.cell 0
    have e1 := l5.cell 1
    simp at e0 e1
    clear l4 hn4 hq4 hB4 iG iW hb5 hself hoG4
    by_cases hne : C = []
    · have HE := hide hne
      have hz : ((C.length : Int) == 0) = true := beq_iff_eq.2 (by rw [hne]; rfl)
      clear hne
      go_wp2_with fail
      refine (specCodeMany_any (some ⟨g, 0, none⟩) ns cap r Aq os cq w5 hn5 hq5).mono ?_
      rintro e w7 ⟨Ax, cx, rfl, hoX, hb7⟩
      rw [HSd.out] at hoX ⊢
      have iX := hoX.ints H64.out (by omega)
      have iG7 := iG5.later hb7 (Nat.le_refl _)
      have hB7 := hB5.trans (hb7.mono hB5.size)
      clear hb7 l5 hn5 hq5 hB5 iG5 hoX e0 e1
      go_wp2_with fail
      refine (equalInts_any Ag Ax C C cg cx w7 iG7 iX).mono ?_
      rintro e w8 ⟨rfl, hb8⟩
      have hself : decide (C = C) = true := by simp
      rw [hself]
      have HB := hide (hB7.trans (hb8.mono hB7.size))
      clear hb8 hB7 iG7 iX hself
      go_wp2
      go_ret
      exact ⟨rfl, HB.out⟩
    · have hlen : 0 < C.length := List.length_pos_iff.2 hne
      have hz : ((C.length : Int) == 0) = false := beq_eq_false_iff_ne.2 (by omega)
      obtain ⟨x, xs, hos, hF⟩ := HV.out hne
      have hol : 0 < os.length := by rw [hos]; simp
      obtain ⟨bq, oq, y, rfl, hbq, hy, _, hcq0⟩ := hq5.at_ hol
      obtain rfl : y = x := by rw [hos] at hy; simpa using hy.symm
      have hF' := hide hF
      have hr1 : (0 : Int) < (os.length : Int) := by omega
      have Hos := hide hos
      have hne' := hide hne
      rw [Nat.add_zero] at hcq0
      have Hl5 := hide l5
      have Hn5 := hide hn5
      have Hq5 := hide hq5
      have HB5 := hide hB5
      have HG5 := hide iG5
      have hlg : bg < w5.heap.size := l5.lt
      have hbq5 : bq < w5.heap.size := hbq
      have hcg : C.length ≤ cg := hcg0.out
      obtain ⟨l1, hl1⟩ := hF.one
      obtain ⟨l2, hl2⟩ := hF.early (os.length / 2)
      rw [HSd.out] at hl1 hl2
      have hk1 : (codeOf ns y).length ≤ C.length := by rw [hl1]; simp
      have hk2 : (codeMany ns r (os.take (os.length / 2))).length ≤ C.length := by rw [hl2]; simp
      have ht1 : C.take (codeOf ns y).length = codeOf ns y := by rw [hl1]; simp
      have ht2 : C.take (codeMany ns r (os.take (os.length / 2))).length = codeMany ns r (os.take (os.length / 2)) := by rw [hl2]; simp
      have HT1 := hide ht1
      have HT2 := hide ht2
      have hone64 := hide (codeOf_64 (r := y) hwf.out)
      have hea64 := hide (codeMany_64 (r := r) (rs := os.take (os.length / 2)) hwf.out)
      have htl : (os.take (os.length / 2)).length = os.length / 2 := by simp; omega
      have HIE := hide (fun (W : World) (ha : NdsAt W W.heap.size (some ⟨g, 0, none⟩) ns) (hb : IntsAt W W.heap.size (some ⟨bq, oq, none⟩) os) => implCodeMany_any (some ⟨g, 0, none⟩) ns cap r (some ⟨bq, oq, none⟩) (os.take (os.length / 2)) cq W ha (hb.takeR _))
      rw [htl] at HIE
      have hquo : (os.length : Int).tdiv 2 = ((os.length / 2 : Nat) : Int) := by rfl
      have hh1 : os.length / 2 ≤ os.length := by omega
      have hh2 : os.length / 2 ≤ cq := by omega
      clear hos hl1 hl2 ht1 ht2 hy hF htl HV hne hbq l5 hn5 hq5 hB5 iG5 H64
      generalize hone : codeOf ns y = One at hk1 HT1 hone64
      generalize heard : codeMany ns r (os.take (os.length / 2)) = Ear at hk2 HT2 hea64 HIE
      have Hone := hide hone
      clear hone heard
      generalize hhalf : os.length / 2 = half at hh1 hh2 hquo HIE
      have Hhalf := hide hhalf
      clear hhalf
      go_wp2_with fail
      go_region_held3 (fun w' => w'.cell? ⟨bg, 0, none⟩ = some (.slice (some ⟨g, 0, none⟩) ns.length cap) ∧ w'.cell? ⟨bg, 1, none⟩ = some (.int .i64 r) ∧ w'.cell? ⟨bq, oq, none⟩ = some (.int .i64 y))
        (first
          | (go_split_ands; refine ⟨?_, ?_, ?_⟩ <;> assumption))
        (first
          | (go_at_call 8; have HI := implCodeOf_any (some ⟨g, 0, none⟩) ns cap y w5.drew (Hn5.out.later (Below.refl _ _).drew (Nat.le_refl _)); rw [Hone.out] at HI; refine HI.mono ?_; clear HI; rintro e w6 ⟨A1, c1, rfl, ho1, hb6⟩; have hbw : Below w5.heap.size w5 w6 := (Below.refl _ _).drew.trans (hb6.mono (by simp)); have p0 := (hbw.cell (p := ⟨bg, 0, none⟩) hlg).trans e0; have p1 := (hbw.cell (p := ⟨bg, 1, none⟩) hlg).trans e1; have p2 := (hbw.cell (p := ⟨bq, oq, none⟩) hbq5).trans hcq0))
      have i1 := ho1.ints hone64.out (by omega)
      have Hi1 := hide i1
      have HB6 := hide (HB5.out.trans (hbw.mono HB5.out.size))
      have Hn6 := hide (Hn5.out.later hbw (Nat.le_refl _))
      have Hq6 := hide (Hq5.out.later hbw (Nat.le_refl _))
      have HG6 := hide (HG5.out.later hbw (Nat.le_refl _))
      have hl6 : bg < w6.heap.size := by have := hbw.size; omega
      clear hbw hb6 ho1 i1 e0 e1 hcq0 p2
      go_wp2_with fail
      go_region_held3 (fun w' => w'.cell? ⟨bg, 0, none⟩ = some (.slice (some ⟨g, 0, none⟩) ns.length cap) ∧ w'.cell? ⟨bg, 1, none⟩ = some (.int .i64 r))
        (first
          | (go_split_ands; refine ⟨?_, ?_⟩ <;> assumption))
        (first
          | (go_at_call 5; refine (HIE.out w6.drew (Hn6.out.later (Below.refl _ _).drew (Nat.le_refl _)) (Hq6.out.later (Below.refl _ _).drew (Nat.le_refl _))).mono ?_; rintro e w7 ⟨A2, c2, rfl, ho2, hb7⟩; have hbw : Below w6.heap.size w6 w7 := (Below.refl _ _).drew.trans (hb7.mono (by simp)); have o0 := (hbw.cell (p := ⟨bg, 0, none⟩) hl6).trans p0; have o1 := (hbw.cell (p := ⟨bg, 1, none⟩) hl6).trans p1))
      have i2 := ho2.ints hea64.out (by omega)
      have HB7 := hide (HB6.out.trans (hbw.mono HB6.out.size))
      have i1 := Hi1.out.later hbw (Nat.le_refl _)
      have iG := HG6.out.later hbw (Nat.le_refl _)
      have j1 := iG.takeR One.length
      have j2 := iG.takeR Ear.length
      rw [HT1.out] at j1
      rw [HT2.out] at j2
      have Hj2 := hide j2
      have Hi2 := hide i2
      have hc1 : One.length ≤ cg := by omega
      have hc2 : Ear.length ≤ cg := by omega
      clear hbw hb7 ho2 iG p0 p1 o0 o1 j2 i2
      go_wp2_with fail
      refine (equalInts_any Ag A1 One One cg c1 w7 j1 i1).mono ?_
      rintro e w8 ⟨rfl, hb8⟩
      have hself : decide (One = One) = true := by simp
      rw [hself]
      have HB8 := hide (HB7.out.trans (hb8.mono HB7.out.size))
      have j2 := Hj2.out.later hb8 (Nat.le_refl _)
      have i2 := Hi2.out.later hb8 (Nat.le_refl _)
      clear hb8 hself j1 i1
      go_wp2_with fail
      refine (equalInts_any Ag A2 Ear Ear cg c2 w8 j2 i2).mono ?_
      rintro e w9 ⟨rfl, hb9⟩
      have hself : decide (Ear = Ear) = true := by simp
      rw [hself]
      have HB9 := hide (HB8.out.trans (hb9.mono HB8.out.size))
      clear hb9 hself j2 i2
      go_wp2
      go_ret
      exact ⟨rfl, HB9.out⟩

end Go.Proofs.Ythdldkbeccmcmab
