import Derived.Test.YtbihgafkmmcjlaaDoorPjAd
import Derived.Test.YtbihgafkmmcjlaaDoorPjAc
import Derived.Deep.RegionLaw
import Derived.Deep.RegionHeld
import Derived.Deep.Cut
import Derived.BigQuiet
namespace Go.Proofs.YtbihgafkmmcjlaaDoor
open Go.RowKit
set_option linter.unusedVariables false
set_option linter.unusedSimpArgs false
set_option maxRecDepth 100000 in
set_option maxHeartbeats 4000000 in
theorem copyShapes_any (p : ShPtr) (s : Shp) (w : World) (h : ShAt w w.heap.size p s) (hk : s.kinds.length ≤ 1000) (hf : s.full.length ≤ 1000) (ht : s.stack.length ≤ 1000) (hm : s.memo.length ≤ 1000) :
    Calls Tryd.prog 34 #[shVal p s] w (GivesSh w w.heap.size s) := by
  have hB0 : Below w.heap.size w ((w.alloc (.cells (shCells p s) 38)).alloc (.cells zero5 38)) := ((Below.refl _ _).alloc (Nat.le_refl _) _).alloc (by simp) _
  have HRd := hide (h.later hB0 (Nat.le_refl _))
  have hL0 := (Lies.new w (shCells p s) 38).alloc (.cells zero5 38)
  have hZ0 := Lies.new (w.alloc (.cells (shCells p s) 38)) zero5 38
  have hsz : ((w.alloc (.cells (shCells p s) 38)).alloc (.cells zero5 38)).heap.size = w.heap.size + 2 := by simp
  simp only [World.size_alloc] at hZ0
  clear h
  unfold shVal
  unfold shCells zero5 at *
  go_enter Tryd.func34, Tryd.ntmps34
  go_upto_region 1 with fail
  generalize (w.alloc (.cells #[.slice p.K s.kinds.length p.c1, .slice p.F s.full.length p.c2, .slice p.S s.stack.length p.c3, .slice p.M s.memo.length p.c4, .bool s.done] 38)).alloc (.cells #[.slice none 0 0, .slice none 0 0, .slice none 0 0, .slice none 0 0, .bool false] 38) = W at *
  have fin : ∀ (AK AF AS AM : Option Addr) (dK dF dS dM : Nat) (X : World), OwnI X W.heap.size AK dK s.kinds → OwnB X W.heap.size AF dF s.full → OwnI X W.heap.size AS dS s.stack → OwnI X W.heap.size AM dM s.memo →
      (∀ b, blockOf AK = some b → blockOf AF ≠ some b) → (∀ b, blockOf AK = some b → blockOf AS ≠ some b) → (∀ b, blockOf AK = some b → blockOf AM ≠ some b) → (∀ b, blockOf AF = some b → blockOf AS ≠ some b) → (∀ b, blockOf AF = some b → blockOf AM ≠ some b) → (∀ b, blockOf AS = some b → blockOf AM ≠ some b) →
      Below W.heap.size W X → GivesSh w w.heap.size s (.returned (shVal ⟨AK, dK, AF, dF, AS, dS, AM, dM⟩ s)) (set5 X (w.heap.size + 1) (.slice AK s.kinds.length dK) (.slice AF s.full.length dF) (.slice AS s.stack.length dS) (.slice AM s.memo.length dM) (.bool s.done)) := by
    intro AK AF AS AM dK dF dS dM X oK oF oS oM a1 a2 a3 a4 a5 a6 hb
    have hs : ShOwn X W.heap.size ⟨AK, dK, AF, dF, AS, dS, AM, dM⟩ s := ⟨oK, oF, oS, oM, a1, a2, a3, a4, a5, a6⟩
    exact ⟨_, rfl, (hs.set5 (hs.off (.inl (by omega)))).mono (by omega), set5_below (hB0.trans (hb.mono (by omega))) (by omega)⟩
  have HFin := hide fin
  have HB := hide ((Below.refl W.heap.size W).drew)
  have HL := hide hL0
  have HZ := hide hZ0
  clear hL0 hZ0 fin
  refine wp_region_held_drew (S := fun w' => Lies w' w.heap.size #[.slice p.K s.kinds.length p.c1, .slice p.F s.full.length p.c2, .slice p.S s.stack.length p.c3, .slice p.M s.memo.length p.c4, .bool s.done] 38) (by kernel_rfl) HL.out (fun hHeld => ?_)
  replace HL := hide (show Lies W.drew w.heap.size #[.slice p.K s.kinds.length p.c1, .slice p.F s.full.length p.c2, .slice p.S s.stack.length p.c3, .slice p.M s.memo.length p.c4, .bool s.done] 38 from HL.out)
  replace HZ := hide (show Lies W.drew (w.heap.size + 1) #[.slice none 0 0, .slice none 0 0, .slice none 0 0, .slice none 0 0, .bool false] 38 from HZ.out)
  refine wpAnyH_take (i := 0) (oi := ⟨some 3, _, _, _, _, _⟩) (v := ?_) rfl (by kernel_rfl) (by kernel_rfl) (by kernel_rfl) (fun _ _ _ h => h) (Or.inl ⟨by rfl, ?_⟩) (by assumption) ?_
  rotate_left
  · (intro w hSw; have q0 := hSw.cell 0; have q1 := hSw.cell 1; have q2 := hSw.cell 2; have q3 := hSw.cell 3; have q4 := hSw.cell 4; simp only [jD, jE, jF] at q0 q1 q2 q3 q4; go_simp; try with_reducible rfl)
  try simp only [Act.put, jA, jB, jC]
  refine wpAnyH_take (i := 1) (oi := ⟨some 4, _, _, _, _, _⟩) (v := ?_) rfl (by kernel_rfl) (by kernel_rfl) (by kernel_rfl) (fun _ _ _ h => h) (Or.inl ⟨by rfl, ?_⟩) (by assumption) ?_
  rotate_left
  · (intro w hSw; have q0 := hSw.cell 0; have q1 := hSw.cell 1; have q2 := hSw.cell 2; have q3 := hSw.cell 3; have q4 := hSw.cell 4; simp only [jD, jE, jF] at q0 q1 q2 q3 q4; go_simp; try with_reducible rfl)
  try simp only [Act.put, jA, jB, jC]
  refine wpAnyH_take (i := 4) (oi := ⟨some 7, _, _, _, _, _⟩) (v := ?_) rfl (by kernel_rfl) (by kernel_rfl) (by kernel_rfl) (fun _ _ _ h => h) (Or.inl ⟨by rfl, ?_⟩) (by assumption) ?_
  rotate_left
  · (intro w hSw; have q0 := hSw.cell 0; have q1 := hSw.cell 1; have q2 := hSw.cell 2; have q3 := hSw.cell 3; have q4 := hSw.cell 4; simp only [jD, jE, jF] at q0 q1 q2 q3 q4; go_simp; try with_reducible rfl)
  try simp only [Act.put, jA, jB, jC]
  refine wpAnyH_take (i := 5) (oi := ⟨some 8, _, _, _, _, _⟩) (v := ?_) rfl (by kernel_rfl) (by kernel_rfl) (by kernel_rfl) (fun _ _ _ h => h) (Or.inl ⟨by rfl, ?_⟩) (by assumption) ?_
  rotate_left
  · (intro w hSw; have q0 := hSw.cell 0; have q1 := hSw.cell 1; have q2 := hSw.cell 2; have q3 := hSw.cell 3; have q4 := hSw.cell 4; simp only [jD, jE, jF] at q0 q1 q2 q3 q4; go_simp; try with_reducible rfl)
  try simp only [Act.put, jA, jB, jC]
  refine wpAnyH_take (i := 7) (oi := ⟨some 10, _, _, _, _, _⟩) (v := ?_) rfl (by kernel_rfl) (by kernel_rfl) (by kernel_rfl) (fun _ _ _ h => h) (Or.inl ⟨by rfl, ?_⟩) (by assumption) ?_
  rotate_left
  · (intro w hSw; have q0 := hSw.cell 0; have q1 := hSw.cell 1; have q2 := hSw.cell 2; have q3 := hSw.cell 3; have q4 := hSw.cell 4; simp only [jD, jE, jF] at q0 q1 q2 q3 q4; go_simp; try with_reducible rfl)
  try simp only [Act.put, jA, jB, jC]
  refine wpAnyH_take (i := 8) (oi := ⟨some 11, _, _, _, _, _⟩) (v := ?_) rfl (by kernel_rfl) (by kernel_rfl) (by kernel_rfl) (fun _ _ _ h => h) (Or.inl ⟨by rfl, ?_⟩) (by assumption) ?_
  rotate_left
  · (intro w hSw; have q0 := hSw.cell 0; have q1 := hSw.cell 1; have q2 := hSw.cell 2; have q3 := hSw.cell 3; have q4 := hSw.cell 4; simp only [jD, jE, jF] at q0 q1 q2 q3 q4; go_simp; try with_reducible rfl)
  try simp only [Act.put, jA, jB, jC]
  refine wpAnyH_take (i := 10) (oi := ⟨some 13, _, _, _, _, _⟩) (v := ?_) rfl (by kernel_rfl) (by kernel_rfl) (by kernel_rfl) (fun _ _ _ h => h) (Or.inl ⟨by rfl, ?_⟩) (by assumption) ?_
  rotate_left
  · (intro w hSw; have q0 := hSw.cell 0; have q1 := hSw.cell 1; have q2 := hSw.cell 2; have q3 := hSw.cell 3; have q4 := hSw.cell 4; simp only [jD, jE, jF] at q0 q1 q2 q3 q4; go_simp; try with_reducible rfl)
  try simp only [Act.put, jA, jB, jC]
  refine wpAnyH_take (i := 11) (oi := ⟨some 14, _, _, _, _, _⟩) (v := ?_) rfl (by kernel_rfl) (by kernel_rfl) (by kernel_rfl) (fun _ _ _ h => h) (Or.inl ⟨by rfl, ?_⟩) (by assumption) ?_
  rotate_left
  · (intro w hSw; have q0 := hSw.cell 0; have q1 := hSw.cell 1; have q2 := hSw.cell 2; have q3 := hSw.cell 3; have q4 := hSw.cell 4; simp only [jD, jE, jF] at q0 q1 q2 q3 q4; go_simp; try with_reducible rfl)
  try simp only [Act.put, jA, jB, jC]
  refine wpAnyH_take (i := 13) (oi := ⟨some 16, _, _, _, _, _⟩) (v := ?_) rfl (by kernel_rfl) (by kernel_rfl) (by kernel_rfl) (fun _ _ _ h => h) (Or.inl ⟨by rfl, ?_⟩) (by assumption) ?_
  rotate_left
  · (intro w hSw; have q0 := hSw.cell 0; have q1 := hSw.cell 1; have q2 := hSw.cell 2; have q3 := hSw.cell 3; have q4 := hSw.cell 4; simp only [jD, jE, jF] at q0 q1 q2 q3 q4; go_simp; try with_reducible rfl)
  try simp only [Act.put, jA, jB, jC]
  refine wpAnyH_take (i := 14) (oi := ⟨some 17, _, _, _, _, _⟩) (v := ?_) rfl (by kernel_rfl) (by kernel_rfl) (by kernel_rfl) (fun _ _ _ h => h) (Or.inl ⟨by rfl, ?_⟩) (by assumption) ?_
  rotate_left
  · (intro w hSw; have q0 := hSw.cell 0; have q1 := hSw.cell 1; have q2 := hSw.cell 2; have q3 := hSw.cell 3; have q4 := hSw.cell 4; simp only [jD, jE, jF] at q0 q1 q2 q3 q4; go_simp; try with_reducible rfl)
  try simp only [Act.put, jA, jB, jC]
  clear hHeld
  refine wpAnyH_ready (rs := [2, 3]) (by kernel_rfl) (by simp) ?_
  refine AllReadyH.cons (o := ⟨some 5, _, _, _, _, _⟩) rfl (fun K hK => ?_) ?_
  · skip
    go_simp
    go_at_call 54
    refine (copyInts_any p.K s.kinds p.c1 W.drew (HRd.out.k.later HB.out (Nat.le_refl _)) HRd.out.kn (by omega)).mono ?_
    rintro e v1 ⟨AK, dK, rfl, hoK, hb1⟩
    have OK := hide (hoK.mono HB.out.size)
    have hls1 := HL.out.below hb1 HL.out.lt
    replace HZ := hide (HZ.out.below hb1 HZ.out.lt)
    replace HB := hide (HB.out.trans (hb1.mono HB.out.size))
    replace HL := hide hls1
    clear hoK hb1 hls1
    refine hK.out _ _ ?_ (fun hH => ?_)
    · exact HL.out
    clear hK K
    try simp only [Act.put, jA, jB, jC]
    refine wpAnyH_ready (rs := [3]) (by kernel_rfl) (by simp) ?_
    refine AllReadyH.cons (o := ⟨some 6, _, _, _, _, _⟩) rfl (fun K hK => ?_) AllReadyH.nil
    go_simp
    have hb2 : Below v1.heap.size v1 (v1.alloc (.cells #[] 4)) := (Below.refl _ _).alloc (Nat.le_refl _) _
    have nfK : Hid (blockOf AK ≠ some (v1.heap.size)) := hide (fun e => by have := (OK.out.blocks _ e).2; omega)
    replace OK := hide (OK.out.below hb2)
    have OF0 := hide ((OwnB.bare v1).mono HB.out.size)
    have hls2 := HL.out.below hb2 HL.out.lt
    replace HZ := hide (HZ.out.below hb2 HZ.out.lt)
    replace HB := hide (HB.out.trans (hb2.mono HB.out.size))
    replace HL := hide hls2
    clear hb2 hls2
    refine hK.out _ _ ?_ (fun hH => ?_)
    · exact HL.out
    clear hK K
    try simp only [Act.put, jA, jB, jC]
    refine wpAnyH_ready (rs := [6]) (by kernel_rfl) (by simp) ?_
    refine AllReadyH.cons (o := ⟨some 9, _, _, _, _, _⟩) rfl (fun K hK => ?_) AllReadyH.nil
    refine step_append_bools (by rfl) (.tmp 6) (.tmp 8) (by rfl) W.heap.size (some ⟨v1.heap.size, 0, none⟩) 0 [] (by simp [Act.eval, Act.put]) OF0.out (v1.alloc (.cells #[] 4)).heap.size p.F p.c2 s.full (by simp [Act.eval, Act.put]) HRd.out.fn (HRd.out.f.later HB.out (Nat.le_refl _)) (by simp; omega) HB.out.size ?_
    intro zsF AF dF v3 hzF hoF hgF haF
    obtain rfl : zsF = s.full := by simpa [Hid] using hzF
    have hfb := OF0.out.blocks (v1.heap.size) rfl
    have apKF : Hid (∀ b, blockOf AK = some b → blockOf AF ≠ some b) := hide (fun b hb e => by
      rcases haF with h1 | h1
      · exact nfK.out (hb.trans (e.symm.trans h1))
      · have h2 := (OK.out.blocks b hb).2
        have h3 := e.symm.trans h1
        injection h3 with h3
        omega)
    replace OK := hide (OK.out.kept hgF (by
      by_cases h0 : blockOf AK = none
      · exact .inl h0
      · exact .inr nfK.out))
    have OF := hide hoF
    have hls3 := (hgF.block _ HL.out.lt (fun e => by simp [blockOf] at e; have := hfb.1; omega)).trans HL.out
    replace HZ := hide ((hgF.block _ HZ.out.lt (fun e => by simp [blockOf] at e; have := hfb.1; omega)).trans HZ.out)
    replace HZ := hide (show Lies v3 (w.heap.size + 1) #[.slice none 0 0, .slice none 0 0, .slice none 0 0, .slice none 0 0, .bool false] 38 from HZ.out)
    replace HB := hide (below_grown HB.out hgF HB.out.size (fun q hq => (OF0.out.blocks q hq).1))
    replace HL := hide (show Lies v3 w.heap.size #[.slice p.K s.kinds.length p.c1, .slice p.F s.full.length p.c2, .slice p.S s.stack.length p.c3, .slice p.M s.memo.length p.c4, .bool s.done] 38 from hls3)
    clear hoF hgF hls3 hfb haF hzF
    refine hK.out _ _ ?_ (fun hH => ?_)
    · exact HL.out
    clear hK K
    try simp only [Act.put, jA, jB, jC]
    refine wpAnyH_ready (rs := [9]) (by kernel_rfl) (by simp) ?_
    refine AllReadyH.cons (o := ⟨some 12, _, _, _, _, _⟩) rfl (fun K hK => ?_) AllReadyH.nil
    go_simp
    go_at_call 54
    refine (copyInts_any p.S s.stack p.c3 v3 (HRd.out.t.later HB.out (Nat.le_refl _)) HRd.out.tn (by omega)).mono ?_
    rintro e v4 ⟨AS, dS, rfl, hoS, hb4⟩
    have apKS : Hid (∀ b, blockOf AK = some b → blockOf AS ≠ some b) := hide (fun b hb e => by have := (OK.out.blocks b hb).2; have := (hoS.blocks b e).1; omega)
    have apFS : Hid (∀ b, blockOf AF = some b → blockOf AS ≠ some b) := hide (fun b hb e => by have := (OF.out.blocks b hb).2; have := (hoS.blocks b e).1; omega)
    replace OK := hide (OK.out.below hb4)
    replace OF := hide (OF.out.below hb4)
    have OS := hide (hoS.mono HB.out.size)
    have hls4 := HL.out.below hb4 HL.out.lt
    replace HZ := hide (HZ.out.below hb4 HZ.out.lt)
    replace HB := hide (HB.out.trans (hb4.mono HB.out.size))
    replace HL := hide hls4
    clear hoS hb4 hls4
    refine hK.out _ _ ?_ (fun hH => ?_)
    · exact HL.out
    clear hK K
    try simp only [Act.put, jA, jB, jC]
    refine wpAnyH_ready (rs := [12]) (by kernel_rfl) (by simp) ?_
    refine AllReadyH.cons (o := ⟨some 15, _, _, _, _, _⟩) rfl (fun K hK => ?_) AllReadyH.nil
    go_simp
    go_at_call 54
    refine (copyInts_any p.M s.memo p.c4 v4 (HRd.out.m.later HB.out (Nat.le_refl _)) HRd.out.mn (by omega)).mono ?_
    rintro e v5 ⟨AM, dM, rfl, hoM, hb5⟩
    have apKM : Hid (∀ b, blockOf AK = some b → blockOf AM ≠ some b) := hide (fun b hb e => by have := (OK.out.blocks b hb).2; have := (hoM.blocks b e).1; omega)
    have apFM : Hid (∀ b, blockOf AF = some b → blockOf AM ≠ some b) := hide (fun b hb e => by have := (OF.out.blocks b hb).2; have := (hoM.blocks b e).1; omega)
    have apSM : Hid (∀ b, blockOf AS = some b → blockOf AM ≠ some b) := hide (fun b hb e => by have := (OS.out.blocks b hb).2; have := (hoM.blocks b e).1; omega)
    replace OK := hide (OK.out.below hb5)
    replace OF := hide (OF.out.below hb5)
    replace OS := hide (OS.out.below hb5)
    have OM := hide (hoM.mono HB.out.size)
    have hls5 := HL.out.below hb5 HL.out.lt
    replace HZ := hide (HZ.out.below hb5 HZ.out.lt)
    replace HB := hide (HB.out.trans (hb5.mono HB.out.size))
    replace HL := hide hls5
    clear hoM hb5 hls5
    refine hK.out _ _ ?_ (fun hH => ?_)
    · exact HL.out
    clear hK K
    try simp only [Act.put, jA, jB, jC]
    refine wpAnyH_ready (rs := [15]) (by kernel_rfl) (by simp) ?_
    refine AllReadyH.cons (o := ⟨some 18, _, _, _, _, _⟩) rfl (fun K hK => ?_) AllReadyH.nil
    go_simp
    refine hK.out _ _ ?_ (fun hH => ?_)
    · exact HL.out
    clear hK K
    try simp only [Act.put, jA, jB, jC]
    refine wpAnyH_ready (rs := [16]) (by kernel_rfl) (by simp) ?_
    refine AllReadyH.cons (o := ⟨none, _, _, _, _, _⟩) rfl (fun K hK => ?_) AllReadyH.nil
    obtain ⟨⟨c0, c1, c2, c3, c4, f0, f1, f2, f3, f4, s0, s1, s2, s3, s4⟩, _⟩ := Lies.set5 (show Lies v5 (w.heap.size + 1) #[.slice none 0 0, .slice none 0 0, .slice none 0 0, .slice none 0 0, .bool false] 38 from HZ.out) (.slice AK s.kinds.length dK) (.slice AF s.full.length dF) (.slice AS s.stack.length dS) (.slice AM s.memo.length dM) (.bool s.done)
    go_simp
    refine hK.out _ _ ?_ (fun hH => ?_)
    · exact (set5_block (by omega)).trans HL.out
    clear hK K
    try simp only [Act.put, jA, jB, jC]
    refine wpAnyH_done (by kernel_rfl) ?_ _
    have HF := hide (HFin.out AK AF AS AM dK dF dS dM v5 (OK.out) (OF.out) (OS.out) (OM.out) (apKF.out) (apKS.out) (apKM.out) (apFS.out) (apFM.out) (apSM.out) HB.out)
    clear c0 c1 c2 c3 c4 f0 f1 f2 f3 f4 HZ HL HB OK OF OS OM HRd OF0 HFin
    go_wp2
    refine bodyPost_ret (v := shVal ⟨AK, dK, AF, dF, AS, dS, AM, dM⟩ s) (by simp [shVal, shCells, results, Tryd.results34, go_sem, s0, s1, s2, s3, s4]) rfl ?_
    exact HF.out
  refine AllReadyH.cons (o := ⟨some 6, _, _, _, _, _⟩) rfl (fun K hK => ?_) AllReadyH.nil
  go_simp
  have hb8 : Below W.drew.heap.size W.drew (W.drew.alloc (.cells #[] 4)) := (Below.refl _ _).alloc (Nat.le_refl _) _
  have OF0 := hide ((OwnB.bare W.drew).mono HB.out.size)
  have hls8 := HL.out.below hb8 HL.out.lt
  replace HZ := hide (HZ.out.below hb8 HZ.out.lt)
  replace HB := hide (HB.out.trans (hb8.mono HB.out.size))
  replace HL := hide hls8
  clear hb8 hls8
  refine hK.out _ _ ?_ (fun hH => ?_)
  · exact HL.out
  clear hK K
  try simp only [Act.put, jA, jB, jC]
  refine wpAnyH_ready (rs := [2]) (by kernel_rfl) (by simp) ?_
  refine AllReadyH.cons (o := ⟨some 5, _, _, _, _, _⟩) rfl (fun K hK => ?_) AllReadyH.nil
  go_simp
  go_at_call 54
  refine (copyInts_any p.K s.kinds p.c1 (W.drew.alloc (.cells #[] 4)) (HRd.out.k.later HB.out (Nat.le_refl _)) HRd.out.kn (by omega)).mono ?_
  rintro e v9 ⟨AK, dK, rfl, hoK, hb9⟩
  have nfK : Hid (blockOf AK ≠ some (W.drew.heap.size)) := hide (fun e => by have := (OF0.out.blocks (W.drew.heap.size) rfl).2; have := (hoK.blocks _ e).1; omega)
  replace OF0 := hide (OF0.out.below hb9)
  have OK := hide (hoK.mono HB.out.size)
  have hls9 := HL.out.below hb9 HL.out.lt
  replace HZ := hide (HZ.out.below hb9 HZ.out.lt)
  replace HB := hide (HB.out.trans (hb9.mono HB.out.size))
  replace HL := hide hls9
  clear hoK hb9 hls9
  refine hK.out _ _ ?_ (fun hH => ?_)
  · exact HL.out
  clear hK K
  try simp only [Act.put, jA, jB, jC]
  refine wpAnyH_ready (rs := [6]) (by kernel_rfl) (by simp) ?_
  refine AllReadyH.cons (o := ⟨some 9, _, _, _, _, _⟩) rfl (fun K hK => ?_) AllReadyH.nil
  refine step_append_bools (by rfl) (.tmp 6) (.tmp 8) (by rfl) W.heap.size (some ⟨W.drew.heap.size, 0, none⟩) 0 [] (by simp [Act.eval, Act.put]) OF0.out v9.heap.size p.F p.c2 s.full (by simp [Act.eval, Act.put]) HRd.out.fn (HRd.out.f.later HB.out (Nat.le_refl _)) (by simp; omega) HB.out.size ?_
  intro zsF AF dF v10 hzF hoF hgF haF
  obtain rfl : zsF = s.full := by simpa [Hid] using hzF
  have hfb := OF0.out.blocks (W.drew.heap.size) rfl
  have apKF : Hid (∀ b, blockOf AK = some b → blockOf AF ≠ some b) := hide (fun b hb e => by
    rcases haF with h1 | h1
    · exact nfK.out (hb.trans (e.symm.trans h1))
    · have h2 := (OK.out.blocks b hb).2
      have h3 := e.symm.trans h1
      injection h3 with h3
      omega)
  replace OK := hide (OK.out.kept hgF (by
    by_cases h0 : blockOf AK = none
    · exact .inl h0
    · exact .inr nfK.out))
  have OF := hide hoF
  have hls10 := (hgF.block _ HL.out.lt (fun e => by simp [blockOf] at e; have := hfb.1; omega)).trans HL.out
  replace HZ := hide ((hgF.block _ HZ.out.lt (fun e => by simp [blockOf] at e; have := hfb.1; omega)).trans HZ.out)
  replace HZ := hide (show Lies v10 (w.heap.size + 1) #[.slice none 0 0, .slice none 0 0, .slice none 0 0, .slice none 0 0, .bool false] 38 from HZ.out)
  replace HB := hide (below_grown HB.out hgF HB.out.size (fun q hq => (OF0.out.blocks q hq).1))
  replace HL := hide (show Lies v10 w.heap.size #[.slice p.K s.kinds.length p.c1, .slice p.F s.full.length p.c2, .slice p.S s.stack.length p.c3, .slice p.M s.memo.length p.c4, .bool s.done] 38 from hls10)
  clear hoF hgF hls10 hfb haF hzF
  refine hK.out _ _ ?_ (fun hH => ?_)
  · exact HL.out
  clear hK K
  try simp only [Act.put, jA, jB, jC]
  refine wpAnyH_ready (rs := [9]) (by kernel_rfl) (by simp) ?_
  refine AllReadyH.cons (o := ⟨some 12, _, _, _, _, _⟩) rfl (fun K hK => ?_) AllReadyH.nil
  go_simp
  go_at_call 54
  refine (copyInts_any p.S s.stack p.c3 v10 (HRd.out.t.later HB.out (Nat.le_refl _)) HRd.out.tn (by omega)).mono ?_
  rintro e v11 ⟨AS, dS, rfl, hoS, hb11⟩
  have apKS : Hid (∀ b, blockOf AK = some b → blockOf AS ≠ some b) := hide (fun b hb e => by have := (OK.out.blocks b hb).2; have := (hoS.blocks b e).1; omega)
  have apFS : Hid (∀ b, blockOf AF = some b → blockOf AS ≠ some b) := hide (fun b hb e => by have := (OF.out.blocks b hb).2; have := (hoS.blocks b e).1; omega)
  replace OK := hide (OK.out.below hb11)
  replace OF := hide (OF.out.below hb11)
  have OS := hide (hoS.mono HB.out.size)
  have hls11 := HL.out.below hb11 HL.out.lt
  replace HZ := hide (HZ.out.below hb11 HZ.out.lt)
  replace HB := hide (HB.out.trans (hb11.mono HB.out.size))
  replace HL := hide hls11
  clear hoS hb11 hls11
  refine hK.out _ _ ?_ (fun hH => ?_)
  · exact HL.out
  clear hK K
  try simp only [Act.put, jA, jB, jC]
  refine wpAnyH_ready (rs := [12]) (by kernel_rfl) (by simp) ?_
  refine AllReadyH.cons (o := ⟨some 15, _, _, _, _, _⟩) rfl (fun K hK => ?_) AllReadyH.nil
  go_simp
  go_at_call 54
  refine (copyInts_any p.M s.memo p.c4 v11 (HRd.out.m.later HB.out (Nat.le_refl _)) HRd.out.mn (by omega)).mono ?_
  rintro e v12 ⟨AM, dM, rfl, hoM, hb12⟩
  have apKM : Hid (∀ b, blockOf AK = some b → blockOf AM ≠ some b) := hide (fun b hb e => by have := (OK.out.blocks b hb).2; have := (hoM.blocks b e).1; omega)
  have apFM : Hid (∀ b, blockOf AF = some b → blockOf AM ≠ some b) := hide (fun b hb e => by have := (OF.out.blocks b hb).2; have := (hoM.blocks b e).1; omega)
  have apSM : Hid (∀ b, blockOf AS = some b → blockOf AM ≠ some b) := hide (fun b hb e => by have := (OS.out.blocks b hb).2; have := (hoM.blocks b e).1; omega)
  replace OK := hide (OK.out.below hb12)
  replace OF := hide (OF.out.below hb12)
  replace OS := hide (OS.out.below hb12)
  have OM := hide (hoM.mono HB.out.size)
  have hls12 := HL.out.below hb12 HL.out.lt
  replace HZ := hide (HZ.out.below hb12 HZ.out.lt)
  replace HB := hide (HB.out.trans (hb12.mono HB.out.size))
  replace HL := hide hls12
  clear hoM hb12 hls12
  refine hK.out _ _ ?_ (fun hH => ?_)
  · exact HL.out
  clear hK K
  try simp only [Act.put, jA, jB, jC]
  refine wpAnyH_ready (rs := [15]) (by kernel_rfl) (by simp) ?_
  refine AllReadyH.cons (o := ⟨some 18, _, _, _, _, _⟩) rfl (fun K hK => ?_) AllReadyH.nil
  go_simp
  refine hK.out _ _ ?_ (fun hH => ?_)
  · exact HL.out
  clear hK K
  try simp only [Act.put, jA, jB, jC]
  refine wpAnyH_ready (rs := [16]) (by kernel_rfl) (by simp) ?_
  refine AllReadyH.cons (o := ⟨none, _, _, _, _, _⟩) rfl (fun K hK => ?_) AllReadyH.nil
  obtain ⟨⟨c0, c1, c2, c3, c4, f0, f1, f2, f3, f4, s0, s1, s2, s3, s4⟩, _⟩ := Lies.set5 (show Lies v12 (w.heap.size + 1) #[.slice none 0 0, .slice none 0 0, .slice none 0 0, .slice none 0 0, .bool false] 38 from HZ.out) (.slice AK s.kinds.length dK) (.slice AF s.full.length dF) (.slice AS s.stack.length dS) (.slice AM s.memo.length dM) (.bool s.done)
  go_simp
  refine hK.out _ _ ?_ (fun hH => ?_)
  · exact (set5_block (by omega)).trans HL.out
  clear hK K
  try simp only [Act.put, jA, jB, jC]
  refine wpAnyH_done (by kernel_rfl) ?_ _
  have HF := hide (HFin.out AK AF AS AM dK dF dS dM v12 (OK.out) (OF.out) (OS.out) (OM.out) (apKF.out) (apKS.out) (apKM.out) (apFS.out) (apFM.out) (apSM.out) HB.out)
  clear c0 c1 c2 c3 c4 f0 f1 f2 f3 f4 HZ HL HB OK OF OS OM HRd OF0 HFin
  go_wp2
  refine bodyPost_ret (v := shVal ⟨AK, dK, AF, dF, AS, dS, AM, dM⟩ s) (by simp [shVal, shCells, results, Tryd.results34, go_sem, s0, s1, s2, s3, s4]) rfl ?_
  exact HF.out
end Go.Proofs.YtbihgafkmmcjlaaDoor
