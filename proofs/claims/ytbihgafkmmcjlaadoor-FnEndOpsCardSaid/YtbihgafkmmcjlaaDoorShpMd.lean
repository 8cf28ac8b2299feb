import Derived.Test.YtbihgafkmmcjlaaDoorPjAd
import Derived.Test.YtbihgafkmmcjlaaDoorPjAc
import Derived.StillTailTactics
import Derived.Deep.QuietTactic
import Derived.Deep.RegionLaw
import Derived.Deep.RegionHeld
import Derived.Deep.Cut
import Derived.BigQuiet
namespace Go.Proofs.YtbihgafkmmcjlaaDoor
open Go.RowKit
set_option linter.unusedVariables false
set_option linter.unusedSimpArgs false
set_option maxRecDepth 100000 in
set_option maxHeartbeats 4000000 in
theorem markShapes_12 (p : ShPtr) (s : Shp) (base : Nat) (w : World) (h : ShOwn w base p s) (hbase : base ≤ w.heap.size) (hs : s.Small) :
    Calls Tryd.prog 52 #[shVal p s, .int .i64 12] w (TriesSh w p base (markStep s 12)) := by
  obtain ⟨K, c1, F, c2, S, c3, M, c4⟩ := p
  have hS := ShSt.enter h hbase
  have hst := hs.t
  have hkl := hs.k
  have Hs := hide hs
  have hcap := h.t.capLen
  dsimp only at hcap
  clear h hs
  unfold shVal
  unfold shCells zero5 at *
  dsimp only at hS ⊢
  go_enter Tryd.func52, Tryd.ntmps52
  go_upto_region 1 with fail
  generalize (w.alloc (.cells #[.slice K s.kinds.length c1, .slice F s.full.length c2, .slice S s.stack.length c3, .slice M s.memo.length c4, .bool s.done] 38)).alloc (.cells #[.slice none 0 0, .slice none 0 0, .slice none 0 0, .slice none 0 0, .bool false] 38) = W at hS ⊢
  obtain ⟨e0, e1, e2, e3, e4⟩ := hS.bx.cells
  dsimp only at e0 e1 e2 e3 e4
  go_wp2_with fail
  go_loopw [6] (fun iv wr => ∃ k : Nat, k ≤ s.stack.length ∧ iv = .int .i64 ((k : Int) - 1) ∧ wr = W ∧ above s.stack = aboveTo s.stack k) (fun iv _ => (intOf iv + 1).toNat)
  case atStart => exact ⟨s.stack.length, Nat.le_refl _, rfl, rfl, rfl⟩
  case round =>
    obtain ⟨k, hk, rfl, rfl, hab⟩ := hrel
    have Hab := hide hab
    clear hab
    rcases k with _ | j
    · rw [show ((0 : Nat) : Int) - 1 = -1 from rfl]
      have HN := hide (show markStep s 12 = none by unfold markStep; rw [Hab.out, aboveTo, if_pos rfl])
      obtain ⟨⟨e0, e1, e2, e3, e4⟩, hs5, hown, hbel, hfr⟩ := hS.ret
      obtain ⟨r0, r1, r2, r3, r4, f0, f1, f2, f3, f4, s0, s1, s2, s3, s4⟩ := hs5
      have hoffs := hS.offs
      have HR := hide (And.intro hown (And.intro hbel (And.intro hfr hoffs)))
      clear hown hbel hfr hoffs hS
      dsimp only at e0 e1 e2 e3 e4 r0 r1 r2 r3 r4 s0 s1 s2 s3 s4
      go_wp2
      refine bodyPost_ret (v := .tuple #[shVal ⟨K, c1, F, c2, S, c3, M, c4⟩ s, .bool false]) (by simp [shVal, shCells, results, Tryd.results52, go_sem, s0, s1, s2, s3, s4]) rfl ?_
      exact ⟨_, _, _, rfl, HR.out.2.1, HR.out.2.2.1, fun t ht => by (rw [HN.out] at ht; cases ht), fun _ => rfl⟩
    · rw [show ((j + 1 : Nat) : Int) - 1 = (j : Int) by omega]
      obtain ⟨x, hx⟩ : ∃ x, s.stack[j]? = some x := ⟨_, List.getElem?_eq_getElem (by omega)⟩
      have hgd : s.stack.getD j 0 = x := by rw [List.getD_eq_getElem?_getD, hx]; rfl
      have hI := hS.bx.own.t.ints Hs.out.t64 (by omega)
      obtain ⟨gs, rfl, hg1, hg2, hcx, _⟩ := hS.bx.own.t.atJ hx
      have hj0 : (0 : Int) ≤ (j : Int) := by omega
      have hj1 : (j : Int) < (s.stack.length : Int) := by omega
      have tj : decide ((j : Int) < 0) = false := by simp
      have tj0 : decide (0 ≤ (j : Int)) = true := by simp
      by_cases hx0 : 0 ≤ x
      · have tx : decide (0 ≤ x) = true := by simpa using hx0
        have HA2 := hide (show above s.stack = aboveTo s.stack j by rw [Hab.out, aboveTo, hgd, if_neg (by omega)])
        clear Hab hI hx hgd
        go_wp2
        go_roundw
        case rel => exact ⟨j, by omega, by go_num, by first | rfl | trivial, HA2.out⟩
        case measure => simp [intOf] <;> omega
      · have tx : decide (0 ≤ x) = false := by simpa using hx0
        have HAb := hide (show above s.stack = j + 1 by rw [Hab.out, aboveTo, hgd, if_pos (by omega)])
        have hjl : j + 1 ≤ s.stack.length := by omega
        have hjc : j + 1 ≤ c3 := by omega
        have hji : (j : Int) + 1 ≤ (c3 : Int) := by omega
        have hjk : (j : Int) + 1 ≤ (s.stack.length : Int) := by omega
        have hjm : (j : Int) ≤ (c3 : Int) := by omega
        clear Hab hx hgd hx0
        go_upto_region 6 with fail
        have hsl := hS.bx.box.lt
        have HI := hide hI
        clear hI hcx
        by_cases hcj : c3 = j + 1
        · skip
          subst hcj
          have hdl : (s.stack.drop (j + 1)).length = 0 := by simp; omega
          have hID : IntsAt wr wr.heap.size (some ⟨gs, 0, none⟩) (s.stack.drop (j + 1)) := by
            rw [List.drop_eq_nil_of_le (by omega)]
            exact ⟨fun h => absurd rfl h, fun x hx => by simp at hx, by simp⟩
          have HC := copyInts_any (some ⟨gs, 0, none⟩) (s.stack.drop (j + 1)) 0 wr hID (fun e => by cases e) (by omega)
          rw [hdl] at HC
          clear hdl
          have HCC := hide HC
          clear HC hID HI
          go_wp2_with fail
          all_goals first | (exfalso; omega) | skip
          refine HCC.out.mono ?_
          clear HCC
          rintro e w3 ⟨A7, c7, rfl, ho7, hb7⟩
          have ho7f := ho7.form
          have hS3 := hS.below hb7
          have hi7 := ho7.ints (fun x hx => Hs.out.t64 x (List.mem_of_mem_drop hx)) (by simp; omega)
          have f2 := hS3.bx.box.frozen 2
          clear hS e0 e1 e2 e3 e4 ho7
          obtain ⟨e0, e1, e2, e3, e4⟩ := hS3.bx.cells
          dsimp only at e0 e1 e2 e3 e4
          have HI7 := hide hi7
          clear hi7
          go_upto_region 8 with fail
          have hS4 := hS3.cut (n := j) (by omega)
          have hw34 : (w3.setCell ⟨w.heap.size, 2, none⟩ (.slice (some ⟨gs, 0, none⟩) j (j + 1))).heap.size = w3.heap.size := by simp
          have HL7 : Hid (IntsAt (w3.setCell ⟨w.heap.size, 2, none⟩ (.slice (some ⟨gs, 0, none⟩) j (j + 1))) w3.heap.size A7 (s.stack.drop (j + 1))) := hide (by
            refine ⟨fun hne => ?_, HI7.out.wf, HI7.out.len⟩
            rcases ho7f with ⟨_, _, h3⟩ | ⟨g7, h7, h8, h9⟩
            · exact absurd h3 hne
            · obtain ⟨b, off, e7, hlt7, hcell⟩ := HI7.out.row hne
              refine ⟨b, off, e7, hlt7, fun i y hi => ?_⟩
              rw [World.cell?_setCell_far _ _ _ _ (by rw [h7] at e7; injection e7 with e7; injection e7 with e7 _; show w.heap.size ≠ b; omega)]
              exact hcell i y hi)
          dsimp only at hS4
          generalize w3.setCell ⟨w.heap.size, 2, none⟩ (.slice (some ⟨gs, 0, none⟩) j (j + 1)) = X at hS4 HL7 hw34 ⊢
          clear hS3 e0 e1 e2 e3 e4 f2 HI7
          have hcl : (s.cutTo j).stack.length ≤ 1000 := by show (s.stack.take j).length ≤ 1000; simp; omega
          have Hsm : Hid (s.cutTo j).Small := hide ⟨hkl, hcl, Hs.out.ok.cut j⟩
          have hdl2 : (s.stack.drop (j + 1)).length = s.stack.length - (j + 1) := by simp
          have hfree : ∀ (i : Nat) (y : Int), (s.stack.drop (j + 1))[i]? = some y → 0 ≤ y ∧ y < (s.kinds.length : Int) := by
            intro i y hy
            rw [List.getElem?_drop] at hy
            have hm := Hs.out.ok.st y (List.mem_of_getElem? hy)
            have hlt := (List.getElem?_eq_some_iff.1 hy).1
            have := above_free (l := s.stack) (j := j + 1 + i) (by rw [HAb.out]; omega) hlt
            rw [List.getD_eq_getElem?_getD, hy] at this
            exact ⟨this, hm.2⟩
          have HFr := hide hfree
          have HN0 : Hid ((KeysP s.kinds (s.stack.drop (j + 1)) ∧ (s.cutTo j).kindAt 0 = 4 ∧ (s.stack.length - (j + 1)) % 2 = 0 → markStep s 12 = some (s.cutTo j)) ∧ (¬ (KeysP s.kinds (s.stack.drop (j + 1)) ∧ (s.cutTo j).kindAt 0 = 4 ∧ (s.stack.length - (j + 1)) % 2 = 0) → markStep s 12 = none)) := hide (by
            unfold markStep
            rw [HAb.out, if_neg (by omega), if_neg (by decide), if_neg (by decide), if_pos rfl, show j + 1 - 1 = j by omega]
            exact ⟨fun h => if_pos h, fun h => if_neg h⟩)
          have hnl : s.stack.length - (j + 1) ≤ 1000 := by omega
          have HDL := hide hdl2
          generalize hld : s.stack.drop (j + 1) = ls at HL7 HFr HN0 HDL
          have hnd : s.stack.length - (j + 1) = 0 := by omega
          rw [hnd] at HDL HN0 hnl
          have HX := hide hS4
          have HL8 : Hid (IntsAt X X.heap.size A7 ls) := hide (HL7.out.more (by omega))
          clear hS4 HL7 hfree hdl2 hld hnd hw34
          go_wp2_with fail
          go_loopw [8] (fun iv wr => ∃ i : Nat, i % 2 = 0 ∧ i ≤ 0 + 1 ∧ iv = .int .i64 (i : Int) ∧ ShSt w wr ⟨K, c1, F, c2, some ⟨gs, 0, none⟩, (j + 1), M, c4⟩ base base w.heap.size (w.heap.size + 1) ⟨K, c1, F, c2, some ⟨gs, 0, none⟩, (j + 1), M, c4⟩ (s.cutTo j) ∧ IntsAt wr wr.heap.size A7 ls ∧ ∀ (i' : Nat) (x : Int), i' < i → i' % 2 = 0 → ls[i']? = some x → KeyK (s.kinds.getD x.toNat 0)) (fun iv _ => 0 + 2 - (intOf iv).toNat)
          case atStart => exact ⟨0, rfl, by omega, rfl, HX.out, HL8.out, fun i' x h => absurd h (by omega)⟩
          case round =>
            clear HX HL8
            obtain ⟨i, hi2, hiN, rfl, hS4, hL, hkeys⟩ := hrel
            have HKy := hide hkeys
            have HLs := hide hL
            clear hkeys
            obtain ⟨e0, e1, e2, e3, e4⟩ := hS4.bx.cells
            dsimp only at e0 e1 e2 e3 e4
            have hi0 : (0 : Int) ≤ (i : Int) := by omega
            by_cases hlt : i < 0
            · exact absurd hlt (by omega)
            · have tl : decide ((i : Int) < (0 : Int)) = false := by simp <;> omega
              have HKP := hide (show KeysP s.kinds ls from fun i' x h2 h3 => HKy.out i' x (by have := (List.getElem?_eq_some_iff.1 h3).1; rw [HDL.out] at this; omega) h2 h3)
              have HN1 : Hid (((s.cutTo j).kindAt 0 = 4 ∧ 0 % 2 = 0 → markStep s 12 = some (s.cutTo j)) ∧ (¬ ((s.cutTo j).kindAt 0 = 4 ∧ 0 % 2 = 0) → markStep s 12 = none)) := hide ⟨fun h => HN0.out.1 ⟨HKP.out, by simpa using h⟩, fun h => HN0.out.2 (fun h2 => h (by simpa using h2.2))⟩
              have hlsn : Hid (ls.length = 0) := HDL
              clear HN0 hL HKy HLs HFr HDL
              skip
              have hcall := hide (fun (Z : World) (hZ : ShSt w Z ⟨K, c1, F, c2, some ⟨gs, 0, none⟩, (j + 1), M, c4⟩ base base w.heap.size (w.heap.size + 1) ⟨K, c1, F, c2, some ⟨gs, 0, none⟩, (j + 1), M, c4⟩ (s.cutTo j)) => shapeAt_any ⟨K, c1, F, c2, some ⟨gs, 0, none⟩, (j + 1), M, c4⟩ (s.cutTo j) 0 Z (hZ.bx.own.at_ Hsm.out) Hsm.out (by omega))
              unfold shVal shCells at hcall
              dsimp only at hcall
              have hlow := hS4.bx.box.lt
              have nn : w.heap.size + 1 ≠ w.heap.size := by omega
              generalize hkd : (s.cutTo j).kindAt 0 = kd at *
              go_upto_region 19 with fail
              have hNm : IntKind.i64.wrap (0 : Int) = (0 : Int) := by rw [IntKind.wrap_i64]; omega
              by_cases hv : kd = 4
              · subst hv
                by_cases hp : 0 % 2 = 0
                · have tm : (0 : Int).tmod 2 = 0 := by rw [Int.tmod_eq_emod_of_nonneg (by omega)]; omega
                  have HN := hide (show markStep s 12 = some (s.cutTo j) from HN1.out.1 ⟨rfl, hp⟩)
                  clear HN1 hkd hp
                  have hX0 : Lies wr.drew w.heap.size #[.slice K (s.cutTo j).kinds.length c1, .slice F (s.cutTo j).full.length c2, .slice (some ⟨gs, 0, none⟩) (s.cutTo j).stack.length (j + 1), .slice M (s.cutTo j).memo.length c4, .bool (s.cutTo j).done] 38 := hS4.bx.box
                  have hS4d := hS4.below ((Below.refl wr.heap.size wr).drew)
                  refine wp_region_held_drew (S := fun w' => Lies w' w.heap.size #[.slice K (s.cutTo j).kinds.length c1, .slice F (s.cutTo j).full.length c2, .slice (some ⟨gs, 0, none⟩) (s.cutTo j).stack.length (j + 1), .slice M (s.cutTo j).memo.length c4, .bool (s.cutTo j).done] 38) (by kernel_rfl) hX0 (fun hHeld => ?_)
                  refine wpAnyH_take (i := 0) (oi := ⟨some 69, _, _, _, _, _⟩) (v := ?_) rfl (by kernel_rfl) (by kernel_rfl) (by kernel_rfl) (fun _ _ _ h => h) (Or.inl ⟨by rfl, ?_⟩) (by assumption) ?_
                  rotate_left
                  · (intro w hSw; have q0 := hSw.cell 0; have q1 := hSw.cell 1; have q2 := hSw.cell 2; have q3 := hSw.cell 3; have q4 := hSw.cell 4; simp only [jD, jE, jF] at q0 q1 q2 q3 q4; go_simp; try with_reducible rfl)
                  try simp only [Act.put, jA, jB, jC]
                  refine wpAnyH_take (i := 1) (oi := ⟨some 70, _, _, _, _, _⟩) (v := ?_) rfl (by kernel_rfl) (by kernel_rfl) (by kernel_rfl) (fun _ _ _ h => h) (Or.inl ⟨by rfl, ?_⟩) (by assumption) ?_
                  rotate_left
                  · (intro w hSw; have q0 := hSw.cell 0; have q1 := hSw.cell 1; have q2 := hSw.cell 2; have q3 := hSw.cell 3; have q4 := hSw.cell 4; simp only [jD, jE, jF] at q0 q1 q2 q3 q4; go_simp; try with_reducible rfl)
                  try simp only [Act.put, jA, jB, jC]
                  refine wpAnyH_ready (rs := [2]) (by kernel_rfl) (by simp) ?_
                  refine AllReadyH.cons (o := ⟨some 71, _, _, _, _, _⟩) rfl (fun K hK => ?_) AllReadyH.nil
                  go_simp
                  go_at_call 65
                  refine (hcall.out _ hS4d).mono ?_
                  rintro e w5 ⟨rfl, hb5⟩
                  have hS5 := hS4d.below hb5
                  clear hS4d hb5 hS4 hX0 hHeld hcall e0 e1 e2 e3 e4
                  refine hK.out _ _ hS5.bx.box (fun hH => ?_)
                  clear hK K
                  try simp only [Act.put, jA, jB, jC]
                  refine wpAnyH_take (i := 3) (oi := ⟨some 72, _, _, _, _, _⟩) (v := ?_) rfl (by kernel_rfl) (by kernel_rfl) (by kernel_rfl) (fun _ _ _ h => h) (Or.inl ⟨by rfl, ?_⟩) (by assumption) ?_
                  rotate_left
                  · (intro w hSw; go_simp; try with_reducible rfl)
                  try simp only [Act.put, jA, jB, jC]
                  refine wpAnyH_take (i := 4) (oi := ⟨some 73, _, _, _, _, _⟩) (v := ?_) rfl (by kernel_rfl) (by kernel_rfl) (by kernel_rfl) (fun _ _ _ h => h) (Or.inl ⟨by rfl, ?_⟩) (by assumption) ?_
                  rotate_left
                  · (intro w hSw; go_simp; try with_reducible rfl)
                  try simp only [Act.put, jA, jB, jC]
                  refine wpAnyH_take (i := 5) (oi := ⟨some 74, _, _, _, _, _⟩) (v := ?_) rfl (by kernel_rfl) (by kernel_rfl) (by kernel_rfl) (fun _ _ _ h => h) (Or.inl ⟨by rfl, ?_⟩) (by assumption) ?_
                  rotate_left
                  · (intro w hSw; go_simp; try with_reducible rfl)
                  try simp only [Act.put, jA, jB, jC]
                  refine wpAnyH_take (i := 6) (oi := ⟨some 75, _, _, _, _, _⟩) (v := ?_) rfl (by kernel_rfl) (by kernel_rfl) (by kernel_rfl) (fun _ _ _ h => h) (Or.inl ⟨by rfl, ?_⟩) (by assumption) ?_
                  rotate_left
                  · (intro w hSw; go_simp; try with_reducible rfl)
                  try simp only [Act.put, jA, jB, jC]
                  refine wpAnyH_take (i := 7) (oi := ⟨some 76, _, _, _, _, _⟩) (v := ?_) rfl (by kernel_rfl) (by kernel_rfl) (by kernel_rfl) (fun _ _ _ h => h) (Or.inl ⟨by rfl, ?_⟩) (by assumption) ?_
                  rotate_left
                  · (intro w hSw; go_simp; try with_reducible rfl)
                  try simp only [Act.put, jA, jB, jC]
                  refine wpAnyH_take (i := 8) (oi := ⟨some 77, _, _, _, _, _⟩) (v := ?_) rfl (by kernel_rfl) (by kernel_rfl) (by kernel_rfl) (fun _ _ _ h => h) (Or.inl ⟨by rfl, ?_⟩) (by assumption) ?_
                  rotate_left
                  · (intro w hSw; go_simp; try with_reducible rfl)
                  try simp only [Act.put, jA, jB, jC]
                  refine wpAnyH_take (i := 9) (oi := ⟨some 78, _, _, _, _, _⟩) (v := ?_) rfl (by kernel_rfl) (by kernel_rfl) (by kernel_rfl) (fun _ _ _ h => h) (Or.inl ⟨by rfl, ?_⟩) (by assumption) ?_
                  rotate_left
                  · (intro w hSw; go_simp; try with_reducible rfl)
                  try simp only [Act.put, jA, jB, jC]
                  obtain ⟨⟨p0, p1, p2, p3, p4⟩, hs5, hown, hbel, hfr⟩ := hS5.ret
                  obtain ⟨r0, r1, r2, r3, r4, f0, f1, f2, f3, f4, s0, s1, s2, s3, s4⟩ := hs5
                  have HR := hide (And.intro hown (And.intro hbel (And.intro hfr hS5.offs)))
                  have hne : w.heap.size ≠ w.heap.size + 1 := by omega
                  clear hown hbel hfr hS5
                  dsimp only at p0 p1 p2 p3 p4 r0 r1 r2 r3 r4 s0 s1 s2 s3 s4
                  refine wpAnyH_ready (rs := [10]) (by kernel_rfl) (by simp) ?_
                  refine AllReadyH.cons (o := ⟨none, _, _, _, _, _⟩) rfl (fun K hK => ?_) AllReadyH.nil
                  go_simp
                  refine hK.out _ _ ((set5_block hne).trans hH) (fun hH2 => ?_)
                  clear hK K
                  try simp only [Act.put, jA, jB, jC]
                  refine wpAnyH_ready (rs := [11]) (by kernel_rfl) (by simp) ?_
                  refine AllReadyH.cons (o := ⟨some 5, _, _, _, _, _⟩) rfl (fun K hK => ?_) AllReadyH.nil
                  go_simp
                  refine hK.out _ _ hH2 (fun hH3 => ?_)
                  clear hK K hH3 hH2 hH
                  try simp only [Act.put, jA, jB, jC]
                  refine wpAnyH_done (by kernel_rfl) ?_ _
                  clear p0 p1 p2 p3 p4 r0 r1 r2 r3 r4 f0 f1 f2 f3 f4
                  go_wp2
                  refine bodyPost_ret (v := .tuple #[shVal ⟨K, c1, F, c2, some ⟨gs, 0, none⟩, (j + 1), M, c4⟩ (s.cutTo j), .bool true]) (by simp [shVal, shCells, results, Tryd.results52, go_sem, s0, s1, s2, s3, s4]) rfl ?_
                  exact ⟨_, _, _, rfl, HR.out.2.1, HR.out.2.2.1, fun t ht => by (rw [HN.out] at ht; cases ht; exact ⟨rfl, rfl, HR.out.1, HR.out.2.2.2⟩), fun hh => by (rw [HN.out] at hh; cases hh)⟩
                · have tm : (0 : Int).tmod 2 = 1 := by rw [Int.tmod_eq_emod_of_nonneg (by omega)]; omega
                  have HN := hide (show markStep s 12 = none from HN1.out.2 (by rintro ⟨_, h⟩; exact hp h))
                  clear HN1 hkd hp
                  have hX0 : Lies wr.drew w.heap.size #[.slice K (s.cutTo j).kinds.length c1, .slice F (s.cutTo j).full.length c2, .slice (some ⟨gs, 0, none⟩) (s.cutTo j).stack.length (j + 1), .slice M (s.cutTo j).memo.length c4, .bool (s.cutTo j).done] 38 := hS4.bx.box
                  have hS4d := hS4.below ((Below.refl wr.heap.size wr).drew)
                  refine wp_region_held_drew (S := fun w' => Lies w' w.heap.size #[.slice K (s.cutTo j).kinds.length c1, .slice F (s.cutTo j).full.length c2, .slice (some ⟨gs, 0, none⟩) (s.cutTo j).stack.length (j + 1), .slice M (s.cutTo j).memo.length c4, .bool (s.cutTo j).done] 38) (by kernel_rfl) hX0 (fun hHeld => ?_)
                  refine wpAnyH_take (i := 0) (oi := ⟨some 69, _, _, _, _, _⟩) (v := ?_) rfl (by kernel_rfl) (by kernel_rfl) (by kernel_rfl) (fun _ _ _ h => h) (Or.inl ⟨by rfl, ?_⟩) (by assumption) ?_
                  rotate_left
                  · (intro w hSw; have q0 := hSw.cell 0; have q1 := hSw.cell 1; have q2 := hSw.cell 2; have q3 := hSw.cell 3; have q4 := hSw.cell 4; simp only [jD, jE, jF] at q0 q1 q2 q3 q4; go_simp; try with_reducible rfl)
                  try simp only [Act.put, jA, jB, jC]
                  refine wpAnyH_take (i := 1) (oi := ⟨some 70, _, _, _, _, _⟩) (v := ?_) rfl (by kernel_rfl) (by kernel_rfl) (by kernel_rfl) (fun _ _ _ h => h) (Or.inl ⟨by rfl, ?_⟩) (by assumption) ?_
                  rotate_left
                  · (intro w hSw; have q0 := hSw.cell 0; have q1 := hSw.cell 1; have q2 := hSw.cell 2; have q3 := hSw.cell 3; have q4 := hSw.cell 4; simp only [jD, jE, jF] at q0 q1 q2 q3 q4; go_simp; try with_reducible rfl)
                  try simp only [Act.put, jA, jB, jC]
                  refine wpAnyH_ready (rs := [2]) (by kernel_rfl) (by simp) ?_
                  refine AllReadyH.cons (o := ⟨some 71, _, _, _, _, _⟩) rfl (fun K hK => ?_) AllReadyH.nil
                  go_simp
                  go_at_call 65
                  refine (hcall.out _ hS4d).mono ?_
                  rintro e w5 ⟨rfl, hb5⟩
                  have hS5 := hS4d.below hb5
                  clear hS4d hb5 hS4 hX0 hHeld hcall e0 e1 e2 e3 e4
                  refine hK.out _ _ hS5.bx.box (fun hH => ?_)
                  clear hK K
                  try simp only [Act.put, jA, jB, jC]
                  refine wpAnyH_take (i := 3) (oi := ⟨some 72, _, _, _, _, _⟩) (v := ?_) rfl (by kernel_rfl) (by kernel_rfl) (by kernel_rfl) (fun _ _ _ h => h) (Or.inl ⟨by rfl, ?_⟩) (by assumption) ?_
                  rotate_left
                  · (intro w hSw; go_simp; try with_reducible rfl)
                  try simp only [Act.put, jA, jB, jC]
                  refine wpAnyH_take (i := 4) (oi := ⟨some 73, _, _, _, _, _⟩) (v := ?_) rfl (by kernel_rfl) (by kernel_rfl) (by kernel_rfl) (fun _ _ _ h => h) (Or.inl ⟨by rfl, ?_⟩) (by assumption) ?_
                  rotate_left
                  · (intro w hSw; go_simp; try with_reducible rfl)
                  try simp only [Act.put, jA, jB, jC]
                  refine wpAnyH_take (i := 5) (oi := ⟨some 74, _, _, _, _, _⟩) (v := ?_) rfl (by kernel_rfl) (by kernel_rfl) (by kernel_rfl) (fun _ _ _ h => h) (Or.inl ⟨by rfl, ?_⟩) (by assumption) ?_
                  rotate_left
                  · (intro w hSw; go_simp; try with_reducible rfl)
                  try simp only [Act.put, jA, jB, jC]
                  refine wpAnyH_take (i := 6) (oi := ⟨some 75, _, _, _, _, _⟩) (v := ?_) rfl (by kernel_rfl) (by kernel_rfl) (by kernel_rfl) (fun _ _ _ h => h) (Or.inl ⟨by rfl, ?_⟩) (by assumption) ?_
                  rotate_left
                  · (intro w hSw; go_simp; try with_reducible rfl)
                  try simp only [Act.put, jA, jB, jC]
                  refine wpAnyH_take (i := 7) (oi := ⟨some 76, _, _, _, _, _⟩) (v := ?_) rfl (by kernel_rfl) (by kernel_rfl) (by kernel_rfl) (fun _ _ _ h => h) (Or.inl ⟨by rfl, ?_⟩) (by assumption) ?_
                  rotate_left
                  · (intro w hSw; go_simp; try with_reducible rfl)
                  try simp only [Act.put, jA, jB, jC]
                  refine wpAnyH_take (i := 8) (oi := ⟨some 77, _, _, _, _, _⟩) (v := ?_) rfl (by kernel_rfl) (by kernel_rfl) (by kernel_rfl) (fun _ _ _ h => h) (Or.inl ⟨by rfl, ?_⟩) (by assumption) ?_
                  rotate_left
                  · (intro w hSw; go_simp; try with_reducible rfl)
                  try simp only [Act.put, jA, jB, jC]
                  refine wpAnyH_take (i := 9) (oi := ⟨some 78, _, _, _, _, _⟩) (v := ?_) rfl (by kernel_rfl) (by kernel_rfl) (by kernel_rfl) (fun _ _ _ h => h) (Or.inl ⟨by rfl, ?_⟩) (by assumption) ?_
                  rotate_left
                  · (intro w hSw; go_simp; try with_reducible rfl)
                  try simp only [Act.put, jA, jB, jC]
                  obtain ⟨⟨p0, p1, p2, p3, p4⟩, hs5, hown, hbel, hfr⟩ := hS5.ret
                  obtain ⟨r0, r1, r2, r3, r4, f0, f1, f2, f3, f4, s0, s1, s2, s3, s4⟩ := hs5
                  have HR := hide (And.intro hown (And.intro hbel (And.intro hfr hS5.offs)))
                  have hne : w.heap.size ≠ w.heap.size + 1 := by omega
                  clear hown hbel hfr hS5
                  dsimp only at p0 p1 p2 p3 p4 r0 r1 r2 r3 r4 s0 s1 s2 s3 s4
                  refine wpAnyH_ready (rs := [10]) (by kernel_rfl) (by simp) ?_
                  refine AllReadyH.cons (o := ⟨none, _, _, _, _, _⟩) rfl (fun K hK => ?_) AllReadyH.nil
                  go_simp
                  refine hK.out _ _ ((set5_block hne).trans hH) (fun hH2 => ?_)
                  clear hK K
                  try simp only [Act.put, jA, jB, jC]
                  refine wpAnyH_ready (rs := [11]) (by kernel_rfl) (by simp) ?_
                  refine AllReadyH.cons (o := ⟨some 5, _, _, _, _, _⟩) rfl (fun K hK => ?_) AllReadyH.nil
                  go_simp
                  refine hK.out _ _ hH2 (fun hH3 => ?_)
                  clear hK K hH3 hH2 hH
                  try simp only [Act.put, jA, jB, jC]
                  refine wpAnyH_done (by kernel_rfl) ?_ _
                  clear p0 p1 p2 p3 p4 r0 r1 r2 r3 r4 f0 f1 f2 f3 f4
                  go_wp2
                  refine bodyPost_ret (v := .tuple #[shVal ⟨K, c1, F, c2, some ⟨gs, 0, none⟩, (j + 1), M, c4⟩ (s.cutTo j), .bool false]) (by simp [shVal, shCells, results, Tryd.results52, go_sem, s0, s1, s2, s3, s4]) rfl ?_
                  exact ⟨_, _, _, rfl, HR.out.2.1, HR.out.2.2.1, fun t ht => by (rw [HN.out] at ht; cases ht), fun _ => rfl⟩
              · have tb : (kd == 4) = false := by simpa using hv
                have HN := hide (show markStep s 12 = none from HN1.out.2 (by rintro ⟨h, _⟩; exact hv h))
                clear HN1 hkd
                have hX0 : Lies wr.drew w.heap.size #[.slice K (s.cutTo j).kinds.length c1, .slice F (s.cutTo j).full.length c2, .slice (some ⟨gs, 0, none⟩) (s.cutTo j).stack.length (j + 1), .slice M (s.cutTo j).memo.length c4, .bool (s.cutTo j).done] 38 := hS4.bx.box
                have hS4d := hS4.below ((Below.refl wr.heap.size wr).drew)
                refine wp_region_held_drew (S := fun w' => Lies w' w.heap.size #[.slice K (s.cutTo j).kinds.length c1, .slice F (s.cutTo j).full.length c2, .slice (some ⟨gs, 0, none⟩) (s.cutTo j).stack.length (j + 1), .slice M (s.cutTo j).memo.length c4, .bool (s.cutTo j).done] 38) (by kernel_rfl) hX0 (fun hHeld => ?_)
                refine wpAnyH_take (i := 0) (oi := ⟨some 69, _, _, _, _, _⟩) (v := ?_) rfl (by kernel_rfl) (by kernel_rfl) (by kernel_rfl) (fun _ _ _ h => h) (Or.inl ⟨by rfl, ?_⟩) (by assumption) ?_
                rotate_left
                · (intro w hSw; have q0 := hSw.cell 0; have q1 := hSw.cell 1; have q2 := hSw.cell 2; have q3 := hSw.cell 3; have q4 := hSw.cell 4; simp only [jD, jE, jF] at q0 q1 q2 q3 q4; go_simp; try with_reducible rfl)
                try simp only [Act.put, jA, jB, jC]
                refine wpAnyH_take (i := 1) (oi := ⟨some 70, _, _, _, _, _⟩) (v := ?_) rfl (by kernel_rfl) (by kernel_rfl) (by kernel_rfl) (fun _ _ _ h => h) (Or.inl ⟨by rfl, ?_⟩) (by assumption) ?_
                rotate_left
                · (intro w hSw; have q0 := hSw.cell 0; have q1 := hSw.cell 1; have q2 := hSw.cell 2; have q3 := hSw.cell 3; have q4 := hSw.cell 4; simp only [jD, jE, jF] at q0 q1 q2 q3 q4; go_simp; try with_reducible rfl)
                try simp only [Act.put, jA, jB, jC]
                refine wpAnyH_ready (rs := [2]) (by kernel_rfl) (by simp) ?_
                refine AllReadyH.cons (o := ⟨some 71, _, _, _, _, _⟩) rfl (fun K hK => ?_) AllReadyH.nil
                go_simp
                go_at_call 65
                refine (hcall.out _ hS4d).mono ?_
                rintro e w5 ⟨rfl, hb5⟩
                have hS5 := hS4d.below hb5
                clear hS4d hb5 hS4 hX0 hHeld hcall e0 e1 e2 e3 e4
                refine hK.out _ _ hS5.bx.box (fun hH => ?_)
                clear hK K
                try simp only [Act.put, jA, jB, jC]
                refine wpAnyH_take (i := 3) (oi := ⟨some 72, _, _, _, _, _⟩) (v := ?_) rfl (by kernel_rfl) (by kernel_rfl) (by kernel_rfl) (fun _ _ _ h => h) (Or.inl ⟨by rfl, ?_⟩) (by assumption) ?_
                rotate_left
                · (intro w hSw; go_simp; try with_reducible rfl)
                try simp only [Act.put, jA, jB, jC]
                refine wpAnyH_take (i := 4) (oi := ⟨some 73, _, _, _, _, _⟩) (v := ?_) rfl (by kernel_rfl) (by kernel_rfl) (by kernel_rfl) (fun _ _ _ h => h) (Or.inl ⟨by rfl, ?_⟩) (by assumption) ?_
                rotate_left
                · (intro w hSw; go_simp; try with_reducible rfl)
                try simp only [Act.put, jA, jB, jC]
                refine wpAnyH_take (i := 5) (oi := ⟨some 74, _, _, _, _, _⟩) (v := undef) rfl (by kernel_rfl) (by kernel_rfl) (by kernel_rfl) (fun _ _ _ h => h) (Or.inr ⟨by rfl, rfl⟩) (by assumption) ?_
                try simp only [Act.put, jA, jB, jC]
                refine wpAnyH_take (i := 6) (oi := ⟨some 75, _, _, _, _, _⟩) (v := undef) rfl (by kernel_rfl) (by kernel_rfl) (by kernel_rfl) (fun _ _ _ h => h) (Or.inr ⟨by rfl, rfl⟩) (by assumption) ?_
                try simp only [Act.put, jA, jB, jC]
                refine wpAnyH_take (i := 7) (oi := ⟨some 76, _, _, _, _, _⟩) (v := undef) rfl (by kernel_rfl) (by kernel_rfl) (by kernel_rfl) (fun _ _ _ h => h) (Or.inr ⟨by rfl, rfl⟩) (by assumption) ?_
                try simp only [Act.put, jA, jB, jC]
                refine wpAnyH_take (i := 8) (oi := ⟨some 77, _, _, _, _, _⟩) (v := undef) rfl (by kernel_rfl) (by kernel_rfl) (by kernel_rfl) (fun _ _ _ h => h) (Or.inr ⟨by rfl, rfl⟩) (by assumption) ?_
                try simp only [Act.put, jA, jB, jC]
                refine wpAnyH_take (i := 9) (oi := ⟨some 78, _, _, _, _, _⟩) (v := ?_) rfl (by kernel_rfl) (by kernel_rfl) (by kernel_rfl) (fun _ _ _ h => h) (Or.inl ⟨by rfl, ?_⟩) (by assumption) ?_
                rotate_left
                · (intro w hSw; go_simp; try with_reducible rfl)
                try simp only [Act.put, jA, jB, jC]
                obtain ⟨⟨p0, p1, p2, p3, p4⟩, hs5, hown, hbel, hfr⟩ := hS5.ret
                obtain ⟨r0, r1, r2, r3, r4, f0, f1, f2, f3, f4, s0, s1, s2, s3, s4⟩ := hs5
                have HR := hide (And.intro hown (And.intro hbel (And.intro hfr hS5.offs)))
                have hne : w.heap.size ≠ w.heap.size + 1 := by omega
                clear hown hbel hfr hS5
                dsimp only at p0 p1 p2 p3 p4 r0 r1 r2 r3 r4 s0 s1 s2 s3 s4
                refine wpAnyH_ready (rs := [10]) (by kernel_rfl) (by simp) ?_
                refine AllReadyH.cons (o := ⟨none, _, _, _, _, _⟩) rfl (fun K hK => ?_) AllReadyH.nil
                go_simp
                refine hK.out _ _ ((set5_block hne).trans hH) (fun hH2 => ?_)
                clear hK K
                try simp only [Act.put, jA, jB, jC]
                refine wpAnyH_ready (rs := [11]) (by kernel_rfl) (by simp) ?_
                refine AllReadyH.cons (o := ⟨some 5, _, _, _, _, _⟩) rfl (fun K hK => ?_) AllReadyH.nil
                go_simp
                refine hK.out _ _ hH2 (fun hH3 => ?_)
                clear hK K hH3 hH2 hH
                try simp only [Act.put, jA, jB, jC]
                refine wpAnyH_done (by kernel_rfl) ?_ _
                clear p0 p1 p2 p3 p4 r0 r1 r2 r3 r4 f0 f1 f2 f3 f4
                go_wp2
                refine bodyPost_ret (v := .tuple #[shVal ⟨K, c1, F, c2, some ⟨gs, 0, none⟩, (j + 1), M, c4⟩ (s.cutTo j), .bool false]) (by simp [shVal, shCells, results, Tryd.results52, go_sem, s0, s1, s2, s3, s4]) rfl ?_
                exact ⟨_, _, _, rfl, HR.out.2.1, HR.out.2.2.1, fun t ht => by (rw [HN.out] at ht; cases ht), fun _ => rfl⟩
        · skip
          have hdl : (s.stack.drop (j + 1)).length = s.stack.length - (j + 1) := by simp
          have hID : IntsAt wr wr.heap.size (some ⟨gs, 0 + (j + 1), none⟩) (s.stack.drop (j + 1)) := HI.out.dropAt gs 0 rfl (j + 1)
          rw [Nat.zero_add] at hID
          have HC := copyInts_any (some ⟨gs, j + 1, none⟩) (s.stack.drop (j + 1)) (c3 - (j + 1)) wr hID (fun e => by cases e) (by omega)
          rw [hdl] at HC
          have hcj2 : ¬ (c3 = j + 1) := hcj
          have hcj3 : ¬ ((c3 : Int) = (j : Int) + 1) := by omega
          have HCC := hide HC
          clear HC hID HI
          go_wp2_with fail
          all_goals first | (exfalso; omega) | skip
          refine HCC.out.mono ?_
          clear HCC
          rintro e w3 ⟨A7, c7, rfl, ho7, hb7⟩
          have ho7f := ho7.form
          have hS3 := hS.below hb7
          have hi7 := ho7.ints (fun x hx => Hs.out.t64 x (List.mem_of_mem_drop hx)) (by simp; omega)
          have f2 := hS3.bx.box.frozen 2
          clear hS e0 e1 e2 e3 e4 ho7
          obtain ⟨e0, e1, e2, e3, e4⟩ := hS3.bx.cells
          dsimp only at e0 e1 e2 e3 e4
          have HI7 := hide hi7
          clear hi7
          go_upto_region 8 with fail
          have hS4 := hS3.cut (n := j) (by omega)
          have hw34 : (w3.setCell ⟨w.heap.size, 2, none⟩ (.slice (some ⟨gs, 0, none⟩) j c3)).heap.size = w3.heap.size := by simp
          have HL7 : Hid (IntsAt (w3.setCell ⟨w.heap.size, 2, none⟩ (.slice (some ⟨gs, 0, none⟩) j c3)) w3.heap.size A7 (s.stack.drop (j + 1))) := hide (by
            refine ⟨fun hne => ?_, HI7.out.wf, HI7.out.len⟩
            rcases ho7f with ⟨_, _, h3⟩ | ⟨g7, h7, h8, h9⟩
            · exact absurd h3 hne
            · obtain ⟨b, off, e7, hlt7, hcell⟩ := HI7.out.row hne
              refine ⟨b, off, e7, hlt7, fun i y hi => ?_⟩
              rw [World.cell?_setCell_far _ _ _ _ (by rw [h7] at e7; injection e7 with e7; injection e7 with e7 _; show w.heap.size ≠ b; omega)]
              exact hcell i y hi)
          dsimp only at hS4
          generalize w3.setCell ⟨w.heap.size, 2, none⟩ (.slice (some ⟨gs, 0, none⟩) j c3) = X at hS4 HL7 hw34 ⊢
          clear hS3 e0 e1 e2 e3 e4 f2 HI7
          have hcl : (s.cutTo j).stack.length ≤ 1000 := by show (s.stack.take j).length ≤ 1000; simp; omega
          have Hsm : Hid (s.cutTo j).Small := hide ⟨hkl, hcl, Hs.out.ok.cut j⟩
          have hdl2 : (s.stack.drop (j + 1)).length = s.stack.length - (j + 1) := by simp
          have hfree : ∀ (i : Nat) (y : Int), (s.stack.drop (j + 1))[i]? = some y → 0 ≤ y ∧ y < (s.kinds.length : Int) := by
            intro i y hy
            rw [List.getElem?_drop] at hy
            have hm := Hs.out.ok.st y (List.mem_of_getElem? hy)
            have hlt := (List.getElem?_eq_some_iff.1 hy).1
            have := above_free (l := s.stack) (j := j + 1 + i) (by rw [HAb.out]; omega) hlt
            rw [List.getD_eq_getElem?_getD, hy] at this
            exact ⟨this, hm.2⟩
          have HFr := hide hfree
          have HN0 : Hid ((KeysP s.kinds (s.stack.drop (j + 1)) ∧ (s.cutTo j).kindAt 0 = 4 ∧ (s.stack.length - (j + 1)) % 2 = 0 → markStep s 12 = some (s.cutTo j)) ∧ (¬ (KeysP s.kinds (s.stack.drop (j + 1)) ∧ (s.cutTo j).kindAt 0 = 4 ∧ (s.stack.length - (j + 1)) % 2 = 0) → markStep s 12 = none)) := hide (by
            unfold markStep
            rw [HAb.out, if_neg (by omega), if_neg (by decide), if_neg (by decide), if_pos rfl, show j + 1 - 1 = j by omega]
            exact ⟨fun h => if_pos h, fun h => if_neg h⟩)
          have hnl : s.stack.length - (j + 1) ≤ 1000 := by omega
          have HDL := hide hdl2
          generalize hld : s.stack.drop (j + 1) = ls at HL7 HFr HN0 HDL
          generalize hnd : s.stack.length - (j + 1) = N at *
          have HX := hide hS4
          have HL8 : Hid (IntsAt X X.heap.size A7 ls) := hide (HL7.out.more (by omega))
          clear hS4 HL7 hfree hdl2 hld hnd hw34
          go_wp2_with fail
          go_loopw [8] (fun iv wr => ∃ i : Nat, i % 2 = 0 ∧ i ≤ N + 1 ∧ iv = .int .i64 (i : Int) ∧ ShSt w wr ⟨K, c1, F, c2, some ⟨gs, 0, none⟩, c3, M, c4⟩ base base w.heap.size (w.heap.size + 1) ⟨K, c1, F, c2, some ⟨gs, 0, none⟩, c3, M, c4⟩ (s.cutTo j) ∧ IntsAt wr wr.heap.size A7 ls ∧ ∀ (i' : Nat) (x : Int), i' < i → i' % 2 = 0 → ls[i']? = some x → KeyK (s.kinds.getD x.toNat 0)) (fun iv _ => N + 2 - (intOf iv).toNat)
          case atStart => exact ⟨0, rfl, by omega, rfl, HX.out, HL8.out, fun i' x h => absurd h (by omega)⟩
          case round =>
            clear HX HL8
            obtain ⟨i, hi2, hiN, rfl, hS4, hL, hkeys⟩ := hrel
            have HKy := hide hkeys
            have HLs := hide hL
            clear hkeys
            obtain ⟨e0, e1, e2, e3, e4⟩ := hS4.bx.cells
            dsimp only at e0 e1 e2 e3 e4
            have hi0 : (0 : Int) ≤ (i : Int) := by omega
            by_cases hlt : i < N
            · have tl : decide ((i : Int) < (N : Int)) = true := by simp; omega
              have hiN1 : (i : Int) < (N : Int) := by omega
              obtain ⟨b7, o7, y, rfl, hb7l, hy, _, hcy⟩ := hL.at_ (k := i) (by rw [HDL.out]; exact hlt)
              obtain ⟨hy0, hyl⟩ := HFr.out i y hy
              obtain ⟨yn, rfl⟩ := Int.eq_ofNat_of_zero_le hy0
              obtain ⟨z, hz⟩ : ∃ z, (s.cutTo j).kinds[yn]? = some z := ⟨_, List.getElem?_eq_getElem (show yn < s.kinds.length by omega)⟩
              have hzk : s.kinds.getD yn 0 = z := by rw [List.getD_eq_getElem?_getD, show s.kinds[yn]? = some z from hz]; rfl
              obtain ⟨gk, rfl, _, _, hck, _⟩ := hS4.bx.own.k.atJ hz
              have hyk : (yn : Int) < ((s.cutTo j).kinds.length : Int) := hyl
              by_cases hkey : KeyK z
              · have HT := hide (tf_true hkey)
                have HK2 : Hid (∀ (i' : Nat) (x : Int), i' < i + 2 → i' % 2 = 0 → ls[i']? = some x → KeyK (s.kinds.getD x.toNat 0)) := hide (by
                  intro i' x h1 h2 h3
                  by_cases e : i' = i
                  · subst e
                    rw [hy] at h3
                    injection h3 with h3
                    subst h3
                    rw [Int.toNat_natCast, hzk]
                    exact hkey
                  · exact HKy.out i' x (by omega) h2 h3)
                have HS4 := hide hS4
                clear hS4 hL hy hz hzk hkey HKy
                go_wp2_with fail
                go_quiet ((go_at_call 66; have hq := keyKind_any z; rw [HT.out] at hq; exact Calls.quiet_of_same (hq _)))
                go_wp2
                go_roundw
                case rel => exact ⟨i + 2, by omega, by omega, by go_num, HS4.out.below (below_drewN (Below.refl _ _) _), HLs.out.later (below_drewN (Below.refl _ _) _) (Nat.le_refl _), HK2.out⟩
                case measure => simp [intOf] <;> omega
              · have HT := hide (tf_false hkey)
                have HN := hide (show markStep s 12 = none by
                  refine HN0.out.2 ?_
                  rintro ⟨h1, _⟩
                  have := h1 i (yn : Int) hi2 hy
                  rw [Int.toNat_natCast, hzk] at this
                  exact hkey this)
                clear hL hy hz hzk hkey HKy HN0 HLs
                go_wp2_with fail
                go_quiet ((go_at_call 66; have hq := keyKind_any z; rw [HT.out] at hq; exact Calls.quiet_of_same (hq _)))
                have hS5 := hS4.below (below_drewN (Below.refl wr.heap.size wr) nq)
                generalize wr.drewN nq = Y at hS5 ⊢
                clear hS4 e0 e1 e2 e3 e4 hck hcy
                obtain ⟨⟨e0, e1, e2, e3, e4⟩, hs5, hown, hbel, hfr⟩ := hS5.ret
                obtain ⟨r0, r1, r2, r3, r4, f0, f1, f2, f3, f4, s0, s1, s2, s3, s4⟩ := hs5
                have hoffs := hS5.offs
                have HR := hide (And.intro hown (And.intro hbel (And.intro hfr hoffs)))
                clear hown hbel hfr hoffs hS5
                dsimp only at e0 e1 e2 e3 e4 r0 r1 r2 r3 r4 s0 s1 s2 s3 s4
                go_wp2
                refine bodyPost_ret (v := .tuple #[shVal ⟨some ⟨gk, 0, none⟩, c1, F, c2, some ⟨gs, 0, none⟩, c3, M, c4⟩ (s.cutTo j), .bool false]) (by simp [shVal, shCells, results, Tryd.results52, go_sem, s0, s1, s2, s3, s4]) rfl ?_
                exact ⟨_, _, _, rfl, HR.out.2.1, HR.out.2.2.1, fun t ht => by (rw [HN.out] at ht; cases ht), fun _ => rfl⟩
            · have tl : decide ((i : Int) < (N : Int)) = false := by simp <;> omega
              have HKP := hide (show KeysP s.kinds ls from fun i' x h2 h3 => HKy.out i' x (by have := (List.getElem?_eq_some_iff.1 h3).1; rw [HDL.out] at this; omega) h2 h3)
              have HN1 : Hid (((s.cutTo j).kindAt 0 = 4 ∧ N % 2 = 0 → markStep s 12 = some (s.cutTo j)) ∧ (¬ ((s.cutTo j).kindAt 0 = 4 ∧ N % 2 = 0) → markStep s 12 = none)) := hide ⟨fun h => HN0.out.1 ⟨HKP.out, by simpa using h⟩, fun h => HN0.out.2 (fun h2 => h (by simpa using h2.2))⟩
              have hlsn : Hid (ls.length = N) := HDL
              clear HN0 hL HKy HLs HFr HDL
              skip
              have hcall := hide (fun (Z : World) (hZ : ShSt w Z ⟨K, c1, F, c2, some ⟨gs, 0, none⟩, c3, M, c4⟩ base base w.heap.size (w.heap.size + 1) ⟨K, c1, F, c2, some ⟨gs, 0, none⟩, c3, M, c4⟩ (s.cutTo j)) => shapeAt_any ⟨K, c1, F, c2, some ⟨gs, 0, none⟩, c3, M, c4⟩ (s.cutTo j) 0 Z (hZ.bx.own.at_ Hsm.out) Hsm.out (by omega))
              unfold shVal shCells at hcall
              dsimp only at hcall
              have hlow := hS4.bx.box.lt
              have nn : w.heap.size + 1 ≠ w.heap.size := by omega
              generalize hkd : (s.cutTo j).kindAt 0 = kd at *
              go_upto_region 19 with fail
              have hNm : IntKind.i64.wrap (N : Int) = (N : Int) := by rw [IntKind.wrap_i64]; omega
              by_cases hv : kd = 4
              · subst hv
                by_cases hp : N % 2 = 0
                · have tm : (N : Int).tmod 2 = 0 := by rw [Int.tmod_eq_emod_of_nonneg (by omega)]; omega
                  have HN := hide (show markStep s 12 = some (s.cutTo j) from HN1.out.1 ⟨rfl, hp⟩)
                  clear HN1 hkd hp
                  have hX0 : Lies wr.drew w.heap.size #[.slice K (s.cutTo j).kinds.length c1, .slice F (s.cutTo j).full.length c2, .slice (some ⟨gs, 0, none⟩) (s.cutTo j).stack.length c3, .slice M (s.cutTo j).memo.length c4, .bool (s.cutTo j).done] 38 := hS4.bx.box
                  have hS4d := hS4.below ((Below.refl wr.heap.size wr).drew)
                  refine wp_region_held_drew (S := fun w' => Lies w' w.heap.size #[.slice K (s.cutTo j).kinds.length c1, .slice F (s.cutTo j).full.length c2, .slice (some ⟨gs, 0, none⟩) (s.cutTo j).stack.length c3, .slice M (s.cutTo j).memo.length c4, .bool (s.cutTo j).done] 38) (by kernel_rfl) hX0 (fun hHeld => ?_)
                  refine wpAnyH_take (i := 0) (oi := ⟨some 69, _, _, _, _, _⟩) (v := ?_) rfl (by kernel_rfl) (by kernel_rfl) (by kernel_rfl) (fun _ _ _ h => h) (Or.inl ⟨by rfl, ?_⟩) (by assumption) ?_
                  rotate_left
                  · (intro w hSw; have q0 := hSw.cell 0; have q1 := hSw.cell 1; have q2 := hSw.cell 2; have q3 := hSw.cell 3; have q4 := hSw.cell 4; simp only [jD, jE, jF] at q0 q1 q2 q3 q4; go_simp; try with_reducible rfl)
                  try simp only [Act.put, jA, jB, jC]
                  refine wpAnyH_take (i := 1) (oi := ⟨some 70, _, _, _, _, _⟩) (v := ?_) rfl (by kernel_rfl) (by kernel_rfl) (by kernel_rfl) (fun _ _ _ h => h) (Or.inl ⟨by rfl, ?_⟩) (by assumption) ?_
                  rotate_left
                  · (intro w hSw; have q0 := hSw.cell 0; have q1 := hSw.cell 1; have q2 := hSw.cell 2; have q3 := hSw.cell 3; have q4 := hSw.cell 4; simp only [jD, jE, jF] at q0 q1 q2 q3 q4; go_simp; try with_reducible rfl)
                  try simp only [Act.put, jA, jB, jC]
                  refine wpAnyH_ready (rs := [2]) (by kernel_rfl) (by simp) ?_
                  refine AllReadyH.cons (o := ⟨some 71, _, _, _, _, _⟩) rfl (fun K hK => ?_) AllReadyH.nil
                  go_simp
                  go_at_call 65
                  refine (hcall.out _ hS4d).mono ?_
                  rintro e w5 ⟨rfl, hb5⟩
                  have hS5 := hS4d.below hb5
                  clear hS4d hb5 hS4 hX0 hHeld hcall e0 e1 e2 e3 e4
                  refine hK.out _ _ hS5.bx.box (fun hH => ?_)
                  clear hK K
                  try simp only [Act.put, jA, jB, jC]
                  refine wpAnyH_take (i := 3) (oi := ⟨some 72, _, _, _, _, _⟩) (v := ?_) rfl (by kernel_rfl) (by kernel_rfl) (by kernel_rfl) (fun _ _ _ h => h) (Or.inl ⟨by rfl, ?_⟩) (by assumption) ?_
                  rotate_left
                  · (intro w hSw; go_simp; try with_reducible rfl)
                  try simp only [Act.put, jA, jB, jC]
                  refine wpAnyH_take (i := 4) (oi := ⟨some 73, _, _, _, _, _⟩) (v := ?_) rfl (by kernel_rfl) (by kernel_rfl) (by kernel_rfl) (fun _ _ _ h => h) (Or.inl ⟨by rfl, ?_⟩) (by assumption) ?_
                  rotate_left
                  · (intro w hSw; go_simp; try with_reducible rfl)
                  try simp only [Act.put, jA, jB, jC]
                  refine wpAnyH_take (i := 5) (oi := ⟨some 74, _, _, _, _, _⟩) (v := ?_) rfl (by kernel_rfl) (by kernel_rfl) (by kernel_rfl) (fun _ _ _ h => h) (Or.inl ⟨by rfl, ?_⟩) (by assumption) ?_
                  rotate_left
                  · (intro w hSw; go_simp; try with_reducible rfl)
                  try simp only [Act.put, jA, jB, jC]
                  refine wpAnyH_take (i := 6) (oi := ⟨some 75, _, _, _, _, _⟩) (v := ?_) rfl (by kernel_rfl) (by kernel_rfl) (by kernel_rfl) (fun _ _ _ h => h) (Or.inl ⟨by rfl, ?_⟩) (by assumption) ?_
                  rotate_left
                  · (intro w hSw; go_simp; try with_reducible rfl)
                  try simp only [Act.put, jA, jB, jC]
                  refine wpAnyH_take (i := 7) (oi := ⟨some 76, _, _, _, _, _⟩) (v := ?_) rfl (by kernel_rfl) (by kernel_rfl) (by kernel_rfl) (fun _ _ _ h => h) (Or.inl ⟨by rfl, ?_⟩) (by assumption) ?_
                  rotate_left
                  · (intro w hSw; go_simp; try with_reducible rfl)
                  try simp only [Act.put, jA, jB, jC]
                  refine wpAnyH_take (i := 8) (oi := ⟨some 77, _, _, _, _, _⟩) (v := ?_) rfl (by kernel_rfl) (by kernel_rfl) (by kernel_rfl) (fun _ _ _ h => h) (Or.inl ⟨by rfl, ?_⟩) (by assumption) ?_
                  rotate_left
                  · (intro w hSw; go_simp; try with_reducible rfl)
                  try simp only [Act.put, jA, jB, jC]
                  refine wpAnyH_take (i := 9) (oi := ⟨some 78, _, _, _, _, _⟩) (v := ?_) rfl (by kernel_rfl) (by kernel_rfl) (by kernel_rfl) (fun _ _ _ h => h) (Or.inl ⟨by rfl, ?_⟩) (by assumption) ?_
                  rotate_left
                  · (intro w hSw; go_simp; try with_reducible rfl)
                  try simp only [Act.put, jA, jB, jC]
                  obtain ⟨⟨p0, p1, p2, p3, p4⟩, hs5, hown, hbel, hfr⟩ := hS5.ret
                  obtain ⟨r0, r1, r2, r3, r4, f0, f1, f2, f3, f4, s0, s1, s2, s3, s4⟩ := hs5
                  have HR := hide (And.intro hown (And.intro hbel (And.intro hfr hS5.offs)))
                  have hne : w.heap.size ≠ w.heap.size + 1 := by omega
                  clear hown hbel hfr hS5
                  dsimp only at p0 p1 p2 p3 p4 r0 r1 r2 r3 r4 s0 s1 s2 s3 s4
                  refine wpAnyH_ready (rs := [10]) (by kernel_rfl) (by simp) ?_
                  refine AllReadyH.cons (o := ⟨none, _, _, _, _, _⟩) rfl (fun K hK => ?_) AllReadyH.nil
                  go_simp
                  refine hK.out _ _ ((set5_block hne).trans hH) (fun hH2 => ?_)
                  clear hK K
                  try simp only [Act.put, jA, jB, jC]
                  refine wpAnyH_ready (rs := [11]) (by kernel_rfl) (by simp) ?_
                  refine AllReadyH.cons (o := ⟨some 5, _, _, _, _, _⟩) rfl (fun K hK => ?_) AllReadyH.nil
                  go_simp
                  refine hK.out _ _ hH2 (fun hH3 => ?_)
                  clear hK K hH3 hH2 hH
                  try simp only [Act.put, jA, jB, jC]
                  refine wpAnyH_done (by kernel_rfl) ?_ _
                  clear p0 p1 p2 p3 p4 r0 r1 r2 r3 r4 f0 f1 f2 f3 f4
                  go_wp2
                  refine bodyPost_ret (v := .tuple #[shVal ⟨K, c1, F, c2, some ⟨gs, 0, none⟩, c3, M, c4⟩ (s.cutTo j), .bool true]) (by simp [shVal, shCells, results, Tryd.results52, go_sem, s0, s1, s2, s3, s4]) rfl ?_
                  exact ⟨_, _, _, rfl, HR.out.2.1, HR.out.2.2.1, fun t ht => by (rw [HN.out] at ht; cases ht; exact ⟨rfl, rfl, HR.out.1, HR.out.2.2.2⟩), fun hh => by (rw [HN.out] at hh; cases hh)⟩
                · have tm : (N : Int).tmod 2 = 1 := by rw [Int.tmod_eq_emod_of_nonneg (by omega)]; omega
                  have HN := hide (show markStep s 12 = none from HN1.out.2 (by rintro ⟨_, h⟩; exact hp h))
                  clear HN1 hkd hp
                  have hX0 : Lies wr.drew w.heap.size #[.slice K (s.cutTo j).kinds.length c1, .slice F (s.cutTo j).full.length c2, .slice (some ⟨gs, 0, none⟩) (s.cutTo j).stack.length c3, .slice M (s.cutTo j).memo.length c4, .bool (s.cutTo j).done] 38 := hS4.bx.box
                  have hS4d := hS4.below ((Below.refl wr.heap.size wr).drew)
                  refine wp_region_held_drew (S := fun w' => Lies w' w.heap.size #[.slice K (s.cutTo j).kinds.length c1, .slice F (s.cutTo j).full.length c2, .slice (some ⟨gs, 0, none⟩) (s.cutTo j).stack.length c3, .slice M (s.cutTo j).memo.length c4, .bool (s.cutTo j).done] 38) (by kernel_rfl) hX0 (fun hHeld => ?_)
                  refine wpAnyH_take (i := 0) (oi := ⟨some 69, _, _, _, _, _⟩) (v := ?_) rfl (by kernel_rfl) (by kernel_rfl) (by kernel_rfl) (fun _ _ _ h => h) (Or.inl ⟨by rfl, ?_⟩) (by assumption) ?_
                  rotate_left
                  · (intro w hSw; have q0 := hSw.cell 0; have q1 := hSw.cell 1; have q2 := hSw.cell 2; have q3 := hSw.cell 3; have q4 := hSw.cell 4; simp only [jD, jE, jF] at q0 q1 q2 q3 q4; go_simp; try with_reducible rfl)
                  try simp only [Act.put, jA, jB, jC]
                  refine wpAnyH_take (i := 1) (oi := ⟨some 70, _, _, _, _, _⟩) (v := ?_) rfl (by kernel_rfl) (by kernel_rfl) (by kernel_rfl) (fun _ _ _ h => h) (Or.inl ⟨by rfl, ?_⟩) (by assumption) ?_
                  rotate_left
                  · (intro w hSw; have q0 := hSw.cell 0; have q1 := hSw.cell 1; have q2 := hSw.cell 2; have q3 := hSw.cell 3; have q4 := hSw.cell 4; simp only [jD, jE, jF] at q0 q1 q2 q3 q4; go_simp; try with_reducible rfl)
                  try simp only [Act.put, jA, jB, jC]
                  refine wpAnyH_ready (rs := [2]) (by kernel_rfl) (by simp) ?_
                  refine AllReadyH.cons (o := ⟨some 71, _, _, _, _, _⟩) rfl (fun K hK => ?_) AllReadyH.nil
                  go_simp
                  go_at_call 65
                  refine (hcall.out _ hS4d).mono ?_
                  rintro e w5 ⟨rfl, hb5⟩
                  have hS5 := hS4d.below hb5
                  clear hS4d hb5 hS4 hX0 hHeld hcall e0 e1 e2 e3 e4
                  refine hK.out _ _ hS5.bx.box (fun hH => ?_)
                  clear hK K
                  try simp only [Act.put, jA, jB, jC]
                  refine wpAnyH_take (i := 3) (oi := ⟨some 72, _, _, _, _, _⟩) (v := ?_) rfl (by kernel_rfl) (by kernel_rfl) (by kernel_rfl) (fun _ _ _ h => h) (Or.inl ⟨by rfl, ?_⟩) (by assumption) ?_
                  rotate_left
                  · (intro w hSw; go_simp; try with_reducible rfl)
                  try simp only [Act.put, jA, jB, jC]
                  refine wpAnyH_take (i := 4) (oi := ⟨some 73, _, _, _, _, _⟩) (v := ?_) rfl (by kernel_rfl) (by kernel_rfl) (by kernel_rfl) (fun _ _ _ h => h) (Or.inl ⟨by rfl, ?_⟩) (by assumption) ?_
                  rotate_left
                  · (intro w hSw; go_simp; try with_reducible rfl)
                  try simp only [Act.put, jA, jB, jC]
                  refine wpAnyH_take (i := 5) (oi := ⟨some 74, _, _, _, _, _⟩) (v := ?_) rfl (by kernel_rfl) (by kernel_rfl) (by kernel_rfl) (fun _ _ _ h => h) (Or.inl ⟨by rfl, ?_⟩) (by assumption) ?_
                  rotate_left
                  · (intro w hSw; go_simp; try with_reducible rfl)
                  try simp only [Act.put, jA, jB, jC]
                  refine wpAnyH_take (i := 6) (oi := ⟨some 75, _, _, _, _, _⟩) (v := ?_) rfl (by kernel_rfl) (by kernel_rfl) (by kernel_rfl) (fun _ _ _ h => h) (Or.inl ⟨by rfl, ?_⟩) (by assumption) ?_
                  rotate_left
                  · (intro w hSw; go_simp; try with_reducible rfl)
                  try simp only [Act.put, jA, jB, jC]
                  refine wpAnyH_take (i := 7) (oi := ⟨some 76, _, _, _, _, _⟩) (v := ?_) rfl (by kernel_rfl) (by kernel_rfl) (by kernel_rfl) (fun _ _ _ h => h) (Or.inl ⟨by rfl, ?_⟩) (by assumption) ?_
                  rotate_left
                  · (intro w hSw; go_simp; try with_reducible rfl)
                  try simp only [Act.put, jA, jB, jC]
                  refine wpAnyH_take (i := 8) (oi := ⟨some 77, _, _, _, _, _⟩) (v := ?_) rfl (by kernel_rfl) (by kernel_rfl) (by kernel_rfl) (fun _ _ _ h => h) (Or.inl ⟨by rfl, ?_⟩) (by assumption) ?_
                  rotate_left
                  · (intro w hSw; go_simp; try with_reducible rfl)
                  try simp only [Act.put, jA, jB, jC]
                  refine wpAnyH_take (i := 9) (oi := ⟨some 78, _, _, _, _, _⟩) (v := ?_) rfl (by kernel_rfl) (by kernel_rfl) (by kernel_rfl) (fun _ _ _ h => h) (Or.inl ⟨by rfl, ?_⟩) (by assumption) ?_
                  rotate_left
                  · (intro w hSw; go_simp; try with_reducible rfl)
                  try simp only [Act.put, jA, jB, jC]
                  obtain ⟨⟨p0, p1, p2, p3, p4⟩, hs5, hown, hbel, hfr⟩ := hS5.ret
                  obtain ⟨r0, r1, r2, r3, r4, f0, f1, f2, f3, f4, s0, s1, s2, s3, s4⟩ := hs5
                  have HR := hide (And.intro hown (And.intro hbel (And.intro hfr hS5.offs)))
                  have hne : w.heap.size ≠ w.heap.size + 1 := by omega
                  clear hown hbel hfr hS5
                  dsimp only at p0 p1 p2 p3 p4 r0 r1 r2 r3 r4 s0 s1 s2 s3 s4
                  refine wpAnyH_ready (rs := [10]) (by kernel_rfl) (by simp) ?_
                  refine AllReadyH.cons (o := ⟨none, _, _, _, _, _⟩) rfl (fun K hK => ?_) AllReadyH.nil
                  go_simp
                  refine hK.out _ _ ((set5_block hne).trans hH) (fun hH2 => ?_)
                  clear hK K
                  try simp only [Act.put, jA, jB, jC]
                  refine wpAnyH_ready (rs := [11]) (by kernel_rfl) (by simp) ?_
                  refine AllReadyH.cons (o := ⟨some 5, _, _, _, _, _⟩) rfl (fun K hK => ?_) AllReadyH.nil
                  go_simp
                  refine hK.out _ _ hH2 (fun hH3 => ?_)
                  clear hK K hH3 hH2 hH
                  try simp only [Act.put, jA, jB, jC]
                  refine wpAnyH_done (by kernel_rfl) ?_ _
                  clear p0 p1 p2 p3 p4 r0 r1 r2 r3 r4 f0 f1 f2 f3 f4
                  go_wp2
                  refine bodyPost_ret (v := .tuple #[shVal ⟨K, c1, F, c2, some ⟨gs, 0, none⟩, c3, M, c4⟩ (s.cutTo j), .bool false]) (by simp [shVal, shCells, results, Tryd.results52, go_sem, s0, s1, s2, s3, s4]) rfl ?_
                  exact ⟨_, _, _, rfl, HR.out.2.1, HR.out.2.2.1, fun t ht => by (rw [HN.out] at ht; cases ht), fun _ => rfl⟩
              · have tb : (kd == 4) = false := by simpa using hv
                have HN := hide (show markStep s 12 = none from HN1.out.2 (by rintro ⟨h, _⟩; exact hv h))
                clear HN1 hkd
                have hX0 : Lies wr.drew w.heap.size #[.slice K (s.cutTo j).kinds.length c1, .slice F (s.cutTo j).full.length c2, .slice (some ⟨gs, 0, none⟩) (s.cutTo j).stack.length c3, .slice M (s.cutTo j).memo.length c4, .bool (s.cutTo j).done] 38 := hS4.bx.box
                have hS4d := hS4.below ((Below.refl wr.heap.size wr).drew)
                refine wp_region_held_drew (S := fun w' => Lies w' w.heap.size #[.slice K (s.cutTo j).kinds.length c1, .slice F (s.cutTo j).full.length c2, .slice (some ⟨gs, 0, none⟩) (s.cutTo j).stack.length c3, .slice M (s.cutTo j).memo.length c4, .bool (s.cutTo j).done] 38) (by kernel_rfl) hX0 (fun hHeld => ?_)
                refine wpAnyH_take (i := 0) (oi := ⟨some 69, _, _, _, _, _⟩) (v := ?_) rfl (by kernel_rfl) (by kernel_rfl) (by kernel_rfl) (fun _ _ _ h => h) (Or.inl ⟨by rfl, ?_⟩) (by assumption) ?_
                rotate_left
                · (intro w hSw; have q0 := hSw.cell 0; have q1 := hSw.cell 1; have q2 := hSw.cell 2; have q3 := hSw.cell 3; have q4 := hSw.cell 4; simp only [jD, jE, jF] at q0 q1 q2 q3 q4; go_simp; try with_reducible rfl)
                try simp only [Act.put, jA, jB, jC]
                refine wpAnyH_take (i := 1) (oi := ⟨some 70, _, _, _, _, _⟩) (v := ?_) rfl (by kernel_rfl) (by kernel_rfl) (by kernel_rfl) (fun _ _ _ h => h) (Or.inl ⟨by rfl, ?_⟩) (by assumption) ?_
                rotate_left
                · (intro w hSw; have q0 := hSw.cell 0; have q1 := hSw.cell 1; have q2 := hSw.cell 2; have q3 := hSw.cell 3; have q4 := hSw.cell 4; simp only [jD, jE, jF] at q0 q1 q2 q3 q4; go_simp; try with_reducible rfl)
                try simp only [Act.put, jA, jB, jC]
                refine wpAnyH_ready (rs := [2]) (by kernel_rfl) (by simp) ?_
                refine AllReadyH.cons (o := ⟨some 71, _, _, _, _, _⟩) rfl (fun K hK => ?_) AllReadyH.nil
                go_simp
                go_at_call 65
                refine (hcall.out _ hS4d).mono ?_
                rintro e w5 ⟨rfl, hb5⟩
                have hS5 := hS4d.below hb5
                clear hS4d hb5 hS4 hX0 hHeld hcall e0 e1 e2 e3 e4
                refine hK.out _ _ hS5.bx.box (fun hH => ?_)
                clear hK K
                try simp only [Act.put, jA, jB, jC]
                refine wpAnyH_take (i := 3) (oi := ⟨some 72, _, _, _, _, _⟩) (v := ?_) rfl (by kernel_rfl) (by kernel_rfl) (by kernel_rfl) (fun _ _ _ h => h) (Or.inl ⟨by rfl, ?_⟩) (by assumption) ?_
                rotate_left
                · (intro w hSw; go_simp; try with_reducible rfl)
                try simp only [Act.put, jA, jB, jC]
                refine wpAnyH_take (i := 4) (oi := ⟨some 73, _, _, _, _, _⟩) (v := ?_) rfl (by kernel_rfl) (by kernel_rfl) (by kernel_rfl) (fun _ _ _ h => h) (Or.inl ⟨by rfl, ?_⟩) (by assumption) ?_
                rotate_left
                · (intro w hSw; go_simp; try with_reducible rfl)
                try simp only [Act.put, jA, jB, jC]
                refine wpAnyH_take (i := 5) (oi := ⟨some 74, _, _, _, _, _⟩) (v := undef) rfl (by kernel_rfl) (by kernel_rfl) (by kernel_rfl) (fun _ _ _ h => h) (Or.inr ⟨by rfl, rfl⟩) (by assumption) ?_
                try simp only [Act.put, jA, jB, jC]
                refine wpAnyH_take (i := 6) (oi := ⟨some 75, _, _, _, _, _⟩) (v := undef) rfl (by kernel_rfl) (by kernel_rfl) (by kernel_rfl) (fun _ _ _ h => h) (Or.inr ⟨by rfl, rfl⟩) (by assumption) ?_
                try simp only [Act.put, jA, jB, jC]
                refine wpAnyH_take (i := 7) (oi := ⟨some 76, _, _, _, _, _⟩) (v := undef) rfl (by kernel_rfl) (by kernel_rfl) (by kernel_rfl) (fun _ _ _ h => h) (Or.inr ⟨by rfl, rfl⟩) (by assumption) ?_
                try simp only [Act.put, jA, jB, jC]
                refine wpAnyH_take (i := 8) (oi := ⟨some 77, _, _, _, _, _⟩) (v := undef) rfl (by kernel_rfl) (by kernel_rfl) (by kernel_rfl) (fun _ _ _ h => h) (Or.inr ⟨by rfl, rfl⟩) (by assumption) ?_
                try simp only [Act.put, jA, jB, jC]
                refine wpAnyH_take (i := 9) (oi := ⟨some 78, _, _, _, _, _⟩) (v := ?_) rfl (by kernel_rfl) (by kernel_rfl) (by kernel_rfl) (fun _ _ _ h => h) (Or.inl ⟨by rfl, ?_⟩) (by assumption) ?_
                rotate_left
                · (intro w hSw; go_simp; try with_reducible rfl)
                try simp only [Act.put, jA, jB, jC]
                obtain ⟨⟨p0, p1, p2, p3, p4⟩, hs5, hown, hbel, hfr⟩ := hS5.ret
                obtain ⟨r0, r1, r2, r3, r4, f0, f1, f2, f3, f4, s0, s1, s2, s3, s4⟩ := hs5
                have HR := hide (And.intro hown (And.intro hbel (And.intro hfr hS5.offs)))
                have hne : w.heap.size ≠ w.heap.size + 1 := by omega
                clear hown hbel hfr hS5
                dsimp only at p0 p1 p2 p3 p4 r0 r1 r2 r3 r4 s0 s1 s2 s3 s4
                refine wpAnyH_ready (rs := [10]) (by kernel_rfl) (by simp) ?_
                refine AllReadyH.cons (o := ⟨none, _, _, _, _, _⟩) rfl (fun K hK => ?_) AllReadyH.nil
                go_simp
                refine hK.out _ _ ((set5_block hne).trans hH) (fun hH2 => ?_)
                clear hK K
                try simp only [Act.put, jA, jB, jC]
                refine wpAnyH_ready (rs := [11]) (by kernel_rfl) (by simp) ?_
                refine AllReadyH.cons (o := ⟨some 5, _, _, _, _, _⟩) rfl (fun K hK => ?_) AllReadyH.nil
                go_simp
                refine hK.out _ _ hH2 (fun hH3 => ?_)
                clear hK K hH3 hH2 hH
                try simp only [Act.put, jA, jB, jC]
                refine wpAnyH_done (by kernel_rfl) ?_ _
                clear p0 p1 p2 p3 p4 r0 r1 r2 r3 r4 f0 f1 f2 f3 f4
                go_wp2
                refine bodyPost_ret (v := .tuple #[shVal ⟨K, c1, F, c2, some ⟨gs, 0, none⟩, c3, M, c4⟩ (s.cutTo j), .bool false]) (by simp [shVal, shCells, results, Tryd.results52, go_sem, s0, s1, s2, s3, s4]) rfl ?_
                exact ⟨_, _, _, rfl, HR.out.2.1, HR.out.2.2.1, fun t ht => by (rw [HN.out] at ht; cases ht), fun _ => rfl⟩
end Go.Proofs.YtbihgafkmmcjlaaDoor
