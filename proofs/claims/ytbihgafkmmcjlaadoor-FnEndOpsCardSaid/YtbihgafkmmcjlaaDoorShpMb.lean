import Derived.Test.YtbihgafkmmcjlaaDoorPjAd
import Derived.Test.YtbihgafkmmcjlaaDoorPjAc
import Derived.StillTailTactics
import Derived.Deep.QuietTactic
import Derived.Deep.RegionHeld3
import Derived.Deep.Cut
import Derived.BigQuiet
namespace Go.Proofs.YtbihgafkmmcjlaaDoor
open Go.RowKit
set_option linter.unusedVariables false
set_option linter.unusedSimpArgs false
set_option maxRecDepth 100000 in
set_option maxHeartbeats 4000000 in
theorem markShapes_3 (p : ShPtr) (s : Shp) (base : Nat) (w : World) (h : ShOwn w base p s) (hbase : base ≤ w.heap.size) (hs : s.Small) :
    Calls Tryd.prog 52 #[shVal p s, .int .i64 3] w (TriesSh w p base (markStep s 3)) := by
  obtain ⟨K, c1, F, c2, S, c3, M, c4⟩ := p
  have hS := ShSt.enter h hbase
  have hst := hs.t
  have hkl := hs.k
  have Hs := hide hs
  have hcap := h.t.capLen
  dsimp only at hcap
  clear h hs
  unfold shVal
  unfold shCells zero5 at *
  dsimp only at hS ⊢
  go_enter Tryd.func52, Tryd.ntmps52
  go_upto_region 1 with fail
  generalize (w.alloc (.cells #[.slice K s.kinds.length c1, .slice F s.full.length c2, .slice S s.stack.length c3, .slice M s.memo.length c4, .bool s.done] 38)).alloc (.cells #[.slice none 0 0, .slice none 0 0, .slice none 0 0, .slice none 0 0, .bool false] 38) = W at hS ⊢
  obtain ⟨e0, e1, e2, e3, e4⟩ := hS.bx.cells
  dsimp only at e0 e1 e2 e3 e4
  go_wp2_with fail
  go_loopw [6] (fun iv wr => ∃ k : Nat, k ≤ s.stack.length ∧ iv = .int .i64 ((k : Int) - 1) ∧ wr = W ∧ above s.stack = aboveTo s.stack k) (fun iv _ => (intOf iv + 1).toNat)
  case atStart => exact ⟨s.stack.length, Nat.le_refl _, rfl, rfl, rfl⟩
  case round =>
    obtain ⟨k, hk, rfl, rfl, hab⟩ := hrel
    have Hab := hide hab
    clear hab
    rcases k with _ | j
    · rw [show ((0 : Nat) : Int) - 1 = -1 from rfl]
      have HN := hide (show markStep s 3 = none by unfold markStep; rw [Hab.out, aboveTo, if_pos rfl])
      obtain ⟨⟨e0, e1, e2, e3, e4⟩, hs5, hown, hbel, hfr⟩ := hS.ret
      obtain ⟨r0, r1, r2, r3, r4, f0, f1, f2, f3, f4, s0, s1, s2, s3, s4⟩ := hs5
      have hoffs := hS.offs
      have HR := hide (And.intro hown (And.intro hbel (And.intro hfr hoffs)))
      clear hown hbel hfr hoffs hS
      dsimp only at e0 e1 e2 e3 e4 r0 r1 r2 r3 r4 s0 s1 s2 s3 s4
      go_wp2
      refine bodyPost_ret (v := .tuple #[shVal ⟨K, c1, F, c2, S, c3, M, c4⟩ s, .bool false]) (by simp [shVal, shCells, results, Tryd.results52, go_sem, s0, s1, s2, s3, s4]) rfl ?_
      exact ⟨_, _, _, rfl, HR.out.2.1, HR.out.2.2.1, fun t ht => by (rw [HN.out] at ht; cases ht), fun _ => rfl⟩
    · rw [show ((j + 1 : Nat) : Int) - 1 = (j : Int) by omega]
      obtain ⟨x, hx⟩ : ∃ x, s.stack[j]? = some x := ⟨_, List.getElem?_eq_getElem (by omega)⟩
      have hgd : s.stack.getD j 0 = x := by rw [List.getD_eq_getElem?_getD, hx]; rfl
      have hI := hS.bx.own.t.ints Hs.out.t64 (by omega)
      obtain ⟨gs, rfl, hg1, hg2, hcx, _⟩ := hS.bx.own.t.atJ hx
      have hj0 : (0 : Int) ≤ (j : Int) := by omega
      have hj1 : (j : Int) < (s.stack.length : Int) := by omega
      have tj : decide ((j : Int) < 0) = false := by simp
      have tj0 : decide (0 ≤ (j : Int)) = true := by simp
      by_cases hx0 : 0 ≤ x
      · have tx : decide (0 ≤ x) = true := by simpa using hx0
        have HA2 := hide (show above s.stack = aboveTo s.stack j by rw [Hab.out, aboveTo, hgd, if_neg (by omega)])
        clear Hab hI hx hgd
        go_wp2
        go_roundw
        case rel => exact ⟨j, by omega, by go_num, by first | rfl | trivial, HA2.out⟩
        case measure => simp [intOf] <;> omega
      · have tx : decide (0 ≤ x) = false := by simpa using hx0
        have HAb := hide (show above s.stack = j + 1 by rw [Hab.out, aboveTo, hgd, if_pos (by omega)])
        have hjl : j + 1 ≤ s.stack.length := by omega
        have hjc : j + 1 ≤ c3 := by omega
        have hji : (j : Int) + 1 ≤ (c3 : Int) := by omega
        have hjk : (j : Int) + 1 ≤ (s.stack.length : Int) := by omega
        have hjm : (j : Int) ≤ (c3 : Int) := by omega
        clear Hab hx hgd hx0
        go_upto_region 6 with fail
        have hsl := hS.bx.box.lt
        have HI := hide hI
        clear hI hcx
        by_cases hcj : c3 = j + 1
        · skip
          subst hcj
          have hdl : (s.stack.drop (j + 1)).length = 0 := by simp; omega
          have hID : IntsAt wr wr.heap.size (some ⟨gs, 0, none⟩) (s.stack.drop (j + 1)) := by
            rw [List.drop_eq_nil_of_le (by omega)]
            exact ⟨fun h => absurd rfl h, fun x hx => by simp at hx, by simp⟩
          have HC := copyInts_any (some ⟨gs, 0, none⟩) (s.stack.drop (j + 1)) 0 wr hID (fun e => by cases e) (by omega)
          rw [hdl] at HC
          have HCC := hide HC
          clear HC hID HI
          go_wp2_with fail
          all_goals first | (exfalso; omega) | skip
          refine HCC.out.mono ?_
          clear HCC
          rintro e w3 ⟨A7, c7, rfl, ho7, hb7⟩
          have ho7f := ho7.form
          have hS3 := hS.below hb7
          have hi7 := ho7.ints (fun x hx => Hs.out.t64 x (List.mem_of_mem_drop hx)) (by omega)
          have f2 := hS3.bx.box.frozen 2
          clear hS e0 e1 e2 e3 e4 ho7
          obtain ⟨e0, e1, e2, e3, e4⟩ := hS3.bx.cells
          dsimp only at e0 e1 e2 e3 e4
          have HI7 := hide hi7
          clear hi7
          go_upto_region 8 with fail
          have hS4 := hS3.cut (n := j) (by omega)
          have hw34 : (w3.setCell ⟨w.heap.size, 2, none⟩ (.slice (some ⟨gs, 0, none⟩) j (j + 1))).heap.size = w3.heap.size := by simp
          have HL7 : Hid (IntsAt (w3.setCell ⟨w.heap.size, 2, none⟩ (.slice (some ⟨gs, 0, none⟩) j (j + 1))) w3.heap.size A7 (s.stack.drop (j + 1))) := hide (by
            refine ⟨fun hne => ?_, HI7.out.wf, HI7.out.len⟩
            rcases ho7f with ⟨_, _, h3⟩ | ⟨g7, h7, h8, h9⟩
            · exact absurd h3 hne
            · obtain ⟨b, off, e7, hlt7, hcell⟩ := HI7.out.row hne
              refine ⟨b, off, e7, hlt7, fun i y hi => ?_⟩
              rw [World.cell?_setCell_far _ _ _ _ (by rw [h7] at e7; injection e7 with e7; injection e7 with e7 _; show w.heap.size ≠ b; omega)]
              exact hcell i y hi)
          dsimp only at hS4
          generalize w3.setCell ⟨w.heap.size, 2, none⟩ (.slice (some ⟨gs, 0, none⟩) j (j + 1)) = X at hS4 HL7 hw34 ⊢
          clear hS3 e0 e1 e2 e3 e4 f2 HI7
          have HN := hide (show markStep s 3 = some ((s.cutTo j).push 2) by simp [markStep, HAb.out])
          have hS3 := hS4
          clear hS4 HL7
          have hcl : (s.cutTo j).stack.length ≤ 1000 := by show (s.stack.take j).length ≤ 1000; simp; omega
          obtain ⟨e0, e1, e2, e3, e4⟩ := hS3.bx.cells
          dsimp only at e0 e1 e2 e3 e4
          have HP := pushShape_any ⟨K, c1, F, c2, some ⟨gs, 0, none⟩, (j + 1), M, c4⟩ (s.cutTo j) 2 base X hS3.bx.own hS3.hB (by constructor <;> omega) hkl hcl Hs.out.ok.fl
          unfold shVal shCells at HP
          dsimp only at HP
          go_wp2_with fail
          refine HP.mono ?_
          clear HP
          rintro e w5 ⟨⟨K5, a1, F5, a2, S5, a3, M5, a4⟩, rfl, ho5, hb5, hf5, hof5⟩
          have hR5 : Lies w5 (w.heap.size + 1) zero5 38 := (hf5 _ hS3.res.lt hS3.off2).trans hS3.res
          generalize hpd : (s.cutTo j).push 2 = t at *
          obtain ⟨hs5, _⟩ := Lies.set5 (show Lies w5 (w.heap.size + 1) #[.slice none 0 0, .slice none 0 0, .slice none 0 0, .slice none 0 0, .bool false] 38 from hR5) (.slice K5 t.kinds.length a1) (.slice F5 t.full.length a2) (.slice S5 t.stack.length a3) (.slice M5 t.memo.length a4) (.bool t.done)
          obtain ⟨r0, r1, r2, r3, r4, f0, f1, f2, f3, f4, s0, s1, s2, s3, s4⟩ := hs5
          have hoq : (⟨K5, a1, F5, a2, S5, a3, M5, a4⟩ : ShPtr).Off (w.heap.size + 1) := hof5 _ hS3.res.lt hS3.off2
          have hXs : w.heap.size ≤ X.heap.size := by have := hS3.bx.box.lt; omega
          have hw5 := hb5.size
          have HR : Hid (ShOwn (set5 w5 (w.heap.size + 1) (.slice K5 t.kinds.length a1) (.slice F5 t.full.length a2) (.slice S5 t.stack.length a3) (.slice M5 t.memo.length a4) (.bool t.done)) base ⟨K5, a1, F5, a2, S5, a3, M5, a4⟩ t ∧ Below base w (set5 w5 (w.heap.size + 1) (.slice K5 t.kinds.length a1) (.slice F5 t.full.length a2) (.slice S5 t.stack.length a3) (.slice M5 t.memo.length a4) (.bool t.done)) ∧ FrSh w (set5 w5 (w.heap.size + 1) (.slice K5 t.kinds.length a1) (.slice F5 t.full.length a2) (.slice S5 t.stack.length a3) (.slice M5 t.memo.length a4) (.bool t.done)) ⟨K, c1, F, c2, some ⟨gs, 0, none⟩, (j + 1), M, c4⟩ ∧ OffSh w ⟨K, c1, F, c2, some ⟨gs, 0, none⟩, (j + 1), M, c4⟩ ⟨K5, a1, F5, a2, S5, a3, M5, a4⟩) :=
            hide ⟨ho5.set5 hoq, set5_below (hS3.bel.trans hb5) (by omega), fun k hk ho => (set5_block (by omega)).trans ((hf5 k (by omega) (hS3.offs k hk ho)).trans (hS3.fr k hk ho)), fun k hk ho => hof5 k (by omega) (hS3.offs k hk ho)⟩
          clear hR5 hoq ho5 hb5 hf5 hof5 hS3 e0 e1 e2 e3 e4
          unfold shVal shCells
          dsimp only
          go_wp2
          refine bodyPost_ret (v := .tuple #[shVal ⟨K5, a1, F5, a2, S5, a3, M5, a4⟩ t, .bool true]) (by simp [shVal, shCells, results, Tryd.results52, go_sem, s0, s1, s2, s3, s4]) rfl ?_
          exact ⟨_, _, _, rfl, HR.out.2.1, HR.out.2.2.1, fun t ht => by (rw [HN.out] at ht; cases ht; exact ⟨rfl, rfl, HR.out.1, HR.out.2.2.2⟩), fun hh => by (rw [HN.out] at hh; cases hh)⟩
        · skip
          have hdl : (s.stack.drop (j + 1)).length = s.stack.length - (j + 1) := by simp
          have hID : IntsAt wr wr.heap.size (some ⟨gs, 0 + (j + 1), none⟩) (s.stack.drop (j + 1)) := HI.out.dropAt gs 0 rfl (j + 1)
          rw [Nat.zero_add] at hID
          have HC := copyInts_any (some ⟨gs, j + 1, none⟩) (s.stack.drop (j + 1)) (c3 - (j + 1)) wr hID (fun e => by cases e) (by omega)
          rw [hdl] at HC
          have hcj2 : ¬ (c3 = j + 1) := hcj
          have hcj3 : ¬ ((c3 : Int) = (j : Int) + 1) := by omega
          have HCC := hide HC
          clear HC hID HI
          go_wp2_with fail
          all_goals first | (exfalso; omega) | skip
          refine HCC.out.mono ?_
          clear HCC
          rintro e w3 ⟨A7, c7, rfl, ho7, hb7⟩
          have ho7f := ho7.form
          have hS3 := hS.below hb7
          have hi7 := ho7.ints (fun x hx => Hs.out.t64 x (List.mem_of_mem_drop hx)) (by omega)
          have f2 := hS3.bx.box.frozen 2
          clear hS e0 e1 e2 e3 e4 ho7
          obtain ⟨e0, e1, e2, e3, e4⟩ := hS3.bx.cells
          dsimp only at e0 e1 e2 e3 e4
          have HI7 := hide hi7
          clear hi7
          go_upto_region 8 with fail
          have hS4 := hS3.cut (n := j) (by omega)
          have hw34 : (w3.setCell ⟨w.heap.size, 2, none⟩ (.slice (some ⟨gs, 0, none⟩) j c3)).heap.size = w3.heap.size := by simp
          have HL7 : Hid (IntsAt (w3.setCell ⟨w.heap.size, 2, none⟩ (.slice (some ⟨gs, 0, none⟩) j c3)) w3.heap.size A7 (s.stack.drop (j + 1))) := hide (by
            refine ⟨fun hne => ?_, HI7.out.wf, HI7.out.len⟩
            rcases ho7f with ⟨_, _, h3⟩ | ⟨g7, h7, h8, h9⟩
            · exact absurd h3 hne
            · obtain ⟨b, off, e7, hlt7, hcell⟩ := HI7.out.row hne
              refine ⟨b, off, e7, hlt7, fun i y hi => ?_⟩
              rw [World.cell?_setCell_far _ _ _ _ (by rw [h7] at e7; injection e7 with e7; injection e7 with e7 _; show w.heap.size ≠ b; omega)]
              exact hcell i y hi)
          dsimp only at hS4
          generalize w3.setCell ⟨w.heap.size, 2, none⟩ (.slice (some ⟨gs, 0, none⟩) j c3) = X at hS4 HL7 hw34 ⊢
          clear hS3 e0 e1 e2 e3 e4 f2 HI7
          have HN := hide (show markStep s 3 = some ((s.cutTo j).push 2) by simp [markStep, HAb.out])
          have hS3 := hS4
          clear hS4 HL7
          have hcl : (s.cutTo j).stack.length ≤ 1000 := by show (s.stack.take j).length ≤ 1000; simp; omega
          obtain ⟨e0, e1, e2, e3, e4⟩ := hS3.bx.cells
          dsimp only at e0 e1 e2 e3 e4
          have HP := pushShape_any ⟨K, c1, F, c2, some ⟨gs, 0, none⟩, c3, M, c4⟩ (s.cutTo j) 2 base X hS3.bx.own hS3.hB (by constructor <;> omega) hkl hcl Hs.out.ok.fl
          unfold shVal shCells at HP
          dsimp only at HP
          go_wp2_with fail
          refine HP.mono ?_
          clear HP
          rintro e w5 ⟨⟨K5, a1, F5, a2, S5, a3, M5, a4⟩, rfl, ho5, hb5, hf5, hof5⟩
          have hR5 : Lies w5 (w.heap.size + 1) zero5 38 := (hf5 _ hS3.res.lt hS3.off2).trans hS3.res
          generalize hpd : (s.cutTo j).push 2 = t at *
          obtain ⟨hs5, _⟩ := Lies.set5 (show Lies w5 (w.heap.size + 1) #[.slice none 0 0, .slice none 0 0, .slice none 0 0, .slice none 0 0, .bool false] 38 from hR5) (.slice K5 t.kinds.length a1) (.slice F5 t.full.length a2) (.slice S5 t.stack.length a3) (.slice M5 t.memo.length a4) (.bool t.done)
          obtain ⟨r0, r1, r2, r3, r4, f0, f1, f2, f3, f4, s0, s1, s2, s3, s4⟩ := hs5
          have hoq : (⟨K5, a1, F5, a2, S5, a3, M5, a4⟩ : ShPtr).Off (w.heap.size + 1) := hof5 _ hS3.res.lt hS3.off2
          have hXs : w.heap.size ≤ X.heap.size := by have := hS3.bx.box.lt; omega
          have hw5 := hb5.size
          have HR : Hid (ShOwn (set5 w5 (w.heap.size + 1) (.slice K5 t.kinds.length a1) (.slice F5 t.full.length a2) (.slice S5 t.stack.length a3) (.slice M5 t.memo.length a4) (.bool t.done)) base ⟨K5, a1, F5, a2, S5, a3, M5, a4⟩ t ∧ Below base w (set5 w5 (w.heap.size + 1) (.slice K5 t.kinds.length a1) (.slice F5 t.full.length a2) (.slice S5 t.stack.length a3) (.slice M5 t.memo.length a4) (.bool t.done)) ∧ FrSh w (set5 w5 (w.heap.size + 1) (.slice K5 t.kinds.length a1) (.slice F5 t.full.length a2) (.slice S5 t.stack.length a3) (.slice M5 t.memo.length a4) (.bool t.done)) ⟨K, c1, F, c2, some ⟨gs, 0, none⟩, c3, M, c4⟩ ∧ OffSh w ⟨K, c1, F, c2, some ⟨gs, 0, none⟩, c3, M, c4⟩ ⟨K5, a1, F5, a2, S5, a3, M5, a4⟩) :=
            hide ⟨ho5.set5 hoq, set5_below (hS3.bel.trans hb5) (by omega), fun k hk ho => (set5_block (by omega)).trans ((hf5 k (by omega) (hS3.offs k hk ho)).trans (hS3.fr k hk ho)), fun k hk ho => hof5 k (by omega) (hS3.offs k hk ho)⟩
          clear hR5 hoq ho5 hb5 hf5 hof5 hS3 e0 e1 e2 e3 e4
          unfold shVal shCells
          dsimp only
          go_wp2
          refine bodyPost_ret (v := .tuple #[shVal ⟨K5, a1, F5, a2, S5, a3, M5, a4⟩ t, .bool true]) (by simp [shVal, shCells, results, Tryd.results52, go_sem, s0, s1, s2, s3, s4]) rfl ?_
          exact ⟨_, _, _, rfl, HR.out.2.1, HR.out.2.2.1, fun t ht => by (rw [HN.out] at ht; cases ht; exact ⟨rfl, rfl, HR.out.1, HR.out.2.2.2⟩), fun hh => by (rw [HN.out] at hh; cases hh)⟩
end Go.Proofs.YtbihgafkmmcjlaaDoor
