import Derived.Test.YtaolnnjcpnhghadAlI
import Derived.Test.YtaolnnjcpnhghadAlS
import Derived.Test.YtaolnnjcpnhghadRuH
import Derived.Deep.RegionHeld3
namespace Go.Proofs.Ytaolnnjcpnhghad
open Go.RowKit Go.Maps
set_option linter.unusedVariables false
theorem RuAt.of_row {w : World} {g : Nat} {t : TypeId} {r : Ru} {A : Option Addr} {w0 : World} {B0 : Nat} (h0 : RuAt w0 B0 A r) (h : w.rowIs g t r.cls.length (intCell r.cls)) : RuAt w w.heap.size (some ⟨g, 0, none⟩) r :=
  ⟨IntsAt.of_row h h.lt h0.c.wf h0.c.len, h0.s, h0.n, h0.d⟩
theorem szI_len {n : Nat} {l : Int} (h : 0 ≤ szI n l) (hl : l ≤ 1048576) : n ≤ 1048576 ∧ szI n l ≤ 1048576 := by
  unfold szI at *
  split at h <;> split <;> omega
set_option maxRecDepth 100000 in
set_option maxHeartbeats 4000000 in
theorem exRA_small (A A' : Option Addr) (a b : Ru) (c c' : Nat) (w : World) (hr : RuAt w w.heap.size A a) (hr' : RuAt w w.heap.size A' b) (hs : 0 ≤ szI a.cls.length 1048576) (hs' : 0 ≤ szI b.cls.length (szI a.cls.length 1048576)) :
    Calls Try.prog 3 #[ruVal a A c, ruVal b A' c'] w fun e w' => e = .returned (.bool true) ∧ Below w.heap.size w w' := by
  obtain ⟨hsm, hs1⟩ := szI_len hs (by omega)
  obtain ⟨hsm', hs2⟩ := szI_len hs' hs1
  have HR := hide hr
  have HR' := hide hr'
  have hB0 : Below w.heap.size w ((w.alloc (.cells (ruCells a A c) 24)).alloc (.cells (ruCells b A' c') 24)) := ((Below.refl _ _).alloc (Nat.le_refl _) _).alloc (by simp) _
  have l := (Lies.new w (ruCells a A c) 24).alloc (.cells (ruCells b A' c') 24)
  have m := Lies.new (w.alloc (.cells (ruCells a A c) 24)) (ruCells b A' c') 24
  simp only [World.size_alloc] at m
  have hnl := hr.c.len
  have hnl' := hr'.c.len
  have HZ1 := hide fun W => szRules_any A a c 1048576 W (by omega) (by omega) hnl
  generalize szI a.cls.length 1048576 = s1 at hs hs1 hs' HZ1
  have HZ2 := hide fun W => szRules_any A' b c' s1 W (by omega) (by omega) hnl'
  generalize szI b.cls.length s1 = s2 at hs' HZ2
  clear hr hr'
  unfold ruVal at *
  unfold ruCells at *
  go_enter Try.func3, Try.ntmps3
  go_wp2_with fail
  generalize (w.alloc (.cells #[.int .i64 a.steps, .int .i64 a.nodes, .int .i64 a.deep, .slice A a.cls.length c] 24)).alloc (.cells #[.int .i64 b.steps, .int .i64 b.nodes, .int .i64 b.deep, .slice A' b.cls.length c'] 24) = W at hB0 l m ⊢
  have HB := hide hB0
  have hlt := l.lt
  have hmt := m.lt
  have L := hide l
  have M := hide m
  clear l m hB0
  have l := L.out
  have m := M.out
  have e0 := l.cell 0
  have e1 := l.cell 1
  have e2 := l.cell 2
  have e3 := l.cell 3
  simp only [List.getElem?_toArray, List.getElem?_cons_zero, List.getElem?_cons_succ] at e0 e1 e2 e3
  clear l m
  refine (HZ1.out W).mono ?_
  rintro e w1 ⟨rfl, hb1⟩
  clear e0 e1 e2 e3
  have hd1 : decide (s1 < 0) = false := by simp; omega
  have l := L.out.below hb1 hlt
  have m := M.out.below hb1 hmt
  have HBn := hide (HB.out.trans (hb1.mono HB.out.size))
  clear hb1 L M HB hlt hmt
  have HB := hide HBn.out
  clear HBn
  have f0 := m.cell 0
  have f1 := m.cell 1
  have f2 := m.cell 2
  have f3 := m.cell 3
  simp only [List.getElem?_toArray, List.getElem?_cons_zero, List.getElem?_cons_succ] at f0 f1 f2 f3
  have hlt := l.lt
  have hmt := m.lt
  have L := hide l
  have M := hide m
  clear l m
  go_wp2_with fail
  refine (HZ2.out w1).mono ?_
  rintro e w2 ⟨rfl, hb2⟩
  clear HZ1 HZ2 f0 f1 f2 f3 hd1
  have hd2 : decide (s2 < 0) = false := by simp; omega
  have l2 := L.out.below hb2 hlt
  have m2 := M.out.below hb2 hmt
  have HBn := hide (HB.out.trans (hb2.mono HB.out.size))
  clear hb2 L M HB hlt hmt
  have HB := hide HBn.out
  clear HBn
  have hlt := l2.lt
  have hmt := m2.lt
  have HBd := hide HB.out.drew
  have tok1 : Hid True := hide trivial
  have tok2 : Hid True := hide trivial
  have e0 := l2.cell 0
  have e1 := l2.cell 1
  have e2 := l2.cell 2
  have e3 := l2.cell 3
  have f0 := m2.cell 0
  have f1 := m2.cell 1
  have f2 := m2.cell 2
  have f3 := m2.cell 3
  simp only [List.getElem?_toArray, List.getElem?_cons_zero, List.getElem?_cons_succ] at e0 e1 e2 e3 f0 f1 f2 f3
  go_wp2_with fail
  go_region_held3 (fun w' => w'.cell? ⟨w.heap.size, 0, none⟩ = some (.int .i64 a.steps) ∧ w'.cell? ⟨w.heap.size, 1, none⟩ = some (.int .i64 a.nodes) ∧ w'.cell? ⟨w.heap.size, 2, none⟩ = some (.int .i64 a.deep) ∧ w'.cell? ⟨w.heap.size, 3, none⟩ = some (.slice A a.cls.length c) ∧ w'.cell? ⟨w.heap.size + 1, 0, none⟩ = some (.int .i64 b.steps) ∧ w'.cell? ⟨w.heap.size + 1, 1, none⟩ = some (.int .i64 b.nodes) ∧ w'.cell? ⟨w.heap.size + 1, 2, none⟩ = some (.int .i64 b.deep) ∧ w'.cell? ⟨w.heap.size + 1, 3, none⟩ = some (.slice A' b.cls.length c'))
    (first
      | (go_split_ands; refine ⟨?_, ?_, ?_, ?_, ?_, ?_, ?_, ?_⟩ <;> assumption))
    (first
      | (go_at_call 6; have _t := tok1; clear tok1; refine (toRules_any A a c _ (HR.out.later HBd.out (Nat.le_refl _)) hsm).mono ?_; rintro e w3 ⟨g3, rfl, _, hm3, hb3⟩; have e0q := (hb3.cell (p := ⟨w.heap.size, 0, none⟩) hlt).trans e0; have e1q := (hb3.cell (p := ⟨w.heap.size, 1, none⟩) hlt).trans e1; have e2q := (hb3.cell (p := ⟨w.heap.size, 2, none⟩) hlt).trans e2; have e3q := (hb3.cell (p := ⟨w.heap.size, 3, none⟩) hlt).trans e3; have f0q := (hb3.cell (p := ⟨w.heap.size + 1, 0, none⟩) hmt).trans f0; have f1q := (hb3.cell (p := ⟨w.heap.size + 1, 1, none⟩) hmt).trans f1; have f2q := (hb3.cell (p := ⟨w.heap.size + 1, 2, none⟩) hmt).trans f2; have f3q := (hb3.cell (p := ⟨w.heap.size + 1, 3, none⟩) hmt).trans f3; unfold ruVal; unfold ruCells)
      | (go_at_call 6; have _t := tok2; clear tok2; refine (toRules_any A' b c' _ (HR'.out.later (HBd.out.trans (hb3.mono HBd.out.size)) (Nat.le_refl _)) hsm').mono ?_; rintro e w4 ⟨g4, rfl, _, hm4, hb4⟩; have e0r := (hb4.cell (p := ⟨w.heap.size, 0, none⟩) (Nat.lt_of_lt_of_le hlt hb3.size)).trans e0q; have e1r := (hb4.cell (p := ⟨w.heap.size, 1, none⟩) (Nat.lt_of_lt_of_le hlt hb3.size)).trans e1q; have e2r := (hb4.cell (p := ⟨w.heap.size, 2, none⟩) (Nat.lt_of_lt_of_le hlt hb3.size)).trans e2q; have e3r := (hb4.cell (p := ⟨w.heap.size, 3, none⟩) (Nat.lt_of_lt_of_le hlt hb3.size)).trans e3q; have f0r := (hb4.cell (p := ⟨w.heap.size + 1, 0, none⟩) (Nat.lt_of_lt_of_le hmt hb3.size)).trans f0q; have f1r := (hb4.cell (p := ⟨w.heap.size + 1, 1, none⟩) (Nat.lt_of_lt_of_le hmt hb3.size)).trans f1q; have f2r := (hb4.cell (p := ⟨w.heap.size + 1, 2, none⟩) (Nat.lt_of_lt_of_le hmt hb3.size)).trans f2q; have f3r := (hb4.cell (p := ⟨w.heap.size + 1, 3, none⟩) (Nat.lt_of_lt_of_le hmt hb3.size)).trans f3q; unfold ruVal; unfold ruCells)
      | (go_at_call 5; refine (specRulesAllow_any _ _ a b _ _ _ ((RuAt.of_row HR.out hm3).later hb4 (Nat.le_refl _)) (RuAt.of_row HR'.out hm4) hsm hsm' (Nat.le_refl _) (Nat.le_refl _)).mono ?_; rintro e w5 ⟨rfl, hb5⟩; have e0z := (hb5.cell (p := ⟨w.heap.size, 0, none⟩) (Nat.lt_of_lt_of_le hlt (Nat.le_trans hb3.size hb4.size))).trans e0r; have e1z := (hb5.cell (p := ⟨w.heap.size, 1, none⟩) (Nat.lt_of_lt_of_le hlt (Nat.le_trans hb3.size hb4.size))).trans e1r; have e2z := (hb5.cell (p := ⟨w.heap.size, 2, none⟩) (Nat.lt_of_lt_of_le hlt (Nat.le_trans hb3.size hb4.size))).trans e2r; have e3z := (hb5.cell (p := ⟨w.heap.size, 3, none⟩) (Nat.lt_of_lt_of_le hlt (Nat.le_trans hb3.size hb4.size))).trans e3r; have f0z := (hb5.cell (p := ⟨w.heap.size + 1, 0, none⟩) (Nat.lt_of_lt_of_le hmt (Nat.le_trans hb3.size hb4.size))).trans f0r; have f1z := (hb5.cell (p := ⟨w.heap.size + 1, 1, none⟩) (Nat.lt_of_lt_of_le hmt (Nat.le_trans hb3.size hb4.size))).trans f1r; have f2z := (hb5.cell (p := ⟨w.heap.size + 1, 2, none⟩) (Nat.lt_of_lt_of_le hmt (Nat.le_trans hb3.size hb4.size))).trans f2r; have f3z := (hb5.cell (p := ⟨w.heap.size + 1, 3, none⟩) (Nat.lt_of_lt_of_le hmt (Nat.le_trans hb3.size hb4.size))).trans f3r))
  have HB3 := HBd.out.trans (hb3.mono HBd.out.size)
  have HB4 := HB3.trans (hb4.mono HB3.size)
  have HB5 := HB4.trans (hb5.mono HB4.size)
  have hbw2 := (Below.refl w2.heap.size w2).drew
  have hbw3 := hbw2.trans (hb3.mono hbw2.size)
  have hbw4 := hbw3.trans (hb4.mono hbw3.size)
  have hbw5 := hbw4.trans (hb5.mono hbw4.size)
  have l3 := l2.below hbw5 l2.lt
  have m3 := m2.below hbw5 m2.lt
  clear l2 m2 HB HBd HB3 HB4 hb3 hb4 hb5 hm3 hm4 hlt hmt hbw2 hbw3 hbw4 hbw5 hd2 hs hs1 hs' hs2 e0 e0q e0r e0z e1 e1q e1r e1z e2 e2q e2r e2z e3 e3q e3r e3z f0 f0q f0r f0z f1 f1q f1r f1z f2 f2q f2r f2z f3 f3q f3r f3z
  have HB := hide HB5
  have l := l3
  have m := m3
  clear l3 m3 HB5
  have e0 := l.cell 0
  have e1 := l.cell 1
  have e2 := l.cell 2
  have e3 := l.cell 3
  simp only [List.getElem?_toArray, List.getElem?_cons_zero, List.getElem?_cons_succ] at e0 e1 e2 e3
  have hlt := l.lt
  have hmt := m.lt
  have L := hide l
  have M := hide m
  clear l m
  go_wp2_with fail
  refine (toRules_any A a c w5 (HR.out.later HB.out (Nat.le_refl _)) hsm).mono ?_
  rintro e w6 ⟨g6, rfl, hg6, hm6, hb6⟩
  have HX6 := hide (RuAt.of_row HR.out hm6)
  clear e0 e1 e2 e3 hm6
  have l := L.out.below hb6 hlt
  have m := M.out.below hb6 hmt
  have HBn := hide (HB.out.trans (hb6.mono HB.out.size))
  clear hb6 L M HB hlt hmt
  have HB := hide HBn.out
  clear HBn
  have f0 := m.cell 0
  have f1 := m.cell 1
  have f2 := m.cell 2
  have f3 := m.cell 3
  simp only [List.getElem?_toArray, List.getElem?_cons_zero, List.getElem?_cons_succ] at f0 f1 f2 f3
  have hlt := l.lt
  have hmt := m.lt
  have L := hide l
  have M := hide m
  clear l m
  unfold ruVal
  unfold ruCells
  go_wp2_with fail
  have lx := Lies.new w6 #[.int .i64 a.steps, .int .i64 a.nodes, .int .i64 a.deep, .slice (some ⟨g6, 0, none⟩) a.cls.length a.cls.length] 27
  have hbx : Below w6.heap.size w6 (w6.alloc (.cells #[.int .i64 a.steps, .int .i64 a.nodes, .int .i64 a.deep, .slice (some ⟨g6, 0, none⟩) a.cls.length a.cls.length] 27)) := (Below.refl _ _).alloc (Nat.le_refl _) _
  have l := L.out.below hbx hlt
  have m := M.out.below hbx hmt
  have HBn := hide (HB.out.trans (hbx.mono HB.out.size))
  have HX7 := hide (HX6.out.later hbx (Nat.le_refl _))
  clear hbx L M HB hlt hmt HX6
  have HB := hide HBn.out
  clear HBn
  generalize hblk : w6.heap.size = bx at lx ⊢
  generalize w6.alloc (.cells #[.int .i64 a.steps, .int .i64 a.nodes, .int .i64 a.deep, .slice (some ⟨g6, 0, none⟩) a.cls.length a.cls.length] 27) = w7 at lx l m HB HX7 ⊢
  clear hblk
  have hltx := lx.lt
  have LX := hide lx
  clear lx
  have hlt := l.lt
  have hmt := m.lt
  have L := hide l
  have M := hide m
  clear l m
  refine (toRules_any A' b c' w7 (HR'.out.later HB.out (Nat.le_refl _)) hsm').mono ?_
  rintro e w8 ⟨g8, rfl, hg8, hm8, hb8⟩
  have HY8 := hide (RuAt.of_row HR'.out hm8)
  have HX8 := hide (HX7.out.later hb8 (Nat.le_refl _))
  have lx := LX.out.below hb8 hltx
  clear f0 f1 f2 f3 hm8 HX7 LX hltx
  have l := L.out.below hb8 hlt
  have m := M.out.below hb8 hmt
  have HBn := hide (HB.out.trans (hb8.mono HB.out.size))
  clear hb8 L M HB hlt hmt
  have HB := hide HBn.out
  clear HBn
  have s0 := lx.cell 0
  have s1 := lx.cell 1
  have s2 := lx.cell 2
  have s3 := lx.cell 3
  simp only [List.getElem?_toArray, List.getElem?_cons_zero, List.getElem?_cons_succ] at s0 s1 s2 s3
  have hltx := lx.lt
  have LX := hide lx
  clear lx
  have hlt := l.lt
  have hmt := m.lt
  have L := hide l
  have M := hide m
  clear l m
  unfold ruVal
  unfold ruCells
  go_wp2_with fail
  have LXn := hide (LX.out.alloc (.cells #[.int .i64 b.steps, .int .i64 b.nodes, .int .i64 b.deep, .slice (some ⟨g8, 0, none⟩) b.cls.length b.cls.length] 27))
  clear LX s0 s1 s2 s3
  have ly := Lies.new w8 #[.int .i64 b.steps, .int .i64 b.nodes, .int .i64 b.deep, .slice (some ⟨g8, 0, none⟩) b.cls.length b.cls.length] 27
  have hbx : Below w8.heap.size w8 (w8.alloc (.cells #[.int .i64 b.steps, .int .i64 b.nodes, .int .i64 b.deep, .slice (some ⟨g8, 0, none⟩) b.cls.length b.cls.length] 27)) := (Below.refl _ _).alloc (Nat.le_refl _) _
  have l := L.out.below hbx hlt
  have m := M.out.below hbx hmt
  have HBn := hide (HB.out.trans (hbx.mono HB.out.size))
  have HX9 := hide (HX8.out.later hbx (Nat.le_refl _))
  have HY9 := hide (HY8.out.later hbx (Nat.le_refl _))
  clear hbx L M HB hlt hmt HX8 HY8
  have HB := hide HBn.out
  clear HBn
  generalize hblk : w8.heap.size = by_ at ly ⊢
  generalize w8.alloc (.cells #[.int .i64 b.steps, .int .i64 b.nodes, .int .i64 b.deep, .slice (some ⟨g8, 0, none⟩) b.cls.length b.cls.length] 27) = w9 at ly l m HB HX9 HY9 LXn ⊢
  clear hblk
  have hlty := ly.lt
  have hltx : bx < w9.heap.size := LXn.out.lt
  refine (implRulesAllow_any _ _ a b _ _ w9 HX9.out HY9.out hsm hsm').mono ?_
  rintro e w10 ⟨rfl, hb10⟩
  generalize tf (Allow a b) = V
  have hvv : (V != V) = false := by simp
  have lx := LXn.out.below hb10 hltx
  have ly2 := ly.below hb10 hlty
  have l2 := l.below hb10 l.lt
  have m2 := m.below hb10 m.lt
  have HX10 := HX9.out.later hb10 (Nat.le_refl _)
  have HY10 := HY9.out.later hb10 (Nat.le_refl _)
  have HB10 := HB.out.trans (hb10.mono HB.out.size)
  clear LXn ly l m HX9 HY9 hb10 hltx hlty
  have hltx := lx.lt
  have hlty := ly2.lt
  have hlt := l2.lt
  have hmt := m2.lt
  have s0 := lx.cell 0
  have s1 := lx.cell 1
  have s2 := lx.cell 2
  have s3 := lx.cell 3
  have t0 := ly2.cell 0
  have t1 := ly2.cell 1
  have t2 := ly2.cell 2
  have t3 := ly2.cell 3
  have e0 := l2.cell 0
  have e1 := l2.cell 1
  have e2 := l2.cell 2
  have e3 := l2.cell 3
  have f0 := m2.cell 0
  have f1 := m2.cell 1
  have f2 := m2.cell 2
  have f3 := m2.cell 3
  simp only [List.getElem?_toArray, List.getElem?_cons_zero, List.getElem?_cons_succ] at s0 s1 s2 s3 t0 t1 t2 t3 e0 e1 e2 e3 f0 f1 f2 f3
  have HBd := hide HB10.drew
  have HXd := HX10.later (Below.refl _ _).drew (Nat.le_refl _)
  have HYd := HY10.later (Below.refl _ _).drew (Nat.le_refl _)
  clear HB
  go_wp2_with fail
  go_region_held3 (fun w' => w'.cell? ⟨bx, 0, none⟩ = some (.int .i64 a.steps) ∧ w'.cell? ⟨bx, 1, none⟩ = some (.int .i64 a.nodes) ∧ w'.cell? ⟨bx, 2, none⟩ = some (.int .i64 a.deep) ∧ w'.cell? ⟨bx, 3, none⟩ = some (.slice (some ⟨g6, 0, none⟩) a.cls.length a.cls.length) ∧ w'.cell? ⟨w.heap.size, 0, none⟩ = some (.int .i64 a.steps) ∧ w'.cell? ⟨w.heap.size, 1, none⟩ = some (.int .i64 a.nodes) ∧ w'.cell? ⟨w.heap.size, 2, none⟩ = some (.int .i64 a.deep) ∧ w'.cell? ⟨w.heap.size, 3, none⟩ = some (.slice A a.cls.length c))
    (first
      | (go_split_ands; refine ⟨?_, ?_, ?_, ?_, ?_, ?_, ?_, ?_⟩ <;> assumption))
    (first
      | (go_at_call 6; refine (toRules_any A a c _ (HR.out.later HBd.out (Nat.le_refl _)) hsm).mono ?_; rintro e w11 ⟨g11, rfl, _, hm11, hb11⟩; have s0q := (hb11.cell (p := ⟨bx, 0, none⟩) hltx).trans s0; have s1q := (hb11.cell (p := ⟨bx, 1, none⟩) hltx).trans s1; have s2q := (hb11.cell (p := ⟨bx, 2, none⟩) hltx).trans s2; have s3q := (hb11.cell (p := ⟨bx, 3, none⟩) hltx).trans s3; have t0q := (hb11.cell (p := ⟨by_, 0, none⟩) hlty).trans t0; have t1q := (hb11.cell (p := ⟨by_, 1, none⟩) hlty).trans t1; have t2q := (hb11.cell (p := ⟨by_, 2, none⟩) hlty).trans t2; have t3q := (hb11.cell (p := ⟨by_, 3, none⟩) hlty).trans t3; have e0q := (hb11.cell (p := ⟨w.heap.size, 0, none⟩) hlt).trans e0; have e1q := (hb11.cell (p := ⟨w.heap.size, 1, none⟩) hlt).trans e1; have e2q := (hb11.cell (p := ⟨w.heap.size, 2, none⟩) hlt).trans e2; have e3q := (hb11.cell (p := ⟨w.heap.size, 3, none⟩) hlt).trans e3; have f0q := (hb11.cell (p := ⟨w.heap.size + 1, 0, none⟩) hmt).trans f0; have f1q := (hb11.cell (p := ⟨w.heap.size + 1, 1, none⟩) hmt).trans f1; have f2q := (hb11.cell (p := ⟨w.heap.size + 1, 2, none⟩) hmt).trans f2; have f3q := (hb11.cell (p := ⟨w.heap.size + 1, 3, none⟩) hmt).trans f3; unfold ruVal; unfold ruCells)
      | (go_at_call 8; refine (eqRules_same _ _ a _ _ _ (HXd.later hb11 (Nat.le_refl _)) (RuAt.of_row HR.out hm11)).mono ?_; rintro e w12 ⟨rfl, hb12⟩; have s0z := (hb12.cell (p := ⟨bx, 0, none⟩) (Nat.lt_of_lt_of_le hltx hb11.size)).trans s0q; have s1z := (hb12.cell (p := ⟨bx, 1, none⟩) (Nat.lt_of_lt_of_le hltx hb11.size)).trans s1q; have s2z := (hb12.cell (p := ⟨bx, 2, none⟩) (Nat.lt_of_lt_of_le hltx hb11.size)).trans s2q; have s3z := (hb12.cell (p := ⟨bx, 3, none⟩) (Nat.lt_of_lt_of_le hltx hb11.size)).trans s3q; have t0z := (hb12.cell (p := ⟨by_, 0, none⟩) (Nat.lt_of_lt_of_le hlty hb11.size)).trans t0q; have t1z := (hb12.cell (p := ⟨by_, 1, none⟩) (Nat.lt_of_lt_of_le hlty hb11.size)).trans t1q; have t2z := (hb12.cell (p := ⟨by_, 2, none⟩) (Nat.lt_of_lt_of_le hlty hb11.size)).trans t2q; have t3z := (hb12.cell (p := ⟨by_, 3, none⟩) (Nat.lt_of_lt_of_le hlty hb11.size)).trans t3q; have e0z := (hb12.cell (p := ⟨w.heap.size, 0, none⟩) (Nat.lt_of_lt_of_le hlt hb11.size)).trans e0q; have e1z := (hb12.cell (p := ⟨w.heap.size, 1, none⟩) (Nat.lt_of_lt_of_le hlt hb11.size)).trans e1q; have e2z := (hb12.cell (p := ⟨w.heap.size, 2, none⟩) (Nat.lt_of_lt_of_le hlt hb11.size)).trans e2q; have e3z := (hb12.cell (p := ⟨w.heap.size, 3, none⟩) (Nat.lt_of_lt_of_le hlt hb11.size)).trans e3q; have f0z := (hb12.cell (p := ⟨w.heap.size + 1, 0, none⟩) (Nat.lt_of_lt_of_le hmt hb11.size)).trans f0q; have f1z := (hb12.cell (p := ⟨w.heap.size + 1, 1, none⟩) (Nat.lt_of_lt_of_le hmt hb11.size)).trans f1q; have f2z := (hb12.cell (p := ⟨w.heap.size + 1, 2, none⟩) (Nat.lt_of_lt_of_le hmt hb11.size)).trans f2q; have f3z := (hb12.cell (p := ⟨w.heap.size + 1, 3, none⟩) (Nat.lt_of_lt_of_le hmt hb11.size)).trans f3q))
  have HB12 : Below w.heap.size w w12 := (HBd.out.trans (hb11.mono HBd.out.size)).trans (hb12.mono (HBd.out.trans (hb11.mono HBd.out.size)).size)
  have HYe := (HYd.later hb11 (Nat.le_refl _)).later hb12 (Nat.le_refl _)
  have hn : w10.heap.size ≤ w12.heap.size := Nat.le_trans (by simpa using hb11.size) hb12.size
  have hltz : by_ < w12.heap.size := by omega
  have hltf : w.heap.size + 1 < w12.heap.size := by omega
  have HBe := hide HB12.drew
  have HYf := HYe.later (Below.refl _ _).drew (Nat.le_refl _)
  clear s0 s0q s1 s1q s2 s2q s3 s3q t0 t0q t1 t1q t2 t2q t3 t3q e0 e0q e1 e1q e2 e2q e3 e3q f0 f0q f1 f1q f2 f2q f3 f3q e0z e1z e2z e3z s0z s1z s2z s3z lx ly2 l2 m2 HX10 HY10 HB10 HYd HXd
  go_wp2_with fail
  go_region_held3 (fun w' => w'.cell? ⟨by_, 0, none⟩ = some (.int .i64 b.steps) ∧ w'.cell? ⟨by_, 1, none⟩ = some (.int .i64 b.nodes) ∧ w'.cell? ⟨by_, 2, none⟩ = some (.int .i64 b.deep) ∧ w'.cell? ⟨by_, 3, none⟩ = some (.slice (some ⟨g8, 0, none⟩) b.cls.length b.cls.length) ∧ w'.cell? ⟨w.heap.size + 1, 0, none⟩ = some (.int .i64 b.steps) ∧ w'.cell? ⟨w.heap.size + 1, 1, none⟩ = some (.int .i64 b.nodes) ∧ w'.cell? ⟨w.heap.size + 1, 2, none⟩ = some (.int .i64 b.deep) ∧ w'.cell? ⟨w.heap.size + 1, 3, none⟩ = some (.slice A' b.cls.length c'))
    (first
      | (go_split_ands; refine ⟨?_, ?_, ?_, ?_, ?_, ?_, ?_, ?_⟩ <;> assumption))
    (first
      | (go_at_call 6; refine (toRules_any A' b c' _ (HR'.out.later HBe.out (Nat.le_refl _)) hsm').mono ?_; rintro e w13 ⟨g13, rfl, _, hm13, hb13⟩; have t0q := (hb13.cell (p := ⟨by_, 0, none⟩) hltz).trans t0z; have t1q := (hb13.cell (p := ⟨by_, 1, none⟩) hltz).trans t1z; have t2q := (hb13.cell (p := ⟨by_, 2, none⟩) hltz).trans t2z; have t3q := (hb13.cell (p := ⟨by_, 3, none⟩) hltz).trans t3z; have f0q := (hb13.cell (p := ⟨w.heap.size + 1, 0, none⟩) hltf).trans f0z; have f1q := (hb13.cell (p := ⟨w.heap.size + 1, 1, none⟩) hltf).trans f1z; have f2q := (hb13.cell (p := ⟨w.heap.size + 1, 2, none⟩) hltf).trans f2z; have f3q := (hb13.cell (p := ⟨w.heap.size + 1, 3, none⟩) hltf).trans f3z; unfold ruVal; unfold ruCells)
      | (go_at_call 8; refine (eqRules_same _ _ b _ _ _ (HYf.later hb13 (Nat.le_refl _)) (RuAt.of_row HR'.out hm13)).mono ?_; rintro e w14 ⟨rfl, hb14⟩; have t0y := (hb14.cell (p := ⟨by_, 0, none⟩) (Nat.lt_of_lt_of_le hltz hb13.size)).trans t0q; have t1y := (hb14.cell (p := ⟨by_, 1, none⟩) (Nat.lt_of_lt_of_le hltz hb13.size)).trans t1q; have t2y := (hb14.cell (p := ⟨by_, 2, none⟩) (Nat.lt_of_lt_of_le hltz hb13.size)).trans t2q; have t3y := (hb14.cell (p := ⟨by_, 3, none⟩) (Nat.lt_of_lt_of_le hltz hb13.size)).trans t3q; have f0y := (hb14.cell (p := ⟨w.heap.size + 1, 0, none⟩) (Nat.lt_of_lt_of_le hltf hb13.size)).trans f0q; have f1y := (hb14.cell (p := ⟨w.heap.size + 1, 1, none⟩) (Nat.lt_of_lt_of_le hltf hb13.size)).trans f1q; have f2y := (hb14.cell (p := ⟨w.heap.size + 1, 2, none⟩) (Nat.lt_of_lt_of_le hltf hb13.size)).trans f2q; have f3y := (hb14.cell (p := ⟨w.heap.size + 1, 3, none⟩) (Nat.lt_of_lt_of_le hltf hb13.size)).trans f3q))
  have HB14 : Below w.heap.size w w14 := (HBe.out.trans (hb13.mono HBe.out.size)).trans (hb14.mono (HBe.out.trans (hb13.mono HBe.out.size)).size)
  go_wp2
  go_ret
  exact ⟨rfl, HB14⟩
set_option maxHeartbeats 1000000 in
theorem exRA_big (A A' : Option Addr) (a b : Ru) (c c' : Nat) (w : World) (hr : RuAt w w.heap.size A a) (hr' : RuAt w w.heap.size A' b) (hs : szI a.cls.length 1048576 < 0) :
    Calls Try.prog 3 #[ruVal a A c, ruVal b A' c'] w fun e w' => e = .returned (.bool true) ∧ Below w.heap.size w w' := by
  have hB0 : Below w.heap.size w ((w.alloc (.cells (ruCells a A c) 24)).alloc (.cells (ruCells b A' c') 24)) := ((Below.refl _ _).alloc (Nat.le_refl _) _).alloc (by simp) _
  have l := (Lies.new w (ruCells a A c) 24).alloc (.cells (ruCells b A' c') 24)
  have hnl := hr.c.len
  clear hr hr'
  have HC := hide fun W => szRules_any A a c 1048576 W (by omega) (by omega) hnl
  generalize szI a.cls.length 1048576 = sz at hs HC
  unfold ruVal at *
  unfold ruCells at *
  go_enter Try.func3, Try.ntmps3
  go_wp2_with fail
  refine (HC.out _).mono ?_
  rintro e w1 ⟨rfl, hb1⟩
  clear HC
  have hd : decide (sz < 0) = true := by simp; omega
  go_wp2
  go_ret
  exact ⟨rfl, hB0.trans (hb1.mono hB0.size)⟩
set_option maxHeartbeats 1000000 in
theorem exRA_big2 (A A' : Option Addr) (a b : Ru) (c c' : Nat) (w : World) (hr : RuAt w w.heap.size A a) (hr' : RuAt w w.heap.size A' b) (hs : 0 ≤ szI a.cls.length 1048576) (hs' : szI b.cls.length (szI a.cls.length 1048576) < 0) :
    Calls Try.prog 3 #[ruVal a A c, ruVal b A' c'] w fun e w' => e = .returned (.bool true) ∧ Below w.heap.size w w' := by
  obtain ⟨hsm, hs1⟩ := szI_len hs (by omega)
  have hB0 : Below w.heap.size w ((w.alloc (.cells (ruCells a A c) 24)).alloc (.cells (ruCells b A' c') 24)) := ((Below.refl _ _).alloc (Nat.le_refl _) _).alloc (by simp) _
  have m := Lies.new (w.alloc (.cells (ruCells a A c) 24)) (ruCells b A' c') 24
  simp only [World.size_alloc] at m
  have hnl := hr.c.len
  have hnl' := hr'.c.len
  clear hr hr'
  have HZ1 := hide fun W => szRules_any A a c 1048576 W (by omega) (by omega) hnl
  generalize szI a.cls.length 1048576 = s1 at hs hs1 hs' HZ1
  have HZ2 := hide fun W => szRules_any A' b c' s1 W (by omega) (by omega) hnl'
  generalize szI b.cls.length s1 = s2 at hs' HZ2
  unfold ruVal at *
  unfold ruCells at *
  go_enter Try.func3, Try.ntmps3
  go_wp2_with fail
  generalize (w.alloc (.cells #[.int .i64 a.steps, .int .i64 a.nodes, .int .i64 a.deep, .slice A a.cls.length c] 24)).alloc (.cells #[.int .i64 b.steps, .int .i64 b.nodes, .int .i64 b.deep, .slice A' b.cls.length c'] 24) = W at hB0 m ⊢
  have hmt := m.lt
  refine (HZ1.out W).mono ?_
  rintro e w1 ⟨rfl, hb1⟩
  have m1 := m.below hb1 hmt
  have f0 := m1.cell 0
  have f1 := m1.cell 1
  have f2 := m1.cell 2
  have f3 := m1.cell 3
  simp only [List.getElem?_toArray, List.getElem?_cons_zero, List.getElem?_cons_succ] at f0 f1 f2 f3
  have hB1 := hB0.trans (hb1.mono hB0.size)
  clear hb1 hB0 m
  have hd1 : decide (s1 < 0) = false := by simp; omega
  go_wp2_with fail
  refine (HZ2.out w1).mono ?_
  rintro e w2 ⟨rfl, hb2⟩
  have hd2 : decide (s2 < 0) = true := by simp; omega
  have hB2 := hB1.trans (hb2.mono hB1.size)
  clear hb2 hB1
  go_wp2
  go_ret
  exact ⟨rfl, hB2⟩
theorem exRA_any (A A' : Option Addr) (a b : Ru) (c c' : Nat) (w : World) (hr : RuAt w w.heap.size A a) (hr' : RuAt w w.heap.size A' b) :
    Calls Try.prog 3 #[ruVal a A c, ruVal b A' c'] w fun e w' => e = .returned (.bool true) ∧ Below w.heap.size w w' := by
  by_cases hs : 0 ≤ szI a.cls.length 1048576
  · by_cases hs' : 0 ≤ szI b.cls.length (szI a.cls.length 1048576)
    · exact exRA_small A A' a b c c' w hr hr' hs hs'
    · exact exRA_big2 A A' a b c c' w hr hr' hs (by omega)
  · exact exRA_big A A' a b c c' w hr hr' (by omega)
end Go.Proofs.Ytaolnnjcpnhghad
