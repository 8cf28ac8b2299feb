import Derived.Test.YtaolnnjcpnhghadRuM
import Derived.Test.YtaolnnjcpnhghadSzI
import Derived.Test.YtaolnnjcpnhghadToI
import Derived.Test.YtaolnnjcpnhghadEqS
import Derived.Deep.Cut
namespace Go.Proofs.Ytaolnnjcpnhghad
open Go.RowKit
set_option linter.unusedVariables false
set_option maxHeartbeats 400000 in
theorem szIntsR_any (A : Option Addr) (n c : Nat) (left : Int) (w : World) (h0 : 0 ≤ left) (h1 : left ≤ 1048576) (hn : n ≤ 9223372036854775807) :
    Calls Try.prog 9 #[.slice A n c, .int .i64 left] w fun e w' => e = .returned (.int .i64 (szI n left)) ∧ w = w' := by
  by_cases h : left - n < 0
  · have hs : Hid (szI n left = -1) := by unfold szI; rw [if_pos h]; rfl
    go_enter Try.func9, Try.ntmps9
    go_wp2
    go_ret
    exact ⟨ret_int hs.out.symm, rfl⟩
  · have hs : Hid (szI n left = left - n) := by unfold szI; rw [if_neg h]; rfl
    go_enter Try.func9, Try.ntmps9
    go_wp2
    go_ret
    exact ⟨ret_int hs.out.symm, rfl⟩
set_option maxHeartbeats 400000 in
theorem szRules_any (A : Option Addr) (r : Ru) (c : Nat) (left : Int) (w : World) (h0 : 0 ≤ left) (h1 : left ≤ 1048576) (hn : r.cls.length ≤ 9223372036854775807) :
    Calls Try.prog 4 #[ruVal r A c, .int .i64 left] w fun e w' => e = .returned (.int .i64 (szI r.cls.length left)) ∧ Below w.heap.size w w' := by
  have HB := hide ((Below.refl w.heap.size w).alloc (Nat.le_refl _) (.cells (ruCells r A c) 24))
  have hs := szI_le r.cls.length left h1 h0
  have hS : szI r.cls.length left = -1 ∨ 0 ≤ szI r.cls.length left := by omega
  have hc := fun W => szIntsR_any A r.cls.length c left W h0 h1 hn
  have HC := hide hc
  clear hc
  unfold ruVal
  unfold ruCells at *
  generalize szI r.cls.length left = sz at *
  by_cases hz : sz < 0
  · obtain rfl : sz = -1 := by omega
    go_enter Try.func4, Try.ntmps4
    go_wp2_with fail
    refine (HC.out _).mono ?_
    rintro e w' ⟨rfl, rfl⟩
    go_wp2
    go_ret
    exact ⟨rfl, HB.out⟩
  · have hd : decide (sz < 0) = false := by simpa using hz
    go_enter Try.func4, Try.ntmps4
    go_wp2_with fail
    refine (HC.out _).mono ?_
    rintro e w' ⟨rfl, rfl⟩
    go_wp2
    go_ret
    exact ⟨rfl, HB.out⟩
def MadeRu (w : World) (r : Ru) (e : Ending) (w' : World) : Prop := ∃ g, e = .returned (ruVal r (some ⟨g, 0, none⟩) r.cls.length) ∧ w.heap.size ≤ g ∧ w'.rowIs g 3 r.cls.length (intCell r.cls) ∧ Below w.heap.size w w'
theorem lies4_set {w : World} {g : Nat} {u0 u1 u2 u3 : Value} {t : TypeId} (h : Lies w g #[u0, u1, u2, u3] t) (v0 v1 v2 v3 : Value) : Lies ((((w.setCell ⟨g, 0, none⟩ v0).setCell ⟨g, 1, none⟩ v1).setCell ⟨g, 2, none⟩ v2).setCell ⟨g, 3, none⟩ v3) g #[v0, v1, v2, v3] t := by
  have := (((h.set 0 v0).set 1 v1).set 2 v2).set 3 v3
  simpa using this
set_option maxRecDepth 100000 in
set_option maxHeartbeats 1000000 in
theorem toRules_any (A : Option Addr) (r : Ru) (c : Nat) (w : World) (h : RuAt w w.heap.size A r) (hl : r.cls.length ≤ 1048576) :
    Calls Try.prog 6 #[ruVal r A c] w (MadeRu w r) := by
  unfold ruVal
  have hB : Below w.heap.size w (((w.alloc (.cells (ruCells r A c) 24)).alloc (.cells #[.int .i64 0, .int .i64 0, .int .i64 0, .slice none 0 0] 27)).alloc (.cells #[.int .i64 0, .int .i64 0, .int .i64 0, .slice none 0 0] 27)) := (((Below.refl _ _).alloc (Nat.le_refl _) _).alloc (by simp) _).alloc (by simp; omega) _
  have l1 := ((Lies.new w (ruCells r A c) 24).alloc (.cells #[.int .i64 0, .int .i64 0, .int .i64 0, .slice none 0 0] 27)).alloc (.cells #[.int .i64 0, .int .i64 0, .int .i64 0, .slice none 0 0] 27)
  have l2 := (Lies.new (w.alloc (.cells (ruCells r A c) 24)) #[.int .i64 0, .int .i64 0, .int .i64 0, .slice none 0 0] 27).alloc (.cells #[.int .i64 0, .int .i64 0, .int .i64 0, .slice none 0 0] 27)
  have l3 := Lies.new ((w.alloc (.cells (ruCells r A c) 24)).alloc (.cells #[.int .i64 0, .int .i64 0, .int .i64 0, .slice none 0 0] 27)) #[.int .i64 0, .int .i64 0, .int .i64 0, .slice none 0 0] 27
  simp only [World.size_alloc] at l2 l3
  have HB := hide hB
  have HC := hide h.c
  clear hB h
  unfold ruCells at *
  go_enter Try.func6, Try.ntmps6
  go_upto_region 2 with fail
  have hsz : (((w.alloc (.cells #[.int .i64 r.steps, .int .i64 r.nodes, .int .i64 r.deep, .slice A r.cls.length c] 24)).alloc (.cells #[.int .i64 0, .int .i64 0, .int .i64 0, .slice none 0 0] 27)).alloc (.cells #[.int .i64 0, .int .i64 0, .int .i64 0, .slice none 0 0] 27)).heap.size = w.heap.size + 3 := by simp
  generalize ((w.alloc (.cells #[.int .i64 r.steps, .int .i64 r.nodes, .int .i64 r.deep, .slice A r.cls.length c] 24)).alloc (.cells #[.int .i64 0, .int .i64 0, .int .i64 0, .slice none 0 0] 27)).alloc (.cells #[.int .i64 0, .int .i64 0, .int .i64 0, .slice none 0 0] 27) = W at l1 l2 l3 HB hsz ⊢
  have a0 := l1.cell 0
  have a1 := l1.cell 1
  have a2 := l1.cell 2
  have a3 := l1.cell 3
  have z0 := l3.cell 0
  have z1 := l3.cell 1
  have z2 := l3.cell 2
  have z3 := l3.cell 3
  have f0 := l3.frozen 0
  have f1 := l3.frozen 1
  have f2 := l3.frozen 2
  have f3 := l3.frozen 3
  simp only [List.getElem?_toArray, List.getElem?_cons_zero, List.getElem?_cons_succ] at a0 a1 a2 a3 z0 z1 z2 z3
  go_upto_region 5 with fail
  have m3 := ((l3.set 0 (.int .i64 r.steps)).set 1 (.int .i64 r.nodes)).set 2 (.int .i64 r.deep)
  simp only [List.setIfInBounds_toArray, List.set_cons_zero, List.set_cons_succ] at m3
  have m1 := ((l1.far (p := ⟨w.heap.size + 1 + 1, 0, none⟩) (by show w.heap.size ≠ w.heap.size + 1 + 1; omega) (.int .i64 r.steps)).far (p := ⟨w.heap.size + 1 + 1, 1, none⟩) (by show w.heap.size ≠ w.heap.size + 1 + 1; omega) (.int .i64 r.nodes)).far (p := ⟨w.heap.size + 1 + 1, 2, none⟩) (by show w.heap.size ≠ w.heap.size + 1 + 1; omega) (.int .i64 r.deep)
  have m2 := ((l2.far (p := ⟨w.heap.size + 1 + 1, 0, none⟩) (by show w.heap.size + 1 ≠ w.heap.size + 1 + 1; omega) (.int .i64 r.steps)).far (p := ⟨w.heap.size + 1 + 1, 1, none⟩) (by show w.heap.size + 1 ≠ w.heap.size + 1 + 1; omega) (.int .i64 r.nodes)).far (p := ⟨w.heap.size + 1 + 1, 2, none⟩) (by show w.heap.size + 1 ≠ w.heap.size + 1 + 1; omega) (.int .i64 r.deep)
  have HB3 := hide (((HB.out.setCell (p := ⟨w.heap.size + 1 + 1, 0, none⟩) (by show w.heap.size ≤ w.heap.size + 1 + 1; omega) (.int .i64 r.steps)).setCell (p := ⟨w.heap.size + 1 + 1, 1, none⟩) (by show w.heap.size ≤ w.heap.size + 1 + 1; omega) (.int .i64 r.nodes)).setCell (p := ⟨w.heap.size + 1 + 1, 2, none⟩) (by show w.heap.size ≤ w.heap.size + 1 + 1; omega) (.int .i64 r.deep))
  clear l1 l2 l3 HB a0 a1 a2 a3 z0 z1 z2 z3 f0 f1 f2 f3
  have hsz3 : (((W.setCell ⟨w.heap.size + 1 + 1, 0, none⟩ (.int .i64 r.steps)).setCell ⟨w.heap.size + 1 + 1, 1, none⟩ (.int .i64 r.nodes)).setCell ⟨w.heap.size + 1 + 1, 2, none⟩ (.int .i64 r.deep)).heap.size = w.heap.size + 3 := by simpa using hsz
  have Hsz3 := hide hsz3
  clear hsz hsz3
  generalize ((W.setCell ⟨w.heap.size + 1 + 1, 0, none⟩ (.int .i64 r.steps)).setCell ⟨w.heap.size + 1 + 1, 1, none⟩ (.int .i64 r.nodes)).setCell ⟨w.heap.size + 1 + 1, 2, none⟩ (.int .i64 r.deep) = V at m1 m2 m3 HB3 Hsz3 ⊢
  have a3 := m1.cell 3
  simp only [List.getElem?_toArray, List.getElem?_cons_zero, List.getElem?_cons_succ] at a3
  have hV := HB3.out.size
  have hV1 := m1.lt
  have hV2 := m2.lt
  have hV3 := m3.lt
  have M1 := hide m1
  have M2 := hide m2
  have M3 := hide m3
  clear m1 m2 m3
  go_wp2_with fail
  refine (toIntS_any A r.cls c V (HC.out.later HB3.out (Nat.le_refl _)) hl).mono ?_
  rintro e w2 ⟨rfl, hrow, hb⟩
  have HRow := hide hrow
  have HB2 := hide (HB3.out.trans (hb.mono hV))
  have n2 := M2.out.below hb hV2
  have n3 := M3.out.below hb hV3
  have hb2s := hb.size
  clear hrow hb M1 M2 M3 HB3 a3
  have y0 := n3.cell 0
  have y1 := n3.cell 1
  have y2 := n3.cell 2
  have y3 := n3.cell 3
  have g3 := n3.frozen 3
  simp only [List.getElem?_toArray, List.getElem?_cons_zero, List.getElem?_cons_succ] at y0 y1 y2 y3
  go_upto_region 6 with fail
  have p3 := n3.set 3 (.slice (some ⟨V.heap.size, 0, none⟩) r.cls.length r.cls.length)
  simp only [List.setIfInBounds_toArray, List.set_cons_zero, List.set_cons_succ] at p3
  have p2 := n2.far (p := ⟨w.heap.size + 1 + 1, 3, none⟩) (by show w.heap.size + 1 ≠ w.heap.size + 1 + 1; omega) (.slice (some ⟨V.heap.size, 0, none⟩) r.cls.length r.cls.length)
  have HB4 := hide (HB2.out.setCell (p := ⟨w.heap.size + 1 + 1, 3, none⟩) (by show w.heap.size ≤ w.heap.size + 1 + 1; omega) (.slice (some ⟨V.heap.size, 0, none⟩) r.cls.length r.cls.length))
  have HR4 := hide (HRow.out.setOther (a := ⟨w.heap.size + 1 + 1, 3, none⟩) (by show V.heap.size ≠ w.heap.size + 1 + 1; omega) (.slice (some ⟨V.heap.size, 0, none⟩) r.cls.length r.cls.length))
  clear n2 n3 y0 y1 y2 y3 g3 HB2 HRow
  generalize hvs : V.heap.size = vs at *
  generalize w2.setCell ⟨w.heap.size + 1 + 1, 3, none⟩ (.slice (some ⟨vs, 0, none⟩) r.cls.length r.cls.length) = w4 at p3 p2 HB4 HR4 ⊢
  have y0 := p3.cell 0
  have y1 := p3.cell 1
  have y2 := p3.cell 2
  have y3 := p3.cell 3
  have z0 := p2.cell 0
  have z1 := p2.cell 1
  have z2 := p2.cell 2
  have z3 := p2.cell 3
  have f0 := p2.frozen 0
  have f1 := p2.frozen 1
  have f2 := p2.frozen 2
  have f3 := p2.frozen 3
  have q2 := lies4_set p2 (.int .i64 r.steps) (.int .i64 r.nodes) (.int .i64 r.deep) (.slice (some ⟨vs, 0, none⟩) r.cls.length r.cls.length)
  have s0 := q2.cell 0
  have s1 := q2.cell 1
  have s2 := q2.cell 2
  have s3 := q2.cell 3
  simp only [List.getElem?_toArray, List.getElem?_cons_zero, List.getElem?_cons_succ] at y0 y1 y2 y3 z0 z1 z2 z3 s0 s1 s2 s3
  have HB5 := hide ((((HB4.out.setCell (p := ⟨w.heap.size + 1, 0, none⟩) (by show w.heap.size ≤ w.heap.size + 1; omega) (.int .i64 r.steps)).setCell (p := ⟨w.heap.size + 1, 1, none⟩) (by show w.heap.size ≤ w.heap.size + 1; omega) (.int .i64 r.nodes)).setCell (p := ⟨w.heap.size + 1, 2, none⟩) (by show w.heap.size ≤ w.heap.size + 1; omega) (.int .i64 r.deep)).setCell (p := ⟨w.heap.size + 1, 3, none⟩) (by show w.heap.size ≤ w.heap.size + 1; omega) (.slice (some ⟨vs, 0, none⟩) r.cls.length r.cls.length))
  have HR5 := hide ((((HR4.out.setOther (a := ⟨w.heap.size + 1, 0, none⟩) (by show vs ≠ w.heap.size + 1; omega) (.int .i64 r.steps)).setOther (a := ⟨w.heap.size + 1, 1, none⟩) (by show vs ≠ w.heap.size + 1; omega) (.int .i64 r.nodes)).setOther (a := ⟨w.heap.size + 1, 2, none⟩) (by show vs ≠ w.heap.size + 1; omega) (.int .i64 r.deep)).setOther (a := ⟨w.heap.size + 1, 3, none⟩) (by show vs ≠ w.heap.size + 1; omega) (.slice (some ⟨vs, 0, none⟩) r.cls.length r.cls.length))
  clear p2 p3 q2
  go_wp2
  refine bodyPost_ret (v := ruVal r (some ⟨vs, 0, none⟩) r.cls.length) (by simp [ruVal, ruCells, results, Try.results6, go_sem, s0, s1, s2, s3]) rfl ?_
  exact ⟨vs, rfl, by omega, HR5.out, HB5.out⟩
set_option maxRecDepth 100000 in
set_option maxHeartbeats 1000000 in
theorem eqRules_same (A A' : Option Addr) (r : Ru) (c c' : Nat) (w : World) (h : RuAt w w.heap.size A r) (h' : RuAt w w.heap.size A' r) :
    Calls Try.prog 8 #[ruVal r A c, ruVal r A' c'] w fun e w' => e = .returned (.bool true) ∧ Below w.heap.size w w' := by
  unfold ruVal
  have hB : Below w.heap.size w ((w.alloc (.cells (ruCells r A c) 27)).alloc (.cells (ruCells r A' c') 27)) := ((Below.refl _ _).alloc (Nat.le_refl _) _).alloc (by simp) _
  have l1 := (Lies.new w (ruCells r A c) 27).alloc (.cells (ruCells r A' c') 27)
  have l2 := Lies.new (w.alloc (.cells (ruCells r A c) 27)) (ruCells r A' c') 27
  simp only [World.size_alloc] at l2
  have HB := hide hB
  have H1 := hide (h.c.later hB (Nat.le_refl _))
  have H2 := hide (h'.c.later hB (Nat.le_refl _))
  clear hB h h'
  unfold ruCells at *
  go_enter Try.func8, Try.ntmps8
  go_upto_region 1 with fail
  generalize (w.alloc (.cells #[.int .i64 r.steps, .int .i64 r.nodes, .int .i64 r.deep, .slice A r.cls.length c] 27)).alloc (.cells #[.int .i64 r.steps, .int .i64 r.nodes, .int .i64 r.deep, .slice A' r.cls.length c'] 27) = W at l1 l2 HB H1 H2 ⊢
  have a0 := l1.cell 0
  have a1 := l1.cell 1
  have a2 := l1.cell 2
  have a3 := l1.cell 3
  have b0 := l2.cell 0
  have b1 := l2.cell 1
  have b2 := l2.cell 2
  have b3 := l2.cell 3
  simp only [List.getElem?_toArray, List.getElem?_cons_zero, List.getElem?_cons_succ] at a0 a1 a2 a3 b0 b1 b2 b3
  have t0 : (r.steps != r.steps) = false := by simp
  have t1 : (r.nodes != r.nodes) = false := by simp
  have t2 : (r.deep != r.deep) = false := by simp
  clear l1 l2
  go_wp2_with fail
  refine (eqIntS_any A A' r.cls r.cls c c' W H1.out H2.out).mono ?_
  rintro e w2 ⟨rfl, hb⟩
  have hself : decide (r.cls = r.cls) = true := by simp
  rw [hself]
  have HX := hide (HB.out.trans (hb.mono HB.out.size))
  clear hb
  go_wp2
  go_ret
  exact ⟨rfl, HX.out⟩
end Go.Proofs.Ytaolnnjcpnhghad
