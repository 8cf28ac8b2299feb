import Derived.Test.YtbihgafkmmcjlaaDoorPjAd
import Derived.StillTailTactics
import Derived.Deep.QuietTactic
import Derived.Deep.Cut
import Derived.BigQuiet
namespace Go.Proofs.YtbihgafkmmcjlaaDoor
open Go.RowKit
set_option linter.unusedVariables false
set_option linter.unusedSimpArgs false
set_option maxRecDepth 100000 in
set_option maxHeartbeats 4000000 in
theorem takeShapes_14 (p : ShPtr) (s : Shp) (ar : Int) (base : Nat) (w : World) (h : ShOwn w base p s) (hbase : base ≤ w.heap.size) (hs : s.Small)  :
    Calls Tryd.prog 53 #[shVal p s, .agg #[.int .i64 14, .int .i64 ar]] w (TriesSh w p base (takeStep s ⟨14, ar⟩)) := by
  obtain ⟨K, c1, F, c2, S, c3, M, c4⟩ := p
  have hS := ShSt.enter3 h hbase (.cells #[.int .i64 14, .int .i64 ar] 42)
  have lo : Lies (((w.alloc (.cells (shCells ⟨K, c1, F, c2, S, c3, M, c4⟩ s) 38)).alloc (.cells #[.int .i64 14, .int .i64 ar] 42)).alloc (.cells zero5 38)) (w.heap.size + 1) #[.int .i64 14, .int .i64 ar] 42 := by
    have := (Lies.new (w.alloc (.cells (shCells ⟨K, c1, F, c2, S, c3, M, c4⟩ s) 38)) #[.int .i64 14, .int .i64 ar] 42).alloc (.cells zero5 38)
    simpa using this
  have hst := hs.t
  have hkl := hs.k
  have Hs := hide hs
  have hcap := h.t.capLen
  dsimp only at hcap
  clear h hs
  unfold shVal
  unfold shCells zero5 at *
  dsimp only at hS lo ⊢
  go_enter Tryd.func53, Tryd.ntmps53
  go_upto_region 1 with fail
  generalize ((w.alloc (.cells #[.slice K s.kinds.length c1, .slice F s.full.length c2, .slice S s.stack.length c3, .slice M s.memo.length c4, .bool s.done] 38)).alloc (.cells #[.int .i64 14, .int .i64 ar] 42)).alloc (.cells #[.slice none 0 0, .slice none 0 0, .slice none 0 0, .slice none 0 0, .bool false] 38) = W at hS lo ⊢
  have hcall := hide (fun (d : Nat) (hd : d ≤ 1000) (X : World) (hX : ShSt w X ⟨K, c1, F, c2, S, c3, M, c4⟩ base base w.heap.size (w.heap.size + 2) ⟨K, c1, F, c2, S, c3, M, c4⟩ s) => shapeAt_any ⟨K, c1, F, c2, S, c3, M, c4⟩ s d X (hX.bx.own.at_ Hs.out) Hs.out hd)
  unfold shVal shCells at hcall
  dsimp only at hcall
  obtain ⟨e0, e1, e2, e3, e4⟩ := hS.bx.cells
  dsimp only at e0 e1 e2 e3 e4
  go_wp2_with fail
  refine (hcall.out 0 (by omega) W hS).mono ?_
  rintro e w1 ⟨rfl, hb1⟩
  have hS1 := hS.below hb1
  have lo1 := lo.below hb1 lo.lt
  clear hS lo hb1 e0 e1 e2 e3 e4
  obtain ⟨e0, e1, e2, e3, e4⟩ := hS1.bx.cells
  dsimp only at e0 e1 e2 e3 e4
  go_wp2_with fail
  refine (hcall.out 1 (by omega) w1 hS1).mono ?_
  rintro e w2 ⟨rfl, hb2⟩
  have hS := hS1.below hb2
  have lo := lo1.below hb2 lo1.lt
  clear hS1 lo1 hb2 e0 e1 e2 e3 e4
  obtain ⟨e0, e1, e2, e3, e4⟩ := hS.bx.cells
  dsimp only at e0 e1 e2 e3 e4
  have d0 := lo.cell 0
  have d1 := lo.cell 1
  simp only [jD, jE, jF] at d0 d1
  have hk0 := hide (fun h => Shp.kind_lt (s := s) (d := 0) h)
  have hk1 := hide (fun h => Shp.kind_lt (s := s) (d := 1) h)
  have hr0 := Hs.out.ok.kindAt 0
  have hr1 := Hs.out.ok.kindAt 1
  generalize hka : s.kindAt 0 = a at *
  generalize hkb : s.kindAt 1 = b at *
  obtain ⟨ha1, ha2, ha3⟩ := hr0
  obtain ⟨hb1, hb2, hb3⟩ := hr1
  have HKa := hide hka
  have HKb := hide hkb
  have hlow := hS.bx.box.lt
  clear hka hkb
  by_cases hneg : a < 0
  · have HN := hide (show takeStep s ⟨14, ar⟩ = none by unfold takeStep; rw [HKa.out, if_pos hneg])
    have t0 : decide (0 ≤ a) = false := by simp; omega
    clear e0 e1 e2 e3 e4
    obtain ⟨e0, e1, e2, e3, e4⟩ := hS.bx.cells
    dsimp only at e0 e1 e2 e3 e4
    go_upto_region 22 with fail
    go_quiet (fail)
    have hS3 := hS.below (below_drewN (Below.refl w2.heap.size w2) nq)
    generalize w2.drewN nq = X at hS3 ⊢
    clear hS e0 e1 e2 e3 e4 d0 d1 lo
    obtain ⟨⟨e0, e1, e2, e3, e4⟩, hs5, hown, hbel, hfr⟩ := hS3.ret
    obtain ⟨r0, r1, r2, r3, r4, f0, f1, f2, f3, f4, s0, s1, s2, s3, s4⟩ := hs5
    have HR := hide (And.intro hbel hfr)
    clear hown hbel hfr hS3 
    dsimp only at e0 e1 e2 e3 e4 r0 r1 r2 r3 r4 s0 s1 s2 s3 s4
    go_wp2
    refine bodyPost_ret (v := .tuple #[shVal ⟨K, c1, F, c2, S, c3, M, c4⟩ s, .bool false]) (by simp [shVal, shCells, results, Tryd.results53, go_sem, s0, s1, s2, s3, s4]) rfl ?_
    exact ⟨_, _, _, rfl, HR.out.1, HR.out.2, fun t ht => by (rw [HN.out] at ht; cases ht), fun _ => rfl⟩
  · have t0 : decide (0 ≤ a) = true := by simp; omega
    have hl1 : 0 < s.stack.length := hk0.out hneg
    obtain ⟨m, hm⟩ : ∃ m : Nat, s.stack.length = m + 1 := ⟨s.stack.length - 1, by omega⟩
    have hidx : (s.stack.length : Int) - 1 = (m : Int) := by omega
    have hm0 : (0 : Int) ≤ (m : Int) := by omega
    have hmc : (m : Int) ≤ (c3 : Int) := by omega
    have Hm := hide hm
    have Hm1 := hide (show s.stack.length - 1 = m by omega)
    have hcut : ∀ X : World, ShSt w X ⟨K, c1, F, c2, S, c3, M, c4⟩ base base w.heap.size (w.heap.size + 2) ⟨K, c1, F, c2, S, c3, M, c4⟩ s → ShSt w (X.setCell ⟨w.heap.size, 2, none⟩ (.slice S m c3)) ⟨K, c1, F, c2, S, c3, M, c4⟩ base base w.heap.size (w.heap.size + 2) ⟨K, c1, F, c2, S, c3, M, c4⟩ (s.cutTo m) := fun X hX => hX.cut (n := m) (by omega)
    have Hcut := hide hcut
    have f2 := hS.bx.box.frozen 2
    clear hm hcut hl1
    by_cases h5 : b = 5
    · subst h5
      have hl2 : 1 < s.stack.length := hk1.out (by omega)
      obtain ⟨n, hn⟩ : ∃ n : Nat, s.stack.length = n + 2 := ⟨s.stack.length - 2, by omega⟩
      have hidx2 : (s.stack.length : Int) - 2 = (n : Int) := by omega
      have hn0 : (0 : Int) ≤ (n : Int) := by omega
      have hnc : (n : Int) ≤ (c3 : Int) := by omega
      have Hn1 := hide (show s.stack.length - 2 = n by omega)
      have Hcut2 := hide (fun (X : World) (hX : ShSt w X ⟨K, c1, F, c2, S, c3, M, c4⟩ base base w.heap.size (w.heap.size + 2) ⟨K, c1, F, c2, S, c3, M, c4⟩ s) => hX.cut (n := n) (by omega))
      have Hn := hide hn
      clear hn hl2
      have hml := Hs.out.ok.fl
      obtain ⟨x, hx⟩ : ∃ x, s.stack[n]? = some x := ⟨_, List.getElem?_eq_getElem (by have := Hn.out; omega)⟩
      have hth : s.thing 1 = x := by
        unfold Shp.thing
        rw [if_pos (by have := Hn.out; omega), show s.stack.length - 1 - 1 = n by have := Hn.out; omega, List.getD_eq_getElem?_getD, hx]
        rfl
      have hxr := Hs.out.ok.st x (List.mem_of_getElem? hx)
      have hx0 : 0 ≤ x := by have h7 := hb3; rw [hth] at h7; omega
      obtain ⟨y, rfl⟩ := Int.eq_ofNat_of_zero_le hx0
      obtain ⟨u, hu⟩ : ∃ u, s.full[y]? = some u := ⟨_, List.getElem?_eq_getElem (by omega)⟩
      have hfd : (s.full[y]?).getD false = u := by rw [hu]; rfl
      obtain ⟨gs, rfl, _, _, hcs, _⟩ := hS.bx.own.t.atJ hx
      obtain ⟨gf, rfl, _, _, hcf, hff⟩ := hS.bx.own.f.atJ hu
      have hy0 : (0 : Int) ≤ (y : Int) := by omega
      have hy1 : (y : Int) < (s.full.length : Int) := by omega
      have hn1 : (n : Int) < (s.stack.length : Int) := by have := Hn.out; omega
      have hwn : IntKind.i64.wrap (n : Int) = (n : Int) := by rw [IntKind.wrap_i64]; omega
      clear hml hx hxr hx0 hu hb3
      cases u with
      | true =>
        have HN := hide (show takeStep s ⟨14, ar⟩ = none by simp [takeStep, HKa.out, HKb.out, hneg, hth, hfd])
        clear hth hfd
        go_upto_region 22 with fail
        go_quiet (fail)
        have hS3 := hS.below (below_drewN (Below.refl w2.heap.size w2) nq)
        generalize w2.drewN nq = X at hS3 ⊢
        clear hS e0 e1 e2 e3 e4 d0 d1 lo hcs hcf hff f2
        obtain ⟨⟨e0, e1, e2, e3, e4⟩, hs5, hown, hbel, hfr⟩ := hS3.ret
        obtain ⟨r0, r1, r2, r3, r4, f0, f1, f2, f3, f4, s0, s1, s2, s3, s4⟩ := hs5
        have HR := hide (And.intro hbel hfr)
        clear hown hbel hfr hS3 
        dsimp only at e0 e1 e2 e3 e4 r0 r1 r2 r3 r4 s0 s1 s2 s3 s4
        go_wp2
        refine bodyPost_ret (v := .tuple #[shVal ⟨K, c1, some ⟨gf, 0, none⟩, c2, some ⟨gs, 0, none⟩, c3, M, c4⟩ s, .bool false]) (by simp [shVal, shCells, results, Tryd.results53, go_sem, s0, s1, s2, s3, s4]) rfl ?_
        exact ⟨_, _, _, rfl, HR.out.1, HR.out.2, fun t ht => by (rw [HN.out] at ht; cases ht), fun _ => rfl⟩
      | false =>
        have HN := hide (show takeStep s ⟨14, ar⟩ = some (Shp.cutTo { s with full := s.full.set y true } m) by simp [takeStep, HKa.out, HKb.out, hneg, hth, hfd, Hm1.out, Shp.cutTo])
        clear hth hfd
        go_upto_region 22 with fail
        go_quiet (fail)
        have hS2 := hS.below (below_drewN (Below.refl w2.heap.size w2) nq)
        have hcs2 : (w2.drewN nq).cell? ⟨gs, n, none⟩ = some (.int .i64 (y : Int)) := hcs
        have hcf2 : (w2.drewN nq).cell? ⟨gf, y, none⟩ = some (.bool false) := hcf
        have hff2 : (w2.drewN nq).frozen? ⟨gf, y, none⟩ = false := hff
        clear hS e0 e1 e2 e3 e4 d0 d1 lo hcs hcf hff f2
        generalize w2.drewN nq = X at hS2 hcs2 hcf2 hff2 ⊢
        obtain ⟨e0, e1, e2, e3, e4⟩ := hS2.bx.cells
        dsimp only at e0 e1 e2 e3 e4
        go_upto_region 24 with fail
        go_still_tail 11, (by kernel_rfl)
        change wpList _ _ _ _ _ X.drew
        have hS3 := hS2.below ((Below.refl X.heap.size X).drew)
        have hcf3 : X.drew.cell? ⟨gf, y, none⟩ = some (.bool false) := hcf2
        have hff3 : X.drew.frozen? ⟨gf, y, none⟩ = false := hff2
        clear hS2 hcs2 hcf2 hff2 e0 e1 e2 e3 e4
        generalize X.drew = wd at hS3 hcf3 hff3 ⊢
        go_upto_region 33 with fail
        have hS4 := hS3.fill (g := gf) (a := y) rfl
        generalize wd.setCell ⟨gf, y, none⟩ (.bool true) = Y at hS4 ⊢
        clear hS3 hcf3 hff3
        have Hc2 := hide (show ∀ Z, Z = Y.setCell ⟨w.heap.size, 2, none⟩ (.slice (some ⟨gs, 0, none⟩) m c3) → ShSt w Z ⟨K, c1, some ⟨gf, 0, none⟩, c2, some ⟨gs, 0, none⟩, c3, M, c4⟩ base base w.heap.size (w.heap.size + 2) ⟨K, c1, some ⟨gf, 0, none⟩, c2, some ⟨gs, 0, none⟩, c3, M, c4⟩ (Shp.cutTo { s with full := s.full.set y true } m) by
          rintro Z rfl
          exact hS4.cut (n := m) (by have := Hm.out; show m ≤ s.stack.length; omega))
        have f2 := hS4.bx.box.frozen 2
        obtain ⟨e0, e1, e2, e3, e4⟩ := hS4.bx.cells
        dsimp only at e0 e1 e2 e3 e4
        go_upto_region 36 with fail
        have hS5 := Hc2.out _ rfl
        generalize Y.setCell ⟨w.heap.size, 2, none⟩ (.slice (some ⟨gs, 0, none⟩) m c3) = Z at hS5 ⊢
        clear hS4 e0 e1 e2 e3 e4 f2 Hc2
        obtain ⟨⟨e0, e1, e2, e3, e4⟩, hs5, hown, hbel, hfr⟩ := hS5.ret
        obtain ⟨r0, r1, r2, r3, r4, f0, f1, f2, f3, f4, s0, s1, s2, s3, s4⟩ := hs5
        have hoffs := hS5.offs
        have HR := hide (And.intro hown (And.intro hbel (And.intro hfr hoffs)))
        clear hown hbel hfr hoffs hS5
        dsimp only at e0 e1 e2 e3 e4 r0 r1 r2 r3 r4 s0 s1 s2 s3 s4
        go_wp2
        refine bodyPost_ret (v := .tuple #[shVal ⟨K, c1, some ⟨gf, 0, none⟩, c2, some ⟨gs, 0, none⟩, c3, M, c4⟩ (Shp.cutTo { s with full := s.full.set y true } m), .bool true]) (by simp [shVal, shCells, results, Tryd.results53, go_sem, s0, s1, s2, s3, s4]) rfl ?_
        exact ⟨_, _, _, rfl, HR.out.2.1, HR.out.2.2.1, fun t ht => by (rw [HN.out] at ht; cases ht; exact ⟨rfl, rfl, HR.out.1, HR.out.2.2.2⟩), fun hh => by (rw [HN.out] at hh; cases hh)⟩
    · have tb : (b == 5) = false := by simpa using h5
      have HN := hide (show takeStep s ⟨14, ar⟩ = none by simp [takeStep, HKa.out, HKb.out, hneg, h5])
      go_upto_region 22 with fail
      go_quiet (fail)
      have hS3 := hS.below (below_drewN (Below.refl w2.heap.size w2) nq)
      generalize w2.drewN nq = X at hS3 ⊢
      clear hS e0 e1 e2 e3 e4 d0 d1 lo f2
      obtain ⟨⟨e0, e1, e2, e3, e4⟩, hs5, hown, hbel, hfr⟩ := hS3.ret
      obtain ⟨r0, r1, r2, r3, r4, f0, f1, f2, f3, f4, s0, s1, s2, s3, s4⟩ := hs5
      have HR := hide (And.intro hbel hfr)
      clear hown hbel hfr hS3 
      dsimp only at e0 e1 e2 e3 e4 r0 r1 r2 r3 r4 s0 s1 s2 s3 s4
      go_wp2
      refine bodyPost_ret (v := .tuple #[shVal ⟨K, c1, F, c2, S, c3, M, c4⟩ s, .bool false]) (by simp [shVal, shCells, results, Tryd.results53, go_sem, s0, s1, s2, s3, s4]) rfl ?_
      exact ⟨_, _, _, rfl, HR.out.1, HR.out.2, fun t ht => by (rw [HN.out] at ht; cases ht), fun _ => rfl⟩
end Go.Proofs.YtbihgafkmmcjlaaDoor
