/-
  Lemmas, several texts in one: DrawED, LawED.
-/
import Derived.Test.YthgklkpfmjgeoaaPjAk
import Derived.Test.YthgklkpfmjgeoaaPjBd
import Derived.Test.YthgklkpfmjgeoaaPjBe
import Derived.Test.YthgklkpfmjgeoaaPjAu
import Derived.Test.YthgklkpfmjgeoaaPjAz
import Derived.Test.YthgklkpfmjgeoaaPjBa
import Derived.Test.YthgklkpfmjgeoaaPjAs
import Derived.Deep.RegionHeld3
namespace Go.Proofs.Ythgklkpfmjgeoaa
open Go.RowKit
set_option linter.unusedVariables false

theorem GotG.setE {X : World} {lo : Nat} {A1 : Option Addr} {c1 : Nat} {ms : List Nd} {r1 : Int} (h : GotG X lo A1 c1 ms r1) {b : Nat} (hb : b < lo) (x0 x1 : Value) : GotG ((X.setCell ⟨b, 0, none⟩ x0).setCell ⟨b, 1, none⟩ x1) lo A1 c1 ms r1 := by
  have hf : ∀ k, k ≠ b → ((X.setCell ⟨b, 0, none⟩ x0).setCell ⟨b, 1, none⟩ x1).heap[k]? = X.heap[k]? := fun k hk => (Below.heap_setCell _ _ _ _ hk).trans (Below.heap_setCell _ _ _ _ hk)
  exact ⟨h.sees.step (by simp) (fun k h1 h2 => hf k (by omega)), h.le, h.cap, h.r64⟩

/-- two graphs come back, and old memory is as it was -/
def DrawnE (w : World) (e : Ending) (w' : World) : Prop :=
  ∃ (A1 : Option Addr) (c1 : Nat) (ms : List Nd) (r1 : Int) (A2 : Option Addr) (c2 : Nat) (ns : List Nd) (r2 : Int), e = .returned (.tuple #[.agg #[.slice A1 ms.length c1, .int .i64 r1], .agg #[.slice A2 ns.length c2, .int .i64 r2]]) ∧
    NdsAt w' w'.heap.size A1 ms ∧ NdsAt w' w'.heap.size A2 ns ∧ ms.length ≤ c1 ∧ ns.length ≤ c2 ∧ Below w.heap.size w w'

set_option maxRecDepth 100000 in
set_option maxHeartbeats 2000000 in
theorem drawEqualDeep_any (A : Option Addr) (n c : Nat) (w : World) (h : BytesAt w w.heap.size A n) (hc : n ≤ c) (hn : n ≤ 9223372036854775807) :
    Calls Try.prog 4 #[.slice A n c] w (DrawnE w) := by
  have hB : Below w.heap.size w ((w.alloc (.cells #[.slice none 0 0, .int .i64 0] 25)).alloc (.cells #[.slice none 0 0, .int .i64 0] 25)) := ((Below.refl _ w).alloc (Nat.le_refl _) _).alloc (by simp) _
  have l2 := (Lies.new w #[.slice none 0 0, .int .i64 0] 25).alloc (.cells #[.slice none 0 0, .int .i64 0] 25)
  have l3 := Lies.new (w.alloc (.cells #[.slice none 0 0, .int .i64 0] 25)) #[.slice none 0 0, .int .i64 0] 25
  simp only [World.size_alloc] at l3
  have h2 := (h.later hB).more hB.size
  clear h
  go_enter Try.func4, Try.ntmps4
  go_wp2_with fail
  have hWs : Hid (((w.alloc (.cells #[.slice none 0 0, .int .i64 0] 25)).alloc (.cells #[.slice none 0 0, .int .i64 0] 25)).heap.size = w.heap.size + 1 + 1) := by show _ = _; simp
  generalize (w.alloc (.cells #[.slice none 0 0, .int .i64 0] 25)).alloc (.cells #[.slice none 0 0, .int .i64 0] 25) = W at hB l2 l3 h2 hWs ⊢
  refine (newReader_any A n c W h2 hc hn).mono ?_
  rintro e w1 ⟨rfl, ⟨n', c', hrd⟩, hb1⟩
  have hrl := hrd.box.lt
  have hws : w.heap.size + 1 < W.heap.size := by have := hWs.out; omega
  have l2a := l2.below hb1 (by omega)
  have l3a := l3.below hb1 (by omega)
  have hB1 := hB.trans (hb1.mono hB.size)
  clear l2 l3 h2 hB hb1
  go_wp2_with fail
  refine (alikeGraphs_any W.heap.size A n' c' 0 w1 hrd (by omega)).mono ?_
  rintro e w2 ⟨A1, c1, ms, r1, A2, c2, ns, r2, rfl, ⟨p2, hp2, hr2⟩, hG, hg1, hg2⟩
  have hs2 := hG.size
  have l2b : Lies w2 w.heap.size _ _ := (hG.block _ (by omega) (by omega)).trans l2a
  have l3b : Lies w2 (w.heap.size + 1) _ _ := (hG.block _ (by omega) (by omega)).trans l3a
  have hf : ∀ k, k ≠ w.heap.size → ((w2.setCell ⟨w.heap.size, 0, none⟩ (.slice A1 ms.length c1)).setCell ⟨w.heap.size, 1, none⟩ (.int .i64 r1)).heap[k]? = w2.heap[k]? := fun k hk => (Below.heap_setCell _ _ _ _ hk).trans (Below.heap_setCell _ _ _ _ hk)
  have hf3 : ∀ k, k ≠ w.heap.size + 1 → ((((w2.setCell ⟨w.heap.size, 0, none⟩ (.slice A1 ms.length c1)).setCell ⟨w.heap.size, 1, none⟩ (.int .i64 r1)).setCell ⟨w.heap.size + 1, 0, none⟩ (.slice A2 ns.length c2)).setCell ⟨w.heap.size + 1, 1, none⟩ (.int .i64 r2)).heap[k]? = ((w2.setCell ⟨w.heap.size, 0, none⟩ (.slice A1 ms.length c1)).setCell ⟨w.heap.size, 1, none⟩ (.int .i64 r1)).heap[k]? := fun k hk => (Below.heap_setCell _ _ _ _ hk).trans (Below.heap_setCell _ _ _ _ hk)
  have l2c := (l2b.set 0 (.slice A1 ms.length c1)).set 1 (.int .i64 r1)
  simp only [List.setIfInBounds_toArray, List.set_cons_succ, List.set_cons_zero] at l2c
  have l3c : Lies ((w2.setCell ⟨w.heap.size, 0, none⟩ (.slice A1 ms.length c1)).setCell ⟨w.heap.size, 1, none⟩ (.int .i64 r1)) (w.heap.size + 1) _ _ := (hf _ (by omega)).trans l3b
  have l3d := (l3c.set 0 (.slice A2 ns.length c2)).set 1 (.int .i64 r2)
  simp only [List.setIfInBounds_toArray, List.set_cons_succ, List.set_cons_zero] at l3d
  have l2d : Lies ((((w2.setCell ⟨w.heap.size, 0, none⟩ (.slice A1 ms.length c1)).setCell ⟨w.heap.size, 1, none⟩ (.int .i64 r1)).setCell ⟨w.heap.size + 1, 0, none⟩ (.slice A2 ns.length c2)).setCell ⟨w.heap.size + 1, 1, none⟩ (.int .i64 r2)) w.heap.size _ _ := (hf3 _ (by omega)).trans l2c
  have hgA := ((hg1.setE (b := w.heap.size) (by omega) (.slice A1 ms.length c1) (.int .i64 r1)).setE (b := w.heap.size + 1) (by omega) (.slice A2 ns.length c2) (.int .i64 r2))
  have hgB := ((hg2.setE (b := w.heap.size) (by omega) (.slice A1 ms.length c1) (.int .i64 r1)).setE (b := w.heap.size + 1) (by omega) (.slice A2 ns.length c2) (.int .i64 r2))
  have hB2 := hG.below hB1 (by omega) hB1.size
  have hB3 := (((hB2.setCell (p := ⟨w.heap.size, 0, none⟩) (Nat.le_refl _) (.slice A1 ms.length c1)).setCell (p := ⟨w.heap.size, 1, none⟩) (Nat.le_refl _) (.int .i64 r1)).setCell (p := ⟨w.heap.size + 1, 0, none⟩) (by show _ ≤ w.heap.size + 1; omega) (.slice A2 ns.length c2)).setCell (p := ⟨w.heap.size + 1, 1, none⟩) (by show _ ≤ w.heap.size + 1; omega) (.int .i64 r2)
  have HR := hide (show DrawnE w (.returned (.tuple #[.agg #[.slice A1 ms.length c1, .int .i64 r1], .agg #[.slice A2 ns.length c2, .int .i64 r2]])) _ from ⟨A1, c1, ms, r1, A2, c2, ns, r2, rfl, hgA.sees.here, hgB.sees.here, hgA.cap, hgB.cap, hB3⟩)
  have a0 := l2b.cell 0
  have a1 := l2b.cell 1
  have a2 := l3b.cell 0
  have a3 := l3b.cell 1
  have g0 := l2b.frozen 0
  have g1 := l2b.frozen 1
  have g2 := l3b.frozen 0
  have g3 := l3b.frozen 1
  have q0 := l2d.cell 0
  have q1 := l2d.cell 1
  have q2 := l3d.cell 0
  have q3 := l3d.cell 1
  simp only [List.getElem?_toArray, List.getElem?_cons_zero, List.getElem?_cons_succ] at a0 a1 a2 a3 q0 q1 q2 q3
  clear hG hg1 hg2 l2b l3b hf hf3 l2c l3c l3d l2d hgA hgB hB2 hB3 l2a l3a hB1 hr2 hrd
  go_wp2
  refine bodyPost_ret (v := .tuple #[.agg #[.slice A1 ms.length c1, .int .i64 r1], .agg #[.slice A2 ns.length c2, .int .i64 r2]]) (by simp [results, Try.results4, go_sem, q0, q1, q2, q3]) rfl ?_
  exact HR.out

end Go.Proofs.Ythgklkpfmjgeoaa

namespace Go.Proofs.Ythgklkpfmjgeoaa
open Go.RowKit
set_option linter.unusedVariables false
set_option linter.unusedSimpArgs false

theorem lstN_wfE {ns : List Nd} (r : Int) : WfN (lstN ns r) := by
  by_cases h : ValidG ns r
  · rw [lstN_yes h]
    have hg := least_valid h
    rw [pruned_yes hg]
    exact pick_wf hg (reach_pickable hg)
  · rw [lstN_no h]
    intro n hn
    simp at hn

set_option maxRecDepth 100000 in
set_option maxHeartbeats 4000000 in
theorem lawED_any (A : Option Addr) (n c : Nat) (w : World) (h : BytesAt w w.heap.size A n) (hc : n ≤ c) (hn : n ≤ 9223372036854775807) :
    Calls Try.prog 3 #[.slice A n c] w fun e w' => e = .returned (.bool true) ∧ Below w.heap.size w w' := by
  by_cases hbig : 1048576 < n
  · have d : decide ((1048576 : Int) < (n : Int)) = true := by simp; omega
    go_enter Try.func3, Try.ntmps3
    go_wp2
    go_ret
    exact ⟨rfl, Below.refl _ _⟩
  · have d : decide ((1048576 : Int) < (n : Int)) = false := by simp; omega
    go_enter Try.func3, Try.ntmps3
    go_wp2_with fail
    refine (drawEqualDeep_any A n c w h hc hn).mono ?_
    clear h d
    rintro e w1 ⟨A1, c1, ms, r1, A2, c2, ns, r2, rfl, hn1, hn2, hk1, hk2, hb1⟩
    have hbx : Below w1.heap.size w1 ((w1.alloc (.cells #[.slice A1 ms.length c1, .int .i64 r1] 25)).alloc (.cells #[.slice A2 ns.length c2, .int .i64 r2] 25)) := ((Below.refl _ _).alloc (Nat.le_refl _) _).alloc (by simp) _
    have l4 := Lies.new (w1.alloc (.cells #[.slice A1 ms.length c1, .int .i64 r1] 25)) #[.slice A2 ns.length c2, .int .i64 r2] 25
    simp only [World.size_alloc] at l4
    have hT : TwoL w ((w1.alloc (.cells #[.slice A1 ms.length c1, .int .i64 r1] 25)).alloc (.cells #[.slice A2 ns.length c2, .int .i64 r2] 25)) w1.heap.size (w1.heap.size + 1) A1 c1 ms r1 A2 c2 ns r2 :=
      ⟨hb1.trans (hbx.mono hb1.size), (Lies.new w1 _ _).alloc _, l4, hn1.later hbx (Nat.le_refl _), hn2.later hbx (Nat.le_refl _)⟩
    obtain ⟨e0, e1, e2, e3⟩ := hT.cells
    have HT := hide hT
    clear hT l4 hbx hn1 hn2 hb1
    go_upto_region 4 with fail
    generalize (w1.alloc (.cells #[.slice A1 ms.length c1, .int .i64 r1] 25)).alloc (.cells #[.slice A2 ns.length c2, .int .i64 r2] 25) = X at HT e0 e1 e2 e3 ⊢
    generalize hb4d : w1.heap.size + 1 = b4 at HT e2 e3 ⊢
    clear hb4d
    generalize w1.heap.size = b3 at HT e0 e1 ⊢
    have HC := implEqualDeep_any A1 A2 ms ns c1 c2 r1 r2 X HT.out.na HT.out.nb
    generalize hVd : tf (EqDeepG ms r1 ns r2) = V at HC
    have HVd := hide hVd
    clear hVd
    go_wp2_with fail
    refine HC.mono ?_
    clear HC
    rintro e x1 ⟨rfl, hb⟩
    have HT1 := hide (HT.out.below hb)
    clear HT e0 e1 e2 e3 hb
    obtain ⟨e0, e1, e2, e3⟩ := HT1.out.cells
    have HC := specEqualDeep_any A1 A2 ms ns c1 c2 r1 r2 x1 HT1.out.na HT1.out.nb
    rw [HVd.out] at HC
    go_wp2_with fail
    refine HC.mono ?_
    clear HC
    rintro e x2 ⟨rfl, hb⟩
    have HT2 := hide (HT1.out.below hb)
    clear HT1 e0 e1 e2 e3 hb
    obtain ⟨e0, e1, e2, e3⟩ := HT2.out.cells
    cases V with
    | true =>
      by_cases hva : ValidG ms r1
      · have Hva := hide hva
        clear hva
        have HC := implValid_any A1 ms c1 r1 x2 HT2.out.na
        rw [tf_true Hva.out] at HC
        go_wp2_with fail
        refine HC.mono ?_
        clear HC
        rintro e x3 ⟨rfl, hb⟩
        have HT3 := hide (HT2.out.below hb)
        clear HT2 e0 e1 e2 e3 hb
        obtain ⟨e0, e1, e2, e3⟩ := HT3.out.cells
        by_cases hvb : ValidG ns r2
        · have Hvb := hide hvb
          clear hvb
          have HC := implValid_any A2 ns c2 r2 x3 HT3.out.nb
          rw [tf_true Hvb.out] at HC
          go_wp2_with fail
          refine HC.mono ?_
          clear HC
          rintro e x4 ⟨rfl, hb⟩
          have HT4 := hide (HT3.out.below hb)
          clear HT3 e0 e1 e2 e3 hb
          obtain ⟨e0, e1, e2, e3⟩ := HT4.out.cells
          have HTd := hide (HT4.out.below ((Below.refl _ x4).drew))
          have HLa := hide fun X (hX : NdsAt X X.heap.size A1 ms) => implLeast_any A1 ms c1 r1 X hX hk1
          have HLb := hide fun X (hX : NdsAt X X.heap.size A2 ns) => implLeast_any A2 ns c2 r2 X hX hk2
          have hwa := lstN_wfE (ns := ms) r1
          have hwb := lstN_wfE (ns := ns) r2
          have hla := (lstN_smallN ms r1).len
          have hlb := (lstN_smallN ns r2).len
          have hSm : tf (SameG (lstN ms r1) 0 (lstN ns r2) 0) = true := by
            rw [← HVd.out]
            exact congrArg (fun p => tf p) (propext (least_decides Hva.out Hvb.out hwa hwb).symm)
          have HDb := hide fun X (hX : NdsAt X X.heap.size A1 ms) (hY : NdsAt X X.heap.size A2 ns) => implEqualDeep_any A2 A1 ns ms c2 c1 r2 r1 X hY hX
          rw [show EqDeepG ns r2 ms r1 = EqDeepG ms r1 ns r2 from propext deep_symm, HVd.out] at HDb
          clear HVd Hva Hvb
          generalize lstN ms r1 = ma at HLa hwa hla hSm
          generalize lstN ns r2 = mb at HLb hwb hlb hSm
          have HSg := hide fun (Aa Ab : Option Addr) (ca cb : Nat) X (hX : NdsAt X X.heap.size Aa ma) (hY : NdsAt X X.heap.size Ab mb) => implSame_any Aa Ab ma mb ca cb 0 0 X hX hY
          rw [hSm] at HSg
          have Hwa := hide hwa
          have Hwb := hide hwb
          clear hwa hwb hSm
          clear e0 e1 e2 e3
          obtain ⟨e0, e1, e2, e3⟩ := HTd.out.cells
          go_wp2_with fail
          refine wp_region_held_drew (S := (fun w' => w'.cell? ⟨b3, 0, none⟩ = some (.slice A1 ms.length c1) ∧ w'.cell? ⟨b3, 1, none⟩ = some (.int .i64 r1) ∧ w'.cell? ⟨b4, 0, none⟩ = some (.slice A2 ns.length c2) ∧ w'.cell? ⟨b4, 1, none⟩ = some (.int .i64 r2))) (by kernel_rfl) HTd.out.cells (fun hHeld => ?_)
          refine wpAnyH_take (i := 0) (oi := { dst := some 37, op := _, type := _, pos := _, after := _, guard := _ }) (v := ?_) rfl (by kernel_rfl) (by kernel_rfl) (by kernel_rfl) (fun _ _ _ h => h) (Or.inl ⟨by rfl, ?_⟩) (by assumption) ?_
          rotate_left
          · (intro w hSw; (try dsimp only at hSw); go_simp; try with_reducible rfl)
          try simp only [Act.put, List.setIfInBounds_toArray, List.set_cons_zero, List.set_cons_succ]
          refine wpAnyH_take (i := 1) (oi := { dst := some 38, op := _, type := _, pos := _, after := _, guard := _ }) (v := ?_) rfl (by kernel_rfl) (by kernel_rfl) (by kernel_rfl) (fun _ _ _ h => h) (Or.inl ⟨by rfl, ?_⟩) (by assumption) ?_
          rotate_left
          · (intro w hSw; (try dsimp only at hSw); go_simp; try with_reducible rfl)
          try simp only [Act.put, List.setIfInBounds_toArray, List.set_cons_zero, List.set_cons_succ]
          refine wpAnyH_take (i := 3) (oi := { dst := some 40, op := _, type := _, pos := _, after := _, guard := _ }) (v := ?_) rfl (by kernel_rfl) (by kernel_rfl) (by kernel_rfl) (fun _ _ _ h => h) (Or.inl ⟨by rfl, ?_⟩) (by assumption) ?_
          rotate_left
          · (intro w hSw; (try dsimp only at hSw); go_simp; try with_reducible rfl)
          try simp only [Act.put, List.setIfInBounds_toArray, List.set_cons_zero, List.set_cons_succ]
          refine wpAnyH_ready (rs := [2]) (by kernel_rfl) (by simp) ?_
          refine AllReadyH.cons (o := { dst := some 39, op := _, type := _, pos := _, after := _, guard := _ }) rfl (fun K hK => ?_) AllReadyH.nil
          go_simp
          go_at_call 9
          have HJ := HLa.out x4.drew HTd.out.na
          refine HJ.mono ?_
          clear HJ
          rintro e y1 ⟨Aa, ca, rfl, hoa, hb⟩
          have HNa := hide (hoa.nds Hwa.out (by omega))
          clear hoa
          have HT1y := hide (HTd.out.below hb)
          clear hb
          dsimp only
          refine hK.out _ _ HT1y.out.cells (fun hH => ?_)
          clear hK K hHeld
          have hHeld := hH
          clear hH
          try simp only [Act.put, List.setIfInBounds_toArray, List.set_cons_zero, List.set_cons_succ]
          refine wpAnyH_ready (rs := [4]) (by kernel_rfl) (by simp) ?_
          refine AllReadyH.cons (o := { dst := some 41, op := _, type := _, pos := _, after := _, guard := _ }) rfl (fun K hK => ?_) AllReadyH.nil
          go_simp
          go_at_call 9
          have HJ := HLb.out y1 HT1y.out.nb
          refine HJ.mono ?_
          clear HJ
          rintro e y2 ⟨Ab, cb, rfl, hob, hb⟩
          have HNb := hide (hob.nds Hwb.out (by omega))
          clear hob
          have HNa := hide (HNa.out.later hb (Nat.le_refl _))
          have HT2y := hide (HT1y.out.below hb)
          clear hb
          dsimp only
          refine hK.out _ _ HT2y.out.cells (fun hH => ?_)
          clear hK K hHeld
          have hHeld := hH
          clear hH
          try simp only [Act.put, List.setIfInBounds_toArray, List.set_cons_zero, List.set_cons_succ]
          refine wpAnyH_ready (rs := [5]) (by kernel_rfl) (by simp) ?_
          refine AllReadyH.cons (o := { dst := some 42, op := _, type := _, pos := _, after := _, guard := _ }) rfl (fun K hK => ?_) AllReadyH.nil
          go_simp
          go_at_call 8
          have HJ := HSg.out Aa Ab ca cb y2 HNa.out HNb.out
          refine HJ.mono ?_
          clear HJ
          rintro e y3 ⟨rfl, hb⟩
          have HT3y := hide (HT2y.out.below hb)
          clear hb
          dsimp only
          refine hK.out _ _ HT3y.out.cells (fun hH => ?_)
          clear hK K hHeld
          have hHeld := hH
          clear hH
          try simp only [Act.put, List.setIfInBounds_toArray, List.set_cons_zero, List.set_cons_succ]
          refine wpAnyH_take (i := 6) (oi := { dst := some 43, op := _, type := _, pos := _, after := _, guard := _ }) (v := ?_) rfl (by kernel_rfl) (by kernel_rfl) (by kernel_rfl) (fun _ _ _ h => h) (Or.inl ⟨by rfl, ?_⟩) (by assumption) ?_
          rotate_left
          · (intro w hSw; (try dsimp only at hSw); go_simp; try with_reducible rfl)
          try simp only [Act.put, List.setIfInBounds_toArray, List.set_cons_zero, List.set_cons_succ]
          refine wpAnyH_take (i := 7) (oi := { dst := some 44, op := _, type := _, pos := _, after := _, guard := _ }) (v := ?_) rfl (by kernel_rfl) (by kernel_rfl) (by kernel_rfl) (fun _ _ _ h => h) (Or.inl ⟨by rfl, ?_⟩) (by assumption) ?_
          rotate_left
          · (intro w hSw; (try dsimp only at hSw); go_simp; try with_reducible rfl)
          try simp only [Act.put, List.setIfInBounds_toArray, List.set_cons_zero, List.set_cons_succ]
          refine wpAnyH_take (i := 8) (oi := { dst := some 45, op := _, type := _, pos := _, after := _, guard := _ }) (v := ?_) rfl (by kernel_rfl) (by kernel_rfl) (by kernel_rfl) (fun _ _ _ h => h) (Or.inl ⟨by rfl, ?_⟩) (by assumption) ?_
          rotate_left
          · (intro w hSw; (try dsimp only at hSw); go_simp; try with_reducible rfl)
          try simp only [Act.put, List.setIfInBounds_toArray, List.set_cons_zero, List.set_cons_succ]
          refine wpAnyH_take (i := 9) (oi := { dst := some 46, op := _, type := _, pos := _, after := _, guard := _ }) (v := ?_) rfl (by kernel_rfl) (by kernel_rfl) (by kernel_rfl) (fun _ _ _ h => h) (Or.inl ⟨by rfl, ?_⟩) (by assumption) ?_
          rotate_left
          · (intro w hSw; (try dsimp only at hSw); go_simp; try with_reducible rfl)
          try simp only [Act.put, List.setIfInBounds_toArray, List.set_cons_zero, List.set_cons_succ]
          refine wpAnyH_take (i := 10) (oi := { dst := some 47, op := _, type := _, pos := _, after := _, guard := _ }) (v := ?_) rfl (by kernel_rfl) (by kernel_rfl) (by kernel_rfl) (fun _ _ _ h => h) (Or.inl ⟨by rfl, ?_⟩) (by assumption) ?_
          rotate_left
          · (intro w hSw; (try dsimp only at hSw); go_simp; try with_reducible rfl)
          try simp only [Act.put, List.setIfInBounds_toArray, List.set_cons_zero, List.set_cons_succ]
          refine wpAnyH_ready (rs := [11]) (by kernel_rfl) (by simp) ?_
          refine AllReadyH.cons (o := { dst := some 48, op := _, type := _, pos := _, after := _, guard := _ }) rfl (fun K hK => ?_) AllReadyH.nil
          rw [if_pos (by rfl)]
          go_simp
          go_at_call 5
          have HJ := HDb.out y3 HT3y.out.na HT3y.out.nb
          refine HJ.mono ?_
          clear HJ
          rintro e y4 ⟨rfl, hb⟩
          have HT4y := hide (HT3y.out.below hb)
          clear hb
          dsimp only
          refine hK.out _ _ HT4y.out.cells (fun hH => ?_)
          clear hK K hHeld
          have hHeld := hH
          clear hH
          try simp only [Act.put, List.setIfInBounds_toArray, List.set_cons_zero, List.set_cons_succ]
          refine wpAnyH_take (i := 12) (oi := { dst := some 49, op := _, type := _, pos := _, after := _, guard := _ }) (v := ?_) rfl (by kernel_rfl) (by kernel_rfl) (by kernel_rfl) (fun _ _ _ h => h) (Or.inl ⟨by rfl, ?_⟩) (by assumption) ?_
          rotate_left
          · (intro w hSw; (try dsimp only at hSw); go_simp; try with_reducible rfl)
          try simp only [Act.put, List.setIfInBounds_toArray, List.set_cons_zero, List.set_cons_succ]
          refine wpAnyH_take (i := 13) (oi := { dst := some 50, op := _, type := _, pos := _, after := _, guard := _ }) (v := ?_) rfl (by kernel_rfl) (by kernel_rfl) (by kernel_rfl) (fun _ _ _ h => h) (Or.inl ⟨by rfl, ?_⟩) (by assumption) ?_
          rotate_left
          · (intro w hSw; (try dsimp only at hSw); go_simp; try with_reducible rfl)
          try simp only [Act.put, List.setIfInBounds_toArray, List.set_cons_zero, List.set_cons_succ]
          refine wpAnyH_ready (rs := [14]) (by kernel_rfl) (by simp) ?_
          refine AllReadyH.cons (o := { dst := some 2, op := _, type := _, pos := _, after := _, guard := _ }) rfl (fun K hK => ?_) AllReadyH.nil
          go_simp
          refine hK.out _ _ hHeld (fun hH => ?_)
          clear hK K hHeld
          have hHeld := hH
          clear hH
          try simp only [Act.put, List.setIfInBounds_toArray, List.set_cons_zero, List.set_cons_succ]
          refine wpAnyH_done (by kernel_rfl) ?_ _
          have HB := hide HT4y.out.bel
          clear hHeld
          go_wp2
          go_ret
          exact ⟨rfl, HB.out⟩
        · have Hvb := hide hvb
          clear hvb
          have HC := implValid_any A2 ns c2 r2 x3 HT3.out.nb
          rw [tf_false Hvb.out] at HC
          go_wp2_with fail
          refine HC.mono ?_
          clear HC
          rintro e x4 ⟨rfl, hb⟩
          have HT4 := hide (HT3.out.below hb)
          clear HT3 e0 e1 e2 e3 hb
          obtain ⟨e0, e1, e2, e3⟩ := HT4.out.cells
          have HC := specEqualDeep_any A1 A2 ms ns c1 c2 r1 r2 x4 HT4.out.na HT4.out.nb
          rw [HVd.out] at HC
          go_wp2_with fail
          refine HC.mono ?_
          clear HC
          rintro e x9 ⟨rfl, hb⟩
          have HB := hide (HT4.out.below hb).bel
          clear HT4 e0 e1 e2 e3 hb
          go_wp2
          go_ret
          exact ⟨rfl, HB.out⟩
      · have Hva := hide hva
        clear hva
        have HC := implValid_any A1 ms c1 r1 x2 HT2.out.na
        rw [tf_false Hva.out] at HC
        go_wp2_with fail
        refine HC.mono ?_
        clear HC
        rintro e x3 ⟨rfl, hb⟩
        have HT3 := hide (HT2.out.below hb)
        clear HT2 e0 e1 e2 e3 hb
        obtain ⟨e0, e1, e2, e3⟩ := HT3.out.cells
        have HC := specEqualDeep_any A1 A2 ms ns c1 c2 r1 r2 x3 HT3.out.na HT3.out.nb
        rw [HVd.out] at HC
        go_wp2_with fail
        refine HC.mono ?_
        clear HC
        rintro e x9 ⟨rfl, hb⟩
        have HB := hide (HT3.out.below hb).bel
        clear HT3 e0 e1 e2 e3 hb
        go_wp2
        go_ret
        exact ⟨rfl, HB.out⟩
    | false =>
      by_cases hva : ValidG ms r1
      · have Hva := hide hva
        clear hva
        have HC := implValid_any A1 ms c1 r1 x2 HT2.out.na
        rw [tf_true Hva.out] at HC
        go_wp2_with fail
        refine HC.mono ?_
        clear HC
        rintro e x3 ⟨rfl, hb⟩
        have HT3 := hide (HT2.out.below hb)
        clear HT2 e0 e1 e2 e3 hb
        obtain ⟨e0, e1, e2, e3⟩ := HT3.out.cells
        by_cases hvb : ValidG ns r2
        · have Hvb := hide hvb
          clear hvb
          have HC := implValid_any A2 ns c2 r2 x3 HT3.out.nb
          rw [tf_true Hvb.out] at HC
          go_wp2_with fail
          refine HC.mono ?_
          clear HC
          rintro e x4 ⟨rfl, hb⟩
          have HT4 := hide (HT3.out.below hb)
          clear HT3 e0 e1 e2 e3 hb
          obtain ⟨e0, e1, e2, e3⟩ := HT4.out.cells
          have HTd := hide (HT4.out.below ((Below.refl _ x4).drew))
          have HLa := hide fun X (hX : NdsAt X X.heap.size A1 ms) => implLeast_any A1 ms c1 r1 X hX hk1
          have HLb := hide fun X (hX : NdsAt X X.heap.size A2 ns) => implLeast_any A2 ns c2 r2 X hX hk2
          have hwa := lstN_wfE (ns := ms) r1
          have hwb := lstN_wfE (ns := ns) r2
          have hla := (lstN_smallN ms r1).len
          have hlb := (lstN_smallN ns r2).len
          have hSm : tf (SameG (lstN ms r1) 0 (lstN ns r2) 0) = false := by
            rw [← HVd.out]
            exact congrArg (fun p => tf p) (propext (least_decides Hva.out Hvb.out hwa hwb).symm)
          have HDb := hide fun X (hX : NdsAt X X.heap.size A1 ms) (hY : NdsAt X X.heap.size A2 ns) => implEqualDeep_any A2 A1 ns ms c2 c1 r2 r1 X hY hX
          rw [show EqDeepG ns r2 ms r1 = EqDeepG ms r1 ns r2 from propext deep_symm, HVd.out] at HDb
          clear HVd Hva Hvb
          generalize lstN ms r1 = ma at HLa hwa hla hSm
          generalize lstN ns r2 = mb at HLb hwb hlb hSm
          have HSg := hide fun (Aa Ab : Option Addr) (ca cb : Nat) X (hX : NdsAt X X.heap.size Aa ma) (hY : NdsAt X X.heap.size Ab mb) => implSame_any Aa Ab ma mb ca cb 0 0 X hX hY
          rw [hSm] at HSg
          have Hwa := hide hwa
          have Hwb := hide hwb
          clear hwa hwb hSm
          clear e0 e1 e2 e3
          obtain ⟨e0, e1, e2, e3⟩ := HTd.out.cells
          go_wp2_with fail
          refine wp_region_held_drew (S := (fun w' => w'.cell? ⟨b3, 0, none⟩ = some (.slice A1 ms.length c1) ∧ w'.cell? ⟨b3, 1, none⟩ = some (.int .i64 r1) ∧ w'.cell? ⟨b4, 0, none⟩ = some (.slice A2 ns.length c2) ∧ w'.cell? ⟨b4, 1, none⟩ = some (.int .i64 r2))) (by kernel_rfl) HTd.out.cells (fun hHeld => ?_)
          refine wpAnyH_take (i := 0) (oi := { dst := some 37, op := _, type := _, pos := _, after := _, guard := _ }) (v := ?_) rfl (by kernel_rfl) (by kernel_rfl) (by kernel_rfl) (fun _ _ _ h => h) (Or.inl ⟨by rfl, ?_⟩) (by assumption) ?_
          rotate_left
          · (intro w hSw; (try dsimp only at hSw); go_simp; try with_reducible rfl)
          try simp only [Act.put, List.setIfInBounds_toArray, List.set_cons_zero, List.set_cons_succ]
          refine wpAnyH_take (i := 1) (oi := { dst := some 38, op := _, type := _, pos := _, after := _, guard := _ }) (v := ?_) rfl (by kernel_rfl) (by kernel_rfl) (by kernel_rfl) (fun _ _ _ h => h) (Or.inl ⟨by rfl, ?_⟩) (by assumption) ?_
          rotate_left
          · (intro w hSw; (try dsimp only at hSw); go_simp; try with_reducible rfl)
          try simp only [Act.put, List.setIfInBounds_toArray, List.set_cons_zero, List.set_cons_succ]
          refine wpAnyH_take (i := 3) (oi := { dst := some 40, op := _, type := _, pos := _, after := _, guard := _ }) (v := ?_) rfl (by kernel_rfl) (by kernel_rfl) (by kernel_rfl) (fun _ _ _ h => h) (Or.inl ⟨by rfl, ?_⟩) (by assumption) ?_
          rotate_left
          · (intro w hSw; (try dsimp only at hSw); go_simp; try with_reducible rfl)
          try simp only [Act.put, List.setIfInBounds_toArray, List.set_cons_zero, List.set_cons_succ]
          refine wpAnyH_ready (rs := [2]) (by kernel_rfl) (by simp) ?_
          refine AllReadyH.cons (o := { dst := some 39, op := _, type := _, pos := _, after := _, guard := _ }) rfl (fun K hK => ?_) AllReadyH.nil
          go_simp
          go_at_call 9
          have HJ := HLa.out x4.drew HTd.out.na
          refine HJ.mono ?_
          clear HJ
          rintro e y1 ⟨Aa, ca, rfl, hoa, hb⟩
          have HNa := hide (hoa.nds Hwa.out (by omega))
          clear hoa
          have HT1y := hide (HTd.out.below hb)
          clear hb
          dsimp only
          refine hK.out _ _ HT1y.out.cells (fun hH => ?_)
          clear hK K hHeld
          have hHeld := hH
          clear hH
          try simp only [Act.put, List.setIfInBounds_toArray, List.set_cons_zero, List.set_cons_succ]
          refine wpAnyH_ready (rs := [4]) (by kernel_rfl) (by simp) ?_
          refine AllReadyH.cons (o := { dst := some 41, op := _, type := _, pos := _, after := _, guard := _ }) rfl (fun K hK => ?_) AllReadyH.nil
          go_simp
          go_at_call 9
          have HJ := HLb.out y1 HT1y.out.nb
          refine HJ.mono ?_
          clear HJ
          rintro e y2 ⟨Ab, cb, rfl, hob, hb⟩
          have HNb := hide (hob.nds Hwb.out (by omega))
          clear hob
          have HNa := hide (HNa.out.later hb (Nat.le_refl _))
          have HT2y := hide (HT1y.out.below hb)
          clear hb
          dsimp only
          refine hK.out _ _ HT2y.out.cells (fun hH => ?_)
          clear hK K hHeld
          have hHeld := hH
          clear hH
          try simp only [Act.put, List.setIfInBounds_toArray, List.set_cons_zero, List.set_cons_succ]
          refine wpAnyH_ready (rs := [5]) (by kernel_rfl) (by simp) ?_
          refine AllReadyH.cons (o := { dst := some 42, op := _, type := _, pos := _, after := _, guard := _ }) rfl (fun K hK => ?_) AllReadyH.nil
          go_simp
          go_at_call 8
          have HJ := HSg.out Aa Ab ca cb y2 HNa.out HNb.out
          refine HJ.mono ?_
          clear HJ
          rintro e y3 ⟨rfl, hb⟩
          have HT3y := hide (HT2y.out.below hb)
          clear hb
          dsimp only
          refine hK.out _ _ HT3y.out.cells (fun hH => ?_)
          clear hK K hHeld
          have hHeld := hH
          clear hH
          try simp only [Act.put, List.setIfInBounds_toArray, List.set_cons_zero, List.set_cons_succ]
          refine wpAnyH_take (i := 6) (oi := { dst := some 43, op := _, type := _, pos := _, after := _, guard := _ }) (v := ?_) rfl (by kernel_rfl) (by kernel_rfl) (by kernel_rfl) (fun _ _ _ h => h) (Or.inl ⟨by rfl, ?_⟩) (by assumption) ?_
          rotate_left
          · (intro w hSw; (try dsimp only at hSw); go_simp; try with_reducible rfl)
          try simp only [Act.put, List.setIfInBounds_toArray, List.set_cons_zero, List.set_cons_succ]
          refine wpAnyH_take (i := 7) (oi := { dst := some 44, op := _, type := _, pos := _, after := _, guard := _ }) (v := ?_) rfl (by kernel_rfl) (by kernel_rfl) (by kernel_rfl) (fun _ _ _ h => h) (Or.inl ⟨by rfl, ?_⟩) (by assumption) ?_
          rotate_left
          · (intro w hSw; (try dsimp only at hSw); go_simp; try with_reducible rfl)
          try simp only [Act.put, List.setIfInBounds_toArray, List.set_cons_zero, List.set_cons_succ]
          refine wpAnyH_take (i := 8) (oi := { dst := some 45, op := _, type := _, pos := _, after := _, guard := _ }) (v := ?_) rfl (by kernel_rfl) (by kernel_rfl) (by kernel_rfl) (fun _ _ _ h => h) (Or.inl ⟨by rfl, ?_⟩) (by assumption) ?_
          rotate_left
          · (intro w hSw; (try dsimp only at hSw); go_simp; try with_reducible rfl)
          try simp only [Act.put, List.setIfInBounds_toArray, List.set_cons_zero, List.set_cons_succ]
          refine wpAnyH_take (i := 9) (oi := { dst := some 46, op := _, type := _, pos := _, after := _, guard := _ }) (v := ?_) rfl (by kernel_rfl) (by kernel_rfl) (by kernel_rfl) (fun _ _ _ h => h) (Or.inl ⟨by rfl, ?_⟩) (by assumption) ?_
          rotate_left
          · (intro w hSw; (try dsimp only at hSw); go_simp; try with_reducible rfl)
          try simp only [Act.put, List.setIfInBounds_toArray, List.set_cons_zero, List.set_cons_succ]
          refine wpAnyH_take (i := 10) (oi := { dst := some 47, op := _, type := _, pos := _, after := _, guard := _ }) (v := ?_) rfl (by kernel_rfl) (by kernel_rfl) (by kernel_rfl) (fun _ _ _ h => h) (Or.inl ⟨by rfl, ?_⟩) (by assumption) ?_
          rotate_left
          · (intro w hSw; (try dsimp only at hSw); go_simp; try with_reducible rfl)
          try simp only [Act.put, List.setIfInBounds_toArray, List.set_cons_zero, List.set_cons_succ]
          refine wpAnyH_ready (rs := [11]) (by kernel_rfl) (by simp) ?_
          refine AllReadyH.cons (o := { dst := some 48, op := _, type := _, pos := _, after := _, guard := _ }) rfl (fun K hK => ?_) AllReadyH.nil
          rw [if_pos (by rfl)]
          go_simp
          go_at_call 5
          have HJ := HDb.out y3 HT3y.out.na HT3y.out.nb
          refine HJ.mono ?_
          clear HJ
          rintro e y4 ⟨rfl, hb⟩
          have HT4y := hide (HT3y.out.below hb)
          clear hb
          dsimp only
          refine hK.out _ _ HT4y.out.cells (fun hH => ?_)
          clear hK K hHeld
          have hHeld := hH
          clear hH
          try simp only [Act.put, List.setIfInBounds_toArray, List.set_cons_zero, List.set_cons_succ]
          refine wpAnyH_take (i := 12) (oi := { dst := some 49, op := _, type := _, pos := _, after := _, guard := _ }) (v := ?_) rfl (by kernel_rfl) (by kernel_rfl) (by kernel_rfl) (fun _ _ _ h => h) (Or.inl ⟨by rfl, ?_⟩) (by assumption) ?_
          rotate_left
          · (intro w hSw; (try dsimp only at hSw); go_simp; try with_reducible rfl)
          try simp only [Act.put, List.setIfInBounds_toArray, List.set_cons_zero, List.set_cons_succ]
          refine wpAnyH_take (i := 13) (oi := { dst := some 50, op := _, type := _, pos := _, after := _, guard := _ }) (v := ?_) rfl (by kernel_rfl) (by kernel_rfl) (by kernel_rfl) (fun _ _ _ h => h) (Or.inl ⟨by rfl, ?_⟩) (by assumption) ?_
          rotate_left
          · (intro w hSw; (try dsimp only at hSw); go_simp; try with_reducible rfl)
          try simp only [Act.put, List.setIfInBounds_toArray, List.set_cons_zero, List.set_cons_succ]
          refine wpAnyH_ready (rs := [14]) (by kernel_rfl) (by simp) ?_
          refine AllReadyH.cons (o := { dst := some 2, op := _, type := _, pos := _, after := _, guard := _ }) rfl (fun K hK => ?_) AllReadyH.nil
          go_simp
          refine hK.out _ _ hHeld (fun hH => ?_)
          clear hK K hHeld
          have hHeld := hH
          clear hH
          try simp only [Act.put, List.setIfInBounds_toArray, List.set_cons_zero, List.set_cons_succ]
          refine wpAnyH_done (by kernel_rfl) ?_ _
          have HB := hide HT4y.out.bel
          clear hHeld
          go_wp2
          go_ret
          exact ⟨rfl, HB.out⟩
        · have Hvb := hide hvb
          clear hvb
          have HC := implValid_any A2 ns c2 r2 x3 HT3.out.nb
          rw [tf_false Hvb.out] at HC
          go_wp2_with fail
          refine HC.mono ?_
          clear HC
          rintro e x4 ⟨rfl, hb⟩
          have HT4 := hide (HT3.out.below hb)
          clear HT3 e0 e1 e2 e3 hb
          obtain ⟨e0, e1, e2, e3⟩ := HT4.out.cells
          have HC := specEqualDeep_any A1 A2 ms ns c1 c2 r1 r2 x4 HT4.out.na HT4.out.nb
          rw [HVd.out] at HC
          go_wp2_with fail
          refine HC.mono ?_
          clear HC
          rintro e x9 ⟨rfl, hb⟩
          have HB := hide (HT4.out.below hb).bel
          clear HT4 e0 e1 e2 e3 hb
          go_wp2
          go_ret
          exact ⟨rfl, HB.out⟩
      · have Hva := hide hva
        clear hva
        have HC := implValid_any A1 ms c1 r1 x2 HT2.out.na
        rw [tf_false Hva.out] at HC
        go_wp2_with fail
        refine HC.mono ?_
        clear HC
        rintro e x3 ⟨rfl, hb⟩
        have HT3 := hide (HT2.out.below hb)
        clear HT2 e0 e1 e2 e3 hb
        obtain ⟨e0, e1, e2, e3⟩ := HT3.out.cells
        have HC := specEqualDeep_any A1 A2 ms ns c1 c2 r1 r2 x3 HT3.out.na HT3.out.nb
        rw [HVd.out] at HC
        go_wp2_with fail
        refine HC.mono ?_
        clear HC
        rintro e x9 ⟨rfl, hb⟩
        have HB := hide (HT3.out.below hb).bel
        clear HT3 e0 e1 e2 e3 hb
        go_wp2
        go_ret
        exact ⟨rfl, HB.out⟩

end Go.Proofs.Ythgklkpfmjgeoaa
