/-
  Lemmas, several texts in one: Lst0S, MrgS.
-/
import Derived.Test.YthgklkpfmjgeoaaPjAo
import Derived.Test.YthgklkpfmjgeoaaPjAn
import Derived.Test.YthgklkpfmjgeoaaCgS
import Derived.Test.YthgklkpfmjgeoaaPjBa
import Derived.Test.YthgklkpfmjgeoaaPjAp
import Derived.Test.YthgklkpfmjgeoaaPjAu
import Derived.Test.YthgklkpfmjgeoaaKyS
import Derived.Test.YthgklkpfmjgeoaaPjAf
import Derived.Deep.RegionHeld3
namespace Go.Proofs.Ythgklkpfmjgeoaa
open Go.RowKit Go.Maps
set_option linter.unusedVariables false
set_option linter.unusedSimpArgs false

theorem ReadsG.putQ {w wd w2 : World} {q : Nat} {A : Option Addr} {c : Nat} {ms : List Nd} {r : Int} (hq0 : w.heap.size ≤ q) (hq : q < wd.heap.size) (h0 : Below w.heap.size w wd) (hrow : RowN w2 wd.heap.size A c ms) (hwf : WfN ms) (h2 : Below wd.heap.size wd w2) :
    ReadsG w ms r (.returned (.agg #[.slice A ms.length c, .int .i64 r])) ((w2.setCell ⟨q, 0, none⟩ (.slice A ms.length c)).setCell ⟨q, 1, none⟩ (.int .i64 r)) := by
  have hk := hrow.keep (w' := (w2.setCell ⟨q, 0, none⟩ (.slice A ms.length c)).setCell ⟨q, 1, none⟩ (.int .i64 r)) (fun b hb _ => (Below.heap_setCell _ _ _ _ (by show b ≠ q; omega)).trans (Below.heap_setCell _ _ _ _ (by show b ≠ q; omega)))
  exact ⟨A, c, rfl, hk.low h0.size, hwf, ((h0.trans (h2.mono h0.size)).setCell (p := ⟨q, 0, none⟩) hq0 _).setCell (p := ⟨q, 1, none⟩) hq0 _⟩

theorem ReadsG.zero (w w' : World) (hb : Below w.heap.size w w') : ReadsG w [] 0 (.returned (.agg #[.slice none 0 0, .int .i64 0])) w' :=
  ⟨none, 0, rfl, RowN.nil _ _, fun n hn => by simp at hn, hb⟩

set_option maxRecDepth 100000 in
set_option maxHeartbeats 4000000 in
theorem specLeast0_any (A : Option Addr) (ns : List Nd) (c : Nat) (r : Int) (w : World) (hr : NdsAt w w.heap.size A ns) (hv : ValidG ns r) :
    Calls Try.prog 30 #[.agg #[.slice A ns.length c, .int .i64 r]] w (ReadsG w (lstN ns r) 0) := by
  have hB2 : Below w.heap.size w ((w.alloc (.cells #[.slice A ns.length c, .int .i64 r] 25)).alloc (.cells #[.slice none 0 0, .int .i64 0] 25)) := ((Below.refl _ _).alloc (Nat.le_refl _) _).alloc (by simp) _
  have lG := (Lies.new w #[.slice A ns.length c, .int .i64 r] 25).alloc (.cells #[.slice none 0 0, .int .i64 0] 25)
  have lR := Lies.new (w.alloc (.cells #[.slice A ns.length c, .int .i64 r] 25)) #[.slice none 0 0, .int .i64 0] 25
  simp only [World.size_alloc] at lR
  have hr2 := hr.later hB2 (Nat.le_refl _)
  have HV := hide hv
  have hfew := hv.few
  have hpos : 0 < ns.length := by have := hv.root0; have := hv.root; omega
  obtain ⟨ri, rfl⟩ := Int.eq_ofNat_of_zero_le hv.root0
  have hril : ri < ns.length := by have := hv.root; omega
  clear hr hv
  go_enter Try.func30, Try.ntmps30
  go_upto_region 1 with fail
  generalize (w.alloc (.cells #[.slice A ns.length c, .int .i64 (ri : Int)] 25)).alloc (.cells #[.slice none 0 0, .int .i64 0] 25) = W at hB2 lG lR hr2 ⊢
  have g0 := lG.cell 0
  have g1 := lG.cell 1
  simp only [List.getElem?_toArray, List.getElem?_cons_zero, List.getElem?_cons_succ] at g0 g1
  go_wp2_with fail
  refine (specClasses_any A ns c W hr2 (validG_kids HV.out) (by omega)).mono ?_
  rintro e w1 ⟨Ac, cc, rfl, hoc, hb1⟩
  have hlen := hide (clsN_len ns ns.length)
  have H64 := hide (clsN_64 (ns := ns) (d := ns.length) (by omega))
  have HLV := hide (least_valid HV.out)
  have HLd := hide (lstN_yes HV.out)
  have HCong := hide (cong_cls (validG_kids HV.out))
  have hI := hoc.ints H64.out (by rw [hlen.out]; omega)
  have hI1 : IntsAt w1 w1.heap.size Ac (clsN ns ns.length) := hI
  obtain ⟨lb, lf, y0, rfl, hlb, _, _, _⟩ := hI1.at_ (k := 0) (by rw [hlen.out]; exact hpos)
  have HI := hide hI1
  have HWf := hide (replNs_wf hr2.wf (validG_kids HV.out) (clsN_len ns ns.length) H64.out)
  have hW1 := lG.lt
  have hW2 := lR.lt
  have HLG := hide (lG.below hb1 lG.lt)
  have HLR := hide (lR.below hb1 lR.lt)
  have HR3 := hide (hr2.later hb1 (Nat.le_refl _))
  have HB3 := hide (hB2.trans (hb1.mono hB2.size))
  have hGl := HLG.out.lt
  have hRl := HLR.out.lt
  clear lG lR hr2 hB2 hb1 g0 g1 hoc hI hI1 hW1 hW2
  have e0 := HLG.out.cell 0
  have e1 := HLG.out.cell 1
  simp only [List.getElem?_toArray, List.getElem?_cons_zero, List.getElem?_cons_succ] at e0 e1
  generalize hCL : clsN ns ns.length = CL at *
  clear hCL
  go_wp2_with fail
  refine (copyGraph_any A ns c (ri : Int) w1 HR3.out (by omega) (fun n hn => by have := (HV.out.nodes n hn).few; omega)).mono ?_
  rintro e w2 ⟨Ag, cap, rfl, hrow, hb2⟩
  obtain ⟨gr, rfl, hown⟩ := (hrow.own (Nat.le_refl _)).rowI hpos
  have hba : Below w2.heap.size w2 (w2.alloc (.cells #[.slice (some ⟨gr, 0, none⟩) ns.length cap, .int .i64 (ri : Int)] 25)) := (Below.refl _ _).alloc (Nat.le_refl _) _
  have hs2 := hb2.size
  have HA0 := hide (show InpA w1 (w2.alloc (.cells #[.slice (some ⟨gr, 0, none⟩) ns.length cap, .int .i64 (ri : Int)] 25)) w2.heap.size gr cap w2.heap.size ns CL (ri : Int) 0 0 from
    ⟨hb2.trans (hba.mono hs2), Lies.new _ _ _, by rw [stN_zero]; exact hown.kept (fun b _ hb => hba.block b hb), Nat.le_refl _⟩)
  clear hrow hb2 hown hba e0 e1
  go_upto_region 3 with fail
  generalize w2.alloc (.cells #[.slice (some ⟨gr, 0, none⟩) ns.length cap, .int .i64 (ri : Int)] 25) = W3 at HA0 ⊢
  generalize hqd : w2.heap.size = q at HA0 hs2 ⊢
  clear hqd
  go_wp2_with fail
  go_loopg [5, 6] ns.length (fun gk iv _ wr => ∃ i : Nat, i ≤ ns.length ∧ gk = ns.length - i ∧ iv = .int .i64 (i : Int) ∧ InpA w1 wr q gr cap q ns CL (ri : Int) i 0)
  case atStart => exact ⟨0, Nat.zero_le _, rfl, rfl, HA0.out⟩
  case round =>
    clear HA0
    obtain ⟨i, hi, rfl, rfl, hA⟩ := hrel
    have e0 := hA.box.cell 0
    simp only [List.getElem?_toArray, List.getElem?_cons_zero, List.getElem?_cons_succ] at e0
    have HA := hide hA
    clear hA
    by_cases hli : i < ns.length
    · have hn : ns[i]? = some ns[i] := List.getElem?_eq_getElem hli
      have hmem := List.getElem_mem hli
      generalize ns[i] = n at hn hmem
      have HN := hide hn
      have HKi := hide (HV.out.nodes n hmem).inn
      have hkl : n.kids.length ≤ 1000 := by have := (HV.out.nodes n hmem).few; omega
      have hi0 : (0 : Int) ≤ (i : Int) := by omega
      have hi1 : (i : Int) < (ns.length : Int) := by omega
      have hdl : decide ((i : Int) < (ns.length : Int)) = true := by simp; omega
      clear hn hmem
      go_wp2_with fail
      clear e0
      go_loopg [6] n.kids.length (fun gk kv wr => ∃ k : Nat, k ≤ n.kids.length ∧ gk = n.kids.length - k ∧ kv = .int .i64 (k : Int) ∧ InpA w1 wr q gr cap q ns CL (ri : Int) i k)
      case atStart => exact ⟨0, Nat.zero_le _, rfl, rfl, HA.out⟩
      case round =>
        clear HA
        obtain ⟨wq, hwq⟩ : ∃ x, x = wr := ⟨_, rfl⟩
        subst hwq
        obtain ⟨k, hk, rfl, rfl, hA⟩ := hrel
        have e0 := hA.box.cell 0
        simp only [List.getElem?_toArray, List.getElem?_cons_zero, List.getElem?_cons_succ] at e0
        obtain ⟨Ak, ck, kc, hok, hkb⟩ := hA.kids HN.out
        have HA := hide hA
        have hqs := hA.box.lt
        have hbel := hide hA.bel
        have hgrl := hide hA.row.hhi
        have hgrl2 := hgrl.out
        have hgrlo := hA.row.hlo
        clear hA
        by_cases hlk : k < n.kids.length
        · have hx : n.kids[k]? = some n.kids[k] := List.getElem?_eq_getElem hlk
          have hxm := List.getElem_mem hlk
          generalize n.kids[k] = x at hx hxm
          obtain ⟨x0, x1⟩ := HKi.out x hxm
          obtain ⟨xn, rfl⟩ := Int.eq_ofNat_of_zero_le x0
          have HX0 := hide hx
          have HX := hide (halfK_at (cl := CL) hx)
          have hne : halfK CL n.kids k ≠ [] := by intro e; have := congrArg List.length e; rw [halfK_len] at this; simp only [List.length_nil] at this; omega
          obtain ⟨b, rfl, hb1⟩ : ∃ b, Ak = some ⟨b, 0, none⟩ ∧ b < q := by
            rcases hok.form with ⟨_, _, e⟩ | ⟨g, e, _, _⟩
            · exact absurd e hne
            · exact ⟨g, e, (hkb g (by rw [e]; rfl)).1⟩
          have hbgr : b ≠ gr := (hkb b rfl).2
          have hblo := (hok.blocks b rfl).1
          have hxc := hok.cellM HX.out
          have HO := hide hok
          have hxn : xn < ns.length := by omega
          have hw1 : w1.heap.size ≤ wq.heap.size := hbel.out.size
          obtain ⟨lb2, lf2, y, e2, _, hy, _, hyc⟩ := (HI.out.below hbel.out).at_ (k := xn) (by rw [hlen.out]; exact hxn)
          injection e2 with e2
          injection e2 with a1 a2 _
          subst a1
          subst a2
          have hval : Hid (look CL (xn : Int) = y) := hide (look_at hy)
          have HSt := hide (show ∀ X : World, Below wq.heap.size wq X → X.cell? ⟨q, 0, none⟩ = some (.slice (some ⟨gr, 0, none⟩) ns.length cap) ∧ X.cell? ⟨gr, i * 3 + 2, none⟩ = some (.slice (some ⟨b, 0, none⟩) n.kids.length ck) ∧ X.cell? ⟨lb, lf + xn, none⟩ = some (.int .i64 y) from fun X hX =>
            ⟨(hX.cell (p := ⟨q, 0, none⟩) hqs).trans e0, (hX.cell (p := ⟨gr, i * 3 + 2, none⟩) (by show gr < wq.heap.size; omega)).trans kc, (hX.cell (p := ⟨lb, lf + xn, none⟩) (by show lb < wq.heap.size; omega)).trans hyc⟩)
          have hx1 : b ≠ lb := by omega
          have hx2 : b ≠ q := by omega
          have hx3 : b ≠ gr := hbgr
          have hk0 : (0 : Int) ≤ (k : Int) := by omega
          have hk1 : (k : Int) < (n.kids.length : Int) := by omega
          have hdk : decide ((k : Int) < (n.kids.length : Int)) = true := by simp; omega
          have hxi0 : (0 : Int) ≤ (xn : Int) := by omega
          have hxi1 : (xn : Int) < (CL.length : Int) := by rw [hlen.out]; omega
          clear hx hxm hok hkb hne hy hyc
          go_upto_region 9 with fail
          clear e0
          refine wp_region_held_drew (S := fun w' => w'.cell? ⟨q, 0, none⟩ = some (.slice (some ⟨gr, 0, none⟩) ns.length cap) ∧ w'.cell? ⟨gr, i * 3 + 2, none⟩ = some (.slice (some ⟨b, 0, none⟩) n.kids.length ck) ∧ w'.cell? ⟨lb, lf + xn, none⟩ = some (.int .i64 y)) (by kernel_rfl) (HSt.out _ (Below.refl _ _).drew) (fun hHeld => ?_)
          refine wpAnyH_take (i := 0) (oi := { dst := some 30, op := _, type := _, pos := _, after := _, guard := _ }) (v := ?_) rfl (by kernel_rfl) (by kernel_rfl) (by kernel_rfl) (fun _ _ _ h => h) (Or.inl ⟨by rfl, ?_⟩) (by assumption) ?_
          rotate_left
          · (intro w hSw; (try dsimp only at hSw); obtain ⟨u0, u1, u2⟩ := hSw; go_simp; try with_reducible rfl)
          try simp only [Act.put, List.setIfInBounds_toArray, List.set_cons_zero, List.set_cons_succ]
          refine wpAnyH_take (i := 1) (oi := { dst := some 31, op := _, type := _, pos := _, after := _, guard := _ }) (v := ?_) rfl (by kernel_rfl) (by kernel_rfl) (by kernel_rfl) (fun _ _ _ h => h) (Or.inl ⟨by rfl, ?_⟩) (by assumption) ?_
          rotate_left
          · (intro w hSw; (try dsimp only at hSw); obtain ⟨u0, u1, u2⟩ := hSw; go_simp; try with_reducible rfl)
          try simp only [Act.put, List.setIfInBounds_toArray, List.set_cons_zero, List.set_cons_succ]
          refine wpAnyH_take (i := 2) (oi := { dst := some 32, op := _, type := _, pos := _, after := _, guard := _ }) (v := ?_) rfl (by kernel_rfl) (by kernel_rfl) (by kernel_rfl) (fun _ _ _ h => h) (Or.inl ⟨by rfl, ?_⟩) (by assumption) ?_
          rotate_left
          · (intro w hSw; (try dsimp only at hSw); obtain ⟨u0, u1, u2⟩ := hSw; go_simp; try with_reducible rfl)
          try simp only [Act.put, List.setIfInBounds_toArray, List.set_cons_zero, List.set_cons_succ]
          refine wpAnyH_take (i := 3) (oi := { dst := some 33, op := _, type := _, pos := _, after := _, guard := _ }) (v := ?_) rfl (by kernel_rfl) (by kernel_rfl) (by kernel_rfl) (fun _ _ _ h => h) (Or.inl ⟨by rfl, ?_⟩) (by assumption) ?_
          rotate_left
          · (intro w hSw; (try dsimp only at hSw); obtain ⟨u0, u1, u2⟩ := hSw; go_simp; try with_reducible rfl)
          try simp only [Act.put, List.setIfInBounds_toArray, List.set_cons_zero, List.set_cons_succ]
          refine wpAnyH_take (i := 4) (oi := { dst := some 34, op := _, type := _, pos := _, after := _, guard := _ }) (v := ?_) rfl (by kernel_rfl) (by kernel_rfl) (by kernel_rfl) (fun _ _ _ h => h) (Or.inl ⟨by rfl, ?_⟩) (by assumption) ?_
          rotate_left
          · (intro w hSw; (try dsimp only at hSw); obtain ⟨u0, u1, u2⟩ := hSw; go_simp; try with_reducible rfl)
          try simp only [Act.put, List.setIfInBounds_toArray, List.set_cons_zero, List.set_cons_succ]
          refine wpAnyH_take (i := 5) (oi := { dst := some 35, op := _, type := _, pos := _, after := _, guard := _ }) (v := ?_) rfl (by kernel_rfl) (by kernel_rfl) (by kernel_rfl) (fun _ _ _ h => h) (Or.inl ⟨by rfl, ?_⟩) (by assumption) ?_
          rotate_left
          · (intro w hSw; (try dsimp only at hSw); obtain ⟨u0, u1, u2⟩ := hSw; go_simp; try with_reducible rfl)
          try simp only [Act.put, List.setIfInBounds_toArray, List.set_cons_zero, List.set_cons_succ]
          refine wpAnyH_take (i := 6) (oi := { dst := some 36, op := _, type := _, pos := _, after := _, guard := _ }) (v := ?_) rfl (by kernel_rfl) (by kernel_rfl) (by kernel_rfl) (fun _ _ _ h => h) (Or.inl ⟨by rfl, ?_⟩) (by assumption) ?_
          rotate_left
          · (intro w hSw; (try dsimp only at hSw); obtain ⟨u0, u1, u2⟩ := hSw; go_simp; try with_reducible rfl)
          try simp only [Act.put, List.setIfInBounds_toArray, List.set_cons_zero, List.set_cons_succ]
          refine wpAnyH_take (i := 7) (oi := { dst := some 37, op := _, type := _, pos := _, after := _, guard := _ }) (v := ?_) rfl (by kernel_rfl) (by kernel_rfl) (by kernel_rfl) (fun _ _ _ h => h) (Or.inl ⟨by rfl, ?_⟩) (by assumption) ?_
          rotate_left
          · (intro w hSw; (try dsimp only at hSw); obtain ⟨u0, u1, u2⟩ := hSw; go_simp; try with_reducible rfl)
          try simp only [Act.put, List.setIfInBounds_toArray, List.set_cons_zero, List.set_cons_succ]
          refine wpAnyH_take (i := 8) (oi := { dst := some 38, op := _, type := _, pos := _, after := _, guard := _ }) (v := ?_) rfl (by kernel_rfl) (by kernel_rfl) (by kernel_rfl) (fun _ _ _ h => h) (Or.inl ⟨by rfl, ?_⟩) (by assumption) ?_
          rotate_left
          · (intro w hSw; (try dsimp only at hSw); obtain ⟨u0, u1, u2⟩ := hSw; go_simp; try with_reducible rfl)
          try simp only [Act.put, List.setIfInBounds_toArray, List.set_cons_zero, List.set_cons_succ]
          refine wpAnyH_take (i := 9) (oi := { dst := some 39, op := _, type := _, pos := _, after := _, guard := _ }) (v := ?_) rfl (by kernel_rfl) (by kernel_rfl) (by kernel_rfl) (fun _ _ _ h => h) (Or.inl ⟨by rfl, ?_⟩) (by assumption) ?_
          rotate_left
          · (intro w hSw; (try dsimp only at hSw); obtain ⟨u0, u1, u2⟩ := hSw; go_simp; try with_reducible rfl)
          try simp only [Act.put, List.setIfInBounds_toArray, List.set_cons_zero, List.set_cons_succ]
          refine wpAnyH_take (i := 10) (oi := { dst := some 40, op := _, type := _, pos := _, after := _, guard := _ }) (v := ?_) rfl (by kernel_rfl) (by kernel_rfl) (by kernel_rfl) (fun _ _ _ h => h) (Or.inl ⟨by rfl, ?_⟩) (by assumption) ?_
          rotate_left
          · (intro w hSw; (try dsimp only at hSw); obtain ⟨u0, u1, u2⟩ := hSw; go_simp; try with_reducible rfl)
          try simp only [Act.put, List.setIfInBounds_toArray, List.set_cons_zero, List.set_cons_succ]
          refine wpAnyH_take (i := 11) (oi := { dst := some 41, op := _, type := _, pos := _, after := _, guard := _ }) (v := ?_) rfl (by kernel_rfl) (by kernel_rfl) (by kernel_rfl) (fun _ _ _ h => h) (Or.inl ⟨by rfl, ?_⟩) (by assumption) ?_
          rotate_left
          · (intro w hSw; (try dsimp only at hSw); obtain ⟨u0, u1, u2⟩ := hSw; go_simp; try with_reducible rfl)
          try simp only [Act.put, List.setIfInBounds_toArray, List.set_cons_zero, List.set_cons_succ]
          refine wpAnyH_take (i := 12) (oi := { dst := some 42, op := _, type := _, pos := _, after := _, guard := _ }) (v := ?_) rfl (by kernel_rfl) (by kernel_rfl) (by kernel_rfl) (fun _ _ _ h => h) (Or.inl ⟨by rfl, ?_⟩) (by assumption) ?_
          rotate_left
          · (intro w hSw; (try dsimp only at hSw); obtain ⟨u0, u1, u2⟩ := hSw; go_simp; try with_reducible rfl)
          try simp only [Act.put, List.setIfInBounds_toArray, List.set_cons_zero, List.set_cons_succ]
          refine wpAnyH_take (i := 13) (oi := { dst := some 43, op := _, type := _, pos := _, after := _, guard := _ }) (v := ?_) rfl (by kernel_rfl) (by kernel_rfl) (by kernel_rfl) (fun _ _ _ h => h) (Or.inl ⟨by rfl, ?_⟩) (by assumption) ?_
          rotate_left
          · (intro w hSw; (try dsimp only at hSw); obtain ⟨u0, u1, u2⟩ := hSw; go_simp; try with_reducible rfl)
          try simp only [Act.put, List.setIfInBounds_toArray, List.set_cons_zero, List.set_cons_succ]
          refine wpAnyH_take (i := 14) (oi := { dst := some 44, op := _, type := _, pos := _, after := _, guard := _ }) (v := ?_) rfl (by kernel_rfl) (by kernel_rfl) (by kernel_rfl) (fun _ _ _ h => h) (Or.inl ⟨by rfl, ?_⟩) (by assumption) ?_
          rotate_left
          · (intro w hSw; (try dsimp only at hSw); obtain ⟨u0, u1, u2⟩ := hSw; go_simp; try with_reducible rfl)
          try simp only [Act.put, List.setIfInBounds_toArray, List.set_cons_zero, List.set_cons_succ]
          refine wpAnyH_take (i := 15) (oi := { dst := some 45, op := _, type := _, pos := _, after := _, guard := _ }) (v := ?_) rfl (by kernel_rfl) (by kernel_rfl) (by kernel_rfl) (fun _ _ _ h => h) (Or.inl ⟨by rfl, ?_⟩) (by assumption) ?_
          rotate_left
          · (intro w hSw; (try dsimp only at hSw); obtain ⟨u0, u1, u2⟩ := hSw; go_simp; try with_reducible rfl)
          try simp only [Act.put, List.setIfInBounds_toArray, List.set_cons_zero, List.set_cons_succ]
          refine wpAnyH_ready (rs := [16]) (by kernel_rfl) (by simp) ?_
          refine AllReadyH.cons (o := { dst := some 46, op := _, type := _, pos := _, after := _, guard := _ }) rfl (fun K hK => ?_) AllReadyH.nil
          go_simp
          clear hxc
          refine hK.out _ _ hHeld (fun hH => ?_)
          clear hK K hHeld
          have hHeld := hH
          clear hH
          try simp only [Act.put, List.setIfInBounds_toArray, List.set_cons_zero, List.set_cons_succ]
          refine wpAnyH_take (i := 17) (oi := { dst := some 47, op := _, type := _, pos := _, after := _, guard := _ }) (v := ?_) rfl (by kernel_rfl) (by kernel_rfl) (by kernel_rfl) (fun _ _ _ h => h) (Or.inl ⟨by rfl, ?_⟩) (by assumption) ?_
          rotate_left
          · (intro w hSw; (try dsimp only at hSw); obtain ⟨u0, u1, u2⟩ := hSw; go_simp; try with_reducible rfl)
          try simp only [Act.put, List.setIfInBounds_toArray, List.set_cons_zero, List.set_cons_succ]
          refine wpAnyH_take (i := 18) (oi := { dst := some 48, op := _, type := _, pos := _, after := _, guard := _ }) (v := ?_) rfl (by kernel_rfl) (by kernel_rfl) (by kernel_rfl) (fun _ _ _ h => h) (Or.inl ⟨by rfl, ?_⟩) (by assumption) ?_
          rotate_left
          · (intro w hSw; (try dsimp only at hSw); obtain ⟨u0, u1, u2⟩ := hSw; go_simp; try with_reducible rfl)
          try simp only [Act.put, List.setIfInBounds_toArray, List.set_cons_zero, List.set_cons_succ]
          refine wpAnyH_take (i := 19) (oi := { dst := some 49, op := _, type := _, pos := _, after := _, guard := _ }) (v := ?_) rfl (by kernel_rfl) (by kernel_rfl) (by kernel_rfl) (fun _ _ _ h => h) (Or.inl ⟨by rfl, ?_⟩) (by assumption) ?_
          rotate_left
          · (intro w hSw; (try dsimp only at hSw); obtain ⟨u0, u1, u2⟩ := hSw; go_simp; try with_reducible rfl)
          try simp only [Act.put, List.setIfInBounds_toArray, List.set_cons_zero, List.set_cons_succ]
          have p1 := HO.out.drew.cellM HX.out
          have f1 := HO.out.drew.frozenM k
          refine wpAnyH_ready (rs := [20]) (by kernel_rfl) (by simp) ?_
          refine AllReadyH.cons (o := { dst := none, op := _, type := _, pos := _, after := _, guard := _ }) rfl (fun K hK => ?_) AllReadyH.nil
          go_simp
          refine hK.out _ _ ⟨(World.cell?_setCell_far _ _ _ _ hx2).trans hHeld.1, (World.cell?_setCell_far _ _ _ _ hx3).trans hHeld.2.1, (World.cell?_setCell_far _ _ _ _ hx1).trans hHeld.2.2⟩ (fun hH => ?_)
          clear hK K hHeld
          have hHeld := hH
          clear hH
          try simp only [Act.put, List.setIfInBounds_toArray, List.set_cons_zero, List.set_cons_succ]
          refine wpAnyH_done (by kernel_rfl) ?_ _
          have HZ0 := (HA.out.below (Below.refl _ _).drew).store HN.out HX0.out kc HO.out.drew hb1
          rw [hval.out] at HZ0
          have HZ := hide HZ0
          clear hHeld HSt p1 f1 HZ0 kc
          go_wp2_with fail
          go_roundg (n.kids.length - (k + 1))
          case measure => omega
          case rel => exact ⟨k + 1, by omega, rfl, by go_num, HZ.out⟩
        · obtain rfl : k = n.kids.length := by omega
          have HZ := hide (HA.out.next HN.out)
          have hdk : decide ((n.kids.length : Int) < (n.kids.length : Int)) = false := by simp
          clear hok hkb hlk
          go_wp2_with fail
          go_roundg (ns.length - (i + 1))
          case measure => omega
          case rel => exact ⟨i + 1, by omega, rfl, by go_num, HZ.out⟩
    · obtain rfl : i = ns.length := by omega
      have hbel := HA.out.bel
      have hrow := HA.out.row
      rw [stN_all] at hrow
      have lG2 := HLG.out.below hbel hGl
      have q0 := lG2.cell 0
      have q1 := lG2.cell 1
      simp only [List.getElem?_toArray, List.getElem?_cons_zero, List.getElem?_cons_succ] at q0 q1
      have hdl : decide ((ns.length : Int) < (ns.length : Int)) = false := by simp
      obtain ⟨lb2, lf2, y, e2, _, hy, _, hyc⟩ := (HI.out.below hbel).at_ (k := ri) (by rw [hlen.out]; exact hril)
      injection e2 with e2
      injection e2 with a1 a2 _
      subst a1
      subst a2
      have hval : Hid (look CL (ri : Int) = y) := hide (look_at hy)
      have hyr := HCong.out.rng (ri : Int) (by omega) (by omega)
      rw [hval.out] at hyr
      obtain ⟨yn, rfl⟩ := Int.eq_ofNat_of_zero_le hyr.1
      have lQ := HA.out.box
      have lQ2 := lQ.set 1 (.int .i64 (yn : Int))
      simp only [List.setIfInBounds_toArray, List.set_cons_succ, List.set_cons_zero] at lQ2
      have a0 := lQ.cell 0
      have a1 := lQ.cell 1
      have a2 := lQ.frozen 1
      have c0 := lQ2.cell 0
      have c1 := lQ2.cell 1
      simp only [List.getElem?_toArray, List.getElem?_cons_zero, List.getElem?_cons_succ] at a0 a1 c0 c1
      have hqs := HA.out.box.lt
      have hqlo : w1.heap.size ≤ q := hs2
      have hbX : Below w1.heap.size w1 (wr.setCell ⟨q, 1, none⟩ (.int .i64 (yn : Int))) := hbel.setCell (p := ⟨q, 1, none⟩) hqlo _
      have hrowX : OwnRow (wr.setCell ⟨q, 1, none⟩ (.int .i64 (yn : Int))) w1.heap.size q gr cap (replNs ns CL) := hrow.kept (fun b _ hb => Below.heap_setCell _ _ _ _ (by show b ≠ q; omega))
      have lR5 := HLR.out.below hbX hRl
      have hri0 : (0 : Int) ≤ (ri : Int) := by omega
      have hri1 : (ri : Int) < (CL.length : Int) := by rw [hlen.out]; omega
      clear lG2 hli hy lQ lQ2 hrow hbel
      go_upto_region 11 with fail
      clear a0 a1 a2 q0 q1 hyc e0
      generalize wr.setCell ⟨q, 1, none⟩ (.int .i64 (yn : Int)) = W6 at hbX hrowX lR5 c0 c1 ⊢
      have hNX := (show OwnNs W6 w1.heap.size q (some ⟨gr, 0, none⟩) cap (replNs ns CL) from .inr ⟨gr, rfl, hrowX⟩).nds HWf.out (by rw [replNs_len]; omega)
      rw [hval.out] at HLV HLd
      have HQ := hide (specPruned_yes (some ⟨gr, 0, none⟩) (replNs ns CL) cap yn W6 hNX HLV.out)
      have HLd2 : Hid (lstN ns (ri : Int) = pickNs (replNs ns CL) (reachOf (replNs ns CL) (yn : Int))) := hide (by rw [HLd.out]; unfold prunedOf; rw [if_pos HLV.out])
      rw [replNs_len, ← HLd2.out] at HQ
      have HbX := hide hbX
      have HLR5 := hide lR5
      clear hbX hrowX lR5 hNX
      generalize hLNd : lstN ns (ri : Int) = LN at HQ ⊢
      have HLN := hide hLNd
      clear hLNd
      go_wp2_with fail
      refine HQ.out.mono ?_
      clear HQ
      rintro e w7 ⟨Ap, cp, rfl, hrow7, hwf7, hb7⟩
      have hw6 := HbX.out.size
      have lR7 := HLR5.out.below hb7 (by omega)
      have l6 := (lR7.set 0 (.slice Ap LN.length cp)).set 1 (.int .i64 0)
      simp only [List.setIfInBounds_toArray, List.set_cons_succ, List.set_cons_zero] at l6
      have s0 := l6.cell 0
      have s1 := l6.cell 1
      have b0 := lR7.cell 0
      have b1 := lR7.cell 1
      have f0 := lR7.frozen 0
      have f1 := lR7.frozen 1
      simp only [List.getElem?_toArray, List.getElem?_cons_zero, List.getElem?_cons_succ] at s0 s1 b0 b1
      have HG := hide (ReadsG.putQ (q := w.heap.size + 1) (r := 0) (by omega) (by omega) (HB3.out.trans (HbX.out.mono HB3.out.size)) hrow7 hwf7 hb7)
      clear l6 lR7 hb7 hrow7 hwf7 c0 c1
      go_wp2
      refine bodyPost_ret (v := .agg #[.slice Ap LN.length cp, .int .i64 0]) (by simp [results, Try.results30, go_sem, s0, s1]) rfl ?_
      rw [HLN.out]
      exact HG.out

end Go.Proofs.Ythgklkpfmjgeoaa

namespace Go.Proofs.Ythgklkpfmjgeoaa
open Go.RowKit Go.Maps
set_option linter.unusedVariables false
set_option linter.unusedSimpArgs false

set_option maxRecDepth 100000 in
set_option maxHeartbeats 2000000 in
theorem specFirst_any (A : Option Addr) (ns : List Nd) (c : Nat) (r : Int) (i : Nat) (w : World) (hr : NdsAt w w.heap.size A ns) (hi : i < ns.length) :
    Calls Try.prog 55 #[.agg #[.slice A ns.length c, .int .i64 r], .int .i64 (i : Int)] w fun e w' => e = .returned (.int .i64 (ftx ns i)) ∧ Below w.heap.size w w' := by
  have hnl := hr.len
  obtain ⟨b, off, n, rfl, hbl, hn, _, hnd⟩ := hr.at_ hi
  obtain ⟨An, cn, kn2, _, _⟩ := hnd.kids
  have kn0 := hnd.kind
  have kn1 := hnd.value
  have hB : Below w.heap.size w (w.alloc (.cells #[.slice (some ⟨b, off, none⟩) ns.length c, .int .i64 r] 25)) := (Below.refl _ _).alloc (Nat.le_refl _) _
  have l1 := Lies.new w #[.slice (some ⟨b, off, none⟩) ns.length c, .int .i64 r] 25
  have HN := hide hn
  have HR := hide hr
  have hi0 : (0 : Int) ≤ (i : Int) := by omega
  have hi1 : (i : Int) < (ns.length : Int) := by omega
  clear hn hnd hr
  go_enter Try.func55, Try.ntmps55
  go_upto_region 1 with fail
  generalize w.alloc (.cells #[.slice (some ⟨b, off, none⟩) ns.length c, .int .i64 r] 25) = W at hB l1 ⊢
  have e0 := l1.cell 0
  simp only [List.getElem?_toArray, List.getElem?_cons_zero, List.getElem?_cons_succ] at e0
  have hW := l1.lt
  have HB := hide hB
  have HL := hide l1
  have k0 := (hB.cell (p := ⟨b, off + i * 3, none⟩) hbl).trans kn0
  by_cases hk : n.kind = 1
  · have t : (n.kind != 1) = false := by simpa using hk
    have HK := hide hk
    clear hk hB l1
    go_wp2_with fail
    clear e0 k0
    go_loopg [5] i (fun gk iv wr => ∃ j : Nat, j ≤ i ∧ gk = i - j ∧ iv = .int .i64 (j : Int) ∧ Below W.heap.size W wr ∧ ∀ (p : Nat) (m : Nd), p < j → ns[p]? = some m → ¬ IsTx n.value m)
    case atStart => exact ⟨0, Nat.zero_le _, rfl, rfl, Below.refl _ _, fun p m hp => absurd hp (by omega)⟩
    case round =>
      obtain ⟨j, hj, rfl, rfl, hbw, he0⟩ := hrel
      have he := hide he0
      have Hbw := hide hbw
      have hszw := hbw.size
      clear he0
      by_cases hlt : j < i
      · have hBw := HB.out.trans (hbw.mono HB.out.size)
        obtain ⟨b2, off2, m, e2, hbm, hm, _, hmd⟩ := (HR.out.below hBw).at_ (k := j) (by omega)
        injection e2 with e2
        injection e2 with a1 a2 _
        subst a1
        subst a2
        obtain ⟨Am, cm, km2, _, _⟩ := hmd.kids
        have km0 := hmd.kind
        have km1 := hmd.value
        have kn0 := (hBw.cell (p := ⟨b, off + i * 3, none⟩) hbl).trans kn0
        have kn1 := (hBw.cell (p := ⟨b, off + i * 3 + 1, none⟩) hbl).trans kn1
        have kn2 := (hBw.cell (p := ⟨b, off + i * 3 + 2, none⟩) hbl).trans kn2
        have e0 := (HL.out.below hbw hW).cell 0
        simp only [List.getElem?_toArray, List.getElem?_cons_zero, List.getElem?_cons_succ] at e0
        have HM := hide hm
        have hj0 : (0 : Int) ≤ (j : Int) := by omega
        have hj1 : (j : Int) < (ns.length : Int) := by omega
        have hj2 : (j : Int) < (i : Int) := by omega
        have hbwr : b < wr.heap.size := by have := HB.out.size; omega
        clear hm hmd hbw hBw hbm
        go_wp2_with fail
        go_region_held3 (fun w' => w'.cell? ⟨w.heap.size, 0, none⟩ = some (.slice (some ⟨b, off, none⟩) ns.length c) ∧ w'.cell? ⟨b, off + i * 3, none⟩ = some (.int .i64 n.kind) ∧ w'.cell? ⟨b, off + i * 3 + 1, none⟩ = some (.int .i64 n.value) ∧ w'.cell? ⟨b, off + i * 3 + 2, none⟩ = some (.slice An n.kids.length cn) ∧ w'.cell? ⟨b, off + j * 3, none⟩ = some (.int .i64 m.kind) ∧ w'.cell? ⟨b, off + j * 3 + 1, none⟩ = some (.int .i64 m.value) ∧ w'.cell? ⟨b, off + j * 3 + 2, none⟩ = some (.slice Am m.kids.length cm))
          (first
            | (go_split_ands; refine ⟨?_, ?_, ?_, ?_, ?_, ?_, ?_⟩ <;> assumption))
          (first
            | (go_at_call 72; refine (sameKey_any _ _ m n _).mono ?_; rintro e w5 ⟨rfl, hb5⟩; have hbx : Below wr.heap.size wr w5 := (Below.refl _ _).drew.trans (hb5.mono (by simp)); have p0 := (hbx.cell (p := ⟨w.heap.size, 0, none⟩) (by show w.heap.size < wr.heap.size; omega)).trans e0; have p1 := (hbx.cell (p := ⟨b, off + i * 3, none⟩) hbwr).trans kn0; have p2 := (hbx.cell (p := ⟨b, off + i * 3 + 1, none⟩) hbwr).trans kn1; have p3 := (hbx.cell (p := ⟨b, off + i * 3 + 2, none⟩) hbwr).trans kn2; have p4 := (hbx.cell (p := ⟨b, off + j * 3, none⟩) hbwr).trans km0; have p5 := (hbx.cell (p := ⟨b, off + j * 3 + 1, none⟩) hbwr).trans km1; have p6 := (hbx.cell (p := ⟨b, off + j * 3 + 2, none⟩) hbwr).trans km2))
        have HBx := hide (Hbw.out.trans (hbx.mono hszw))
        clear hb5 hbx p0 p1 p2 p3 p4 p5 p6 e0 km0 km1 km2 kn0 kn1 kn2
        by_cases hs : SameKey m n
        · rw [tf_true hs]
          have HF : Hid (ftx ns i = (j : Int)) := hide (by rw [ftx_text HN.out HK.out, firstT_is HM.out ⟨hs.1.trans HK.out, hs.2⟩ he.out])
          have HBf := hide (HB.out.trans (HBx.out.mono HB.out.size))
          clear hs he
          go_wp2
          go_ret
          exact ⟨ret_int HF.out.symm, HBf.out⟩
        · rw [tf_false hs]
          have HE := hide (show ∀ (p : Nat) (o : Nd), p < j + 1 → ns[p]? = some o → ¬ IsTx n.value o from fun p o hp ho => by
            by_cases e : p = j
            · subst e
              rw [HM.out] at ho
              injection ho with ho
              rw [← ho]
              exact fun hx => hs ⟨hx.1.trans HK.out.symm, hx.2⟩
            · exact he.out p o (by omega) ho)
          clear hs he
          go_wp2
          go_roundg (i - (j + 1))
          case measure => omega
          case rel => exact ⟨j + 1, by omega, rfl, by go_num, HBx.out, HE.out⟩
      · obtain rfl : j = i := by omega
        have HF : Hid (ftx ns j = (j : Int)) := hide (by rw [ftx_text HN.out HK.out, firstT_is HN.out ⟨HK.out, rfl⟩ he.out])
        have HBf := hide (HB.out.trans (Hbw.out.mono HB.out.size))
        have hdd : decide ((j : Int) < (j : Int)) = false := by simp
        clear he hbw hlt
        go_wp2
        go_ret
        exact ⟨ret_int HF.out.symm, HBf.out⟩
  · have t : (n.kind != 1) = true := by simpa using hk
    have HF := hide (ftx_else HN.out hk)
    clear hk hB l1
    go_wp2
    go_ret
    exact ⟨ret_int HF.out.symm, HB.out⟩

set_option maxRecDepth 100000 in
set_option maxHeartbeats 4000000 in
theorem specMerge_any (A : Option Addr) (ns : List Nd) (c : Nat) (r : Int) (w : World) (hr : NdsAt w w.heap.size A ns) :
    Calls Try.prog 31 #[.agg #[.slice A ns.length c, .int .i64 r]] w (GivesG w (mrgN ns r) (mrgR ns r)) := by
  have hB2 : Below w.heap.size w ((w.alloc (.cells #[.slice A ns.length c, .int .i64 r] 25)).alloc (.cells #[.slice none 0 0, .int .i64 0] 25)) := ((Below.refl _ _).alloc (Nat.le_refl _) _).alloc (by simp) _
  have lG := (Lies.new w #[.slice A ns.length c, .int .i64 r] 25).alloc (.cells #[.slice none 0 0, .int .i64 0] 25)
  have lR := Lies.new (w.alloc (.cells #[.slice A ns.length c, .int .i64 r] 25)) #[.slice none 0 0, .int .i64 0] 25
  simp only [World.size_alloc] at lR
  have hr2 := hr.later hB2 (Nat.le_refl _)
  clear hr
  go_enter Try.func31, Try.ntmps31
  go_upto_region 1 with fail
  generalize (w.alloc (.cells #[.slice A ns.length c, .int .i64 r] 25)).alloc (.cells #[.slice none 0 0, .int .i64 0] 25) = W at hB2 lG lR hr2 ⊢
  have g0 := lG.cell 0
  have g1 := lG.cell 1
  simp at g0 g1
  go_wp2_with fail
  clear g0 g1
  refine (specValidGraph_any A ns c r W hr2).mono ?_
  rintro e w1 ⟨rfl, hb1⟩
  have lG1 := lG.below hb1 lG.lt
  have lR1 := lR.below hb1 lR.lt
  have hr3 := hr2.later hb1 (Nat.le_refl _)
  have hB3 := hB2.trans (hb1.mono hB2.size)
  have e0 := lG1.cell 0
  have e1 := lG1.cell 1
  simp at e0 e1
  clear lG lR hr2 hB2 hb1
  by_cases hv : ValidG ns r
  · rw [tf_true hv]
    have hfew := hv.few
    have HV := hide hv
    have hGl := lG1.lt
    have hRl := lR1.lt
    have HLG := hide lG1
    have HLR := hide lR1
    have HR3 := hide hr3
    have HB3 := hide hB3
    have hpos : 0 < ns.length := by have := hv.root0; have := hv.root; omega
    clear hv hr3 hB3 lG1 lR1
    go_wp2_with fail
    refine (copyGraph_any A ns c r w1 HR3.out (by omega) (fun n hn => by have := (HV.out.nodes n hn).few; omega)).mono ?_
    rintro e w2 ⟨Ag, cap, rfl, hrow, hb2⟩
    obtain ⟨gr, rfl, hown⟩ := (hrow.own (Nat.le_refl _)).rowI hpos
    have hba : Below w2.heap.size w2 (w2.alloc (.cells #[.slice (some ⟨gr, 0, none⟩) ns.length cap, .int .i64 r] 25)) := (Below.refl _ _).alloc (Nat.le_refl _) _
    have hs2 := hb2.size
    have HA0 := hide (show InpA w1 (w2.alloc (.cells #[.slice (some ⟨gr, 0, none⟩) ns.length cap, .int .i64 r] 25)) w2.heap.size gr cap w2.heap.size ns (txtCl ns) r 0 0 from
      ⟨hb2.trans (hba.mono hs2), Lies.new _ _ _, by rw [stN_zero]; exact hown.kept (fun b _ hb => hba.block b hb), Nat.le_refl _⟩)
    clear hrow hb2 hown hba e0 e1
    go_upto_region 4 with fail
    generalize w2.alloc (.cells #[.slice (some ⟨gr, 0, none⟩) ns.length cap, .int .i64 r] 25) = W3 at HA0 ⊢
    generalize hqd : w2.heap.size = q at HA0 hs2 ⊢
    clear hqd
    go_wp2_with fail
    go_loopg [4, 5] ns.length (fun gk iv _ wr => ∃ i : Nat, i ≤ ns.length ∧ gk = ns.length - i ∧ iv = .int .i64 (i : Int) ∧ InpA w1 wr q gr cap q ns (txtCl ns) r i 0)
    case atStart => exact ⟨0, Nat.zero_le _, rfl, rfl, HA0.out⟩
    case round =>
      clear HA0
      obtain ⟨i, hi, rfl, rfl, hA⟩ := hrel
      have e0 := hA.box.cell 0
      simp only [List.getElem?_toArray, List.getElem?_cons_zero, List.getElem?_cons_succ] at e0
      have HA := hide hA
      clear hA
      by_cases hli : i < ns.length
      · have hn : ns[i]? = some ns[i] := List.getElem?_eq_getElem hli
        have hmem := List.getElem_mem hli
        generalize ns[i] = n at hn hmem
        have HN := hide hn
        have HKi := hide (HV.out.nodes n hmem).inn
        have hkl : n.kids.length ≤ 1000 := by have := (HV.out.nodes n hmem).few; omega
        have hi0 : (0 : Int) ≤ (i : Int) := by omega
        have hi1 : (i : Int) < (ns.length : Int) := by omega
        have hdl : decide ((i : Int) < (ns.length : Int)) = true := by simp; omega
        clear hn hmem
        go_wp2_with fail
        clear e0
        go_loopg [5] n.kids.length (fun gk kv wr => ∃ k : Nat, k ≤ n.kids.length ∧ gk = n.kids.length - k ∧ kv = .int .i64 (k : Int) ∧ InpA w1 wr q gr cap q ns (txtCl ns) r i k)
        case atStart => exact ⟨0, Nat.zero_le _, rfl, rfl, HA.out⟩
        case round =>
          clear HA
          obtain ⟨wq, hwq⟩ : ∃ x, x = wr := ⟨_, rfl⟩
          subst hwq
          obtain ⟨k, hk, rfl, rfl, hA⟩ := hrel
          have e0 := hA.box.cell 0
          simp only [List.getElem?_toArray, List.getElem?_cons_zero, List.getElem?_cons_succ] at e0
          obtain ⟨Ak, ck, kc, hok, hkb⟩ := hA.kids HN.out
          have HA := hide hA
          have hqs := hA.box.lt
          have hbel := hide hA.bel
          have hgrl := hide hA.row.hhi
          have hgrl2 := hgrl.out
          have hgrlo := hA.row.hlo
          clear hA
          by_cases hlk : k < n.kids.length
          · have hx : n.kids[k]? = some n.kids[k] := List.getElem?_eq_getElem hlk
            have hxm := List.getElem_mem hlk
            generalize n.kids[k] = x at hx hxm
            obtain ⟨x0, x1⟩ := HKi.out x hxm
            obtain ⟨xn, rfl⟩ := Int.eq_ofNat_of_zero_le x0
            have HX0 := hide hx
            have HX := hide (halfK_at (cl := txtCl ns) hx)
            have hne : halfK (txtCl ns) n.kids k ≠ [] := by intro e; have := congrArg List.length e; rw [halfK_len] at this; simp only [List.length_nil] at this; omega
            obtain ⟨b, rfl, hb1⟩ : ∃ b, Ak = some ⟨b, 0, none⟩ ∧ b < q := by
              rcases hok.form with ⟨_, _, e⟩ | ⟨g, e, _, _⟩
              · exact absurd e hne
              · exact ⟨g, e, (hkb g (by rw [e]; rfl)).1⟩
            have hbgr : b ≠ gr := (hkb b rfl).2
            have hblo := (hok.blocks b rfl).1
            have hxc := hok.cellM HX.out
            have HO := hide hok
            have hxn : xn < ns.length := by omega
            have lG2 := HLG.out.below hbel.out hGl
            have q0 := lG2.cell 0
            have q1 := lG2.cell 1
            simp only [List.getElem?_toArray, List.getElem?_cons_zero, List.getElem?_cons_succ] at q0 q1
            have hw1 : w1.heap.size ≤ wq.heap.size := hbel.out.size
            have HF := hide (specFirst_any A ns c r xn wq.drew ((HR3.out.below hbel.out).later ((Below.refl _ _).drew) hw1) hxn)
            have hval : Hid (ftx ns xn = look (txtCl ns) (xn : Int)) := hide (look_at (txtCl_at hxn)).symm
            rw [hval.out] at HF
            have HSt := hide (show ∀ X : World, Below wq.heap.size wq X → X.cell? ⟨w.heap.size, 0, none⟩ = some (.slice A ns.length c) ∧ X.cell? ⟨w.heap.size, 1, none⟩ = some (.int .i64 r) ∧ X.cell? ⟨q, 0, none⟩ = some (.slice (some ⟨gr, 0, none⟩) ns.length cap) ∧ X.cell? ⟨gr, i * 3 + 2, none⟩ = some (.slice (some ⟨b, 0, none⟩) n.kids.length ck) from fun X hX =>
              ⟨(hX.cell (p := ⟨w.heap.size, 0, none⟩) (by show w.heap.size < wq.heap.size; omega)).trans q0, (hX.cell (p := ⟨w.heap.size, 1, none⟩) (by show w.heap.size < wq.heap.size; omega)).trans q1, (hX.cell (p := ⟨q, 0, none⟩) hqs).trans e0, (hX.cell (p := ⟨gr, i * 3 + 2, none⟩) (by show gr < wq.heap.size; omega)).trans kc⟩)
            have hx1 : b ≠ w.heap.size := by omega
            have hx2 : b ≠ q := by omega
            have hx3 : b ≠ gr := hbgr
            have hk0 : (0 : Int) ≤ (k : Int) := by omega
            have hk1 : (k : Int) < (n.kids.length : Int) := by omega
            have hdk : decide ((k : Int) < (n.kids.length : Int)) = true := by simp; omega
            clear hx hxm lG2 q0 q1 hok hkb hne
            go_upto_region 10 with fail
            clear e0 kc
            refine wp_region_held_drew (S := fun w' => w'.cell? ⟨w.heap.size, 0, none⟩ = some (.slice A ns.length c) ∧ w'.cell? ⟨w.heap.size, 1, none⟩ = some (.int .i64 r) ∧ w'.cell? ⟨q, 0, none⟩ = some (.slice (some ⟨gr, 0, none⟩) ns.length cap) ∧ w'.cell? ⟨gr, i * 3 + 2, none⟩ = some (.slice (some ⟨b, 0, none⟩) n.kids.length ck)) (by kernel_rfl) (HSt.out _ (Below.refl _ _).drew) (fun hHeld => ?_)
            refine wpAnyH_take (i := 0) (oi := { dst := some 30, op := _, type := _, pos := _, after := _, guard := _ }) (v := ?_) rfl (by kernel_rfl) (by kernel_rfl) (by kernel_rfl) (fun _ _ _ h => h) (Or.inl ⟨by rfl, ?_⟩) (by assumption) ?_
            rotate_left
            · (intro w hSw; (try dsimp only at hSw); obtain ⟨u0, u1, u2, u3⟩ := hSw; go_simp; try with_reducible rfl)
            try simp only [Act.put, List.setIfInBounds_toArray, List.set_cons_zero, List.set_cons_succ]
            refine wpAnyH_take (i := 1) (oi := { dst := some 31, op := _, type := _, pos := _, after := _, guard := _ }) (v := ?_) rfl (by kernel_rfl) (by kernel_rfl) (by kernel_rfl) (fun _ _ _ h => h) (Or.inl ⟨by rfl, ?_⟩) (by assumption) ?_
            rotate_left
            · (intro w hSw; (try dsimp only at hSw); obtain ⟨u0, u1, u2, u3⟩ := hSw; go_simp; try with_reducible rfl)
            try simp only [Act.put, List.setIfInBounds_toArray, List.set_cons_zero, List.set_cons_succ]
            refine wpAnyH_take (i := 2) (oi := { dst := some 32, op := _, type := _, pos := _, after := _, guard := _ }) (v := ?_) rfl (by kernel_rfl) (by kernel_rfl) (by kernel_rfl) (fun _ _ _ h => h) (Or.inl ⟨by rfl, ?_⟩) (by assumption) ?_
            rotate_left
            · (intro w hSw; (try dsimp only at hSw); obtain ⟨u0, u1, u2, u3⟩ := hSw; go_simp; try with_reducible rfl)
            try simp only [Act.put, List.setIfInBounds_toArray, List.set_cons_zero, List.set_cons_succ]
            refine wpAnyH_take (i := 3) (oi := { dst := some 33, op := _, type := _, pos := _, after := _, guard := _ }) (v := ?_) rfl (by kernel_rfl) (by kernel_rfl) (by kernel_rfl) (fun _ _ _ h => h) (Or.inl ⟨by rfl, ?_⟩) (by assumption) ?_
            rotate_left
            · (intro w hSw; (try dsimp only at hSw); obtain ⟨u0, u1, u2, u3⟩ := hSw; go_simp; try with_reducible rfl)
            try simp only [Act.put, List.setIfInBounds_toArray, List.set_cons_zero, List.set_cons_succ]
            refine wpAnyH_take (i := 4) (oi := { dst := some 34, op := _, type := _, pos := _, after := _, guard := _ }) (v := ?_) rfl (by kernel_rfl) (by kernel_rfl) (by kernel_rfl) (fun _ _ _ h => h) (Or.inl ⟨by rfl, ?_⟩) (by assumption) ?_
            rotate_left
            · (intro w hSw; (try dsimp only at hSw); obtain ⟨u0, u1, u2, u3⟩ := hSw; go_simp; try with_reducible rfl)
            try simp only [Act.put, List.setIfInBounds_toArray, List.set_cons_zero, List.set_cons_succ]
            refine wpAnyH_take (i := 5) (oi := { dst := some 35, op := _, type := _, pos := _, after := _, guard := _ }) (v := ?_) rfl (by kernel_rfl) (by kernel_rfl) (by kernel_rfl) (fun _ _ _ h => h) (Or.inl ⟨by rfl, ?_⟩) (by assumption) ?_
            rotate_left
            · (intro w hSw; (try dsimp only at hSw); obtain ⟨u0, u1, u2, u3⟩ := hSw; go_simp; try with_reducible rfl)
            try simp only [Act.put, List.setIfInBounds_toArray, List.set_cons_zero, List.set_cons_succ]
            refine wpAnyH_take (i := 6) (oi := { dst := some 36, op := _, type := _, pos := _, after := _, guard := _ }) (v := ?_) rfl (by kernel_rfl) (by kernel_rfl) (by kernel_rfl) (fun _ _ _ h => h) (Or.inl ⟨by rfl, ?_⟩) (by assumption) ?_
            rotate_left
            · (intro w hSw; (try dsimp only at hSw); obtain ⟨u0, u1, u2, u3⟩ := hSw; go_simp; try with_reducible rfl)
            try simp only [Act.put, List.setIfInBounds_toArray, List.set_cons_zero, List.set_cons_succ]
            refine wpAnyH_take (i := 7) (oi := { dst := some 37, op := _, type := _, pos := _, after := _, guard := _ }) (v := ?_) rfl (by kernel_rfl) (by kernel_rfl) (by kernel_rfl) (fun _ _ _ h => h) (Or.inl ⟨by rfl, ?_⟩) (by assumption) ?_
            rotate_left
            · (intro w hSw; (try dsimp only at hSw); obtain ⟨u0, u1, u2, u3⟩ := hSw; go_simp; try with_reducible rfl)
            try simp only [Act.put, List.setIfInBounds_toArray, List.set_cons_zero, List.set_cons_succ]
            refine wpAnyH_take (i := 8) (oi := { dst := some 38, op := _, type := _, pos := _, after := _, guard := _ }) (v := ?_) rfl (by kernel_rfl) (by kernel_rfl) (by kernel_rfl) (fun _ _ _ h => h) (Or.inl ⟨by rfl, ?_⟩) (by assumption) ?_
            rotate_left
            · (intro w hSw; (try dsimp only at hSw); obtain ⟨u0, u1, u2, u3⟩ := hSw; go_simp; try with_reducible rfl)
            try simp only [Act.put, List.setIfInBounds_toArray, List.set_cons_zero, List.set_cons_succ]
            refine wpAnyH_take (i := 9) (oi := { dst := some 39, op := _, type := _, pos := _, after := _, guard := _ }) (v := ?_) rfl (by kernel_rfl) (by kernel_rfl) (by kernel_rfl) (fun _ _ _ h => h) (Or.inl ⟨by rfl, ?_⟩) (by assumption) ?_
            rotate_left
            · (intro w hSw; (try dsimp only at hSw); obtain ⟨u0, u1, u2, u3⟩ := hSw; go_simp; try with_reducible rfl)
            try simp only [Act.put, List.setIfInBounds_toArray, List.set_cons_zero, List.set_cons_succ]
            refine wpAnyH_take (i := 10) (oi := { dst := some 40, op := _, type := _, pos := _, after := _, guard := _ }) (v := ?_) rfl (by kernel_rfl) (by kernel_rfl) (by kernel_rfl) (fun _ _ _ h => h) (Or.inl ⟨by rfl, ?_⟩) (by assumption) ?_
            rotate_left
            · (intro w hSw; (try dsimp only at hSw); obtain ⟨u0, u1, u2, u3⟩ := hSw; go_simp; try with_reducible rfl)
            try simp only [Act.put, List.setIfInBounds_toArray, List.set_cons_zero, List.set_cons_succ]
            refine wpAnyH_take (i := 11) (oi := { dst := some 41, op := _, type := _, pos := _, after := _, guard := _ }) (v := ?_) rfl (by kernel_rfl) (by kernel_rfl) (by kernel_rfl) (fun _ _ _ h => h) (Or.inl ⟨by rfl, ?_⟩) (by assumption) ?_
            rotate_left
            · (intro w hSw; (try dsimp only at hSw); obtain ⟨u0, u1, u2, u3⟩ := hSw; go_simp; try with_reducible rfl)
            try simp only [Act.put, List.setIfInBounds_toArray, List.set_cons_zero, List.set_cons_succ]
            refine wpAnyH_take (i := 12) (oi := { dst := some 42, op := _, type := _, pos := _, after := _, guard := _ }) (v := ?_) rfl (by kernel_rfl) (by kernel_rfl) (by kernel_rfl) (fun _ _ _ h => h) (Or.inl ⟨by rfl, ?_⟩) (by assumption) ?_
            rotate_left
            · (intro w hSw; (try dsimp only at hSw); obtain ⟨u0, u1, u2, u3⟩ := hSw; go_simp; try with_reducible rfl)
            try simp only [Act.put, List.setIfInBounds_toArray, List.set_cons_zero, List.set_cons_succ]
            refine wpAnyH_take (i := 13) (oi := { dst := some 43, op := _, type := _, pos := _, after := _, guard := _ }) (v := ?_) rfl (by kernel_rfl) (by kernel_rfl) (by kernel_rfl) (fun _ _ _ h => h) (Or.inl ⟨by rfl, ?_⟩) (by assumption) ?_
            rotate_left
            · (intro w hSw; (try dsimp only at hSw); obtain ⟨u0, u1, u2, u3⟩ := hSw; go_simp; try with_reducible rfl)
            try simp only [Act.put, List.setIfInBounds_toArray, List.set_cons_zero, List.set_cons_succ]
            refine wpAnyH_take (i := 14) (oi := { dst := some 44, op := _, type := _, pos := _, after := _, guard := _ }) (v := ?_) rfl (by kernel_rfl) (by kernel_rfl) (by kernel_rfl) (fun _ _ _ h => h) (Or.inl ⟨by rfl, ?_⟩) (by assumption) ?_
            rotate_left
            · (intro w hSw; (try dsimp only at hSw); obtain ⟨u0, u1, u2, u3⟩ := hSw; go_simp; try with_reducible rfl)
            try simp only [Act.put, List.setIfInBounds_toArray, List.set_cons_zero, List.set_cons_succ]
            refine wpAnyH_take (i := 15) (oi := { dst := some 45, op := _, type := _, pos := _, after := _, guard := _ }) (v := ?_) rfl (by kernel_rfl) (by kernel_rfl) (by kernel_rfl) (fun _ _ _ h => h) (Or.inl ⟨by rfl, ?_⟩) (by assumption) ?_
            rotate_left
            · (intro w hSw; (try dsimp only at hSw); obtain ⟨u0, u1, u2, u3⟩ := hSw; go_simp; try with_reducible rfl)
            try simp only [Act.put, List.setIfInBounds_toArray, List.set_cons_zero, List.set_cons_succ]
            refine wpAnyH_ready (rs := [16]) (by kernel_rfl) (by simp) ?_
            refine AllReadyH.cons (o := { dst := some 46, op := _, type := _, pos := _, after := _, guard := _ }) rfl (fun K hK => ?_) AllReadyH.nil
            go_simp
            clear hxc
            refine hK.out _ _ hHeld (fun hH => ?_)
            clear hK K hHeld
            have hHeld := hH
            clear hH
            try simp only [Act.put, List.setIfInBounds_toArray, List.set_cons_zero, List.set_cons_succ]
            refine wpAnyH_ready (rs := [17]) (by kernel_rfl) (by simp) ?_
            refine AllReadyH.cons (o := { dst := some 47, op := _, type := _, pos := _, after := _, guard := _ }) rfl (fun K hK => ?_) AllReadyH.nil
            go_simp
            go_at_call 55
            refine (HF.out).mono ?_
            rintro e w5 ⟨rfl, hb5⟩
            have hbw : Below wq.heap.size wq w5 := (Below.refl _ _).drew.trans (hb5.mono (by simp))
            have HA5 := hide (HA.out.below hbw)
            have ho5 := HO.out.ofB (w' := w5) (fun g hg => hbw.block g (HO.out.blocks g hg).2)
            have p1 := ho5.cellM HX.out
            have f1 := ho5.frozenM k
            have HO5 := hide ho5
            have HSt5 := hide (HSt.out w5 hbw)
            clear hb5 hbw ho5
            refine hK.out _ _ HSt5.out (fun hH => ?_)
            clear hK K hHeld
            have hHeld := hH
            clear hH
            try simp only [Act.put, List.setIfInBounds_toArray, List.set_cons_zero, List.set_cons_succ]
            refine wpAnyH_take (i := 18) (oi := { dst := some 48, op := _, type := _, pos := _, after := _, guard := _ }) (v := ?_) rfl (by kernel_rfl) (by kernel_rfl) (by kernel_rfl) (fun _ _ _ h => h) (Or.inl ⟨by rfl, ?_⟩) (by assumption) ?_
            rotate_left
            · (intro w hSw; (try dsimp only at hSw); obtain ⟨u0, u1, u2, u3⟩ := hSw; go_simp; try with_reducible rfl)
            try simp only [Act.put, List.setIfInBounds_toArray, List.set_cons_zero, List.set_cons_succ]
            refine wpAnyH_ready (rs := [19]) (by kernel_rfl) (by simp) ?_
            refine AllReadyH.cons (o := { dst := none, op := _, type := _, pos := _, after := _, guard := _ }) rfl (fun K hK => ?_) AllReadyH.nil
            go_simp
            refine hK.out _ _ ⟨(World.cell?_setCell_far _ _ _ _ hx1).trans hHeld.1, (World.cell?_setCell_far _ _ _ _ hx1).trans hHeld.2.1, (World.cell?_setCell_far _ _ _ _ hx2).trans hHeld.2.2.1, (World.cell?_setCell_far _ _ _ _ hx3).trans hHeld.2.2.2⟩ (fun hH => ?_)
            clear hK K hHeld
            have hHeld := hH
            clear hH
            try simp only [Act.put, List.setIfInBounds_toArray, List.set_cons_zero, List.set_cons_succ]
            refine wpAnyH_done (by kernel_rfl) ?_ _
            have hst := HSt5.out
            have HZ := hide (HA5.out.store HN.out HX0.out hst.2.2.2 HO5.out hb1)
            clear hHeld hst HSt5 HSt HA5 HO5 p1 f1 HF
            go_wp2_with fail
            go_roundg (n.kids.length - (k + 1))
            case measure => omega
            case rel => exact ⟨k + 1, by omega, rfl, by go_num, HZ.out⟩
          · obtain rfl : k = n.kids.length := by omega
            have HZ := hide (HA.out.next HN.out)
            have hdk : decide ((n.kids.length : Int) < (n.kids.length : Int)) = false := by simp
            clear hok hkb hlk
            go_wp2_with fail
            go_roundg (ns.length - (i + 1))
            case measure => omega
            case rel => exact ⟨i + 1, by omega, rfl, by go_num, HZ.out⟩
      · obtain rfl : i = ns.length := by omega
        obtain ⟨ri, rfl⟩ := Int.eq_ofNat_of_zero_le HV.out.root0
        have hril : ri < ns.length := by have := HV.out.root; omega
        have hbel := HA.out.bel
        have hrow := HA.out.row
        rw [stN_all] at hrow
        have lG2 := HLG.out.below hbel hGl
        have q0 := lG2.cell 0
        have q1 := lG2.cell 1
        simp only [List.getElem?_toArray, List.getElem?_cons_zero, List.getElem?_cons_succ] at q0 q1
        have hdl : decide ((ns.length : Int) < (ns.length : Int)) = false := by simp
        have HF := hide (specFirst_any A ns c (ri : Int) ri wr ((HR3.out.below hbel).more hbel.size) hril)
        have hval : Hid (ftx ns ri = look (txtCl ns) (ri : Int)) := hide (look_at (txtCl_at hril)).symm
        rw [hval.out] at HF
        have HROW := hide hrow
        have HBel := hide hbel
        have hqs := HA.out.box.lt
        have hqlo : w1.heap.size ≤ q := hs2
        clear hrow hbel lG2 hli
        go_wp2_with fail
        refine HF.out.mono ?_
        clear HF
        rintro e w5 ⟨rfl, hb5⟩
        have lQ := HA.out.box.below hb5 hqs
        have lQ2 := lQ.set 1 (.int .i64 (look (txtCl ns) (ri : Int)))
        simp only [List.setIfInBounds_toArray, List.set_cons_succ, List.set_cons_zero] at lQ2
        have a0 := lQ.cell 0
        have a1 := lQ.cell 1
        have a2 := lQ.frozen 1
        have c0 := lQ2.cell 0
        have c1 := lQ2.cell 1
        simp only [List.getElem?_toArray, List.getElem?_cons_zero, List.getElem?_cons_succ] at a0 a1 c0 c1
        have hbX : Below w1.heap.size w1 (w5.setCell ⟨q, 1, none⟩ (.int .i64 (look (txtCl ns) (ri : Int)))) := (HBel.out.trans (hb5.mono HBel.out.size)).setCell (p := ⟨q, 1, none⟩) hqlo _
        have hrowX : OwnRow (w5.setCell ⟨q, 1, none⟩ (.int .i64 (look (txtCl ns) (ri : Int)))) w1.heap.size q gr cap (replNs ns (txtCl ns)) := (HROW.out.kept (fun b _ hb => hb5.block b (by omega))).kept (fun b _ hb => Below.heap_setCell _ _ _ _ (by show b ≠ q; omega))
        have lR5 := HLR.out.below hbX hRl
        have hs5 := hb5.size
        have hqW : q ≤ (w5.setCell ⟨q, 1, none⟩ (.int .i64 (look (txtCl ns) (ri : Int)))).heap.size := by simp; omega
        clear q0 q1 lQ lQ2 hb5
        go_upto_region 12 with fail
        clear a0 a1 a2
        generalize w5.setCell ⟨q, 1, none⟩ (.int .i64 (look (txtCl ns) (ri : Int))) = W6 at hbX hrowX lR5 c0 c1 hqW ⊢
        have l6 := (lR5.set 0 (.slice (some ⟨gr, 0, none⟩) ns.length cap)).set 1 (.int .i64 (look (txtCl ns) (ri : Int)))
        simp only [List.setIfInBounds_toArray, List.set_cons_succ, List.set_cons_zero] at l6
        have s0 := l6.cell 0
        have s1 := l6.cell 1
        have b0 := lR5.cell 0
        have b1 := lR5.cell 1
        have f0 := lR5.frozen 0
        have f1 := lR5.frozen 1
        simp only [List.getElem?_toArray, List.getElem?_cons_zero, List.getElem?_cons_succ] at s0 s1 b0 b1
        have hG := GivesG.putQ (q := w.heap.size + 1) (r := look (txtCl ns) (ri : Int)) (by omega) hRl HB3.out (Below.refl _ _) hbX (.inr ⟨gr, rfl, hrowX.high hqW⟩ : OwnNs W6 w1.heap.size W6.heap.size (some ⟨gr, 0, none⟩) cap (replNs ns (txtCl ns)))
        rw [replNs_len] at hG
        have HG := hide hG
        clear hG l6 lR5 hbX hrowX
        go_wp2
        refine bodyPost_ret (v := .agg #[.slice (some ⟨gr, 0, none⟩) ns.length cap, .int .i64 (look (txtCl ns) (ri : Int))]) (by simp [results, Try.results31, go_sem, s0, s1]) rfl ?_
        rw [mrgN_yes HV.out, mrgR_yes HV.out]
        exact HG.out
  · have HY := hide hv
    have l5 := (lR1.set 0 (.slice none 0 0)).set 1 (.int .i64 0)
    simp only [List.setIfInBounds_toArray, List.set_cons_succ, List.set_cons_zero] at l5
    have s0 := l5.cell 0
    have s1 := l5.cell 1
    have b0 := lR1.cell 0
    have b1 := lR1.cell 1
    have f0 := lR1.frozen 0
    have f1 := lR1.frozen 1
    simp only [List.getElem?_toArray, List.getElem?_cons_zero, List.getElem?_cons_succ] at s0 s1 b0 b1
    have HB := hide ((hB3.setCell (p := ⟨w.heap.size + 1, 0, none⟩) (by show w.heap.size ≤ w.heap.size + 1; omega) (.slice none 0 0)).setCell (p := ⟨w.heap.size + 1, 1, none⟩) (by show w.heap.size ≤ w.heap.size + 1; omega) (.int .i64 0))
    rw [tf_false hv]
    clear hv l5 lR1 lG1 hr3 hB3 e0 e1
    go_wp2
    refine bodyPost_ret (v := .agg #[.slice none 0 0, .int .i64 0]) (by simp [results, Try.results31, go_sem, s0, s1]) rfl ?_
    rw [mrgN_no HY.out, mrgR_no HY.out]
    exact GivesG.zero _ _ HB.out

end Go.Proofs.Ythgklkpfmjgeoaa
