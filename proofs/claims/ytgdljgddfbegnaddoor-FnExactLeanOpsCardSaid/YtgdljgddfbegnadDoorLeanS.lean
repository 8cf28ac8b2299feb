/-
  The model's orderly, lean and LeanOps: what each returns.
-/
import Derived.Test.YtgdljgddfbegnadDoorLeanM
import Derived.Test.YtgdljgddfbegnadDoorIdlSA
import Derived.Test.YtgdljgddfbegnadDoorOwnO
namespace Go.Proofs.YtgdljgddfbegnadDoor
open Go.RowKit
set_option linter.unusedVariables false

theorem infoB2 : (Tryd.prog.info? 4).map (fun i => (i.zero, i.size, i.bytes)) = some (some (.bool false), 1, 1) := by kernel_rfl
theorem makeBools20 : ∀ w : World, (Instr.makeSlice 39 (.int .i64 20) (.int .i64 20)).run Tryd.prog w = .ok (.slice (some ⟨w.heap.size, 0, none⟩) 20 20) (w.alloc (.cells (madeCells #[.bool false] 20) 4)) :=
  run_make_row' (P := Tryd.prog) 39 4 (.bool false) 1 Tryd.underlying39 infoB2 rfl .i64 .i64 20 (by omega) (by omega)

set_option maxRecDepth 100000 in
set_option maxHeartbeats 1000000 in
theorem orderly_any (A : Option Addr) (os : List Od) (c : Nat) (w : World) (h : OpsAt w w.heap.size A os) (hok : OpsOk os) :
    Calls Tryd.prog 12 #[.slice A os.length c] w fun e w' => e = .returned (.bool (tf (OrderlyTo os os.length))) ∧ Below w.heap.size w w' := by
  have hl := h.len
  have hl3 := hok.1
  have Hok := hide hok.2
  clear hok
  have hmk := makeBools20
  have hrow0 := World.rowIs_made w (.bool false) 20 4
  have hb0 := (Below.refl w.heap.size w).alloc (Nat.le_refl _) (.cells (madeCells #[.bool false] 20) 4)
  go_enter Tryd.func12, Tryd.ntmps12
  go_wp2_with fail
  clear hmk
  generalize w.alloc (.cells (madeCells #[.bool false] 20) 4) = w2 at hrow0 hb0 ⊢
  go_loopw [4] (fun iv wr => ∃ k : Nat, k ≤ os.length ∧ iv = .int .i64 (k : Int) ∧ Below w.heap.size w wr ∧ wr.rowIs w.heap.size 4 20 (fun p => .bool (putTo os k (p : Int))) ∧ OrderlyTo os k) (fun iv _ => os.length - (intOf iv).toNat)
  case atStart => exact ⟨0, Nat.zero_le _, rfl, hb0, hrow0.congr (fun p _ => by rw [putTo_zero]), fun j _ hj => absurd hj (by omega)⟩
  case round =>
    clear hrow0 hb0
    obtain ⟨k, hk, rfl, hb, hrow, hord⟩ := hrel
    have HO := hide hord
    clear hord
    by_cases hlt : k < os.length
    · obtain ⟨b, off, o, rfl, hbl, hx, hmem, hc0, hc1⟩ := (h.below hb).at_ hlt
      have hk1 : (0 : Int) ≤ (k : Int) := by omega
      have hk2 : (k : Int) < (os.length : Int) := by omega
      by_cases h15 : o.code = 15
      · obtain ⟨ha0, ha1⟩ := (Hok.out o hmem).place (.inl h15)
        have Hp := hide (fun p => putTo_succ hx p)
        have HO2 := hide (HO.out.step hx (fun e => by omega))
        obtain ⟨a, ha⟩ := Int.eq_ofNat_of_zero_le ha0
        have Ha := hide ha
        have H15 := hide h15
        rw [ha] at hc1 ha0 ha1
        rw [h15] at hc0
        have ha2 : (a : Int) < 20 := by omega
        have ha3 : a < 20 := by omega
        have t15 : ((15 : Int) == 15) = true := rfl
        have t16 : ((15 : Int) == 16) = false := rfl
        have d1 := hrow.cell ha3
        have d2 := hrow.frozen a
        have HB := hide (hb.setCell (p := ⟨w.heap.size, a, none⟩) (Nat.le_refl _) (.bool true))
        have HR := hide (hrow.set a (.bool true))
        have hbw : b ≠ w.heap.size := by omega
        have c0' : (wr.setCell ⟨w.heap.size, a, none⟩ (.bool true)).cell? ⟨b, off + k * 2, none⟩ = some (.int .i64 15) := (HB.out.cell (p := ⟨b, off + k * 2, none⟩) hbl).trans ((hb.cell (p := ⟨b, off + k * 2, none⟩) hbl).symm.trans hc0)
        clear hrow hb hx hmem ha h15 ha1 HO
        go_wp2
        go_roundw
        case rel => exact ⟨k + 1, by omega, by go_num, HB.out, HR.out.congr (fun p hp => by
            rw [Hp.out, Ha.out, H15.out]
            by_cases e : p = a
            · subst e; rw [if_pos rfl]; simp
            · rw [if_neg e]
              have : ¬ ((a : Int) = (p : Int)) := by omega
              simp [this]), HO2.out⟩
        case measure => simp [intOf]; omega
      · have t15 : (o.code == 15) = false := by simpa using h15
        by_cases h16 : o.code = 16
        · obtain ⟨ha0, ha1⟩ := (Hok.out o hmem).place (.inr h16)
          have Hp := hide (fun p => putTo_succ hx p)
          have Hpp := hide (put_place hx h16)
          obtain ⟨a, ha⟩ := Int.eq_ofNat_of_zero_le ha0
          have Ha := hide ha
          have H16 := hide h16
          have HX := hide hx
          rw [ha] at hc1 ha0 ha1
          rw [h16] at hc0 t15
          have ha2 : (a : Int) < 20 := by omega
          have ha3 : a < 20 := by omega
          have t16 : ((16 : Int) == 16) = true := rfl
          have d1 := hrow.cell ha3
          have HR := hide hrow
          by_cases hp : o.arg ∈ placesL os k
          · have hq : putTo os k (a : Int) = true := by rw [← Ha.out]; exact Hpp.out.2 hp
            rw [hq] at d1
            have HO2 := hide (HO.out.step hx (fun _ => hp))
            clear hrow hx hmem ha h15 h16 ha1 HO hp hq
            go_wp2
            go_roundw
            case rel => exact ⟨k + 1, by omega, by go_num, hb, HR.out.congr (fun p hp => by
                rw [Hp.out, H16.out]
                simp), HO2.out⟩
            case measure => simp [intOf]; omega
          · have hq : putTo os k (a : Int) = false := by
              cases hc : putTo os k (a : Int)
              · rfl
              · exact absurd (Hpp.out.1 (by rw [Ha.out]; exact hc)) hp
            rw [hq] at d1
            have HF := hide (show tf (OrderlyTo os os.length) = false from tf_false fun ho => hp (ho k o hlt hx h16))
            clear hrow hx hmem ha h15 h16 ha1 HO hp hq
            go_wp2
            go_ret
            exact ⟨ret_bool HF.out.symm, hb⟩
        · have t16 : (o.code == 16) = false := by simpa using h16
          have Hp := hide (fun p => putTo_succ hx p)
          have H15 := hide h15
          have HO2 := hide (HO.out.step hx (fun e => absurd e h16))
          have HR := hide hrow
          clear hrow hx hmem h15 h16 HO
          go_wp2
          go_roundw
          case rel => exact ⟨k + 1, by omega, by go_num, hb, HR.out.congr (fun p hp => by
              rw [Hp.out]
              simp [H15.out]), HO2.out⟩
          case measure => simp [intOf]; omega
    · obtain rfl : k = os.length := by omega
      have HF := hide (tf_true HO.out)
      clear hlt HO hrow
      go_wp2
      go_ret
      exact ⟨ret_bool HF.out.symm, hb⟩

/-- what the second walk of lean knows: the places L so far, and what stays, M -/
structure LeanAt (w wr : World) (L : List Int) (M : List Od) (gp cp : Nat) (Ao : Option Addr) (co : Nat) : Prop where
  out : OwnO wr w.heap.size Ao co M
  pos : OwnI wr w.heap.size (some ⟨gp, 0, none⟩) cp (posL L)
  ne : blockOf Ao ≠ some gp
  below : Below w.heap.size w wr

theorem LeanAt.step {w wr w' : World} {L : List Int} {M : List Od} {gp cp : Nat} {Ao : Option Addr} {co : Nat} (h : LeanAt w wr L M gp cp Ao co) (hb : Below wr.heap.size wr w') : LeanAt w w' L M gp cp Ao co :=
  ⟨h.out.below hb, h.pos.below hb, h.ne, h.below.trans (hb.mono h.below.size)⟩

theorem LeanAt.setBox {w wr : World} {L : List Int} {M : List Od} {gp cp bx j : Nat} {Ao : Option Addr} {co : Nat} (h : LeanAt w wr L M gp cp Ao co) (h1 : gp ≠ bx) (h2 : blockOf Ao ≠ some bx) (h3 : w.heap.size ≤ bx) (v : Value) : LeanAt w (wr.setCell ⟨bx, j, none⟩ v) L M gp cp Ao co :=
  ⟨h.out.of_block (fun g hg => Below.heap_setCell _ _ _ _ (by rintro rfl; exact h2 hg)), h.pos.of_block (fun g hg => Below.heap_setCell _ _ _ _ (by
      simp [blockOf] at hg
      show g ≠ bx
      omega)), h.ne, h.below.setCell h3 v⟩

theorem LeanAt.setPos {w wr : World} {L : List Int} {M : List Od} {gp cp a : Nat} {Ao : Option Addr} {co : Nat} (h : LeanAt w wr L M gp cp Ao co) (ha : a < 20) (hn : (a : Int) ∉ L) : LeanAt w (wr.setCell ⟨gp, a, none⟩ (.int .i64 (L.length : Int))) (L ++ [(a : Int)]) M gp cp Ao co :=
  ⟨h.out.of_block (fun g hg => Below.heap_setCell _ _ _ _ (by rintro rfl; exact h.ne hg)), by have := h.pos.set a (L.length : Int); rw [posL_set hn ha] at this; exact this, h.ne, h.below.setCell (h.pos.blocks gp rfl).1 _⟩

theorem LeanAt.next {w wr w' : World} {L : List Int} {M zs : List Od} {gp cp : Nat} {Ao A' : Option Addr} {co c' : Nat} {ob : Obj} (h : LeanAt w wr L M gp cp Ao co) (ho : OwnO w' w.heap.size A' c' zs) (hg : (wr.alloc ob).grownBy w' (blockOf Ao)) (ha : blockOf A' = blockOf Ao ∨ blockOf A' = some (wr.alloc ob).heap.size) : LeanAt w w' L zs gp cp A' c' := by
  have hgp := (h.pos.blocks gp rfl).2
  refine ⟨ho, (h.pos.alloc ob).of_block (fun g hg2 => ?_), ?_, below_grown (h.below.alloc h.below.size ob) hg (by have := h.below.size; simp; omega) (fun q hq => (h.out.blocks q hq).1)⟩
  · simp [blockOf] at hg2
    subst hg2
    exact hg.block gp (by simp; omega) (fun e => h.ne e.symm)
  · rcases ha with ha | ha
    · rw [ha]; exact h.ne
    · rw [ha]
      simp
      omega

set_option maxRecDepth 100000 in
set_option maxHeartbeats 4000000 in
theorem lean_any (A : Option Addr) (os : List Od) (c : Nat) (w : World) (h : OpsAt w w.heap.size A os) (hok : OpsOk os) (hord : OrderlyTo os os.length) :
    Calls Tryd.prog 13 #[.slice A os.length c] w (GivesOps w (leanTo os os.length)) := by
  have hl := h.len
  have hl3 := hok.1
  have Hok := hide hok.2
  have Hord := hide hord
  have Hwf := hide h.wf
  clear hok hord
  have l0 := OwnO.bare w
  have hb0 := (Below.refl w.heap.size w).alloc (Nat.le_refl _) (.cells #[] 32)
  have hz0 : (w.alloc (.cells #[] 32)).heap.size = w.heap.size + 1 := by simp
  have hbare := OwnI.bare (w.alloc (.cells #[] 32))
  have hb1 := (Below.refl (w.heap.size + 1) (w.alloc (.cells #[] 32))).alloc (by simp) (.cells #[] 3)
  rw [hz0] at hbare
  have hm1 : In64 (-1) := by constructor <;> omega
  clear hz0
  go_enter Tryd.func13, Tryd.ntmps13
  go_wp2_with fail
  have HZ := hide (show w.heap.size + 1 ≤ (w.alloc (.cells #[] 32)).heap.size by simp)
  generalize (w.alloc (.cells #[] 32)).alloc (.cells #[] 3) = w2 at hbare hb1 ⊢
  generalize w.alloc (.cells #[] 32) = w1 at l0 hb0 hb1 HZ ⊢
  go_loopw [4, 5] (fun pv iv wr => ∃ (k : Nat) (A' : Option Addr) (c' : Nat), k ≤ 20 ∧ iv = .int .i64 (k : Int) ∧ pv = .slice A' (List.replicate k (-1 : Int)).length c' ∧ OwnI wr (w.heap.size + 1) A' c' (List.replicate k (-1)) ∧ Below (w.heap.size + 1) w1 wr) (fun _ iv _ => 20 - (intOf iv).toNat)
  case atStart => exact ⟨0, _, 0, Nat.zero_le _, rfl, rfl, hbare, hb1⟩
  case round =>
    clear hbare hb1
    obtain ⟨k, A', c', hk, rfl, rfl, hown, hb⟩ := hrel
    by_cases hlt : k < 20
    · have hd : decide ((k : Int) < 20) = true := by simp; omega
      have hsz := hb.size
      have hrs := hide (show List.replicate k (-1 : Int) ++ [-1] = List.replicate (k + 1) (-1) by rw [List.replicate_succ'])
      have hll : (List.replicate k (-1 : Int)).length = k := by simp
      generalize List.replicate k (-1 : Int) = L at hown hrs hll ⊢
      have HZ' := HZ.out
      go_wp2_with (at_builtin; refine append_ints rfl (.tmp 15) (.tmp 16) rfl (w.heap.size + 1) A' c' L rfl (hown.alloc _) (wr.heap.size + 1) _ 1 [(-1 : Int)] rfl (fun e => by cases e) (IntsAt.one wr (-1) hm1) (by simp <;> omega) (by simp <;> omega) ?_; intro zs A2 c2 w5 hz hown5 hgrow5 hat5)
      go_roundw
      case rel => exact ⟨k + 1, A2, c2, by omega, by go_num, by rw [← hrs.out, ← hz.out], by rw [← hrs.out, ← hz.out]; exact hown5, below_grown (hb.alloc (by omega) _) hgrow5 (by simp; omega) (fun q hq => (hown.blocks q hq).1)⟩
      case measure => simp [intOf]; omega
    · obtain rfl : k = 20 := by omega
      clear hlt
      obtain ⟨gp, rfl⟩ : ∃ gp, A' = some ⟨gp, 0, none⟩ := by
        rcases hown.form with ⟨_, _, h3⟩ | ⟨g, h3, _⟩
        · cases h3
        · exact ⟨g, h3⟩
      have hgp := (hown.blocks gp rfl).1
      have hL0 : LeanAt w wr (placesL os 0) (leanTo os 0) gp c' (some ⟨w.heap.size, 0, none⟩) 0 := by
        refine ⟨l0.of_block (fun g hg => ?_), ?_, ?_, hb0.trans (hb.mono (by omega))⟩
        · simp [blockOf] at hg
          exact hb.block g (by omega)
        · show OwnI wr w.heap.size (some ⟨gp, 0, none⟩) c' (posL [])
          rw [posL_nil]
          exact hown.mono (by omega)
        · simp [blockOf]
          omega
      have HL0 := hide hL0
      clear hown hb l0 hb0 hL0 hgp HZ
      have hdd : decide ((20 : Int) < 20) = false := rfl
      simp only [List.length_replicate]
      rw [show ((20 : Nat) : Int) = (20 : Int) from rfl]
      go_wp2_with fail
      go_loopw [3, 6, 7] (fun ov nv iv wr => ∃ (k : Nat) (Ao : Option Addr) (co : Nat), k ≤ os.length ∧ iv = .int .i64 (k : Int) ∧ nv = .int .i64 ((placesL os k).length : Int) ∧ ov = .slice Ao (leanTo os k).length co ∧ LeanAt w wr (placesL os k) (leanTo os k) gp c' Ao co) (fun _ _ iv _ => os.length - (intOf iv).toNat)
      case atStart => exact ⟨0, _, 0, Nat.zero_le _, rfl, rfl, rfl, HL0.out⟩
      case round =>
        clear HL0
        obtain ⟨k, Ao, co, hk, rfl, rfl, rfl, hL⟩ := hrel
        by_cases hlt : k < os.length
        · obtain ⟨b, off, o, rfl, hbl, hx, hmem, hc0, hc1⟩ := (h.below hL.below).at_ hlt
          have hk1 : (0 : Int) ≤ (k : Int) := by omega
          have hk2 : (k : Int) < (os.length : Int) := by omega
          have hpl := placesL_len os k
          have hml := leanTo_len os k
          have HL1 := hide (hL.step ((Below.refl wr.heap.size wr).alloc (Nat.le_refl _) (.cells #[.int .i64 o.code, .int .i64 o.arg] 32)))
          have lo := Lies.new wr #[.int .i64 o.code, .int .i64 o.arg] 32
          have hbxA : blockOf Ao ≠ some wr.heap.size := fun e => by have := (hL.out.blocks _ e).2; omega
          have hbxg : gp ≠ wr.heap.size := by have := (hL.pos.blocks gp rfl).2; omega
          have hbxw : w.heap.size ≤ wr.heap.size := hL.below.size
          have HX := hide hx
          have HM := hide hmem
          clear hx hmem hL
          go_wp2_with fail
          refine (specIdle_any _ os c k _ (h.later HL1.out.below (Nat.le_refl _)) hlt).mono ?_
          rintro e w3 ⟨rfl, hb3⟩
          have HL3 := hide (HL1.out.step hb3)
          have lo3 := lo.below hb3 lo.lt
          generalize wr.heap.size = bx at lo3 hbxA hbxg hbxw ⊢
          clear HL1 hb3 lo hc0 hc1 hbl
          have o0 := lo3.cell 0
          have o1 := lo3.cell 1
          have of1 := lo3.frozen 1
          simp at o0 o1
          cases hid : idleAt os k with
          | true =>
            have e1 := hide (leanTo_idle HX.out hid)
            have e2 := hide (placesL_same HX.out (fun hh => by rw [hid] at hh; cases hh.2.1))
            clear hid lo3
            go_wp2
            go_roundw
            case rel => exact ⟨k + 1, Ao, co, by omega, by go_num, by rw [e2.out], by rw [e1.out], by rw [e1.out, e2.out]; exact HL3.out⟩
            case measure => simp [intOf]; omega
          | false =>
            have e1 := hide (leanTo_stay HX.out hid)
            have HOk := hide (Hok.out o HM.out)
            generalize hMd : leanTo os k = M at HL3 e1 hml ⊢
            generalize hLd : placesL os k = L at HL3 hpl ⊢
            have HLd := hide hLd
            clear hMd hLd
            by_cases h15 : o.code = 15
            · obtain ⟨ha0, ha1⟩ := HOk.out.place (.inl h15)
              obtain ⟨a, ha⟩ := Int.eq_ofNat_of_zero_le ha0
              have Ha := hide ha
              have ha3 : a < 20 := by omega
              have ha2 : (a : Int) < 20 := by omega
              have ha1' : (0 : Int) ≤ (a : Int) := by omega
              have t15 : ((15 : Int) == 15) = true := rfl
              rw [ha] at lo3 o1
              rw [h15] at lo3 o0
              by_cases hin : (a : Int) ∈ L
              · have e2 := hide (show placesL os (k + 1) = L by rw [placesL_same HX.out (fun hh => hh.2.2 (by rw [HLd.out, Ha.out]; exact hin)), HLd.out])
                have hat := posL_at L ha3
                rw [if_pos hin] at hat
                have d1 := HL3.out.pos.cellAt hat
                have hv0 : (0 : Int) ≤ (L.idxOf (a : Int) : Int) := by omega
                have e3 := hide (show leanOd L o = ⟨15, (L.idxOf (a : Int) : Int)⟩ by rw [leanOd_place (.inl h15), h15, Ha.out])
                generalize (L.idxOf (a : Int) : Int) = v at d1 hv0 e3
                have dn : decide (v < 0) = false := by simp; omega
                have dp : decide (0 ≤ v) = true := by simpa using hv0
                have lo4 := lo3.set 1 (.int .i64 v)
                simp at lo4
                have r0 := lo4.cell 0
                have r1 := lo4.cell 1
                simp at r0 r1
                have HL4 := hide (HL3.out.setBox (j := 1) hbxg hbxA hbxw (.int .i64 v))
                have HN := hide (Lies.new (w3.setCell ⟨bx, 1, none⟩ (.int .i64 v)) #[.int .i64 15, .int .i64 v] 32)
                have hsz := HL4.out.below.size
                simp only [World.size_setCell] at hsz HN
                clear hat hin hid h15 ha ha1 lo3 lo4 HL3
                go_wp2_with (at_builtin; refine append_op rfl (.tmp 71) (.tmp 73) rfl w.heap.size Ao co M rfl (HL4.out.out.alloc _) w3.heap.size ⟨15, v⟩ 32 rfl HN.out (by omega) (by simp; omega) ?_; intro zs A2 c2 w7 hz hown7 hgrow7 hat7)
                go_roundw
                case rel => exact ⟨k + 1, A2, c2, by omega, by go_num, by rw [e2.out], by rw [e1.out, e2.out, e3.out, hz.out], by rw [e1.out, e2.out, e3.out, ← hz.out]; exact HL4.out.next hown7 hgrow7 hat7⟩
                case measure => simp [intOf]; omega
              · have e2 := hide (show placesL os (k + 1) = L ++ [(a : Int)] by rw [placesL_new HX.out h15 hid (by rw [HLd.out, Ha.out]; exact hin), HLd.out, Ha.out])
                have hat := posL_at L ha3
                rw [if_neg hin] at hat
                have d1 := HL3.out.pos.cellAt hat
                have d2 := HL3.out.pos.own.frozenAt a
                have dn : decide ((-1 : Int) < 0) = true := rfl
                have e3 := hide (show leanOd (L ++ [(a : Int)]) o = ⟨15, (L.length : Int)⟩ by rw [leanOd_place (.inl h15), h15, Ha.out, List.idxOf_append, if_neg hin]; simp)
                have HL4 := hide (HL3.out.setPos ha3 hin)
                have hll : (L ++ [(a : Int)]).length = L.length + 1 := by simp
                have hv0 : (0 : Int) ≤ (L.length : Int) := by omega
                have hat4 := posL_at (L ++ [(a : Int)]) ha3
                rw [if_pos (by simp), List.idxOf_append, if_neg hin] at hat4
                have q4 := HL4.out.pos.cellAt hat4
                simp only [List.idxOf_cons_self, Nat.zero_add] at q4
                have lo4 := lo3.far (p := ⟨gp, a, none⟩) (fun e => hbxg e.symm) (.int .i64 (L.length : Int))
                have p0 := lo4.cell 0
                have p1 := lo4.cell 1
                have pf := lo4.frozen 1
                simp at p0 p1
                have HLL := hide hll
                generalize hvd : (L.length : Int) = v at lo4 p0 p1 pf q4 HL4 e3 hv0 ⊢
                have HV := hide hvd
                have dp : decide (0 ≤ v) = true := by simpa using hv0
                have hv9 : v ≤ 300 := by omega
                have lo5 := lo4.set 1 (.int .i64 v)
                simp at lo5
                have r0 := lo5.cell 0
                have r1 := lo5.cell 1
                simp at r0 r1
                have HL5 := hide (HL4.out.setBox (j := 1) hbxg hbxA hbxw (.int .i64 v))
                have HN := hide (Lies.new ((w3.setCell ⟨gp, a, none⟩ (.int .i64 v)).setCell ⟨bx, 1, none⟩ (.int .i64 v)) #[.int .i64 15, .int .i64 v] 32)
                have hsz := HL5.out.below.size
                simp only [World.size_setCell] at hsz HN
                clear hat hat4 hin hid h15 ha ha1 lo3 lo4 lo5 HL3 HL4 hll hvd
                go_wp2_with (at_builtin; refine append_op rfl (.tmp 71) (.tmp 73) rfl w.heap.size Ao co M rfl (HL5.out.out.alloc _) w3.heap.size ⟨15, v⟩ 32 rfl HN.out (by omega) (by simp; omega) ?_; intro zs A2 c2 w7 hz hown7 hgrow7 hat7)
                go_roundw
                case rel => exact ⟨k + 1, A2, c2, by omega, by go_num, by rw [e2.out, HLL.out, ← HV.out]; go_num, by rw [e1.out, e2.out, e3.out, hz.out], by rw [e1.out, e2.out, e3.out, ← hz.out]; exact HL5.out.next hown7 hgrow7 hat7⟩
                case measure => simp [intOf]; omega
            · have t15 : (o.code == 15) = false := by simpa using h15
              have e2 := hide (show placesL os (k + 1) = L by rw [placesL_same HX.out (fun hh => h15 hh.1), HLd.out])
              by_cases h16 : o.code = 16
              · obtain ⟨ha0, ha1⟩ := HOk.out.place (.inr h16)
                obtain ⟨a, ha⟩ := Int.eq_ofNat_of_zero_le ha0
                have Ha := hide ha
                have ha3 : a < 20 := by omega
                have ha2 : (a : Int) < 20 := by omega
                have ha1' : (0 : Int) ≤ (a : Int) := by omega
                have t16 : ((16 : Int) == 16) = true := rfl
                have hin : (a : Int) ∈ L := by rw [← Ha.out, ← HLd.out]; exact Hord.out k o hlt HX.out h16
                rw [ha] at lo3 o1
                rw [h16] at lo3 o0 t15
                have hat := posL_at L ha3
                rw [if_pos hin] at hat
                have d1 := HL3.out.pos.cellAt hat
                have hv0 : (0 : Int) ≤ (L.idxOf (a : Int) : Int) := by omega
                have e3 := hide (show leanOd L o = ⟨16, (L.idxOf (a : Int) : Int)⟩ by rw [leanOd_place (.inr h16), h16, Ha.out])
                generalize (L.idxOf (a : Int) : Int) = v at d1 hv0 e3
                have dn : decide (v < 0) = false := by simp; omega
                have dp : decide (0 ≤ v) = true := by simpa using hv0
                have lo4 := lo3.set 1 (.int .i64 v)
                simp at lo4
                have r0 := lo4.cell 0
                have r1 := lo4.cell 1
                simp at r0 r1
                have HL4 := hide (HL3.out.setBox (j := 1) hbxg hbxA hbxw (.int .i64 v))
                have HN := hide (Lies.new (w3.setCell ⟨bx, 1, none⟩ (.int .i64 v)) #[.int .i64 16, .int .i64 v] 32)
                have hsz := HL4.out.below.size
                simp only [World.size_setCell] at hsz HN
                clear hat hin hid h15 h16 ha ha1 lo3 lo4 HL3
                go_wp2_with (at_builtin; refine append_op rfl (.tmp 71) (.tmp 73) rfl w.heap.size Ao co M rfl (HL4.out.out.alloc _) w3.heap.size ⟨16, v⟩ 32 rfl HN.out (by omega) (by simp; omega) ?_; intro zs A2 c2 w7 hz hown7 hgrow7 hat7)
                go_roundw
                case rel => exact ⟨k + 1, A2, c2, by omega, by go_num, by rw [e2.out], by rw [e1.out, e2.out, e3.out, hz.out], by rw [e1.out, e2.out, e3.out, ← hz.out]; exact HL4.out.next hown7 hgrow7 hat7⟩
                case measure => simp [intOf]; omega
              · have t16 : (o.code == 16) = false := by simpa using h16
                have e3 := hide (leanOd_other (L := L) h15 h16)
                have HN := hide (Lies.new w3 #[.int .i64 o.code, .int .i64 o.arg] 32)
                have hsz := HL3.out.below.size
                clear hid h15 h16 lo3
                go_wp2_with (at_builtin; refine append_op rfl (.tmp 71) (.tmp 73) rfl w.heap.size Ao co M rfl (HL3.out.out.alloc _) w3.heap.size o 32 rfl HN.out (by omega) (by simp; omega) ?_; intro zs A2 c2 w7 hz hown7 hgrow7 hat7)
                go_roundw
                case rel => exact ⟨k + 1, A2, c2, by omega, by go_num, by rw [e2.out], by rw [e1.out, e2.out, e3.out, hz.out], by rw [e1.out, e2.out, e3.out, ← hz.out]; exact HL3.out.next hown7 hgrow7 hat7⟩
                case measure => simp [intOf]; omega
        · obtain rfl : k = os.length := by omega
          clear hlt
          have HO := hide (show ∃ n, n = (leanTo os os.length).length ∧ OwnO wr w.heap.size Ao co (leanTo os os.length) ∧ Below w.heap.size w wr from ⟨_, rfl, hL.out, hL.below⟩)
          clear hL
          go_wp2
          go_ret
          obtain ⟨_, _, ho, hb⟩ := HO.out
          exact ⟨Ao, co, rfl, ho, hb⟩

theorem GivesOps.mono_world {w0 w1 : World} {os : List Od} {e : Ending} {w' : World} (h : GivesOps w1 os e w') (hb : Below w0.heap.size w0 w1) : GivesOps w0 os e w' := by
  obtain ⟨A, c, h1, h2, h3⟩ := h
  exact ⟨A, c, h1, h2.mono hb.size, hb.trans (h3.mono hb.size)⟩

set_option maxRecDepth 100000 in
set_option maxHeartbeats 1000000 in
theorem specLeanOps_any (A : Option Addr) (os : List Od) (c : Nat) (w : World) (h : OpsAt w w.heap.size A os) :
    Calls Tryd.prog 5 #[.slice A os.length c] w (GivesOps w (leanOf os)) := by
  by_cases hok : OpsOk os
  · have ht := hide (tf_true hok)
    have Hok := hide hok
    clear hok
    by_cases hord : OrderlyTo os os.length
    · rw [leanOf_ok Hok.out hord]
      have ho := hide (tf_true hord)
      have Hord := hide hord
      clear hord
      go_enter Tryd.func5, Tryd.ntmps5
      go_wp2_with fail
      refine (specValidOps_any A os c w h).mono ?_
      rintro e w1 ⟨rfl, hb1⟩
      rw [ht.out]
      have h1 := h.later hb1 (Nat.le_refl _)
      go_wp2_with fail
      refine (orderly_any A os c w1 h1 Hok.out).mono ?_
      rintro e w2 ⟨rfl, hb2⟩
      rw [ho.out]
      have hB2 := hb1.trans (hb2.mono hb1.size)
      have h2 := h.later hB2 (Nat.le_refl _)
      clear h1 hb1 hb2
      go_wp2_with fail
      refine (lean_any A os c w2 h2 Hok.out Hord.out).mono ?_
      rintro e w3 hG
      have hG2 := hG.mono_world hB2
      obtain ⟨A', c', rfl, hown, hb⟩ := hG2
      have HO := hide (show ∃ n, n = (leanTo os os.length).length ∧ OwnO w3 w.heap.size A' c' (leanTo os os.length) from ⟨_, rfl, hown⟩)
      clear hown hG h2
      go_wp2
      go_ret
      obtain ⟨_, _, ho⟩ := HO.out
      exact ⟨A', c', rfl, ho, hb⟩
    · rw [leanOf_not hord]
      have ho := hide (tf_false hord)
      clear hord
      go_enter Tryd.func5, Tryd.ntmps5
      go_wp2_with fail
      refine (specValidOps_any A os c w h).mono ?_
      rintro e w1 ⟨rfl, hb1⟩
      rw [ht.out]
      have h1 := h.later hb1 (Nat.le_refl _)
      go_wp2_with fail
      refine (orderly_any A os c w1 h1 Hok.out).mono ?_
      rintro e w2 ⟨rfl, hb2⟩
      rw [ho.out]
      have hB2 := hb1.trans (hb2.mono hb1.size)
      clear h1 hb1 hb2
      go_wp2
      go_ret
      exact ⟨none, 0, rfl, OwnO.empty _ _, hB2⟩
  · rw [leanOf_no hok]
    have ht := hide (tf_false hok)
    clear hok
    go_enter Tryd.func5, Tryd.ntmps5
    go_wp2_with fail
    refine (specValidOps_any A os c w h).mono ?_
    rintro e w1 ⟨rfl, hb1⟩
    rw [ht.out]
    go_wp2
    go_ret
    exact ⟨none, 0, rfl, OwnO.empty _ _, hb1⟩

end Go.Proofs.YtgdljgddfbegnadDoor
