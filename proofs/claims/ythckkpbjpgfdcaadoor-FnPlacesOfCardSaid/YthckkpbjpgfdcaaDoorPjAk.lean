/-
  Lemmas, several texts in one: IdlIA, LeanI, PlL.
-/
import Derived.Test.YthckkpbjpgfdcaaDoorPjAg
import Derived.Test.YthckkpbjpgfdcaaDoorPjAj
import Derived.Deep.QuietTactic
import Derived.BigQuiet
import Derived.Test.YthckkpbjpgfdcaaDoorPjAc
namespace Go.Proofs.YthckkpbjpgfdcaaDoor
open Go.RowKit
set_option linter.unusedVariables false
theorem infoB : (Tryd.prog.info? 4).map (fun i => (i.zero, i.size, i.bytes)) = some (some (.bool false), 1, 1) := by kernel_rfl
theorem twenty (v : Value) : ∀ i, i < 20 → (#[v, v, v, v, v, v, v, v, v, v, v, v, v, v, v, v, v, v, v, v] : Array Value)[i]? = some v := by
  intro i hi
  rcases i with _ | _ | _ | _ | _ | _ | _ | _ | _ | _ | _ | _ | _ | _ | _ | _ | _ | _ | _ | _ | i <;> first | rfl | omega
theorem twenty_row (w : World) (v : Value) (t : TypeId) : (w.alloc (.cells #[v, v, v, v, v, v, v, v, v, v, v, v, v, v, v, v, v, v, v, v] t)).rowIs w.heap.size t 20 (fun _ => v) :=
  ⟨_, Go.Deep.blk_alloc_new _ _, rfl, twenty v⟩
set_option maxRecDepth 100000 in
set_option maxHeartbeats 2000000 in
theorem areIdle_any (A : Option Addr) (os : List Od) (c : Nat) (w : World) (h : OpsAt w w.heap.size A os) (hok : OpsOk os) :
    Calls Tryd.prog 15 #[.slice A os.length c] w fun e w' => e = .returned (.slice (some ⟨w.heap.size, 0, none⟩) os.length os.length) ∧
      w'.rowIs w.heap.size 4 os.length (fun i => .bool (idleAt os i)) ∧ Below w.heap.size w w' := by
  have hl := h.len
  have hl3 := hok.1
  have Hok := hide hok.2
  clear hok
  have hmk := run_make_row' (P := Tryd.prog) 41 4 (.bool false) 1 Tryd.underlying41 infoB rfl .i64 .i64 os.length (by omega) (by omega)
  have hrow0 := World.rowIs_made w (.bool false) os.length 4
  have hb0 := (Below.refl w.heap.size w).alloc (Nat.le_refl _) (.cells (madeCells #[.bool false] os.length) 4)
  have hz0 : (w.alloc (.cells (madeCells #[.bool false] os.length) 4)).heap.size = w.heap.size + 1 := by simp
  go_enter Tryd.func15, Tryd.ntmps15
  go_wp2_with fail
  clear hmk
  have hrowB := twenty_row (w.alloc (.cells (madeCells #[.bool false] os.length) 4)) (.bool false) 59
  rw [hz0] at hrowB
  have hrowA := hrow0.alloc (.cells #[.bool false, .bool false, .bool false, .bool false, .bool false, .bool false, .bool false, .bool false, .bool false, .bool false, .bool false, .bool false, .bool false, .bool false, .bool false, .bool false, .bool false, .bool false, .bool false, .bool false] 59)
  have hb1 := hb0.alloc (by omega) (.cells #[.bool false, .bool false, .bool false, .bool false, .bool false, .bool false, .bool false, .bool false, .bool false, .bool false, .bool false, .bool false, .bool false, .bool false, .bool false, .bool false, .bool false, .bool false, .bool false, .bool false] 59)
  clear hrow0 hb0 hz0
  generalize (w.alloc (.cells (madeCells #[.bool false] os.length) 4)).alloc _ = w2 at hrowB hrowA hb1 ⊢
  go_loopw [5] (fun iv wr => ∃ k : Nat, k ≤ os.length ∧ iv = .int .i64 ((k : Int) - 1) ∧ Below w.heap.size w wr ∧ wr.rowIs w.heap.size 4 os.length (fun i => .bool (if k ≤ i then idleAt os i else false)) ∧ wr.rowIs (w.heap.size + 1) 59 20 (fun p => .bool (gotIn (os.drop k) (p : Int)))) (fun iv _ => (intOf iv + 1).toNat)
  case atStart => exact ⟨os.length, Nat.le_refl _, rfl, hb1, hrowA.congr (fun i hi => by rw [if_neg (by omega)]), hrowB.congr (fun p _ => by rw [gotIn_end])⟩
  case round =>
    clear hrowA hrowB hb1
    obtain ⟨k, hk, rfl, hb, hrA, hrB⟩ := hrel
    rcases k with _ | j
    · rw [show ((0 : Nat) : Int) - 1 = -1 from rfl]
      have HR := hide (hrA.congr (g := fun i => .bool (idleAt os i)) (fun i _ => by rw [if_pos (Nat.zero_le _)]))
      clear hrA hrB
      go_wp2
      go_ret
      exact ⟨rfl, HR.out, hb⟩
    · rw [show ((j + 1 : Nat) : Int) - 1 = (j : Int) by omega]
      obtain ⟨b, off, o, rfl, hbl, hx, hmem, hc0, hc1⟩ := (h.below hb).at_ (k := j) (by omega)
      have hj1 : (0 : Int) ≤ (j : Int) := by omega
      have hj2 : (j : Int) < (os.length : Int) := by omega
      by_cases h16 : o.code = 16
      · obtain ⟨ha0, ha1⟩ := (Hok.out o hmem).place (.inr h16)
        have Hg := hide (fun p => gotIn_get hx h16 p)
        have Hi := hide (idleAt_no hx (by omega))
        obtain ⟨a, ha⟩ := Int.eq_ofNat_of_zero_le ha0
        have Ha := hide ha
        rw [ha] at hc1 ha0 ha1
        rw [h16] at hc0
        have ha2 : (a : Int) < 20 := by omega
        have ha3 : a < 20 := by omega
        have t16 : ((16 : Int) == 16) = true := rfl
        have d1 := hrB.cell ha3
        have d2 := hrB.frozen a
        have HB := hide (hb.setCell (p := ⟨w.heap.size + 1, a, none⟩) (by simp) (.bool true))
        have HrA := hide (hrA.setOther (a := ⟨w.heap.size + 1, a, none⟩) (by simp) (.bool true))
        have HrB := hide (hrB.set a (.bool true))
        clear hrA hrB hb hx hmem ha h16 ha1
        go_wp2
        go_roundw
        case rel => exact ⟨j, by omega, by go_num, HB.out, HrA.out.congr (fun i hi => by
            by_cases e : j = i
            · subst e; rw [if_neg (by omega), if_pos (Nat.le_refl _), Hi.out]
            · by_cases e2 : j + 1 ≤ i
              · rw [if_pos e2, if_pos (by omega)]
              · rw [if_neg e2, if_neg (by omega)]), HrB.out.congr (fun p hp => by
            rw [Hg.out, Ha.out]
            by_cases e : p = a
            · subst e; rw [if_pos rfl, if_pos rfl]
            · rw [if_neg e, if_neg (by omega)])⟩
        case measure => simp [intOf]
      · have t16 : (o.code == 16) = false := by simpa using h16
        by_cases h15 : o.code = 15
        · obtain ⟨ha0, ha1⟩ := (Hok.out o hmem).place (.inl h15)
          have Hg := hide (fun p => gotIn_put hx h15 p)
          have Hi := hide (idleAt_put hx h15)
          obtain ⟨a, ha⟩ := Int.eq_ofNat_of_zero_le ha0
          have Ha := hide ha
          rw [ha] at hc1 ha0 ha1
          rw [h15] at hc0 t16
          have ha2 : (a : Int) < 20 := by omega
          have ha3 : a < 20 := by omega
          have t15 : ((15 : Int) == 15) = true := rfl
          have Hq : Hid (idleAt os j = !gotIn (os.drop (j + 1)) (a : Int)) := by rw [← Ha.out]; exact Hi.out
          have d1 := hrB.cell ha3
          have d2 := hrA.cell (i := j) (by omega)
          have d3 := hrA.frozen j
          generalize hqd : gotIn (os.drop (j + 1)) (a : Int) = q at d1 Hq
          have HB := hide ((hb.setCell (p := ⟨w.heap.size, j, none⟩) (by simp) (.bool (!q))).setCell (p := ⟨w.heap.size + 1, a, none⟩) (by simp) (.bool false))
          have hrA2 := hrA.set j (.bool (!q))
          have hrB2 := hrB.setOther (a := ⟨w.heap.size, j, none⟩) (by simp) (.bool (!q))
          have f1 := hrB2.cell ha3
          have f2 := hrB2.frozen a
          have HrA := hide (hrA2.setOther (a := ⟨w.heap.size + 1, a, none⟩) (by simp) (.bool false))
          have HrB := hide (hrB2.set a (.bool false))
          clear hrA hrB hb hx hmem ha h16 h15 ha1 hrA2 hrB2 hqd
          go_wp2
          go_roundw
          case rel => exact ⟨j, by omega, by go_num, HB.out, HrA.out.congr (fun i hi => by
              by_cases e : i = j
              · subst e; rw [if_pos rfl, if_pos (Nat.le_refl _), Hq.out]
              · rw [if_neg e]
                by_cases e2 : j + 1 ≤ i
                · rw [if_pos e2, if_pos (by omega)]
                · rw [if_neg e2, if_neg (by omega)]), HrB.out.congr (fun p hp => by
              rw [Hg.out, Ha.out]
              by_cases e : p = a
              · subst e; rw [if_pos rfl, if_pos rfl]
              · rw [if_neg e, if_neg (by omega)])⟩
          case measure => simp [intOf]
        · have t15 : (o.code == 15) = false := by simpa using h15
          have Hg := hide (fun p => gotIn_other hx h16 h15 p)
          have Hi := hide (idleAt_no hx h15)
          have HB := hide hb
          have HrA := hide hrA
          have HrB := hide hrB
          clear hrA hrB hb hx hmem h16 h15
          go_wp2
          go_roundw
          case rel => exact ⟨j, by omega, by go_num, HB.out, HrA.out.congr (fun i hi => by
              by_cases e : j = i
              · subst e; rw [if_neg (by omega), if_pos (Nat.le_refl _), Hi.out]
              · by_cases e2 : j + 1 ≤ i
                · rw [if_pos e2, if_pos (by omega)]
                · rw [if_neg e2, if_neg (by omega)]), HrB.out.congr (fun p hp => by rw [Hg.out])⟩
          case measure => simp [intOf]
end Go.Proofs.YthckkpbjpgfdcaaDoor

namespace Go.Proofs.YthckkpbjpgfdcaaDoor
open Go.RowKit Go.Maps
set_option linter.unusedVariables false
theorem SetI.kept {w w' : World} {g base : Nat} {m : Option Nat} {A : Option Addr} {c : Nat} {L : List Int} {row : Option Nat} (h : SetI w g base m A c L) (hg : w.grownBy w' row) (h1 : row ≠ some g) (h2 : ∀ b, row = some b → m ≠ some b) (h3 : blockOf A = none ∨ blockOf A ≠ row) : SetI w' g base m A c L := by
  refine ⟨(hg.block g h.box.lt (fun e => h1 e.symm)).trans h.box, h.row.kept hg h3, ?_, h.lt, h.wf⟩
  rcases h.map with h4 | ⟨b, n, D, h4, h5, h6, h7⟩
  · exact .inl h4
  · exact .inr ⟨b, n, D, h4, h5, h6.kept hg (fun e => h2 b e.symm h4), h7⟩
theorem SetI.setFar {w : World} {g base : Nat} {m : Option Nat} {A : Option Addr} {c : Nat} {L : List Int} (h : SetI w g base m A c L) {bx j : Nat} (h1 : g ≠ bx) (h2 : m ≠ some bx) (h3 : blockOf A ≠ some bx) (v : Value) : SetI (w.setCell ⟨bx, j, none⟩ v) g base m A c L := by
  refine ⟨h.box.far (p := ⟨bx, j, none⟩) h1 v, h.row.of_block (fun q hq => Below.heap_setCell _ _ _ _ (by rintro rfl; exact h3 hq)), ?_, h.lt, h.wf⟩
  rcases h.map with h4 | ⟨b, n, D, h4, h5, h6, h7⟩
  · exact .inl h4
  · exact .inr ⟨b, n, D, h4, h5, h6.setCell (a := ⟨bx, j, none⟩) (by show b ≠ bx; rintro rfl; exact h2 h4) v, h7⟩
theorem SetI.blocks {w : World} {g base : Nat} {m : Option Nat} {A : Option Addr} {c : Nat} {L : List Int} (h : SetI w g base m A c L) : ∀ b, m = some b → b < w.heap.size := by
  intro b hb
  rcases h.map with ⟨h4, _⟩ | ⟨b', n, D, h4, h5, h6, h7⟩
  · rw [h4] at hb; cases hb
  · rw [h4] at hb
    injection hb with hb
    subst hb
    exact h6.lt
structure LeanSt (w wr : World) (base gs gi n : Nat) (F : Nat → Value) (L : List Int) (M : List Od) (m : Option Nat) (As : Option Addr) (cs : Nat) (Ao : Option Addr) (co : Nat) : Prop where
  set : SetI wr gs base m As cs L
  out : OwnO wr base Ao co M
  idle : wr.rowIs gi 4 n F
  apart : ∀ q, blockOf Ao = some q → m ≠ some q ∧ blockOf As ≠ some q
  below : Below w.heap.size w wr
  size : base ≤ wr.heap.size
  gi : gi < base ∧ gi ≠ gs
  low : w.heap.size ≤ gs
section
variable {w wr w' : World} {base gs gi n : Nat} {F : Nat → Value} {L : List Int} {M zs : List Od} {m : Option Nat} {As : Option Addr} {cs : Nat} {Ao A' : Option Addr} {co c' : Nat}
theorem LeanSt.step (h : LeanSt w wr base gs gi n F L M m As cs Ao co) (hb : Below wr.heap.size wr w') : LeanSt w w' base gs gi n F L M m As cs Ao co :=
  ⟨h.set.below hb, h.out.below hb, rowIs_below h.idle hb h.idle.lt, h.apart, h.below.trans (hb.mono h.below.size), Nat.le_trans h.size hb.size, h.gi, h.low⟩
theorem LeanSt.setBox {bx j : Nat} (h : LeanSt w wr base gs gi n F L M m As cs Ao co) (h1 : base ≤ bx) (h2 : m ≠ some bx) (h3 : blockOf As ≠ some bx) (h4 : blockOf Ao ≠ some bx) (v : Value) : LeanSt w (wr.setCell ⟨bx, j, none⟩ v) base gs gi n F L M m As cs Ao co := by
  have hl := h.set.lt
  have hg := h.gi
  have hlo := h.low
  exact ⟨h.set.setFar (by omega) h2 h3 v, h.out.of_block (fun q hq => Below.heap_setCell _ _ _ _ (by rintro rfl; exact h4 hq)), h.idle.setOther (a := ⟨bx, j, none⟩) (by show gi ≠ bx; omega) v, h.apart, h.below.setCell (by show w.heap.size ≤ bx; omega) v, by simpa using h.size, h.gi, h.low⟩
theorem LeanSt.add {m' : Option Nat} {As' : Option Addr} {cs' : Nat} {x : Int} (h : LeanSt w wr base gs gi n F L M m As cs Ao co) (hs : SetI w' gs base m' As' cs' (L ++ [x])) (ht : Tight gs m As m' As' wr w') (hb : But base gs wr w') : LeanSt w w' base gs gi n F (L ++ [x]) M m' As' cs' Ao co := by
  have hl := h.set.lt
  refine ⟨hs, h.out.of_block (fun q hq => ?_), h.idle.of_block (hb.block gi h.gi.1 h.gi.2), fun q hq => ?_, hb.below h.below h.low (by have := h.low; omega), Nat.le_trans h.size hb.size, h.gi, h.low⟩
  · have hq2 := h.out.blocks q hq
    have hq3 := h.apart q hq
    exact ht.block q hq2.2 (by omega) hq3.1 hq3.2
  · have hq2 := h.out.blocks q hq
    have hq3 := h.apart q hq
    refine ⟨?_, ?_⟩
    · rcases ht.map with e | ⟨b, e, hb⟩
      · rw [e]; exact hq3.1
      · rw [e]; simp; omega
    · rcases ht.row with e | ⟨b, e, hb⟩
      · rw [e]; exact hq3.2
      · rw [e]; simp; omega
theorem LeanSt.next {ob : Obj} (h : LeanSt w wr base gs gi n F L M m As cs Ao co) (ho : OwnO w' base A' c' zs) (hg : (wr.alloc ob).grownBy w' (blockOf Ao)) (ha : blockOf A' = blockOf Ao ∨ blockOf A' = some (wr.alloc ob).heap.size) : LeanSt w w' base gs gi n F L zs m As cs A' c' := by
  have hl := h.set.lt
  have hsz := h.size
  have hset := h.set.below ((Below.refl wr.heap.size wr).alloc (Nat.le_refl _) ob)
  have hgi := h.gi
  refine ⟨hset.kept hg (fun e => by have := (h.out.blocks gs e).1; omega) (fun b e => (h.apart b e).1) ?_, ho, (h.idle.alloc ob).of_block (hg.block gi (by have := h.idle.lt; simp; omega) (fun e => by have := (h.out.blocks gi e.symm).1; omega)), fun q hq => ?_, below_grown (h.below.alloc h.below.size ob) hg (by have := h.below.size; simp; omega) (fun q hq => by have := (h.out.blocks q hq).1; have := h.low; omega), by have := hg.size; simp at this; omega, h.gi, h.low⟩
  · cases hA : blockOf As with
    | none => exact .inl rfl
    | some q =>
      right
      intro e
      exact (h.apart q e.symm).2 hA
  · rcases ha with ha | ha
    · rw [ha] at hq
      exact h.apart q hq
    · rw [ha] at hq
      simp at hq
      subst hq
      refine ⟨fun e => ?_, fun e => ?_⟩
      · have := h.set.blocks _ e
        omega
      · have := (h.set.row.blocks _ e).2
        omega
end
set_option maxRecDepth 100000 in
set_option maxHeartbeats 4000000 in
theorem implLeanOps_any (A : Option Addr) (os : List Od) (c : Nat) (w : World) (h : OpsAt w w.heap.size A os) (hF : FormsAt w w.heap.size) :
    Calls Tryd.prog 7 #[.slice A os.length c] w (GivesOps w (leanOf os)) := by
  have hl := h.len
  by_cases hok : OpsOk os
  · have ht := hide (tf_true hok)
    have hl3 := hok.1
    have Hok := hide hok
    have Hwf := hide h.wf
    clear hok
    go_enter Tryd.func7, Tryd.ntmps7
    go_wp2_with fail
    refine (implValidOps_any A os c w h hF).mono ?_
    rintro e w1 ⟨rfl, hb1⟩
    rw [ht.out]
    have lb := Lies.new w1 #[.map none, .slice none 0 0] 36
    have hb2 := hb1.alloc hb1.size (.cells #[.map none, .slice none 0 0] 36)
    have hsz := hb1.size
    have HZ := hide (show w1.heap.size + 1 ≤ (w1.alloc (.cells #[.map none, .slice none 0 0] 36)).heap.size by simp)
    go_wp2_with fail
    generalize w1.alloc (.cells #[.map none, .slice none 0 0] 36) = w2 at lb hb2 HZ ⊢
    generalize w1.heap.size = gs at lb hsz HZ ⊢
    refine (areIdle_any A os c w2 (h.later hb2 (Nat.le_refl _)) Hok.out).mono ?_
    rintro e w3 ⟨rfl, hrow, hb3⟩
    have hgi := hrow.lt
    have hsz3 := hb3.size
    have lb3 := lb.below hb3 lb.lt
    have HZ' := HZ.out
    generalize w2.heap.size = gi at hrow hgi hb3 hsz3 HZ' ⊢
    have HL0 : Hid (LeanSt w w3 w3.heap.size gs gi os.length (fun i => .bool (idleAt os i)) (placesL os 0) (leanTo os 0) none none 0 none 0) := hide
      ⟨SetI.start lb3 (by omega), OwnO.empty _ _, hrow, (fun q hq => by cases hq), hb2.trans (hb3.mono (by omega)), Nat.le_refl _, ⟨hgi, by omega⟩, hsz⟩
    clear hrow hb3 lb hb2 lb3 HZ HZ' hgi hsz3 hsz
    go_wp2_with fail
    generalize w3.heap.size = base at HL0
    go_loopw [3, 14] (fun ov iv wr => ∃ (k : Nat) (m : Option Nat) (As : Option Addr) (cs : Nat) (Ao : Option Addr) (co : Nat), k ≤ os.length ∧ iv = .int .i64 (k : Int) ∧ ov = .slice Ao (leanTo os k).length co ∧ OrderlyTo os k ∧ LeanSt w wr base gs gi os.length (fun i => .bool (idleAt os i)) (placesL os k) (leanTo os k) m As cs Ao co) (fun _ iv _ => os.length - (intOf iv).toNat)
    case atStart => exact ⟨0, none, none, 0, none, 0, Nat.zero_le _, rfl, rfl, fun j _ hj => absurd hj (by omega), HL0.out⟩
    case round =>
      clear HL0
      obtain ⟨k, m, As, cs, Ao, co, hk, rfl, rfl, hord, hL⟩ := hrel
      have HOrd := hide hord
      clear hord
      by_cases hlt : k < os.length
      · obtain ⟨b, off, o, rfl, hbl, hx, hmem, hc0, hc1⟩ := (h.below hL.below).at_ hlt
        have hk1 : (0 : Int) ≤ (k : Int) := by omega
        have hk2 : (k : Int) < (os.length : Int) := by omega
        have hpl := placesL_len os k
        have hml := leanTo_len os k
        have di := hL.idle.cell hlt
        have HL1 := hide (hL.step ((Below.refl wr.heap.size wr).alloc (Nat.le_refl _) (.cells #[.int .i64 o.code, .int .i64 o.arg] 38)))
        have lo := Lies.new wr #[.int .i64 o.code, .int .i64 o.arg] 38
        have hbxA : blockOf Ao ≠ some wr.heap.size := fun e => by have := (hL.out.blocks _ e).2; omega
        have hbxS : blockOf As ≠ some wr.heap.size := fun e => by have := (hL.set.row.blocks _ e).2; omega
        have hbxM : m ≠ some wr.heap.size := fun e => by have := hL.set.blocks _ e; omega
        have hbxw : base ≤ wr.heap.size := hL.size
        have HX := hide hx
        have HM := hide hmem
        have hoa := (Hwf.out o hmem).2
        clear hx hmem hL
        cases hid : idleAt os k with
        | true =>
          have e1 := hide (leanTo_idle HX.out hid)
          have e2 := hide (placesL_same HX.out (fun hh => by rw [hid] at hh; cases hh.2.1))
          have HO2 := hide (HOrd.out.step HX.out (fun h16 => by rw [idleAt_no HX.out (by omega)] at hid; cases hid))
          rw [hid] at di
          clear hid lo
          go_wp2
          go_roundw
          case rel => exact ⟨k + 1, m, As, cs, Ao, co, by omega, by go_num, by rw [e1.out], HO2.out, by rw [e1.out, e2.out]; exact HL1.out⟩
          case measure => simp [intOf]; omega
        | false =>
          have e1 := hide (leanTo_stay HX.out hid)
          rw [hid] at di
          have HOk := hide (Hok.out.2 o HM.out)
          have HMd : Hid (leanTo os k = leanTo os k) := rfl
          generalize hMd : leanTo os k = M at HL1 e1 hml ⊢
          generalize hLd : placesL os k = L at HL1 hpl ⊢
          have HLd := hide hLd
          clear hMd hLd HMd
          by_cases h16 : o.code = 16
          · by_cases hin : o.arg ∈ L
            · have e2 := hide (show placesL os (k + 1) = L by rw [placesL_same HX.out (fun hh => by omega), HLd.out])
              have e3 := hide (show leanOd L o = ⟨16, place L o.arg⟩ by rw [leanOd_place (.inr h16), h16, place_pos hin])
              have HO2 := hide (HOrd.out.step HX.out (fun _ => by rw [HLd.out]; exact hin))
              have HH := hide (hasI_any gs base m As cs L o.arg _ HL1.out.set hoa)
              have HA := hide (addI_seen gs base m As cs L o.arg _ HL1.out.set hoa hin)
              have HN := hide (numI_any gs base m As cs L o.arg _ HL1.out.set hoa hin)
              have htf := hide (tf_true hin)
              have hv0 := (place_lt hin).1
              rw [h16] at lo HL1 HH HA HN
              have t16 : ((16 : Int) == 16) = true := rfl
              have t15 : ((16 : Int) == 15) = false := rfl
              rw [h16] at hc0
              clear hin hid h16 HOrd
              go_wp2_with fail
              refine HH.out.mono ?_
              rintro e w' ⟨rfl, rfl⟩
              rw [htf.out]
              clear HH
              generalize hwd : wr.alloc (.cells #[.int .i64 16, .int .i64 o.arg] 38) = wd at lo HL1 HA HN ⊢
              clear hwd
              have o0 := lo.cell 0
              have o1 := lo.cell 1
              have of1 := lo.frozen 1
              simp at o0 o1
              go_wp2_with fail
              refine HA.out.mono ?_
              rintro e w' ⟨rfl, rfl⟩
              go_wp2_with fail
              refine HN.out.mono ?_
              rintro e w' ⟨rfl, rfl⟩
              generalize place L o.arg = v at hv0 e3 ⊢
              have lo4 := lo.set 1 (.int .i64 v)
              simp at lo4
              have r0 := lo4.cell 0
              have r1 := lo4.cell 1
              simp at r0 r1
              have HL4 := hide (HL1.out.setBox (j := 1) hbxw hbxM hbxS hbxA (.int .i64 v))
              have HNw := hide (Lies.new (wd.setCell ⟨wr.heap.size, 1, none⟩ (.int .i64 v)) #[.int .i64 16, .int .i64 v] 38)
              have hsz := HL4.out.size
              simp only [World.size_setCell] at hsz HNw
              clear lo lo4 HL1 HA HN
              go_wp2_with (at_builtin; refine append_op rfl (.tmp 51) (.tmp 53) rfl base Ao co M rfl (HL4.out.out.alloc _) wd.heap.size ⟨16, v⟩ 38 rfl HNw.out (by omega) (by simp; omega) ?_; intro zs A2 c2 w7 hz hown7 hgrow7 hat7)
              go_roundw
              case rel => exact ⟨k + 1, m, As, cs, A2, c2, by omega, by go_num, by rw [e1.out, e2.out, e3.out, hz.out], HO2.out, by rw [e1.out, e2.out, e3.out, ← hz.out]; exact HL4.out.next hown7 hgrow7 hat7⟩
              case measure => simp [intOf]; omega
            · have HE := hide (leanOf_not (os := os) (fun ho => hin (by rw [← HLd.out]; exact ho k o hlt HX.out h16)))
              have HH := hide (hasI_any gs base m As cs L o.arg _ HL1.out.set hoa)
              have htf := hide (tf_false hin)
              rw [h16] at lo HL1 HH
              have t16 : ((16 : Int) == 16) = true := rfl
              rw [h16] at hc0
              clear hin hid h16 HOrd
              go_wp2_with fail
              refine HH.out.mono ?_
              rintro e w' ⟨rfl, rfl⟩
              rw [htf.out]
              clear HH
              go_wp2
              go_ret
              show GivesOps w (leanOf os) _ _
              rw [HE.out]
              exact ⟨none, 0, rfl, OwnO.empty _ _, HL1.out.below⟩
          · by_cases h15 : o.code = 15
            · by_cases hin : o.arg ∈ L
              · have e2 := hide (show placesL os (k + 1) = L by rw [placesL_same HX.out (fun hh => hh.2.2 (by rw [HLd.out]; exact hin)), HLd.out])
                have e3 := hide (show leanOd L o = ⟨15, place L o.arg⟩ by rw [leanOd_place (.inl h15), h15, place_pos hin])
                have HO2 := hide (HOrd.out.step HX.out (fun e => absurd e h16))
                have HA := hide (addI_seen gs base m As cs L o.arg _ HL1.out.set hoa hin)
                have HN := hide (numI_any gs base m As cs L o.arg _ HL1.out.set hoa hin)
                have hv0 := (place_lt hin).1
                rw [h15] at lo HL1 HA HN
                have t16 : ((15 : Int) == 16) = false := rfl
                have t15 : ((15 : Int) == 15) = true := rfl
                rw [h15] at hc0
                clear hin hid h16 h15 HOrd
                go_wp2_with fail
                refine HA.out.mono ?_
                rintro e w' ⟨rfl, rfl⟩
                clear HA
                generalize hwd : wr.alloc (.cells #[.int .i64 15, .int .i64 o.arg] 38) = wd at lo HL1 HN ⊢
                clear hwd
                have o0 := lo.cell 0
                have o1 := lo.cell 1
                have of1 := lo.frozen 1
                simp at o0 o1
                go_wp2_with fail
                refine HN.out.mono ?_
                rintro e w' ⟨rfl, rfl⟩
                generalize place L o.arg = v at hv0 e3 ⊢
                have lo4 := lo.set 1 (.int .i64 v)
                simp at lo4
                have r0 := lo4.cell 0
                have r1 := lo4.cell 1
                simp at r0 r1
                have HL4 := hide (HL1.out.setBox (j := 1) hbxw hbxM hbxS hbxA (.int .i64 v))
                have HNw := hide (Lies.new (wd.setCell ⟨wr.heap.size, 1, none⟩ (.int .i64 v)) #[.int .i64 15, .int .i64 v] 38)
                have hsz := HL4.out.size
                simp only [World.size_setCell] at hsz HNw
                clear lo lo4 HL1 HN
                go_wp2_with (at_builtin; refine append_op rfl (.tmp 51) (.tmp 53) rfl base Ao co M rfl (HL4.out.out.alloc _) wd.heap.size ⟨15, v⟩ 38 rfl HNw.out (by omega) (by simp; omega) ?_; intro zs A2 c2 w7 hz hown7 hgrow7 hat7)
                go_roundw
                case rel => exact ⟨k + 1, m, As, cs, A2, c2, by omega, by go_num, by rw [e1.out, e2.out, e3.out, hz.out], HO2.out, by rw [e1.out, e2.out, e3.out, ← hz.out]; exact HL4.out.next hown7 hgrow7 hat7⟩
                case measure => simp [intOf]; omega
              · have hnotin : True := trivial
                have e2 := hide (show placesL os (k + 1) = L ++ [o.arg] by rw [placesL_new HX.out h15 hid (by rw [HLd.out]; exact hin), HLd.out])
                have e3 := hide (show leanOd (L ++ [o.arg]) o = ⟨15, place (L ++ [o.arg]) o.arg⟩ by rw [leanOd_place (.inl h15), h15, place_pos (by simp)])
                have HO2 := hide (HOrd.out.step HX.out (fun e => absurd e h16))
                have HA := hide (addI_new2 gs base m cs As L o.arg _ HL1.out.set hoa HL1.out.size hin (by omega))
                have hv0 := (place_lt (xs := L ++ [o.arg]) (n := o.arg) (by simp)).1
                rw [h15] at lo HL1 HA
                have t16 : ((15 : Int) == 16) = false := rfl
                have t15 : ((15 : Int) == 15) = true := rfl
                rw [h15] at hc0
                clear hin hid h16 h15 HOrd
                go_wp2_with fail
                refine HA.out.mono ?_
                generalize hwd : wr.alloc (.cells #[.int .i64 15, .int .i64 o.arg] 38) = wd at lo HL1 HA ⊢
                clear hwd
                rintro e w' ⟨rfl, ⟨m2, A2s, c2s, hset2, htight⟩, hbut⟩
                have HL2 := hide (HL1.out.add hset2 htight hbut)
                have hbx2 : wr.heap.size < wd.heap.size := lo.lt
                have hgs := HL1.out.set.lt
                have lo2 : Lies w' wr.heap.size #[.int .i64 15, .int .i64 o.arg] 38 := (htight.block _ hbx2 (by omega) hbxM hbxS).trans lo
                have hbxM2 : m2 ≠ some wr.heap.size := by
                  rcases htight.map with e | ⟨b2, e, hb2⟩
                  · rw [e]; exact hbxM
                  · rw [e]; simp; omega
                have hbxS2 : blockOf A2s ≠ some wr.heap.size := by
                  rcases htight.row with e | ⟨b2, e, hb2⟩
                  · rw [e]; exact hbxS
                  · rw [e]; simp; omega
                clear hbx2 hgs
                have q1 := lo2.cell 1
                have qf := lo2.frozen 1
                simp at q1
                go_wp2_with fail
                refine (numI_any gs base m2 A2s c2s (L ++ [o.arg]) o.arg w' HL2.out.set hoa (by simp)).mono ?_
                rintro e w' ⟨rfl, rfl⟩
                generalize place (L ++ [o.arg]) o.arg = v at hv0 e3 ⊢
                have lo4 := lo2.set 1 (.int .i64 v)
                simp at lo4
                have r0 := lo4.cell 0
                have r1 := lo4.cell 1
                simp at r0 r1
                have HL4 := hide (HL2.out.setBox (j := 1) hbxw hbxM2 hbxS2 hbxA (.int .i64 v))
                have HNw := hide (Lies.new (w'.setCell ⟨wr.heap.size, 1, none⟩ (.int .i64 v)) #[.int .i64 15, .int .i64 v] 38)
                have hsz := HL4.out.size
                simp only [World.size_setCell] at hsz HNw
                clear lo lo2 lo4 HL1 HL2 HA hset2 htight hbut
                go_wp2_with (at_builtin; refine append_op rfl (.tmp 51) (.tmp 53) rfl base Ao co M rfl (HL4.out.out.alloc _) w'.heap.size ⟨15, v⟩ 38 rfl HNw.out (by omega) (by simp; omega) ?_; intro zs A2 c2 w7 hz hown7 hgrow7 hat7)
                go_roundw
                case rel => exact ⟨k + 1, m2, A2s, c2s, A2, c2, by omega, by go_num, by rw [e1.out, e2.out, e3.out, hz.out], HO2.out, by rw [e1.out, e2.out, e3.out, ← hz.out]; exact HL4.out.next hown7 hgrow7 hat7⟩
                case measure => simp [intOf]; omega
            · have t16 : (o.code == 16) = false := by simpa using h16
              have t15 : (o.code == 15) = false := by simpa using h15
              have e2 := hide (show placesL os (k + 1) = L by rw [placesL_same HX.out (fun hh => h15 hh.1), HLd.out])
              have e3 := hide (leanOd_other (L := L) h15 h16)
              have HO2 := hide (HOrd.out.step HX.out (fun e => absurd e h16))
              have HNw := hide (Lies.new (wr.alloc (.cells #[.int .i64 o.code, .int .i64 o.arg] 38)) #[.int .i64 o.code, .int .i64 o.arg] 38)
              simp only [World.size_alloc] at HNw
              have hsz := HL1.out.size
              clear hid h15 h16 lo HOrd
              go_wp2_with (at_builtin; refine append_op rfl (.tmp 51) (.tmp 53) rfl base Ao co M rfl (HL1.out.out.alloc _) (wr.heap.size + 1) o 38 rfl HNw.out (by omega) (by simp at hsz ⊢; omega) ?_; intro zs A2 c2 w7 hz hown7 hgrow7 hat7)
              go_roundw
              case rel => exact ⟨k + 1, m, As, cs, A2, c2, by omega, by go_num, by rw [e1.out, e2.out, e3.out, hz.out], HO2.out, by rw [e1.out, e2.out, e3.out, ← hz.out]; exact HL1.out.next hown7 hgrow7 hat7⟩
              case measure => simp [intOf]; omega
      · obtain rfl : k = os.length := by omega
        have HE := hide (leanOf_ok Hok.out HOrd.out)
        clear hlt HOrd
        have HO := hide (show ∃ n, n = (leanTo os os.length).length ∧ OwnO wr w.heap.size Ao co (leanTo os os.length) ∧ Below w.heap.size w wr from ⟨_, rfl, hL.out.mono (by have := hL.set.lt; have := hL.low; omega), hL.below⟩)
        clear hL
        go_wp2
        go_ret
        show GivesOps w (leanOf os) _ _
        rw [HE.out]
        obtain ⟨_, _, ho, hb⟩ := HO.out
        exact ⟨Ao, co, rfl, ho, hb⟩
  · rw [leanOf_no hok]
    have ht := hide (tf_false hok)
    clear hok
    go_enter Tryd.func7, Tryd.ntmps7
    go_wp2_with fail
    refine (implValidOps_any A os c w h hF).mono ?_
    rintro e w1 ⟨rfl, hb1⟩
    rw [ht.out]
    go_wp2
    go_ret
    exact ⟨none, 0, rfl, OwnO.empty _ _, hb1⟩
end Go.Proofs.YthckkpbjpgfdcaaDoor

namespace Go.Proofs.YthckkpbjpgfdcaaDoor
set_option linter.unusedVariables false
theorem placesTo_count (os : List Od) : ∀ k, k ≤ os.length → (placesTo os k).length ≤ numOf (os.take k) 15 := by
  intro k
  induction k with
  | zero => intro _; simp [placesTo]
  | succ k ih =>
    intro hk
    have hx : os[k]? = some os[k] := List.getElem?_eq_getElem (by omega)
    generalize os[k] = o at hx
    have h1 := ih (by omega)
    rw [placesTo_succ hx, numOf_snoc hx]
    unfold addPlace
    by_cases h15 : o.code = 15
    · rw [if_pos h15]
      split
      · simp; omega
      · omega
    · rw [if_neg (fun h => h15 h.1), if_neg h15]
      omega
theorem foldPlace_nodup (os : List Od) (L : List Int) (h : L.Nodup) : (os.foldl addPlace L).Nodup := by
  induction os generalizing L with
  | nil => exact h
  | cons o os ih =>
    rw [List.foldl_cons]
    apply ih
    unfold addPlace
    split
    · next hh =>
      rw [List.nodup_append]
      refine ⟨h, by simp, fun a ha b hb e => ?_⟩
      simp at hb
      subst hb
      subst e
      exact hh.2 ha
    · exact h
theorem placesTo_nodup (os : List Od) (k : Nat) : (placesTo os k).Nodup := foldPlace_nodup _ _ (by simp)
theorem foldPlace_put (os : List Od) (L : List Int) : ∀ x ∈ os.foldl addPlace L, x ∈ L ∨ ∃ o ∈ os, o.code = 15 ∧ x = o.arg := by
  induction os generalizing L with
  | nil => intro x hx; exact .inl hx
  | cons o os ih =>
    intro x hx
    rw [List.foldl_cons] at hx
    rcases ih _ x hx with h | ⟨p, hp, h1, rfl⟩
    · unfold addPlace at h
      split at h
      · next hh =>
        rcases List.mem_append.1 h with h | h
        · exact .inl h
        · simp at h; exact .inr ⟨o, by simp, hh.1, h⟩
      · exact .inl h
    · exact .inr ⟨p, by simp [hp], h1, rfl⟩
theorem mem_foldPlace (os : List Od) (L : List Int) (x : Int) (h : x ∈ L ∨ ∃ o ∈ os, o.code = 15 ∧ x = o.arg) : x ∈ os.foldl addPlace L := by
  induction os generalizing L with
  | nil =>
    rcases h with h | ⟨o, ho, _⟩
    · exact h
    · cases ho
  | cons o os ih =>
    rw [List.foldl_cons]
    apply ih
    rcases h with h | ⟨p, hp, h1, rfl⟩
    · left
      unfold addPlace
      split
      · exact List.mem_append_left _ h
      · exact h
    · rcases List.mem_cons.1 hp with rfl | hp
      · left
        by_cases hm : p.arg ∈ L
        · rw [addPlace_old hm]; exact hm
        · rw [addPlace_new h1 hm]; simp
      · exact .inr ⟨p, hp, h1, rfl⟩
theorem placesTo_most {os : List Od} (h : ∀ o ∈ os, OdOk o) (k : Nat) : (placesTo os k).length ≤ 20 := by
  have hs : ∀ x ∈ placesTo os k, x ∈ (List.range 20).map fun (i : Nat) => (i : Int) := by
    intro x hx
    rcases foldPlace_put _ _ x hx with h2 | ⟨o, ho, h15, rfl⟩
    · cases h2
    · have hok := (OdOk.iff o).1 (h o (List.mem_of_mem_take ho))
      have h1 := hok.2.1
      have h2 := hok.2.2
      rw [h15] at h2
      simp [argTop, argMost] at h2
      exact List.mem_map.2 ⟨o.arg.toNat, List.mem_range.2 (by omega), by omega⟩
  have := nodup_le_len _ _ (placesTo_nodup os k) hs
  simpa using this
theorem placesL_nodup (os : List Od) : ∀ k, (placesL os k).Nodup := by
  intro k
  induction k with
  | zero => simp [placesL]
  | succ k ih =>
    cases hx : os[k]? with
    | none =>
      have he : placesL os (k + 1) = placesL os k := by
        show (match os[k]? with | none => placesL os k | some o => if o.code = 15 ∧ idleAt os k = false ∧ o.arg ∉ placesL os k then placesL os k ++ [o.arg] else placesL os k) = _
        rw [hx]
      rw [he]
      exact ih
    | some o =>
      by_cases hc : o.code = 15 ∧ idleAt os k = false ∧ o.arg ∉ placesL os k
      · rw [placesL_new hx hc.1 hc.2.1 hc.2.2, List.nodup_append]
        refine ⟨ih, by simp, fun a ha b hb e => ?_⟩
        simp at hb
        subst hb
        subst e
        exact hc.2.2 ha
      · rw [placesL_same hx hc]
        exact ih
theorem placesL_le (os : List Od) (k : Nat) : (placesL os k).length ≤ (placesTo os k).length := by
  refine nodup_le_len _ _ (placesL_nodup os k) fun x hx => ?_
  have hp := placesL_put os x k hx
  unfold putTo at hp
  obtain ⟨o, ho, h1⟩ := List.any_eq_true.1 hp
  simp at h1
  exact mem_foldPlace _ _ _ (.inr ⟨o, ho, h1.1, h1.2.symm⟩)
theorem lean_places (os : List Od) : ∀ k, k ≤ os.length → (leanTo os k).foldl addPlace [] = (List.range (placesL os k).length).map fun (i : Nat) => (i : Int) := by
  intro k
  induction k with
  | zero => intro _; rfl
  | succ k ih =>
    intro hk
    have hx : os[k]? = some os[k] := List.getElem?_eq_getElem (by omega)
    generalize os[k] = o at hx
    have h1 := ih (by omega)
    cases hi : idleAt os k with
    | true => rw [leanTo_idle hx hi, placesL_same hx (fun h => by rw [hi] at h; cases h.2.1), h1]
    | false =>
      rw [leanTo_stay hx hi, List.foldl_append, h1, List.foldl_cons, List.foldl_nil]
      by_cases h15 : o.code = 15
      · rw [leanOd_place (.inl h15)]
        by_cases hm : o.arg ∈ placesL os k
        · rw [placesL_same hx (fun h => h.2.2 hm)]
          rw [addPlace_old]
          exact List.mem_map.2 ⟨(placesL os k).idxOf o.arg, List.mem_range.2 (List.idxOf_lt_length_of_mem hm), rfl⟩
        · rw [placesL_new hx h15 hi hm, List.idxOf_append, if_neg hm]
          rw [addPlace_new]
          · simp [List.range_succ]
          · exact h15
          · intro hh
            obtain ⟨i, hi2, he⟩ := List.mem_map.1 hh
            have := List.mem_range.1 hi2
            simp at he
            omega
      · rw [placesL_same hx (fun h => h15 h.1), addPlace_no]
        unfold leanOd
        split
        · exact h15
        · exact h15
theorem places_lean {os : List Od} (h : OpsOk os) : (placesTo (leanOf os) (leanOf os).length).length ≤ (placesTo os os.length).length := by
  unfold leanOf
  split
  · have h1 := lean_places os os.length (Nat.le_refl _)
    have h2 := placesL_le os os.length
    unfold placesTo at h2 ⊢
    rw [List.take_length, h1, List.length_map, List.length_range]
    exact h2
  · simp [placesTo]
theorem argTop_1516 {c : Int} (h : c = 15 ∨ c = 16) : argTop c = 19 := by rcases h with rfl | rfl <;> rfl
theorem leanOf_ok2 {os : List Od} (h : OpsOk os) : OpsOk (leanOf os) := by
  refine ⟨leanOf_few, ?_⟩
  unfold leanOf
  split
  · next hh =>
    have hord := hh.2
    have key : ∀ k, k ≤ os.length → ∀ o ∈ leanTo os k, OdOk o := by
      intro k
      induction k with
      | zero => intro _ o ho; cases ho
      | succ k ih =>
        intro hk o ho
        have hx : os[k]? = some os[k] := List.getElem?_eq_getElem (by omega)
        have hok := h.2 _ (List.mem_of_getElem? hx)
        generalize os[k] = q at hx hok
        cases hi : idleAt os k with
        | true => rw [leanTo_idle hx hi] at ho; exact ih (by omega) o ho
        | false =>
          rw [leanTo_stay hx hi] at ho
          rcases List.mem_append.1 ho with ho | ho
          · exact ih (by omega) o ho
          · simp at ho
            subst ho
            by_cases hc : q.code = 15 ∨ q.code = 16
            · rw [leanOd_place hc]
              have hin : q.arg ∈ placesL os (k + 1) := by
                rcases hc with h15 | h16
                · by_cases hm : q.arg ∈ placesL os k
                  · exact placesL_mono hm
                  · rw [placesL_new hx h15 hi hm]; simp
                · exact placesL_mono (hord k q (by omega) hx h16)
              have hlt := List.idxOf_lt_length_of_mem hin
              have hm20 := Nat.le_trans (placesL_le os (k + 1)) (placesTo_most h.2 (k + 1))
              refine (OdOk.iff _).2 ⟨((OdOk.iff q).1 hok).1, by simp only; omega, ?_⟩
              simp only
              rw [argTop_1516 hc]
              omega
            · rw [leanOd_other (fun e => hc (.inl e)) (fun e => hc (.inr e))]
              exact hok
    exact key os.length (Nat.le_refl _)
  · intro o ho; cases ho
theorem places_law {os : List Od} (h : OpsOk os) : 0 ≤ placesOf os ∧ placesOf (leanOf os) ≤ placesOf os ∧ placesOf os ≤ (numOf os 15 : Int) ∧ placesOf os ≤ 20 ∧ 0 ≤ placesOf (leanOf os) := by
  rw [placesOf_ok h, placesOf_ok (leanOf_ok2 h)]
  have h1 := places_lean h
  have h2 := placesTo_count os os.length (Nat.le_refl _)
  have h3 := placesTo_most h.2 os.length
  rw [List.take_length] at h2
  omega
end Go.Proofs.YthckkpbjpgfdcaaDoor
