/-
  Lemmas, several texts in one: ReadB, RunM, UpTo, RuS.
-/
import Derived.Test.YtochdhibmmohfabPjAb
import Derived.Test.YtochdhibmmohfabRows
import Derived.ProofKit
import Derived.OpenShut
import Derived.ShutString
import Derived.ChangeOld
import Derived.Deep.Slices
import Derived.Deep.Fields
import Derived.Lib.SmallJoins
import Derived.Test.YtochdhibmmohfabPjAd
import Derived.Test.YtochdhibmmohfabPjAc
import Derived.Test.YtochdhibmmohfabPjAa
import Derived.Test.YtochdhibmmohfabPjAe
import Derived.Deep.QuietTactic
import Derived.BigQuiet
import Derived.WalkSmall
namespace Go.Proofs.Ytochdhibmmohfab
open Go.ChangeShapes Go.WideShapes Go.ChangeAt Go.RowKit Go.Deep
set_option linter.unusedVariables false

theorem readCellsB : Try.prog.cellsOf 5 = 1 := by kernel_rfl
theorem readOwnB : ownKnob Try.prog.godebug = none := by kernel_rfl
theorem readLaidB : laidOutB Try.prog = true := by kernel_rfl

theorem addr_add_b (b off j : Nat) : (⟨b, off, none⟩ : Addr).add j = ⟨b, off + j, none⟩ := by
  unfold Addr.add
  split
  · rename_i h0; subst h0; rfl
  · rfl

/-- a slice of bytes that came in -/
theorem read_bytes {H : Type} {enc : TypeId × Value → H} {w : World} {base : Nat} {spare : Nat → Bool} {held : Bool} {m : Nat} {v : Value} {y : DataW H × List MemPlace} (h : DataW.trod enc Try.prog w base spare held m 22 [v] = some y) :
    ∃ (A : Option Addr) (n c : Nat), v = .slice A n c ∧ BytesAt w w.heap.size A n ∧ n ≤ c ∧ n ≤ 9223372036854775807 := by
  rcases open_ints Try.underlying22 Try.underlying5 readCellsB h with ⟨hcs, _⟩ | ⟨a, len, cap, zs, hcs, _, hl, hm, hz, _, hcell, hwz⟩
  · simp at hcs
    subst hcs
    exact ⟨none, 0, 0, rfl, fun k hk => absurd hk (by omega), Nat.le_refl _, by omega⟩
  · simp at hcs
    subst hcs
    have hzl : len ≤ zs.length := by rw [hz]; split <;> omega
    refine ⟨some a, len, cap, rfl, fun k hk => ?_, hl, by unfold maxLen at hm; omega⟩
    have hz0 := hcell 0 (by omega)
    have hc0 := hcell k (by omega)
    obtain ⟨b, off, sp⟩ := a
    have hsp : sp = none := by simpa [Addr.add] using World.cell?_spot hz0
    subst hsp
    rw [addr_add_b] at hc0
    have hb := range_u8 hwz k
    rw [List.getD_eq_getElem?_getD] at hc0
    obtain ⟨x, hx⟩ := Int.eq_ofNat_of_zero_le hb.1
    refine ⟨b, off, x, rfl, World.block_lt_of_cell? w _ hc0, ?_, by omega⟩
    rw [hc0, hx]

end Go.Proofs.Ytochdhibmmohfab

namespace Go.Proofs.Ytochdhibmmohfab
open Go.RowKit
set_option linter.unusedVariables false

/-- shapes in the box q, and the box q2 for what comes back -/
structure RunS (w wr : World) (q q2 : Nat) (p : ShPtr) (s : Shp) : Prop where
  bel : Below w.heap.size w wr
  box : Lies wr q (shCells p s) 44
  res : Lies wr q2 zero5 44
  own : ShOwn wr w.heap.size p s
  off : p.Off q
  off2 : p.Off q2
  h1 : w.heap.size ≤ q
  h2 : w.heap.size ≤ q2
  ne : q ≠ q2

theorem RunS.below {w wr w' : World} {q q2 : Nat} {p : ShPtr} {s : Shp} (h : RunS w wr q q2 p s) (hb : Below wr.heap.size wr w') : RunS w w' q q2 p s :=
  ⟨h.bel.trans (hb.mono h.bel.size), h.box.below hb h.box.lt, h.res.below hb h.res.lt, h.own.below hb, h.off, h.off2, h.h1, h.h2, h.ne⟩

/-- what runShapes hands back -/
def GivesRun (w : World) (r : Shp × Nat) (e : Ending) (w' : World) : Prop := ∃ p, e = .returned (.tuple #[shVal p r.1, .int .i64 (r.2 : Int)]) ∧ ShOwn w' w.heap.size p r.1 ∧ Below w.heap.size w w'

/-- the box is written anew, with shapes in newer memory -/
theorem RunS.next {w Y : World} {q q2 lo : Nat} {p p' : ShPtr} {s t : Shp} (h : RunS w Y q q2 p s) (ho : ShOwn Y lo p' t) (hq : q < lo) (hq2 : q2 < lo) :
    RunS w (set5 Y q (.slice p'.K t.kinds.length p'.c1) (.slice p'.F t.full.length p'.c2) (.slice p'.S t.stack.length p'.c3) (.slice p'.M t.memo.length p'.c4) (.bool t.done)) q q2 p' t := by
  have o1 : p'.Off q := ho.off (.inl hq)
  have o2 : p'.Off q2 := ho.off (.inl hq2)
  have hw := h.h1
  exact ⟨set5_below h.bel h.h1, (Lies.set5 h.box _ _ _ _ _).2, (set5_block h.ne.symm).trans h.res, (ho.mono (by omega)).set5 o1, o1, o2, h.h1, h.h2, h.ne⟩

/-- another box is written -/
theorem RunS.side {w Y : World} {q q2 nb : Nat} {p : ShPtr} {s : Shp} {v0 v1 v2 v3 v4 : Value} (h : RunS w Y q q2 p s) (ho : p.Off nb) (hw : w.heap.size ≤ nb) (hq : q ≠ nb) (hq2 : q2 ≠ nb) : RunS w (set5 Y nb v0 v1 v2 v3 v4) q q2 p s :=
  ⟨set5_below h.bel hw, (set5_block hq).trans h.box, (set5_block hq2).trans h.res, h.own.set5 ho, h.off, h.off2, h.h1, h.h2, h.ne⟩

/-- the memory behind a step that was tried -/
structure RunN (w Y : World) (q q2 : Nat) (p : ShPtr) (s : Shp) (nb : Nat) (p5 : ShPtr) (s5 : Shp) (ok : Bool) (r : Option Shp) : Prop where
  run : RunS w Y q q2 p s
  box : Lies Y nb (shCells p5 s5) 44
  good : ∀ t, r = some t → ok = true ∧ s5 = t ∧ ∃ lo, ShOwn Y lo p5 t ∧ q < lo ∧ q2 < lo
  bad : r = none → ok = false

/-- the box of what came back is written -/
theorem RunN.mk' {w Y : World} {q q2 nb lo : Nat} {p p5 : ShPtr} {s s5 : Shp} {ok : Bool} {r : Option Shp} (h : RunS w Y q q2 p s) (hz : Lies Y nb #[.slice none 0 0, .slice none 0 0, .slice none 0 0, .slice none 0 0, .bool false] 44)
    (ho : p.Off nb) (hw : w.heap.size ≤ nb) (hq : q ≠ nb) (hq2 : q2 ≠ nb) (hl : q < lo) (hl2 : q2 < lo) (hg : ∀ t, r = some t → ok = true ∧ s5 = t ∧ ShOwn Y lo p5 t ∧ p5.Off nb) (hb : r = none → ok = false) :
    RunN w (set5 Y nb (.slice p5.K s5.kinds.length p5.c1) (.slice p5.F s5.full.length p5.c2) (.slice p5.S s5.stack.length p5.c3) (.slice p5.M s5.memo.length p5.c4) (.bool s5.done)) q q2 p s nb p5 s5 ok r :=
  ⟨h.side ho hw hq hq2, (Lies.set5 hz _ _ _ _ _).2, fun t ht => by
    obtain ⟨h1, h2, h3, h4⟩ := hg t ht
    exact ⟨h1, h2, lo, h3.set5 h4, hl, hl2⟩, hb⟩

/-- what a drawn statement that steps shapes holds: the box, and the order's two cells -/
def HeldR (q b i : Nat) (cs : Array Value) (u v : Value) (w' : World) : Prop := Lies w' q cs 44 ∧ w'.cell? ⟨b, i, none⟩ = some u ∧ w'.cell? ⟨b, i + 1, none⟩ = some v

theorem HeldR.below {q b i B : Nat} {cs : Array Value} {u v : Value} {X w' : World} (h : HeldR q b i cs u v X) (hb : Below B X w') (hq : q < B) (hbB : b < B) : HeldR q b i cs u v w' :=
  ⟨h.1.below hb hq, (hb.cell (p := ⟨b, i, none⟩) hbB).trans h.2.1, (hb.cell (p := ⟨b, i + 1, none⟩) hbB).trans h.2.2⟩
theorem HeldR.set5 {q b i nb : Nat} {cs : Array Value} {u v v0 v1 v2 v3 v4 : Value} {X : World} (h : HeldR q b i cs u v X) (hq : q ≠ nb) (hbB : b ≠ nb) : HeldR q b i cs u v (set5 X nb v0 v1 v2 v3 v4) :=
  ⟨(set5_block hq).trans h.1, (World.cell?_of_block (w := X) (set5_block hbB)).trans h.2.1, (World.cell?_of_block (w := X) (set5_block hbB)).trans h.2.2⟩

end Go.Proofs.Ytochdhibmmohfab

namespace Go.Proofs.Ytochdhibmmohfab
open Go.RowKit

theorem isUpTo_yes (n hi : Int) (w : World) (h1 : 0 ≤ n) (h2 : n ≤ hi) :
    Calls Try.prog 26 #[.int .i64 n, .int .i64 hi] w fun e w' => e = .returned (.bool true) ∧ w = w' := by
  have d1 : decide (0 ≤ n) = true := by simpa using h1
  have d2 : decide (n ≤ hi) = true := by simpa using h2
  go_enter Try.func26, Try.ntmps26
  go_wp2
  go_ret
  exact ⟨rfl, rfl⟩

theorem isUpTo_no (n hi : Int) (w : World) (h : n < 0 ∨ hi < n) :
    Calls Try.prog 26 #[.int .i64 n, .int .i64 hi] w fun e w' => e = .returned (.bool false) ∧ w = w' := by
  by_cases h1 : 0 ≤ n
  · have h2 : ¬ n ≤ hi := by omega
    have d1 : decide (0 ≤ n) = true := by simpa using h1
    have d2 : decide (n ≤ hi) = false := by simpa using h2
    clear h
    go_enter Try.func26, Try.ntmps26
    go_wp2
    go_ret
    exact ⟨rfl, rfl⟩
  · have d1 : decide (0 ≤ n) = false := by simpa using h1
    clear h
    go_enter Try.func26, Try.ntmps26
    go_wp2
    go_ret
    exact ⟨rfl, rfl⟩

/-- whether a number is in 0..hi -/
def upB (n hi : Int) : Bool := decide (0 ≤ n ∧ n ≤ hi)
theorem upB_yes {n hi : Int} (h : 0 ≤ n ∧ n ≤ hi) : upB n hi = true := by unfold upB; simpa using h
theorem upB_no {n hi : Int} (h : ¬ (0 ≤ n ∧ n ≤ hi)) : upB n hi = false := by unfold upB; simpa using h

/-- the same for a region that only reads -/
theorem isUpTo_q (n hi : Int) (w : World) :
    Calls Try.prog 26 #[.int .i64 n, .int .i64 hi] w fun e w' => e = .returned (.bool (upB n hi)) ∧ w' = w := by
  by_cases h : 0 ≤ n ∧ n ≤ hi
  · rw [upB_yes h]
    exact (isUpTo_yes n hi w h.1 h.2).mono fun e w' ⟨a, b⟩ => ⟨a, b.symm⟩
  · rw [upB_no h]
    exact (isUpTo_no n hi w (by omega)).mono fun e w' ⟨a, b⟩ => ⟨a, b.symm⟩

end Go.Proofs.Ytochdhibmmohfab

namespace Go.Proofs.Ytochdhibmmohfab
open Go.RowKit
set_option linter.unusedVariables false

theorem ruOk_parts (r : Ru) (hc : Diff r.cls 9) : RuOk r ↔ ((0 ≤ r.steps ∧ r.steps ≤ 300) ∧ (0 ≤ r.nodes ∧ r.nodes ≤ 300) ∧ (0 ≤ r.deep ∧ r.deep ≤ 300)) :=
  ⟨fun h => ⟨h.s, h.n, h.d⟩, fun h => ⟨h.1, h.2.1, h.2.2, hc⟩⟩

/-- inRange as one contract -/
theorem inRange_b (n lo hi : Int) (b : Bool) (w : World) (h : decide (lo ≤ n ∧ n ≤ hi) = b) : Calls Try.prog 30 #[.int .i64 n, .int .i64 lo, .int .i64 hi] w fun e w' => e = .returned (.bool b) ∧ w' = w := by
  by_cases hh : lo ≤ n ∧ n ≤ hi
  · obtain rfl : b = true := by rw [← h]; simpa using hh
    refine (inRange_yes n lo hi w hh.1 hh.2).mono ?_
    rintro e w' ⟨rfl, hw⟩
    exact ⟨rfl, by first | exact hw | exact hw.symm⟩
  · obtain rfl : b = false := by rw [← h]; simpa using hh
    refine (inRange_no n lo hi w (by omega)).mono ?_
    rintro e w' ⟨rfl, hw⟩
    exact ⟨rfl, by first | exact hw | exact hw.symm⟩

theorem Diff.snoc {xs : List Int} {k : Nat} {x m : Int} (h : Diff (xs.take k) m) (hx : xs[k]? = some x) (hr : 0 ≤ x ∧ x ≤ m) (hn : x ∉ xs.take k) : Diff (xs.take (k + 1)) m := by
  have e : xs.take (k + 1) = xs.take k ++ [x] := by rw [List.take_add_one, hx]; rfl
  rw [e]
  refine ⟨fun y hy => ?_, ?_⟩
  · rcases List.mem_append.1 hy with hy | hy
    · exact h.rng y hy
    · simp at hy; subst hy; exact hr
  · rw [List.nodup_append]
    exact ⟨h.nd, by simp, fun a ha b hb => by simp at hb; subst hb; intro e; subst e; exact hn ha⟩
theorem Diff.not_twice {xs : List Int} {k : Nat} {x m : Int} (hx : xs[k]? = some x) (hn : x ∈ xs.take k) : ¬ Diff xs m := by
  intro ho
  obtain ⟨j, hj, e⟩ := List.getElem_of_mem hn
  have hj2 : j < k ∧ j < xs.length := by simp at hj; omega
  rw [List.getElem_take] at e
  obtain ⟨hk2, e2⟩ := List.getElem?_eq_some_iff.1 hx
  have := (List.getElem_inj ho.nd).1 (e.trans e2.symm)
  omega

set_option maxRecDepth 100000 in
set_option maxHeartbeats 2000000 in
theorem specValid_any (A : Option Addr) (r : Ru) (c : Nat) (w : World) (h : RuAt w w.heap.size A r) (hl : r.cls.length ≤ 1048576) (hcap : r.cls.length ≤ c) :
    Calls Try.prog 14 #[ruVal r A c] w fun e w' => e = .returned (.bool (tf (RuOk r))) ∧ Below w.heap.size w w' := by
  have hB0 := (Below.refl w.heap.size w).alloc (Nat.le_refl _) (.cells (ruCells r A c) 25)
  have HB0 := hide hB0
  have L0 := hide (Lies.new w (ruCells r A c) 25)
  have HC := hide (h.c.later hB0 (Nat.le_refl _))
  have hs := h.s
  have hn := h.n
  have hd := h.d
  clear h hB0
  unfold ruVal
  unfold ruCells at *
  go_enter Try.func14, Try.ntmps14
  go_wp2_with fail
  have hlt0 := L0.out.lt
  generalize w.alloc (.cells #[.int .i64 r.steps, .int .i64 r.nodes, .int .i64 r.deep, .slice A r.cls.length c] 25) = W at HB0 L0 HC hlt0 ⊢
  go_loopw [3] (fun iv wr => ∃ k : Nat, k ≤ r.cls.length ∧ iv = .int .i64 (k : Int) ∧ Below W.heap.size W wr ∧ Diff (r.cls.take k) 9) (fun iv _ => r.cls.length - (intOf iv).toNat)
  case atStart => exact ⟨0, Nat.zero_le _, rfl, Below.refl _ _, ⟨fun x hx => by simp at hx, by simp⟩⟩
  case round =>
    obtain ⟨k, hk, rfl, hb, hdf⟩ := hrel
    have HDf := hide hdf
    have HBr := hide hb
    have lr := L0.out.below hb hlt0
    have c0 := lr.cell 0
    have c1 := lr.cell 1
    have c2 := lr.cell 2
    have c3 := lr.cell 3
    simp only [List.getElem?_toArray, List.getElem?_cons_zero, List.getElem?_cons_succ] at c0 c1 c2 c3
    have HCr := hide (HC.out.later hb (Nat.le_refl _))
    clear hdf lr
    by_cases hlt : k < r.cls.length
    · obtain ⟨b, off, x, hA, hbl, hx, hm, hcx⟩ := HCr.out.at_ hlt
      rw [hA] at c3
      have Hx := hide hx
      have Hm := hide hm
      have hk1 : (0 : Int) ≤ (k : Int) := by omega
      have hk2 : (k : Int) < (r.cls.length : Int) := by omega
      have hk3 : (k : Int) ≤ (c : Int) := by omega
      have HA := hide hA
      obtain ⟨b1, hb1⟩ : ∃ b, decide (0 ≤ x ∧ x ≤ 9) = b := ⟨_, rfl⟩
      have Q1 := hide (fun W => inRange_b x 0 9 b1 W hb1)
      have HB1 := hide hb1
      clear hx hm hb hb1
      cases b1
      · have HF := hide (show tf (RuOk r) = false from tf_false fun ho => by
          have := ho.c.rng x Hm.out
          have h2 := HB1.out
          simp at h2
          omega)
        clear hA
        go_wp2_with fail
        go_quiet ((first | (go_at_call 30; exact Calls.quiet_of_same (Q1.out _))))
        go_wp2
        go_ret
        exact ⟨ret_bool HF.out.symm, below_drewN (HB0.out.trans (HBr.out.mono HB0.out.size)) _⟩
      · have hT : (r.cls.take k).length = k := by simp; omega
        have Q2 := hide (show ∀ n, Calls Try.prog 31 #[.slice (some ⟨b, off, none⟩) k c, .int .i64 x] (wr.drewN n) fun e w' => e = .returned (.int .i64 (place (r.cls.take k) x)) ∧ w' = wr.drewN n from fun n => by
          have hp := placeIn_any A (r.cls.take k) c x (wr.drewN n) ((HCr.out.upto k).later (below_drewN (Below.refl _ _) n) (Nat.le_refl _))
          rw [hT, hA] at hp
          exact hp.mono fun e w' ⟨h1, h2⟩ => ⟨h1, h2.symm⟩)
        by_cases hin : x ∈ r.cls.take k
        · have HF := hide (show tf (RuOk r) = false from tf_false fun ho => Diff.not_twice Hx.out hin ho.c)
          have hpl := (place_lt hin).1
          generalize place (r.cls.take k) x = pl at Q2 hpl
          have hdp : decide (0 ≤ pl) = true := by simpa using hpl
          clear hA hT hin
          go_wp2_with fail
          go_quiet ((first | (go_at_call 30; exact Calls.quiet_of_same (Q1.out _)) | (go_at_call 31; exact Calls.quiet_of_same (Q2.out _))))
          go_wp2
          go_ret
          exact ⟨ret_bool HF.out.symm, below_drewN (HB0.out.trans (HBr.out.mono HB0.out.size)) _⟩
        · have HN := hide (HDf.out.snoc Hx.out (by have h2 := HB1.out; simp at h2; omega) hin)
          rw [place_neg hin] at Q2
          clear hA hT hin
          go_wp2_with fail
          go_quiet ((first | (go_at_call 30; exact Calls.quiet_of_same (Q1.out _)) | (go_at_call 31; exact Calls.quiet_of_same (Q2.out _))))
          go_wp2
          go_roundw
          case rel => exact ⟨k + 1, by omega, by go_num, below_drewN HBr.out _, HN.out⟩
          case measure => simp [intOf]; omega
    · obtain rfl : k = r.cls.length := by omega
      have hdf := HDf.out
      rw [List.take_length] at hdf
      obtain ⟨b1, h1⟩ : ∃ b, decide (0 ≤ r.steps ∧ r.steps ≤ 300) = b := ⟨_, rfl⟩
      obtain ⟨b2, h2⟩ : ∃ b, decide (0 ≤ r.nodes ∧ r.nodes ≤ 300) = b := ⟨_, rfl⟩
      obtain ⟨b3, h3⟩ : ∃ b, decide (0 ≤ r.deep ∧ r.deep ≤ 300) = b := ⟨_, rfl⟩
      have HT := hide (show tf (RuOk r) = (b1 && (b2 && b3)) from by
        rw [tf_congr (ruOk_parts r hdf), ← h1, ← h2, ← h3]
        unfold tf
        by_cases g1 : 0 ≤ r.steps ∧ r.steps ≤ 300 <;> by_cases g2 : 0 ≤ r.nodes ∧ r.nodes ≤ 300 <;> by_cases g3 : 0 ≤ r.deep ∧ r.deep ≤ 300 <;> simp [g1, g2, g3])
      have Q1 := hide (fun W => inRange_b r.steps 0 300 b1 W h1)
      have Q2 := hide (fun W => inRange_b r.nodes 0 300 b2 W h2)
      have Q3 := hide (fun W => inRange_b r.deep 0 300 b3 W h3)
      have HBE := hide (HB0.out.trans (HBr.out.mono HB0.out.size))
      clear h1 h2 h3 hdf hb
      cases b1
      · go_wp2_with fail
        refine (Q1.out _).mono ?_
        rintro e w' ⟨rfl, rfl⟩
        go_wp2
        go_ret
        exact ⟨ret_bool (by rw [HT.out]; simp), HBE.out⟩
      cases b2
      · go_wp2_with fail
        refine (Q1.out _).mono ?_
        rintro e w' ⟨rfl, rfl⟩
        go_wp2_with fail
        refine (Q2.out _).mono ?_
        rintro e w' ⟨rfl, rfl⟩
        go_wp2
        go_ret
        exact ⟨ret_bool (by rw [HT.out]; simp), HBE.out⟩
      go_wp2_with fail
      refine (Q1.out _).mono ?_
      rintro e w' ⟨rfl, rfl⟩
      go_wp2_with fail
      refine (Q2.out _).mono ?_
      rintro e w' ⟨rfl, rfl⟩
      go_wp2_with fail
      refine (Q3.out _).mono ?_
      rintro e w' ⟨rfl, rfl⟩
      go_wp2
      go_ret
      exact ⟨ret_bool (by rw [HT.out]; simp), HBE.out⟩

end Go.Proofs.Ytochdhibmmohfab
