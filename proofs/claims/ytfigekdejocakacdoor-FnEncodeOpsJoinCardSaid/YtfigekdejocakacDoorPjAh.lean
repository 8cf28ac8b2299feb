/-
  Lemmas, several texts in one: One, Memod, ShpUa.
-/
import Derived.Test.YtfigekdejocakacDoorPjAa
import Derived.StillTailTactics
import Derived.Test.YtfigekdejocakacDoorPjAg
import Derived.Test.YtfigekdejocakacDoorPjAd
import Derived.Test.YtfigekdejocakacDoorShpR
import Derived.Deep.LoopGhost
import Derived.Deep.Cut
import Derived.Test.YtfigekdejocakacDoorShpT
import Derived.Test.YtfigekdejocakacDoorPjAf
import Derived.Test.YtfigekdejocakacDoorPjAe
import Derived.Deep.QuietTactic
import Derived.Deep.RegionLaw
import Derived.Deep.RegionHeld
import Derived.BigQuiet
namespace Go.Proofs.YtfigekdejocakacDoor
open Go.RowKit
set_option linter.unusedVariables false

/-- old memory is as it was, but for one block -/
structure Grew (g : Nat) (w w' : World) : Prop where
  os : w'.os = w.os
  tape : w'.tape = w.tape
  output : w'.output = w.output
  size : w.heap.size ≤ w'.heap.size
  block : ∀ k, k < w.heap.size → k ≠ g → w'.heap[k]? = w.heap[k]?

theorem Grew.refl (g : Nat) (w : World) : Grew g w w := ⟨rfl, rfl, rfl, Nat.le_refl _, fun _ _ _ => rfl⟩
theorem Grew.trans {g : Nat} {a b c : World} (h : Grew g a b) (k : Grew g b c) : Grew g a c :=
  ⟨k.os.trans h.os, k.tape.trans h.tape, k.output.trans h.output, Nat.le_trans h.size k.size, fun j hj hn => (k.block j (Nat.lt_of_lt_of_le hj h.size) hn).trans (h.block j hj hn)⟩
theorem Grew.of_turn {g : Nat} {w w' : World} (h : Turn g w w') : Grew g w w' := ⟨h.os, h.tape, h.output, by rw [h.size]; exact Nat.le_refl _, fun k _ hk => h.block k hk⟩
theorem Grew.of_below {g : Nat} {w w' : World} (h : Below w.heap.size w w') : Grew g w w' := ⟨h.os, h.tape, h.output, h.size, fun k hk _ => h.block k hk⟩
theorem Grew.below {g B : Nat} {w0 w w' : World} (h : Grew g w w') (hb : Below B w0 w) (hg : B ≤ g) (hB : B ≤ w.heap.size) : Below B w0 w' :=
  hb.trans ⟨h.os, h.tape, h.output, h.size, fun k hk => h.block k (by omega) (by omega)⟩
theorem Rd.below {w w' : World} {rb : Nat} {A : Option Addr} {n c p : Nat} (h : Rd w rb A n c p) (hb : Below w.heap.size w w') : Rd w' rb A n c p :=
  ⟨h.box.below hb h.box.lt, h.bytes.later (hb.mono (Nat.le_of_lt h.box.lt)), h.few⟩
theorem Grew.cell {g : Nat} {w w' : World} (h : Grew g w w') {b o : Nat} (h1 : b < w.heap.size) (h2 : b ≠ g) : w'.cell? ⟨b, o, none⟩ = w.cell? ⟨b, o, none⟩ := World.cell?_of_block (w := w) (h.block b h1 h2)
theorem Lies.grew {g b : Nat} {w w' : World} {cs : Array Value} {t : TypeId} (h : Lies w b cs t) (hg : Grew g w w') (h2 : b ≠ g) : Lies w' b cs t := (hg.block b h.lt h2).trans h

/-- a pick of one number of a list -/
def Chosen (rb : Nat) (A : Option Addr) (n c p : Nat) (xs : List Int) (w : World) (e : Ending) (w' : World) : Prop :=
  (∃ x ∈ xs, e = .returned (.int .i64 x)) ∧ Rd w' rb A n c (p + 1) ∧ Turn rb w w'

set_option maxHeartbeats 1000000 in
theorem one_any (rb : Nat) (A : Option Addr) (n c p g l c2 : Nat) (xs : List Int) (w : World) (h : Rd w rb A n c p) (hp : p < 1000000) (hl : xs.length = l) (h1 : 1 ≤ l) (h2 : l ≤ 100) (hg : g ≠ rb) (hc : ∀ k x, xs[k]? = some x → w.cell? ⟨g, k, none⟩ = some (.int .i64 x)) :
    Calls Tryd.prog 22 #[.pointer (some ⟨rb, 0, none⟩), .slice (some ⟨g, 0, none⟩) l c2] w (Chosen rb A n c p xs w) := by
  have HC := hide hc
  have Hl := hide hl
  clear hc hl
  go_enter Tryd.func22, Tryd.ntmps22
  go_wp2_with fail
  refine (pick_any rb A n c p (l : Int) w h hp (by omega)).mono ?_
  rintro e w' ⟨⟨x, rfl, hx, _⟩, hr, ht⟩
  have hxl : (x : Int) < (l : Int) := hx (by omega)
  have hx0 : (0 : Int) ≤ (x : Int) := by omega
  obtain ⟨y, hy⟩ : ∃ y, xs[x]? = some y := ⟨_, List.getElem?_eq_getElem (by have := Hl.out; omega)⟩
  have hcell : w'.cell? ⟨g, x, none⟩ = some (.int .i64 y) := (World.cell?_of_block (w := w) (ht.block g hg)).trans (HC.out x y hy)
  have hfin : Hid (Chosen rb A n c p xs w (.returned (.int .i64 y)) w') := ⟨⟨y, List.mem_of_getElem? hy, rfl⟩, hr, ht⟩
  clear hr ht hx hy
  go_wp2
  go_ret
  exact hfin.out

end Go.Proofs.YtfigekdejocakacDoor

namespace Go.Proofs.YtfigekdejocakacDoor
open Go.RowKit
set_option linter.unusedVariables false

/-- how many of the first k places of a memo are taken -/
def takenTo (l : List Int) : Nat → Nat
  | 0 => 0
  | k + 1 => takenTo l k + (if 0 ≤ l.getD k 0 then 1 else 0)
theorem takenTo_le (l : List Int) (k : Nat) : takenTo l k ≤ k := by
  induction k with
  | zero => exact Nat.le_refl _
  | succ k ih => unfold takenTo; split <;> omega

/-- a program and a memo that can be read come back -/
def GivesSave (w : World) (os : List Od) (μ : List Int) (e : Ending) (w' : World) : Prop :=
  ∃ A c M d, e = .returned (.tuple #[.slice A os.length c, .slice M μ.length d]) ∧ OpsAt w' w'.heap.size A os ∧ (A = none → c = 0) ∧ IntsAt w' w'.heap.size M μ ∧ (M = none → d = 0) ∧ Below w.heap.size w w'

/-- the program and the memo behind memoed -/
def memoOps (os : List Od) (μ : List Int) : List Od := os ++ [⟨15, (takenTo μ μ.length : Int)⟩]
def memoSet (μ : List Int) (i : Nat) : List Int := μ.set i (takenTo μ μ.length : Int)

set_option maxRecDepth 100000 in
set_option maxHeartbeats 2000000 in
theorem memoed_any (A : Option Addr) (os : List Od) (c : Nat) (M : Option Addr) (μ : List Int) (d i : Nat) (w : World) (h : OpsAt w w.heap.size A os) (hn : A = none → c = 0) (h2 : IntsAt w w.heap.size M μ) (hn2 : M = none → d = 0)
    (hl : os.length ≤ 7000000) (hm : μ.length ≤ 100) (hi : i < μ.length) (hμ : ∀ x ∈ μ, -1 ≤ x ∧ x ≤ 100) :
    Calls Tryd.prog 43 #[.slice A os.length c, .slice M μ.length d, .int .i64 (i : Int)] w (GivesSave w (memoOps os μ) (memoSet μ i)) := by
  have Hn := hide hn
  have Hn2 := hide hn2
  have Hμ := hide hμ
  clear hn hn2 hμ
  go_enter Tryd.func43, Tryd.ntmps43
  go_wp2_with fail
  go_loop [8, 9] (fun nv iv => ∃ k : Nat, k ≤ μ.length ∧ iv = .int .i64 (k : Int) ∧ nv = .int .i64 (takenTo μ k : Int)) (fun _ iv => μ.length - (intOf iv).toNat)
  case atStart => exact ⟨0, Nat.zero_le _, rfl, rfl⟩
  case round =>
    obtain ⟨k, hk, rfl, rfl⟩ := hrel
    have htk := takenTo_le μ k
    by_cases hlt : k < μ.length
    · obtain ⟨b, off, x, rfl, hbl, hx, _, hcx⟩ := h2.at_ hlt
      have hgx : μ.getD k 0 = x := by rw [List.getD_eq_getElem?_getD, hx]; rfl
      have hk1 : (0 : Int) ≤ (k : Int) := by omega
      have hk2 : (k : Int) < (μ.length : Int) := by omega
      by_cases hp : 0 ≤ x
      · have HT : Hid (takenTo μ (k + 1) = takenTo μ k + 1) := hide (by show takenTo μ k + _ = _; rw [hgx, if_pos hp])
        clear hx hgx
        generalize takenTo μ k = m at htk HT
        have dx : decide (0 ≤ x) = true := by simpa using hp
        go_wp2
        go_round
        case rel => exact ⟨k + 1, by omega, by go_num, by rw [HT.out]; go_num⟩
        case measure => simp [intOf]; omega
      · have HT : Hid (takenTo μ (k + 1) = takenTo μ k) := hide (by show takenTo μ k + _ = _; rw [hgx, if_neg hp]; rfl)
        clear hx hgx
        generalize takenTo μ k = m at htk HT
        have dx : decide (0 ≤ x) = false := by simpa using hp
        go_wp2
        go_round
        case rel => exact ⟨k + 1, by omega, by go_num, by rw [HT.out]⟩
        case measure => simp [intOf]; omega
    · obtain rfl : k = μ.length := by omega
      clear hlt
      obtain ⟨m, hmd⟩ : ∃ m, m = takenTo μ μ.length := ⟨_, rfl⟩
      rw [← hmd] at htk ⊢
      have Hm := hide hmd
      clear hmd
      go_wp2_with fail
      refine (copyInts_any M μ d w h2 Hn2.out (by omega)).mono ?_
      rintro e w1 ⟨M1, d1, rfl, ho1, hb1⟩
      rcases ho1.form with ⟨_, _, e0⟩ | ⟨g, rfl, hg1, hg2⟩
      · rw [e0] at hi; simp at hi
      · have HO1 := hide ho1
        have HB1 := hide hb1
        have hfr := ho1.frozenAt i
        obtain ⟨y, hy⟩ : ∃ y, μ[i]? = some y := ⟨_, List.getElem?_eq_getElem hi⟩
        have hcy : w1.cell? ⟨g, i, none⟩ = some (.int .i64 y) := ho1.cellAt hy
        have HO2 := hide (ho1.set i (m : Int))
        have HB2 := hide (hb1.setCell (p := ⟨g, i, none⟩) hg1 (.int .i64 (m : Int)))
        clear ho1 hb1 hy
        have hi1 : (0 : Int) ≤ (i : Int) := by omega
        have hi2 : (i : Int) < (μ.length : Int) := by omega
        go_upto_region 9 with fail
        clear hcy hfr
        generalize w1.setCell ⟨g, i, none⟩ (.int .i64 (m : Int)) = w2 at HO2 HB2 ⊢
        have lo := Lies.new w2 #[.int .i64 15, .int .i64 (m : Int)] 36
        have hb3 := (Below.refl w2.heap.size w2).alloc (Nat.le_refl _) (.cells #[.int .i64 15, .int .i64 (m : Int)] 36)
        have HO3 := hide (HO2.out.below hb3)
        have HB3 := hide (HB2.out.trans (hb3.mono HB2.out.size))
        have hOne := OpsAt.one (o := ⟨15, (m : Int)⟩) lo (by constructor <;> constructor <;> simp <;> omega)
        have HOne := hide hOne
        have HW3 := hide (h.later HB3.out (Nat.le_refl _))
        clear hb3 lo hOne
        go_wp2_with fail
        refine (emit_any A os c (some ⟨w2.heap.size, 0, none⟩) [⟨15, (m : Int)⟩] 1 _ HW3.out Hn.out HOne.out (fun e => by cases e) (by simp; omega)).mono ?_
        rintro e w4 ⟨A4, c4, rfl, ho4, hb4⟩
        have hwf : ∀ o ∈ os ++ [⟨15, (m : Int)⟩], In64 o.code ∧ In64 o.arg := by
          intro o ho
          rcases List.mem_append.1 ho with ho | ho
          · exact HW3.out.wf o ho
          · rw [List.mem_singleton.1 ho]
            constructor <;> constructor <;> simp <;> omega
        have hm64 : ∀ x ∈ μ.set i (m : Int), In64 x := by
          intro x hx
          rcases List.mem_or_eq_of_mem_set hx with hx | rfl
          · have := Hμ.out x hx
            constructor <;> omega
          · constructor <;> omega
        have hN4 := ho4.form
        have HF : Hid (GivesSave w (memoOps os μ) (memoSet μ i) (.returned (.tuple #[.slice A4 (os ++ [⟨15, (m : Int)⟩] : List Od).length c4, .slice (some ⟨g, 0, none⟩) (μ.set i (m : Int)).length d1])) w4) := by
          show GivesSave _ _ _ _ _
          unfold memoOps memoSet
          rw [← Hm.out]
          refine ⟨A4, c4, _, d1, rfl, ho4.ops hwf (by simp; omega), fun e => ?_, (HO3.out.below hb4).ints hm64 (by simp; omega), (fun e => by cases e), HB3.out.trans (hb4.mono HB3.out.size)⟩
          rcases hN4 with ⟨_, h2, _⟩ | ⟨g, h2, _⟩
          · exact h2
          · rw [h2] at e; cases e
        clear hwf hm64 hN4 ho4 hb4
        rw [List.length_set, show (os ++ [⟨15, (m : Int)⟩] : List Od).length = os.length + 1 from by simp] at HF
        go_wp2
        go_ret2
        exact HF.out

end Go.Proofs.YtfigekdejocakacDoor

namespace Go.Proofs.YtfigekdejocakacDoor
open Go.RowKit
set_option linter.unusedVariables false
set_option linter.unusedSimpArgs false
set_option maxRecDepth 100000 in
set_option maxHeartbeats 4000000 in
theorem stepShapes_done (p : ShPtr) (s : Shp) (cd ar : Int) (hd : s.done = true) (base : Nat) (w : World) (h : ShOwn w base p s) (hbase : base ≤ w.heap.size) (hs : s.Small) :
    Calls Tryd.prog 27 #[shVal p s, .agg #[.int .i64 cd, .int .i64 ar]] w (TriesSh w p base (stepShp s ⟨cd, ar⟩)) := by
  obtain ⟨K, c1, F, c2, S, c3, M, c4⟩ := p
  have hS := ShSt.enter3 h hbase (.cells #[.int .i64 cd, .int .i64 ar] 36)
  have lo : Lies (((w.alloc (.cells (shCells ⟨K, c1, F, c2, S, c3, M, c4⟩ s) 57)).alloc (.cells #[.int .i64 cd, .int .i64 ar] 36)).alloc (.cells zero5 57)) (w.heap.size + 1) #[.int .i64 cd, .int .i64 ar] 36 := by
    have := (Lies.new (w.alloc (.cells (shCells ⟨K, c1, F, c2, S, c3, M, c4⟩ s) 57)) #[.int .i64 cd, .int .i64 ar] 36).alloc (.cells zero5 57)
    simpa using this
  have hst := hs.t
  have hkl := hs.k
  have Hs := hide hs
  have Hd := hide hd
  have hoffo := h.off (q := w.heap.size + 1) (.inr (by omega))
  clear h hs hd
  unfold shVal
  unfold shCells zero5 at *
  dsimp only at hS lo ⊢
  go_enter Tryd.func27, Tryd.ntmps27
  go_upto_region 1 with fail
  generalize ((w.alloc (.cells #[.slice K s.kinds.length c1, .slice F s.full.length c2, .slice S s.stack.length c3, .slice M s.memo.length c4, .bool s.done] 57)).alloc (.cells #[.int .i64 cd, .int .i64 ar] 36)).alloc (.cells #[.slice none 0 0, .slice none 0 0, .slice none 0 0, .slice none 0 0, .bool false] 57) = W at hS lo ⊢
  obtain ⟨e0, e1, e2, e3, e4⟩ := hS.bx.cells
  dsimp only at e0 e1 e2 e3 e4
  have d0 := lo.cell 0
  have d1 := lo.cell 1
  simp only [List.getElem?_toArray, List.getElem?_cons_zero, List.getElem?_cons_succ] at d0 d1
  have hd := Hd.out
  rw [hd] at e4
  have HN := hide (show stepShp s ⟨cd, ar⟩ = none from stepShp_none (by unfold stepFree; rw [if_pos hd]))
  obtain ⟨_, hs5, _, hbel, hfr⟩ := hS.ret
  obtain ⟨r0, r1, r2, r3, r4, f0, f1, f2, f3, f4, s0, s1, s2, s3, s4⟩ := hs5
  have HR := hide (And.intro hbel hfr)
  clear hbel hfr hS d0 d1 lo
  dsimp only at r0 r1 r2 r3 r4 s0 s1 s2 s3 s4
  rw [hd] at s0 s1 s2 s3 s4 HR
  go_wp2
  refine bodyPost_ret (v := .tuple #[shVal ⟨K, c1, F, c2, S, c3, M, c4⟩ s, .bool false]) (by simp [shVal, shCells, hd, results, Tryd.results27, go_sem, s0, s1, s2, s3, s4]) rfl ?_
  exact ⟨_, _, _, rfl, HR.out.1, HR.out.2, fun t ht => by (rw [HN.out] at ht; cases ht), fun _ => rfl⟩
end Go.Proofs.YtfigekdejocakacDoor
