/-
  Lemmas, several texts in one: ChkE, DpW, SpecO.
-/
import Derived.Test.YtgkbblaaodcmnaaDoorPjAh
import Derived.StillTailTactics
import Derived.Deep.RegionLaw
import Derived.Test.YtgkbblaaodcmnaaDoorPjAd
import Derived.Test.YtgkbblaaodcmnaaDoorPjAf
namespace Go.Proofs.YtgkbblaaodcmnaaDoor
open Go.RowKit
set_option linter.unusedVariables false

theorem grown_undrew {w w1 : World} {row : Option Nat} (h : w.drew.grownBy w1 row) : w.grownBy w1 row := ⟨h.os, h.tape, h.output, h.size, h.block⟩

set_option maxRecDepth 100000 in
set_option maxHeartbeats 4000000 in
theorem pushNew_any (q base off : Nat) (p : ShPtr) (s : Shp) (k : Int) (w : World) (h : SbAt w base q off p s) (hs : s.Small) (hbase : base ≤ w.heap.size) (hk : In64 k) :
    Calls Tryd.prog 44 #[.pointer (some ⟨q, off, none⟩), .int .i64 k] w (TurnsSb w base q off p (s.push k)) := by
  have hkl := hs.k
  have htl := hs.t
  have hfl : s.full.length ≤ 1000 := by have := hs.ok.fl; omega
  have hin : In64 (s.kinds.length : Int) := by constructor <;> omega
  have Hh := hide h
  have hlt := h.lt
  have hlit := hide (show IntsAt (w.alloc (.cells #[.int .i64 (s.kinds.length : Int)] 3)).drew (w.alloc (.cells #[.int .i64 (s.kinds.length : Int)] 3)).drew.heap.size (some ⟨w.heap.size, 0, none⟩) [(s.kinds.length : Int)] from by
    have h0 := (IntsAt.lit w [(s.kinds.length : Int)] (by intro v hv; simp at hv; rw [hv]; exact hin) (by simp)).below (Below.refl _ _).drew
    simpa using h0)
  obtain ⟨e0, e1, e2, e3, e4, f0, f1, f2, f3, f4⟩ := h.c
  clear h hs
  go_enter Tryd.func44, Tryd.ntmps44
  go_wp2_with fail
  go_region_law (first
    | (refine step_append_ints (by rfl) _ _ (by rfl) base p.S p.c3 s.stack (by rfl) ((Hh.out.own.t.alloc _).drew) ⟨w.heap.size, 0, none⟩ 1 [(s.kinds.length : Int)] (by simp) (by rfl) hlit.out (by simp; omega) (by simp; omega) ?_; intro zs A' c' w1 hz ho1 hg1 ha1; have HP := hide (Hh.out.pushT ho1 (grown_undrew hg1) ha1); obtain ⟨g0, g1, g2, g3, g4, k0, k1, k2, k3, k4⟩ := Hh.out.c.ofB (Hh.out.grownB (grown_undrew hg1) Hh.out.off_.t)))
  all_goals
    obtain ⟨hX, fX⟩ := HP.out
    have Hz := hide hz.out
    have hzl : zs.length ≤ 1001 := by rw [Hz.out]; simp; omega
    clear hz ho1 hg1 ha1 HP g0 g1 g2 g3 g4 k0 k1 k2 k3 k4 e0 e1 e2 e3 e4 f0 f1 f2 f3 f4 hlit Hh
    have hXs := fX.size
    have HF := hide fX
    generalize w1.setCell ⟨q, off + 2, none⟩ (.slice A' zs.length c') = X at hX HF hXs ⊢
    have HX := hide hX
    obtain ⟨e0, e1, e2, e3, e4, f0, f1, f2, f3, f4⟩ := hX.c
    clear hX fX
    go_wp2_with (first
      | (at_builtin; refine append_ints rfl (.tmp 22) (.tmp 24) rfl base p.K p.c1 s.kinds rfl (HX.out.own.k.alloc _) _ _ 1 [k] rfl (fun e => by cases e) (IntsAt.oneN _ X.heap.size k hk rfl) (by simp <;> omega) (by simp <;> omega) ?_; intro ys A5 c5 w5 hz5 ho5 hg5 ha5; obtain ⟨d0, d1, d2, d3, d4, m0, m1, m2, m3, m4⟩ := HX.out.c.ofB (HX.out.grownB hg5 HX.out.off_.k); have S5 := hide (HX.out.pushK ho5 hg5 ha5); have z5 := hg5.size; simp at z5)
      | (at_builtin; refine append_bools rfl (.tmp 32) (.tmp 33) rfl base p.F p.c2 s.full rfl (S5.out.1.own.f.alloc _) _ _ 1 [false] rfl (fun e => by cases e) (BoolsAt.oneN _ w5.heap.size false (by simp)) (by simp <;> omega) (by simp <;> omega) ?_; intro xs A6 c6 w6 hz6 ho6 hg6 ha6; obtain ⟨p0, p1, p2, p3, p4, n0, n1, n2, n3, n4⟩ := S5.out.1.c.ofB (S5.out.1.grownB hg6 S5.out.1.off_.f); have S6 := hide (S5.out.1.pushF ho6 hg6 ha6)))
    have hp : ({ s with kinds := ys, full := xs, stack := zs } : Shp) = s.push k := by
      unfold Shp.push
      rw [Hz.out, hz5.out, hz6.out]
    have h6 := S6.out.1
    rw [hp] at h6
    go_end0
    exact ⟨rfl, _, h6, (HF.out.trans S5.out.2).trans S6.out.2⟩

/-- what is taken from the stack, told by how much stays -/
theorem take_any (q base off : Nat) (p : ShPtr) (s : Shp) (t : Int) (n : Nat) (w : World) (h : SbAt w base q off p s) (hs : s.Small) (hn : n ≤ s.stack.length) (ht : t ≠ -1) (htn : (n : Int) = (s.stack.length : Int) - t) (ht0 : 0 ≤ t) :
    Calls Tryd.prog 36 #[.pointer (some ⟨q, off, none⟩), .int .i64 t] w (TurnsSb w base q off p (s.cutTo n)) := by
  have htl := hs.t
  have hcap := h.own.t.capLen
  have Hh := hide h
  have hlt := h.lt
  obtain ⟨e0, e1, e2, e3, e4, f0, f1, f2, f3, f4⟩ := h.c
  have ht1 : (t == -1) = false := by simpa using ht
  have hst : IntKind.i64.wrap ((s.stack.length : Int) - t) = (n : Int) := by rw [IntKind.wrap_i64]; omega
  obtain ⟨m, hm⟩ : ∃ m : Nat, s.stack.length = m + n := ⟨s.stack.length - n, by omega⟩
  obtain rfl : t = (m : Int) := by omega
  have hb1 : (0 : Int) ≤ (n : Int) := by omega
  have hb2 : (n : Int) ≤ (s.stack.length : Int) := by omega
  have hb3 : (n : Int) ≤ (p.c3 : Int) := by omega
  have hd : (s.stack.length : Int) - (m : Int) = (n : Int) := by omega
  have Htn := hide htn
  have Hm := hide hm
  have HC := hide (Hh.out.cut hn)
  clear h hs htn ht hst hm
  go_enter Tryd.func36, Tryd.ntmps36
  go_wp2
  go_end0
  exact ⟨rfl, _, HC.out.1, HC.out.2⟩

theorem take_all (q base off : Nat) (p : ShPtr) (s : Shp) (a : Nat) (w : World) (h : SbAt w base q off p s) (hs : s.Small) (ha : above s.stack = a + 1) :
    Calls Tryd.prog 36 #[.pointer (some ⟨q, off, none⟩), .int .i64 (-1)] w (TurnsSb w base q off p (s.cutTo a)) := by
  have htl := hs.t
  have hcap := h.own.t.capLen
  have hal := above_le s.stack
  have Hh := hide h
  have hlt := h.lt
  have hok := hs.ok.st
  have cm := aboveMark_any p.S s.stack p.c3 w (h.own.at_ hs).t (fun x hx => (hok x hx).1)
  rw [ha] at cm
  have CM := hide cm
  obtain ⟨e0, e1, e2, e3, e4, f0, f1, f2, f3, f4⟩ := h.c
  have hb1 : (0 : Int) ≤ (a : Int) := by omega
  have hb2 : (a : Int) + 1 ≤ (s.stack.length : Int) := by omega
  have hb3 : (a : Int) + 1 ≤ (p.c3 : Int) := by omega
  have hb4 : ((a + 1 : Nat) : Int) - 1 = (a : Int) := by omega
  have HC := hide (Hh.out.cut (n := a) (by omega))
  clear h hs ha hal hok cm
  go_enter Tryd.func36, Tryd.ntmps36
  go_wp2_with fail
  refine CM.out.mono ?_
  rintro e w' ⟨rfl, rfl⟩
  go_wp2
  go_end0
  exact ⟨rfl, _, HC.out.1, HC.out.2⟩

end Go.Proofs.YtgkbblaaodcmnaaDoor

namespace Go.Proofs.YtgkbblaaodcmnaaDoor
open Go.RowKit
set_option linter.unusedVariables false

/-- the numbers that are collected lie behind the captured variable in block bc -/
def Coll (base bc : Nat) (f : List Int → Nat) (os : List Od) (k : Nat) (D : Nat → Prop) (W : World) : Prop :=
  ∃ A c, Lies W bc #[.slice A k c] 24 ∧ OwnI W base A c (toldOf f os k) ∧ blockOf A ≠ some bc ∧ (∀ b, D b ↔ b = bc ∨ blockOf A = some b)

theorem Coll.watcher (base bc : Nat) (f : List Int → Nat) (os : List Od) (g : Nat) (caps : Array Value) : Watcher g caps os (Coll base bc f os) := by
  refine ⟨fun k D W W' hJ hb hz => ?_, fun k D W hJ b hb => ?_⟩
  · obtain ⟨A, c, h1, h2, h3, h4⟩ := hJ
    exact ⟨A, c, (hb bc ((h4 bc).2 (.inl rfl))).trans h1, h2.ofB (fun g hg => hb g ((h4 g).2 (.inr hg))), h3, h4⟩
  · obtain ⟨A, c, h1, h2, h3, h4⟩ := hJ
    rcases (h4 b).1 hb with rfl | hA
    · exact h1.lt
    · exact (h2.blocks b hA).2

/-- one number more is put behind them -/
theorem Coll.next {base bc k : Nat} {f : List Int → Nat} {os : List Od} {D : Nat → Prop} {W w1 : World} {A A' : Option Addr} {c c' : Nat} {zs : List Int} {lit : Obj} (hl : Lies W bc #[.slice A k c] 24) (hA : blockOf A ≠ some bc) (hD : ∀ b, D b ↔ b = bc ∨ blockOf A = some b)
    (hz : zs = toldOf f os (k + 1)) (ho : OwnI w1 base A' c' zs) (hg : (W.alloc lit).grownBy w1 (blockOf A)) (hat : blockOf A' = blockOf A ∨ blockOf A' = some (W.alloc lit).heap.size) :
    Watched W (k + 1) D (Coll base bc f os) (.returned (.tuple #[])) (w1.setCell ⟨bc, 0, none⟩ (.slice A' zs.length c')) := by
  have hlt := hl.lt
  have hlen : zs.length = k + 1 := by rw [hz, toldOf_len]
  have hA' : blockOf A' ≠ some bc := by
    rcases hat with h | h
    · rw [h]; exact hA
    · rw [h]; intro e; injection e with e; simp at e; omega
  have hb1 : w1.heap[bc]? = W.heap[bc]? := by rw [hg.block bc (by simp; omega) (fun e => hA e.symm), Below.heap_alloc _ _ _ hlt]
  have hl1 : Lies w1 bc #[.slice A k c] 24 := hb1.trans hl
  have hl2 := hl1.set 0 (.slice A' zs.length c')
  have hs := hg.size
  simp at hs
  refine ⟨rfl, fun b => b = bc ∨ blockOf A' = some b, ⟨A', c', ?_, ?_, hA', fun b => Iff.rfl⟩, fun b hb hD' => ?_, ⟨?_, ?_, ?_, by simp; omega, fun b hb hnD => ?_⟩⟩
  · rw [← hlen]
    simpa using hl2
  · rw [← hz]
    exact ho.ofB fun g hgA => Below.heap_setCell _ _ _ _ (by show g ≠ bc; intro e; subst e; exact hA' hgA)
  · rcases hD' with rfl | h
    · exact (hD _).2 (.inl rfl)
    · rcases hat with h2 | h2
      · exact (hD b).2 (.inr (h2 ▸ h))
      · rw [h2] at h; injection h with h; simp at h; omega
  · exact hg.os
  · exact hg.tape
  · exact hg.output
  · have h1 : b ≠ bc := fun e => hnD ((hD b).2 (.inl e))
    have h2 : blockOf A ≠ some b := fun e => hnD ((hD b).2 (.inr e))
    rw [Below.heap_setCell _ _ _ _ (by show b ≠ bc; exact h1), hg.block b (by simp; omega) (fun e => h2 e.symm), Below.heap_alloc _ _ _ hb]

end Go.Proofs.YtgkbblaaodcmnaaDoor

namespace Go.Proofs.YtgkbblaaodcmnaaDoor
open Go.RowKit
set_option linter.unusedVariables false

set_option maxHeartbeats 1000000 in
theorem specValidOps_any (A : Option Addr) (os : List Od) (c : Nat) (w : World) (h : OpsAt w w.heap.size A os) :
    Calls Tryd.prog 13 #[.slice A os.length c] w fun e w' => e = .returned (.bool (tf (OpsOk os))) ∧ Below w.heap.size w w' := by
  have hl := h.len
  go_enter Tryd.func13, Tryd.ntmps13
  go_wp2_with fail
  go_loopw [3] (fun i wr => ∃ k : Nat, k ≤ os.length ∧ i = .int .i64 k ∧ Below w.heap.size w wr ∧ ∀ j x, j < k → os[j]? = some x → OdOk x) (fun i _ => os.length - (intOf i).toNat)
  case atStart => exact ⟨0, Nat.zero_le _, rfl, Below.refl _ _, fun j _ hj => absurd hj (by omega)⟩
  case round =>
    obtain ⟨k, hk, rfl, hb, he0⟩ := hrel
    have he := hide he0
    clear he0
    by_cases hlt : k < os.length
    · obtain ⟨b, off, x, rfl, hbl, hx, hmem, hc0, hc1⟩ := (h.below hb).at_ hlt
      have Hx := hide hx
      clear hx
      by_cases hin : OdOk x
      · have He : Hid (∀ j y, j < k + 1 → os[j]? = some y → OdOk y) := by
          intro j y hj hy
          by_cases e : j = k
          · subst e
            have := Hx.out.symm.trans hy
            injection this with this
            subst this
            exact hin
          · exact he.out j y (by omega) hy
        have ht := hide (show tf (OdOk x) = true from tf_true hin)
        clear he hmem hin
        go_wp2_with fail
        refine (validOp_any x _).mono ?_
        rintro e w' ⟨rfl, hb2⟩
        rw [ht.out]
        go_wp2
        go_roundw
        case rel => exact ⟨k + 1, by omega, by go_num, hb.trans (hb2.mono hb.size), He.out⟩
        case measure => simp [intOf]; omega
      · have HF := hide (show tf (OpsOk os) = false from tf_false fun hall => hin (hall.2 x hmem))
        have ht := hide (show tf (OdOk x) = false from tf_false hin)
        clear he hmem hin
        go_wp2_with fail
        refine (validOp_any x _).mono ?_
        rintro e w' ⟨rfl, hb2⟩
        rw [ht.out]
        go_wp2
        go_ret
        exact ⟨ret_bool HF.out.symm, hb.trans (hb2.mono hb.size)⟩
    · obtain rfl : k = os.length := by omega
      have hall : ∀ x ∈ os, OdOk x := fun x hx => by
        obtain ⟨j, hj, rfl⟩ := List.getElem_of_mem hx
        exact he.out j _ hj (List.getElem?_eq_getElem hj)
      by_cases h3 : os.length ≤ 300
      · have HF := hide (show tf (OpsOk os) = true from tf_true ⟨h3, hall⟩)
        have d : decide ((os.length : Int) ≤ 300) = true := by simp; omega
        clear hlt hall
        go_wp2
        go_ret
        exact ⟨ret_bool HF.out.symm, hb⟩
      · have HF := hide (show tf (OpsOk os) = false from tf_false fun hh => h3 hh.1)
        have d : decide ((os.length : Int) ≤ 300) = false := by simp; omega
        clear hlt hall
        go_wp2
        go_ret
        exact ⟨ret_bool HF.out.symm, hb⟩

end Go.Proofs.YtgkbblaaodcmnaaDoor
