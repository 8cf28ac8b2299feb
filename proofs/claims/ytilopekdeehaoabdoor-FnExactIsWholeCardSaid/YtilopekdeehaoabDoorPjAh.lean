/-
  Lemmas, several texts in one: ChkF, EqO.
-/
import Derived.Test.YtilopekdeehaoabDoorPjAg
import Derived.Test.YtilopekdeehaoabDoorPjAe
import Derived.Test.YtilopekdeehaoabDoorPjAa
import Derived.Deep.QuietTactic
import Derived.BigQuiet
import Derived.StillTailTactics
namespace Go.Proofs.YtilopekdeehaoabDoor
open Go.RowKit
set_option linter.unusedVariables false

theorem TurnsSb.behind {w W : World} {base q off : Nat} {p : ShPtr} {t : Shp} {e : Ending} {w' : World} (hb : Below w.heap.size w W) (hq : q < w.heap.size) (h : TurnsSb W base q off p t e w') : TurnsSb w base q off p t e w' := by
  obtain ⟨he, p', h1, h2⟩ := h
  exact ⟨he, p', h1, (SbFr.of_below hb hq).trans h2⟩
theorem TurnsSb.mk' {w W w' : World} {base q off : Nat} {p p' : ShPtr} {s t : Shp} (hb : Below w.heap.size w W) (hq : q < w.heap.size) (h : SbAt w' base q off p' t ∧ SbFr W w' q off p p') : TurnsSb w base q off p t (.returned (.tuple #[])) w' :=
  ⟨rfl, p', h.1, (SbFr.of_below hb hq).trans h.2⟩

/-- the codes of orders that push a new thing, and its kind -/
def IsNewOp (c k : Int) : Prop := (c = 0 ∧ k = 0) ∨ (c = 1 ∧ k = 1) ∨ (c = 3 ∧ k = 2) ∨ (c = 4 ∧ k = 2) ∨ (c = 5 ∧ k = 2) ∨ (c = 6 ∧ k = 2) ∨ (c = 7 ∧ k = 3) ∨ (c = 10 ∧ k = 4) ∨ (c = 13 ∧ k = 5)
/-- the codes of orders that do nothing but take -/
def IsIdleOp (c : Int) : Prop := c = 8 ∨ c = 9 ∨ c = 11 ∨ c = 12 ∨ c = 17 ∨ c = 18

set_option maxRecDepth 100000 in
set_option maxHeartbeats 4000000 in
theorem act_new (q base off : Nat) (p : ShPtr) (s : Shp) (cd ar k : Int) (w : World) (h : SbAt w base q off p s) (hs : s.Small) (hbase : base ≤ w.heap.size) (hc : IsNewOp cd k) :
    Calls Tryd.prog 36 #[.pointer (some ⟨q, off, none⟩), .agg #[.int .i64 cd, .int .i64 ar]] w (TurnsSb w base q off p (s.push k)) := by
  have htl := hs.t
  have hlt := h.lt
  have hk : In64 k := by constructor <;> (rcases hc with h | h | h | h | h | h | h | h | h <;> omega)
  have hB := hide ((Below.refl w.heap.size w).alloc (Nat.le_refl _) (.cells #[.int .i64 cd, .int .i64 ar] 36))
  have lo := Lies.new w #[.int .i64 cd, .int .i64 ar] 36
  have h2 := h.alloc (.cells #[.int .i64 cd, .int .i64 ar] 36)
  have HC := hide (pushNew_any q base off p s k _ h2 hs (by simp; omega) hk)
  obtain ⟨e0, e1, e2, e3, e4, f0, f1, f2, f3, f4⟩ := h2.c
  have d0 := lo.cell 0
  have d1 := lo.cell 1
  simp only [List.getElem?_toArray, List.getElem?_cons_zero, List.getElem?_cons_succ] at d0 d1
  clear h hs h2 lo hk
  rcases hc with ⟨rfl, rfl⟩ | ⟨rfl, rfl⟩ | ⟨rfl, rfl⟩ | ⟨rfl, rfl⟩ | ⟨rfl, rfl⟩ | ⟨rfl, rfl⟩ | ⟨rfl, rfl⟩ | ⟨rfl, rfl⟩ | ⟨rfl, rfl⟩
  all_goals
    go_enter Tryd.func36, Tryd.ntmps36
    go_upto_region 1 with fail
    generalize w.alloc (.cells #[.int .i64 _, .int .i64 ar] 36) = W at hB HC e0 e1 e2 e3 e4 f0 f1 f2 f3 f4 d0 d1 ⊢
    go_wp2_with fail
    refine HC.out.mono ?_
    clear HC
    rintro e w' hE
    have hE2 := hE.behind hB.out hlt
    obtain ⟨rfl, hE3⟩ := hE
    have HE := hide hE2
    clear hE2 hE3
    go_wp2
    go_end0
    exact HE.out

set_option maxRecDepth 100000 in
set_option maxHeartbeats 4000000 in
theorem act_idle (q base off : Nat) (p : ShPtr) (s : Shp) (cd ar : Int) (w : World) (h : SbAt w base q off p s) (hs : s.Small) (hbase : base ≤ w.heap.size) (hc : IsIdleOp cd) :
    Calls Tryd.prog 36 #[.pointer (some ⟨q, off, none⟩), .agg #[.int .i64 cd, .int .i64 ar]] w (TurnsSb w base q off p s) := by
  have htl := hs.t
  have hlt := h.lt
  have hB := hide ((Below.refl w.heap.size w).alloc (Nat.le_refl _) (.cells #[.int .i64 cd, .int .i64 ar] 36))
  have lo := Lies.new w #[.int .i64 cd, .int .i64 ar] 36
  have h2 := h.alloc (.cells #[.int .i64 cd, .int .i64 ar] 36)
  have H2 := hide h2
  obtain ⟨e0, e1, e2, e3, e4, f0, f1, f2, f3, f4⟩ := h2.c
  have d0 := lo.cell 0
  have d1 := lo.cell 1
  simp only [List.getElem?_toArray, List.getElem?_cons_zero, List.getElem?_cons_succ] at d0 d1
  clear h hs h2 lo
  rcases hc with rfl | rfl | rfl | rfl | rfl | rfl
  all_goals
    go_enter Tryd.func36, Tryd.ntmps36
    go_upto_region 1 with fail
    generalize w.alloc (.cells #[.int .i64 _, .int .i64 ar] 36) = W at hB H2 e0 e1 e2 e3 e4 f0 f1 f2 f3 f4 d0 d1 ⊢
    go_wp2
    go_end0
    exact TurnsSb.mk' (s := s) hB.out hlt ⟨H2.out, SbFr.refl _ _ _ _⟩

set_option maxRecDepth 100000 in
set_option maxHeartbeats 4000000 in
theorem act_stop (q base off : Nat) (p : ShPtr) (s : Shp) (ar : Int) (w : World) (h : SbAt w base q off p s) (hs : s.Small) (hbase : base ≤ w.heap.size) :
    Calls Tryd.prog 36 #[.pointer (some ⟨q, off, none⟩), .agg #[.int .i64 19, .int .i64 ar]] w (TurnsSb w base q off p { s with done := true }) := by
  have htl := hs.t
  have hlt := h.lt
  have hB := hide ((Below.refl w.heap.size w).alloc (Nat.le_refl _) (.cells #[.int .i64 19, .int .i64 ar] 36))
  have lo := Lies.new w #[.int .i64 19, .int .i64 ar] 36
  have h2 := h.alloc (.cells #[.int .i64 19, .int .i64 ar] 36)
  have H2 := hide h2
  obtain ⟨e0, e1, e2, e3, e4, f0, f1, f2, f3, f4⟩ := h2.c
  have d0 := lo.cell 0
  have d1 := lo.cell 1
  simp only [List.getElem?_toArray, List.getElem?_cons_zero, List.getElem?_cons_succ] at d0 d1
  clear h hs h2 lo
  go_enter Tryd.func36, Tryd.ntmps36
  go_upto_region 1 with fail
  generalize w.alloc (.cells #[.int .i64 19, .int .i64 ar] 36) = W at hB H2 e0 e1 e2 e3 e4 f0 f1 f2 f3 f4 d0 d1 ⊢
  go_wp2
  go_end0
  exact TurnsSb.mk' (s := s) hB.out hlt H2.out.stop

end Go.Proofs.YtilopekdeehaoabDoor

namespace Go.Proofs.YtilopekdeehaoabDoor
open Go.RowKit

theorem od_ne {m n : Od} (h : m.code ≠ n.code ∨ m.arg ≠ n.arg) : decide (m = n) = false := by
  simp only [decide_eq_false_iff_not]
  rintro rfl
  simp at h

theorem od_eq {m n : Od} (h1 : m.code = n.code) (h2 : m.arg = n.arg) : decide (m = n) = true := by
  cases m; cases n
  simp_all

set_option maxHeartbeats 1000000 in
theorem eqOp_any (m n : Od) (w : World) :
    Calls Tryd.prog 13 #[.agg #[.int .i64 m.code, .int .i64 m.arg], .agg #[.int .i64 n.code, .int .i64 n.arg]] w fun e w' =>
      e = .returned (.bool (decide (m = n))) ∧ Below w.heap.size w w' := by
  have hB : Below w.heap.size w ((w.alloc (.cells #[.int .i64 m.code, .int .i64 m.arg] 36)).alloc (.cells #[.int .i64 n.code, .int .i64 n.arg] 36)) :=
    ((Below.refl _ _).alloc (Nat.le_refl _) _).alloc (by simp) _
  by_cases h1 : m.code = n.code
  · have t1 : (m.code != n.code) = false := by simpa using h1
    by_cases h2 : m.arg = n.arg
    · have t2 : (m.arg != n.arg) = false := by simpa using h2
      have HF := hide (od_eq h1 h2)
      clear h1 h2
      go_enter Tryd.func13, Tryd.ntmps13
      go_wp2
      go_ret
      exact ⟨ret_bool HF.out.symm, hB⟩
    · have t2 : (m.arg != n.arg) = true := by simpa using h2
      have HF := hide (od_ne (.inr h2))
      clear h1 h2
      go_enter Tryd.func13, Tryd.ntmps13
      go_wp2
      go_ret
      exact ⟨ret_bool HF.out.symm, hB⟩
  · have t1 : (m.code != n.code) = true := by simpa using h1
    have HF := hide (od_ne (.inl h1))
    clear h1
    go_enter Tryd.func13, Tryd.ntmps13
    go_wp2
    go_ret
    exact ⟨ret_bool HF.out.symm, hB⟩

set_option maxRecDepth 100000 in
set_option maxHeartbeats 1000000 in
theorem eqOpS_any (A A' : Option Addr) (ms ns : List Od) (c c' : Nat) (w : World) (h : OpsAt w w.heap.size A ms) (h' : OpsAt w w.heap.size A' ns) :
    Calls Tryd.prog 8 #[.slice A ms.length c, .slice A' ns.length c'] w fun e w' => e = .returned (.bool (decide (ms = ns))) ∧ Below w.heap.size w w' := by
  have hl := h.len
  by_cases hne : ms.length = ns.length
  · have hb0 : ((ms.length : Int) != (ns.length : Int)) = false := by simp [hne]
    go_enter Tryd.func8, Tryd.ntmps8
    go_wp2_with fail
    go_loopw [5] (fun i wr => ∃ k : Nat, k ≤ ms.length ∧ i = .int .i64 k ∧ Below w.heap.size w wr ∧ ∀ j, j < k → ms[j]? = ns[j]?) (fun i _ => ms.length - (intOf i).toNat)
    case atStart => exact ⟨0, Nat.zero_le _, rfl, Below.refl _ _, fun j hj => absurd hj (by omega)⟩
    case round =>
      obtain ⟨k, hk, rfl, hb, he0⟩ := hrel
      have he := hide he0
      clear he0
      by_cases hlt : k < ms.length
      · obtain ⟨b, off, m, rfl, hbl, hx, _, hm0, hm1⟩ := (h.below hb).at_ hlt
        obtain ⟨b', off', n, rfl, hbl', hy, _, hn0, hn1⟩ := (h'.below hb).at_ (k := k) (by omega)
        have Hx := hide hx
        have Hy := hide hy
        clear hx hy
        have hk1 : (0 : Int) ≤ (k : Int) := by omega
        have hk2 : (k : Int) < (ms.length : Int) := by omega
        have hk3 : (k : Int) < (ns.length : Int) := by omega
        have Hne := hide hne
        clear hne
        have hb2 : Below w.heap.size w wr.drew := hb.drew
        go_wp2_with fail
        go_still_tail 8, (by kernel_rfl)
        change wpList _ _ _ _ _ wr.drew
        generalize wr.drew = w2 at hb2 ⊢
        go_wp2_with fail
        refine (eqOp_any m n w2).mono ?_
        rintro e w' ⟨rfl, hb3⟩
        have hb4 := hb2.trans (hb3.mono hb2.size)
        clear hb2 hb3
        by_cases hmn : m = n
        · subst hmn
          have t : decide (m = m) = true := by simp
          rw [t]
          clear t
          go_wp2
          go_roundw
          case rel => exact ⟨k + 1, by omega, by go_num, hb4, fun j hj => by
            by_cases e : j = k
            · subst e; rw [Hx.out, Hy.out]
            · exact he.out j (by omega)⟩
          case measure => simp [intOf]; omega
        · have t : decide (m = n) = false := by simpa using hmn
          rw [t]
          clear t
          have hF : decide (ms = ns) = false := by
            simp only [decide_eq_false_iff_not]
            intro e
            subst e
            have := Hx.out.symm.trans Hy.out
            injection this with this
            exact hmn this
          have HF := hide hF
          clear hF hmn
          go_wp2
          go_ret
          exact ⟨ret_bool HF.out.symm, hb4⟩
      · obtain rfl : k = ms.length := by omega
        have hF : decide (ms = ns) = true := by
          simp only [decide_eq_true_eq]
          exact eq_of_prefix hne rfl he.out
        have HF := hide hF
        clear hF hlt
        go_wp2
        go_ret
        exact ⟨ret_bool HF.out.symm, hb⟩
  · have hb1 : ((ms.length : Int) != (ns.length : Int)) = true := by simp; omega
    have hF : decide (ms = ns) = false := by
      simp only [decide_eq_false_iff_not]
      intro e
      exact hne (by rw [e])
    have HF := hide hF
    clear hF
    go_enter Tryd.func8, Tryd.ntmps8
    go_wp2
    go_ret
    exact ⟨ret_bool HF.out.symm, Below.refl _ _⟩

end Go.Proofs.YtilopekdeehaoabDoor
