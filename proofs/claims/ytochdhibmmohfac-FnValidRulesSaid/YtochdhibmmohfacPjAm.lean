/-
  Lemmas, several texts in one: DrawVR, LawVR.
-/
import Derived.Test.YtochdhibmmohfacSrR
import Derived.Test.YtochdhibmmohfacPjAi
import Derived.Test.YtochdhibmmohfacPjAh
namespace Go.Proofs.Ytochdhibmmohfac
open Go.RowKit
set_option linter.unusedVariables false

/-- some rules that can be read come back, and old memory is as it was -/
def DrawnR1 (w : World) (e : Ending) (w' : World) : Prop :=
  ∃ (Ax : Option Addr) (cx : Nat) (r : Ru), e = .returned (.agg #[.int .i64 r.steps, .int .i64 r.nodes, .int .i64 r.deep, .slice Ax r.cls.length cx]) ∧ RuAt w' w'.heap.size Ax r ∧ r.cls.length ≤ 1000 ∧ r.cls.length ≤ cx ∧ Below w.heap.size w w'

theorem OwnI.capS {w : World} {base : Nat} {A : Option Addr} {c : Nat} {xs : List Int} (h : OwnI w base A c xs) : xs.length ≤ c := by
  rcases h.own with ⟨hl, hh⟩
  rcases hh with ⟨h1, h2⟩ | ⟨g, cap, cur, hv, hg, hh, hle, hm, hs, hx⟩
  · rw [h2]; exact Nat.zero_le _
  · injection hv with _ _ h3
    subst h3
    exact hle

set_option maxRecDepth 100000 in
set_option maxHeartbeats 1000000 in
theorem drawValidRules_any (A : Option Addr) (n c : Nat) (w : World) (h : BytesAt w w.heap.size A n) (hc : n ≤ c) (hn : n ≤ 9223372036854775807) :
    Calls Try.prog 4 #[.slice A n c] w (DrawnR1 w) := by
  have hB : Below w.heap.size w (w.alloc (.cells #[.int .i64 0, .int .i64 0, .int .i64 0, .slice none 0 0] 25)) := (Below.refl _ w).alloc (Nat.le_refl _) _
  have l2 := Lies.new w #[.int .i64 0, .int .i64 0, .int .i64 0, .slice none 0 0] 25
  have h2 := (h.later hB).more hB.size
  clear h
  go_enter Try.func4, Try.ntmps4
  go_wp2_with fail
  generalize w.alloc (.cells #[.int .i64 0, .int .i64 0, .int .i64 0, .slice none 0 0] 25) = W at hB l2 h2 ⊢
  refine (newReader_any A n c W h2 hc hn).mono ?_
  rintro e w1 ⟨rfl, ⟨n', c', hrd⟩, hb1⟩
  have l3 := l2.below hb1 l2.lt
  have hB1 := hB.trans (hb1.mono hB.size)
  have hrl := hrd.box.lt
  have hwl := l2.lt
  clear l2 h2 hB hb1
  generalize W.heap.size = rb at hrd hrl hwl ⊢
  go_wp2_with fail
  refine (likelyOps_any rb A n' c' 0 w1 hrd (by omega)).mono ?_
  rintro e w2 ⟨os, Ao, co, p', rfl, hown, hok, hol, hp', hrd2, hG⟩
  have hops : OpsAt w2 w2.heap.size Ao os := hown.ops (fun o ho => by
    have h := hok o ho
    have hm := argMost_range o.code
    unfold In64
    rcases h.2 with ⟨h2, h3⟩ | ⟨h2, h3, h4⟩
    · have := h.1; omega
    · have := h.1; omega) (by omega)
  have hcap := hown.capLen
  have hne : blockOf Ao ≠ some rb := fun e => by have := (hown.blocks rb e).1; omega
  have l4 := l3.grew hG (by omega)
  have hB2 : Below w.heap.size w w2 := hG.below hB1 (by omega) (by omega)
  have hs2 := hG.size
  clear l3 hB1 hown hok hG hrd
  go_wp2_with fail
  refine (someRules_any rb A n' c' p' Ao os co w2 hrd2 (by omega) hops hcap hne).mono ?_
  rintro e w3 ⟨p3, Ax, cx, r, rfl, hp3, hrd3, hox, h64, hfew, hn64, hG3⟩
  simp only [ruVal, ruCells]
  have l5 := l4.grew hG3 (by omega)
  have hB3 : Below w.heap.size w w3 := hG3.below hB2 (by omega) (by omega)
  obtain ⟨⟨a0, a1, a2, a3, f0, f1, f2, f3, s0, s1, s2, s3⟩, hl5⟩ := l5.put4 (.int .i64 r.steps) (.int .i64 r.nodes) (.int .i64 r.deep) (.slice Ax r.cls.length cx)
  have hcx := hox.capS
  have HI := hide (show RuAt _ _ Ax r from ⟨(hox.put4 (q := w.heap.size) (by omega) (.int .i64 r.steps) (.int .i64 r.nodes) (.int .i64 r.deep) (.slice Ax r.cls.length cx)).ints h64 (by omega), hn64.1, hn64.2.1, hn64.2.2⟩)
  have HB := hide (put4_below (q := w.heap.size) (v0 := .int .i64 r.steps) (v1 := .int .i64 r.nodes) (v2 := .int .i64 r.deep) (v3 := .slice Ax r.cls.length cx) hB3 (Nat.le_refl _))
  clear l4 l5 hl5 hB2 hB3 hox h64 hn64 hG3 hrd2 hrd3 hops
  go_wp2
  refine bodyPost_ret (v := .agg #[.int .i64 r.steps, .int .i64 r.nodes, .int .i64 r.deep, .slice Ax r.cls.length cx]) (by simp [results, Try.results4, go_sem, s0, s1, s2, s3]) rfl ?_
  exact ⟨Ax, cx, r, rfl, HI.out, hfew, hcx, HB.out⟩

end Go.Proofs.Ytochdhibmmohfac

namespace Go.Proofs.Ytochdhibmmohfac
open Go.RowKit
set_option linter.unusedVariables false

theorem RuOk.bare {r : Ru} (h : RuOk r) : RuOk ⟨r.steps, r.nodes, r.deep, []⟩ := ⟨h.s, h.n, h.d, ⟨(fun x hx => by cases hx), List.nodup_nil⟩⟩
theorem RuOk.cls {r : Ru} (h : RuOk r) : RuOk ⟨0, 0, 0, r.cls⟩ := ⟨⟨by simp, by simp⟩, ⟨by simp, by simp⟩, ⟨by simp, by simp⟩, h.c⟩

set_option maxRecDepth 100000 in
set_option maxHeartbeats 4000000 in
theorem lawVR_any (A : Option Addr) (n c : Nat) (w : World) (h : BytesAt w w.heap.size A n) (hc : n ≤ c) (hn : n ≤ 9223372036854775807) :
    Calls Try.prog 3 #[.slice A n c] w fun e w' => e = .returned (.bool true) ∧ Below w.heap.size w w' := by
  by_cases hbig : 1048576 < n
  · have d : decide ((1048576 : Int) < (n : Int)) = true := by simp; omega
    go_enter Try.func3, Try.ntmps3
    go_wp2
    go_ret
    exact ⟨rfl, Below.refl _ _⟩
  · have d : decide ((1048576 : Int) < (n : Int)) = false := by simp; omega
    go_enter Try.func3, Try.ntmps3
    go_wp2_with fail
    refine (drawValidRules_any A n c w h hc hn).mono ?_
    rintro e w1 ⟨Ax, cx, r, rfl, hr1, hfew, hcap, hb1⟩
    have hba := (Below.refl w1.heap.size w1).alloc (Nat.le_refl _) (.cells #[.int .i64 r.steps, .int .i64 r.nodes, .int .i64 r.deep, .slice Ax r.cls.length cx] 25)
    have l2 := Lies.new w1 #[.int .i64 r.steps, .int .i64 r.nodes, .int .i64 r.deep, .slice Ax r.cls.length cx] 25
    have hB2 := hb1.trans (hba.mono hb1.size)
    have hr2 := hr1.later hba (Nat.le_refl _)
    have e0 := l2.cell 0
    have e1 := l2.cell 1
    have e2 := l2.cell 2
    have e3 := l2.cell 3
    simp only [List.getElem?_toArray, List.getElem?_cons_zero, List.getElem?_cons_succ] at e0 e1 e2 e3
    clear h hr1 hb1 hba
    go_wp2_with fail
    generalize w1.alloc (.cells #[.int .i64 r.steps, .int .i64 r.nodes, .int .i64 r.deep, .slice Ax r.cls.length cx] 25) = w2 at l2 hB2 hr2 e0 e1 e2 e3 ⊢
    generalize w1.heap.size = bg at l2 e0 e1 e2 e3 ⊢
    refine (implValidRules_any Ax r cx w2 hr2 (by omega)).mono ?_
    rintro e w3 ⟨rfl, hb3⟩
    have l3 := l2.below hb3 l2.lt
    have hr3 := hr2.later hb3 (Nat.le_refl _)
    have hB3 := hB2.trans (hb3.mono hB2.size)
    have e0 := l3.cell 0
    have e1 := l3.cell 1
    have e2 := l3.cell 2
    have e3 := l3.cell 3
    simp only [List.getElem?_toArray, List.getElem?_cons_zero, List.getElem?_cons_succ] at e0 e1 e2 e3
    clear l2 hr2 hB2 hb3
    by_cases hv : RuOk r
    · have HV := hide hv
      have HS := hide (fun (W : World) (hw : RuAt W W.heap.size Ax r) => specValidRulesX_any Ax r cx W hw (by omega) hcap)
      rw [tf_true hv] at HS ⊢
      clear hv
      go_wp2_with fail
      refine (HS.out w3 hr3).mono ?_
      rintro e w4 ⟨rfl, hb4⟩
      have l4 := l3.below hb4 l3.lt
      have hr4 := hr3.later hb4 (Nat.le_refl _)
      have hB4 := hB3.trans (hb4.mono hB3.size)
      have e0 := l4.cell 0
      have e1 := l4.cell 1
      have e2 := l4.cell 2
      have e3 := l4.cell 3
      simp only [List.getElem?_toArray, List.getElem?_cons_zero, List.getElem?_cons_succ] at e0 e1 e2 e3
      clear l3 hr3 hB3 hb4
      have HC1 := hide (implValidRules_any none ⟨r.steps, r.nodes, r.deep, []⟩ 0 w4 ⟨⟨(fun hx => absurd rfl hx), (fun x hx => by cases hx), (by simp)⟩, hr4.s, hr4.n, hr4.d⟩ (by simp))
      rw [tf_true HV.out.bare] at HC1
      simp only [ruVal, ruCells, List.length_nil] at HC1
      go_wp2_with fail
      refine HC1.out.mono ?_
      rintro e w5 ⟨rfl, hb5⟩
      have l5 := l4.below hb5 l4.lt
      have hr5 := hr4.later hb5 (Nat.le_refl _)
      have hB5 := hB4.trans (hb5.mono hB4.size)
      have e3 := l5.cell 3
      simp only [List.getElem?_toArray, List.getElem?_cons_zero, List.getElem?_cons_succ] at e3
      clear l4 hr4 hB4 hb5 HC1 e0 e1 e2
      have HC2 := hide (implValidRules_any Ax ⟨0, 0, 0, r.cls⟩ cx w5 ⟨hr5.c, by constructor <;> simp, by constructor <;> simp, by constructor <;> simp⟩ (by show r.cls.length ≤ _; omega))
      rw [tf_true HV.out.cls] at HC2
      simp only [ruVal, ruCells] at HC2
      go_wp2_with fail
      refine HC2.out.mono ?_
      rintro e w6 ⟨rfl, hb6⟩
      have HB := hide (hB5.trans (hb6.mono hB5.size))
      clear l5 hr5 hB5 hb6 HC2 e3
      go_wp2
      go_ret
      exact ⟨rfl, HB.out⟩
    · have HS := hide (fun (W : World) (hw : RuAt W W.heap.size Ax r) => specValidRulesX_any Ax r cx W hw (by omega) hcap)
      rw [tf_false hv] at HS ⊢
      clear hv
      go_wp2_with fail
      refine (HS.out w3 hr3).mono ?_
      rintro e w4 ⟨rfl, hb4⟩
      have l4 := l3.below hb4 l3.lt
      have hr4 := hr3.later hb4 (Nat.le_refl _)
      have hB4 := hB3.trans (hb4.mono hB3.size)
      have e0 := l4.cell 0
      have e1 := l4.cell 1
      have e2 := l4.cell 2
      have e3 := l4.cell 3
      simp only [List.getElem?_toArray, List.getElem?_cons_zero, List.getElem?_cons_succ] at e0 e1 e2 e3
      clear l3 hr3 hB3 hb4
      go_wp2_with fail
      refine (HS.out w4 hr4).mono ?_
      rintro e w5 ⟨rfl, hb5⟩
      have HB := hide (hB4.trans (hb5.mono hB4.size))
      clear l4 hr4 hB4 hb5 e0 e1 e2 e3
      go_wp2
      go_ret
      exact ⟨rfl, HB.out⟩

end Go.Proofs.Ytochdhibmmohfac
