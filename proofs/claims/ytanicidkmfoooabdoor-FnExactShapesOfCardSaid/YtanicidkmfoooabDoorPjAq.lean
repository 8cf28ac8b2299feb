/-
  Lemmas, several texts in one: ToO, ShpUa, BoS.
-/
import Derived.Test.YtanicidkmfoooabDoorPjAc
import Derived.Test.YtanicidkmfoooabDoorPjAi
import Derived.Test.YtanicidkmfoooabDoorShpT
import Derived.Test.YtanicidkmfoooabDoorPjAp
import Derived.Test.YtanicidkmfoooabDoorShpN
import Derived.Deep.QuietTactic
import Derived.Deep.RegionLaw
import Derived.Deep.RegionHeld
import Derived.Deep.Cut
import Derived.BigQuiet
import Derived.Test.YtanicidkmfoooabDoorOwnBb
import Derived.Deep.LoopGhost
namespace Go.Proofs.YtanicidkmfoooabDoor
open Go.RowKit

set_option maxHeartbeats 1000000 in
theorem toOp_any (c a : Int) (w : World) :
    Calls Tryd.prog 15 #[.agg #[.int .i64 c, .int .i64 a]] w fun e w' => e = .returned (.agg #[.int .i64 c, .int .i64 a]) ∧ Below w.heap.size w w' := by
  go_enter Tryd.func15, Tryd.ntmps15
  go_wp2
  refine bodyPost_ret (v := .agg #[.int .i64 c, .int .i64 a]) (by simp [results, Tryd.results15, go_sem]) rfl ⟨rfl, ?_⟩
  exact (((Below.refl _ _).alloc (Nat.le_refl _) _).alloc (by simp) _).alloc (by simp; omega) _

set_option maxHeartbeats 1000000 in
theorem toOpS_any (A : Option Addr) (os : List Od) (c : Nat) (w : World) (h : OpsAt w w.heap.size A os) (hs : os.length ≤ 1048576) :
    Calls Tryd.prog 6 #[.slice A os.length c] w fun e w' => e = .returned (.slice (some ⟨w.heap.size, 0, none⟩) os.length os.length) ∧
      w'.rowIs w.heap.size 39 (os.length * 2) (opCell os) ∧ Below w.heap.size w w' := by
  have hmk := run_make_rows (P := Tryd.prog) 30 39 (.agg #[.int .i64 0, .int .i64 0]) 2 16 Tryd.underlying30 infoOp .i64 .i64 os.length (by omega) (by omega)
  obtain ⟨f0, hrow0⟩ := rowIs_made_any w (Value.agg #[.int .i64 0, .int .i64 0]).cells (os.length * 2) 39
  have hb0 := (Below.refl _ w).alloc (Nat.le_refl _) (.cells (madeCells (Value.agg #[.int .i64 0, .int .i64 0]).cells (os.length * 2)) 39)
  generalize (Value.agg #[.int .i64 0, .int .i64 0]).cells = zc at hmk hrow0 hb0
  go_enter Tryd.func6, Tryd.ntmps6
  go_wp2_with fail
  clear hmk
  go_loopw [4] (fun i wr => ∃ k : Nat, k ≤ os.length ∧ i = .int .i64 k ∧ Below w.heap.size w wr ∧ ∃ f, wr.rowIs w.heap.size 39 (os.length * 2) f ∧ ∀ j, j < 2 * k → f j = opCell os j) (fun i _ => os.length - (intOf i).toNat)
  case atStart => exact ⟨0, Nat.zero_le _, rfl, hb0, f0, hrow0, fun j hj => absurd hj (by omega)⟩
  case round =>
    obtain ⟨k, hk, rfl, hb, f, hrow, hf0⟩ := hrel
    clear hrow0 hb0
    have hf := hide hf0
    clear hf0
    have hg := hrow.lt
    by_cases hlt : k < os.length
    · obtain ⟨b, off, o, rfl, hbl, hx, hmem, hc0, hc1⟩ := (h.below hb).at_ hlt
      have Hx := hide hx
      clear hx hmem
      go_wp2_with fail
      refine (toOp_any o.code o.arg wr).mono ?_
      rintro e w1 ⟨rfl, hb1⟩
      have hrow1 := rowIs_below hrow hb1 hg
      have a0 := hrow1.cell (i := k * 2) (by omega)
      have a1 := hrow1.cell (i := k * 2 + 1) (by omega)
      have b0 := hrow1.frozen (k * 2)
      have b1 := hrow1.frozen (k * 2 + 1)
      have hb2 : Below w.heap.size w (set2 w1 w.heap.size (k * 2) (.int .i64 o.code) (.int .i64 o.arg)) :=
        below_set2 (hb.trans (hb1.mono (by omega))) (Nat.le_refl _) _ _
      have hrow2 := opRow_next hrow1 hf.out Hx.out
      clear hrow1 hf hrow hb hb1
      unfold set2 at hb2 hrow2
      have HB := hide hb2
      have HR := hide hrow2
      clear hb2 hrow2
      go_wp2
      go_roundw
      case rel => exact ⟨k + 1, by omega, by go_num, HB.out, HR.out⟩
      case measure => simp [intOf]; omega
    · obtain rfl : k = os.length := by omega
      clear hlt
      go_wp2
      go_ret
      exact ⟨rfl, hrow.congr (fun i hi => hf.out i (by omega)), hb⟩

end Go.Proofs.YtanicidkmfoooabDoor

namespace Go.Proofs.YtanicidkmfoooabDoor
open Go.RowKit
set_option linter.unusedVariables false
set_option linter.unusedSimpArgs false
set_option maxRecDepth 100000 in
set_option maxHeartbeats 4000000 in
theorem stepShapes_done (p : ShPtr) (s : Shp) (cd ar : Int) (hd : s.done = true) (base : Nat) (w : World) (h : ShOwn w base p s) (hbase : base ≤ w.heap.size) (hs : s.Small) :
    Calls Tryd.prog 27 #[shVal p s, .agg #[.int .i64 cd, .int .i64 ar]] w (TriesSh w p base (stepShp s ⟨cd, ar⟩)) := by
  obtain ⟨K, c1, F, c2, S, c3, M, c4⟩ := p
  have hS := ShSt.enter3 h hbase (.cells #[.int .i64 cd, .int .i64 ar] 39)
  have lo : Lies (((w.alloc (.cells (shCells ⟨K, c1, F, c2, S, c3, M, c4⟩ s) 27)).alloc (.cells #[.int .i64 cd, .int .i64 ar] 39)).alloc (.cells zero5 27)) (w.heap.size + 1) #[.int .i64 cd, .int .i64 ar] 39 := by
    have := (Lies.new (w.alloc (.cells (shCells ⟨K, c1, F, c2, S, c3, M, c4⟩ s) 27)) #[.int .i64 cd, .int .i64 ar] 39).alloc (.cells zero5 27)
    simpa using this
  have hst := hs.t
  have hkl := hs.k
  have Hs := hide hs
  have Hd := hide hd
  have hoffo := h.off (q := w.heap.size + 1) (.inr (by omega))
  clear h hs hd
  unfold shVal
  unfold shCells zero5 at *
  dsimp only at hS lo ⊢
  go_enter Tryd.func27, Tryd.ntmps27
  go_upto_region 1 with fail
  generalize ((w.alloc (.cells #[.slice K s.kinds.length c1, .slice F s.full.length c2, .slice S s.stack.length c3, .slice M s.memo.length c4, .bool s.done] 27)).alloc (.cells #[.int .i64 cd, .int .i64 ar] 39)).alloc (.cells #[.slice none 0 0, .slice none 0 0, .slice none 0 0, .slice none 0 0, .bool false] 27) = W at hS lo ⊢
  obtain ⟨e0, e1, e2, e3, e4⟩ := hS.bx.cells
  dsimp only at e0 e1 e2 e3 e4
  have d0 := lo.cell 0
  have d1 := lo.cell 1
  simp only [List.getElem?_toArray, List.getElem?_cons_zero, List.getElem?_cons_succ] at d0 d1
  have hd := Hd.out
  rw [hd] at e4
  have HN := hide (show stepShp s ⟨cd, ar⟩ = none from stepShp_none (by unfold stepFree; rw [if_pos hd]))
  obtain ⟨_, hs5, _, hbel, hfr⟩ := hS.ret
  obtain ⟨r0, r1, r2, r3, r4, f0, f1, f2, f3, f4, s0, s1, s2, s3, s4⟩ := hs5
  have HR := hide (And.intro hbel hfr)
  clear hbel hfr hS d0 d1 lo
  dsimp only at r0 r1 r2 r3 r4 s0 s1 s2 s3 s4
  rw [hd] at s0 s1 s2 s3 s4 HR
  go_wp2
  refine bodyPost_ret (v := .tuple #[shVal ⟨K, c1, F, c2, S, c3, M, c4⟩ s, .bool false]) (by simp [shVal, shCells, hd, results, Tryd.results27, go_sem, s0, s1, s2, s3, s4]) rfl ?_
  exact ⟨_, _, _, rfl, HR.out.1, HR.out.2, fun t ht => by (rw [HN.out] at ht; cases ht), fun _ => rfl⟩
end Go.Proofs.YtanicidkmfoooabDoor

namespace Go.Proofs.YtanicidkmfoooabDoor
open Go.RowKit
set_option linter.unusedVariables false

set_option maxHeartbeats 1000000 in
theorem eqBoolS_same (A A' : Option Addr) (xs : List Bool) (c c' : Nat) (w : World) (h : BoolsAt w w.heap.size A xs) (h' : BoolsAt w w.heap.size A' xs) :
    Calls Tryd.prog 19 #[.slice A xs.length c, .slice A' xs.length c'] w fun e w' => e = .returned (.bool true) ∧ Below w.heap.size w w' := by
  have hl := h.len
  have hb0 : ((xs.length : Int) != (xs.length : Int)) = false := by simp
  go_enter Tryd.func19, Tryd.ntmps19
  go_wp2_with fail
  go_loopg [5] xs.length (fun gk i wr => ∃ k : Nat, k ≤ xs.length ∧ gk = xs.length - k ∧ i = .int .i64 k ∧ Below w.heap.size w wr)
  case atStart => exact ⟨0, Nat.zero_le _, rfl, rfl, Below.refl _ _⟩
  case round =>
    obtain ⟨k, hk, rfl, rfl, hb⟩ := hrel
    by_cases hlt : k < xs.length
    · obtain ⟨b, off, x, rfl, hbl, hx, _, hcx⟩ := (h.below hb).at_ hlt
      obtain ⟨b', off', y, rfl, hbl', hy, _, hcy⟩ := (h'.below hb).at_ (k := k) hlt
      rw [hx] at hy
      injection hy with hy
      subst hy
      have hk1 : (0 : Int) ≤ (k : Int) := by omega
      have hk2 : (k : Int) < (xs.length : Int) := by omega
      have t : (x != x) = false := by simp
      have HB := hide hb
      clear hx hb h h'
      go_wp2_with fail
      go_quiet (fail)
      go_wp2
      go_roundg (xs.length - (k + 1))
      case measure => omega
      case rel => exact ⟨k + 1, by omega, rfl, by go_num, below_drewN HB.out _⟩
    · obtain rfl : k = xs.length := by omega
      have hk3 : decide ((xs.length : Int) < (xs.length : Int)) = false := by simp
      have HB := hide hb
      clear hb h h'
      go_wp2
      go_ret
      exact ⟨rfl, HB.out⟩

/-- the marks that are written into truth values -/
def marksB (k : Int) (n : Nat) : List Bool := (List.range n).map fun (i : Nat) => (k + (i : Int)) % 3 == 0
theorem marksB_len (k : Int) (n : Nat) : (marksB k n).length = n := by simp [marksB]
theorem marksB_at {k : Int} {n j : Nat} (h : j < n) : (marksB k n)[j]? = some ((k + (j : Int)) % 3 == 0) := by
  simp [marksB, h]

theorem OwnB.setRow {w : World} {base g : Nat} {c : Nat} {xs : List Bool} (h : OwnB w base (some ⟨g, 0, none⟩) c xs) (j : Nat) (x : Bool) :
    OwnB (w.setCell ⟨g, j, none⟩ (.bool x)) base (some ⟨g, 0, none⟩) c (xs.set j x) := by
  have := (h.own.stored j (.bool x)).1
  refine ⟨?_⟩
  rw [List.length_set, List.map_set]
  exact this
theorem OwnB.frozenJ {w : World} {base g : Nat} {c : Nat} {xs : List Bool} (h : OwnB w base (some ⟨g, 0, none⟩) c xs) (j : Nat) : w.frozen? ⟨g, j, none⟩ = false := by
  rcases h.own.2 with ⟨h1, _⟩ | ⟨g', cap, cur, hv, hg, hh, _⟩
  · injection h1 with h1
    cases h1
  · injection hv with hv _ hc
    obtain rfl : g = g' := by simpa using hv
    exact Lies.frozen hh j
theorem OwnB.cellJ {w : World} {base g : Nat} {c : Nat} {xs : List Bool} (h : OwnB w base (some ⟨g, 0, none⟩) c xs) {j : Nat} {x : Bool} (hj : xs[j]? = some x) : w.cell? ⟨g, j, none⟩ = some (.bool x) := by
  rw [h.own.cellAt j (by have := (List.getElem?_eq_some_iff.1 hj).1; omega), List.getElem?_map, hj]
  rfl

/-- the first i of marks, then what was there -/
def mixB (k : Int) (xs : List Bool) (i : Nat) : List Bool := (marksB k i) ++ xs.drop i
theorem mixB_zero (k : Int) (xs : List Bool) : mixB k xs 0 = xs := by simp [mixB, marksB]
theorem mixB_all (k : Int) (xs : List Bool) : mixB k xs xs.length = marksB k xs.length := by simp [mixB]
theorem mixB_len {k : Int} {xs : List Bool} {i : Nat} (h : i ≤ xs.length) : (mixB k xs i).length = xs.length := by
  unfold mixB
  rw [List.length_append, marksB_len, List.length_drop]
  omega
theorem mixB_set {k : Int} {xs : List Bool} {i : Nat} (h : i < xs.length) : (mixB k xs i).set i ((k + (i : Int)) % 3 == 0) = mixB k xs (i + 1) := by
  unfold mixB
  have hl := marksB_len k i
  have hd : xs.drop i = xs[i] :: xs.drop (i + 1) := List.drop_eq_getElem_cons h
  have hm : marksB k (i + 1) = marksB k i ++ [(k + (i : Int)) % 3 == 0] := by
    unfold marksB
    rw [List.range_succ, List.map_append]
    rfl
  rw [List.set_append, if_neg (by omega), hl, Nat.sub_self, hd, List.set_cons_zero, hm]
  simp

set_option maxHeartbeats 400000 in
theorem markBoolS_nil (c : Nat) (k0 : Int) (w : World) :
    Calls Tryd.prog 22 #[.slice none 0 c, .int .i64 k0] w fun e w' => e = .returned (.int .i64 k0) ∧ w = w' := by
  go_enter Tryd.func22, Tryd.ntmps22
  go_wp2_with fail
  refine wp_loop_rounds 1 ?_
  rw [rounds_succ]
  go_wp2
  go_ret
  exact ⟨rfl, rfl⟩

set_option maxHeartbeats 1000000 in
theorem markBoolS_own (base : Nat) (A : Option Addr) (c : Nat) (xs : List Bool) (k0 : Int) (w : World) (h : OwnB w base A c xs) (hk0 : 0 ≤ k0) (hk1 : k0 ≤ 1048576) (hn : xs.length ≤ 1048576) :
    Calls Tryd.prog 22 #[.slice A xs.length c, .int .i64 k0] w fun e w' => e = .returned (.int .i64 (k0 + xs.length)) ∧ OwnB w' base A c (marksB k0 xs.length) ∧
      (∀ lo hi, (∀ g, blockOf A = some g → lo ≤ g ∧ g < hi) → Only lo hi w w') := by
  rcases h.form with ⟨rfl, rfl, rfl⟩ | ⟨g, rfl, hb, hg⟩
  · refine (markBoolS_nil 0 k0 w).mono fun e w' ⟨he, hw⟩ => ?_
    subst hw
    exact ⟨by rw [he]; simp, OwnB.empty _ _, fun lo hi _ => Only.refl _ _ _⟩
  · go_enter Tryd.func22, Tryd.ntmps22
    go_wp2_with fail
    go_loopg [1, 5] xs.length (fun gk kv iv wr => ∃ j : Nat, j ≤ xs.length ∧ gk = xs.length - j ∧ iv = .int .i64 j ∧ kv = .int .i64 (k0 + (j : Int)) ∧ OwnB wr base (some ⟨g, 0, none⟩) c (mixB k0 xs j) ∧ Only g (g + 1) w wr)
    case atStart => exact ⟨0, Nat.zero_le _, rfl, rfl, by go_num, by rw [mixB_zero]; exact h, Only.refl _ _ _⟩
    case round =>
      obtain ⟨j, hj, rfl, rfl, rfl, hr, ho⟩ := hrel
      clear h
      by_cases hlt : j < xs.length
      · have hml : (mixB k0 xs j).length = xs.length := mixB_len (by omega)
        obtain ⟨v, hv⟩ : ∃ v, (mixB k0 xs j)[j]? = some v := ⟨_, List.getElem?_eq_getElem (by omega)⟩
        have c1 := hr.cellJ hv
        have c2 := hr.frozenJ j
        have hset := hr.setRow j ((k0 + (j : Int)) % 3 == 0)
        rw [mixB_set hlt] at hset
        have hos := ho.setCell (p := ⟨g, j, none⟩) (Nat.le_refl _) (Nat.lt_succ_self _) (.bool ((k0 + (j : Int)) % 3 == 0))
        have HR := hide hset
        have HO := hide hos
        have hk2 : k0 + (j : Int) ≤ 9223372036854775806 := by omega
        have hj1 : (0 : Int) ≤ (j : Int) := by omega
        have hj2 : (j : Int) < (xs.length : Int) := by omega
        clear hr ho hset hos hml hv
        go_wp2
        go_roundg (xs.length - (j + 1))
        case measure => omega
        case rel => exact ⟨j + 1, by omega, rfl, by go_num, by go_num, HR.out, HO.out⟩
      · obtain rfl : j = xs.length := by omega
        have hjj : decide ((xs.length : Int) < (xs.length : Int)) = false := by simp
        rw [mixB_all] at hr
        have HR := hide (And.intro hr ho)
        clear hlt hr ho
        go_wp2
        go_ret
        exact ⟨rfl, HR.out.1, fun lo hi hgb => HR.out.2.mono (hgb g rfl).1 (hgb g rfl).2⟩

set_option maxHeartbeats 1000000 in
theorem heldBoolS_any (A : Option Addr) (n c : Nat) (k0 : Int) (w : World) (h : BoolsAt w w.heap.size A (marksB k0 n)) (hk0 : 0 ≤ k0) (hk1 : k0 ≤ 1048576) (hn : n ≤ 1048576) :
    Calls Tryd.prog 24 #[.slice A n c, .int .i64 k0] w fun e w' => e = .returned (.int .i64 (k0 + n)) ∧ w = w' := by
  go_enter Tryd.func24, Tryd.ntmps24
  go_wp2_with fail
  go_loopg [1, 5] n (fun gk kv iv wr => ∃ j : Nat, j ≤ n ∧ gk = n - j ∧ iv = .int .i64 j ∧ kv = .int .i64 (k0 + (j : Int)) ∧ wr = w)
  case atStart => exact ⟨0, Nat.zero_le _, rfl, rfl, by go_num, rfl⟩
  case round =>
    obtain ⟨j, hj, rfl, rfl, rfl, rfl⟩ := hrel
    by_cases hlt : j < n
    · obtain ⟨b, off, x, rfl, hbl, hx, _, hc⟩ := h.at_ (k := j) (by rw [marksB_len]; exact hlt)
      rw [marksB_at hlt] at hx
      obtain rfl : ((k0 + (j : Int)) % 3 == 0) = x := Option.some.inj hx
      have t : (((k0 + (j : Int)) % 3 == 0) != ((k0 + (j : Int)) % 3 == 0)) = false := by simp
      have hk2 : k0 + (j : Int) ≤ 9223372036854775806 := by omega
      have hj1 : (0 : Int) ≤ (j : Int) := by omega
      have hj2 : (j : Int) < (n : Int) := by omega
      clear hx h
      go_wp2
      go_roundg (n - (j + 1))
      case measure => omega
      case rel => exact ⟨j + 1, by omega, rfl, by go_num, by go_num, by first | rfl | trivial⟩
    · obtain rfl : j = n := by omega
      have hjj : decide ((j : Int) < (j : Int)) = false := by simp
      clear hlt h
      go_wp2
      go_ret
      exact ⟨rfl, rfl⟩

end Go.Proofs.YtanicidkmfoooabDoor
