/-
  Lemmas, several texts in one: ToO, ChkH, EqV, WatB, ClI.
-/
import Derived.Test.YtochdhibmmohfaaDoorPjAk
import Derived.Test.YtochdhibmmohfaaDoorPjAf
import Derived.Test.YtochdhibmmohfaaDoorPjAm
import Derived.Test.YtochdhibmmohfaaDoorPjAl
import Derived.Test.YtochdhibmmohfaaDoorPjAe
import Derived.Test.YtochdhibmmohfaaDoorPjAc
import Derived.Deep.QuietTactic
import Derived.BigQuiet
import Derived.ChangeKeysEq
import Derived.Test.YtochdhibmmohfaaDoorShpR
import Derived.Deep.Cut
import Derived.Test.YtochdhibmmohfaaDoorPjAg
import Derived.Test.YtochdhibmmohfaaDoorOwn
import Derived.Deep.LoopGhost
namespace Go.Proofs.YtochdhibmmohfaaDoor
open Go.RowKit

set_option maxHeartbeats 1000000 in
theorem toOp_any (c a : Int) (w : World) :
    Calls Tryd.prog 17 #[.agg #[.int .i64 c, .int .i64 a]] w fun e w' => e = .returned (.agg #[.int .i64 c, .int .i64 a]) ∧ Below w.heap.size w w' := by
  go_enter Tryd.func17, Tryd.ntmps17
  go_wp2
  refine bodyPost_ret (v := .agg #[.int .i64 c, .int .i64 a]) (by simp [results, Tryd.results17, go_sem]) rfl ⟨rfl, ?_⟩
  exact (((Below.refl _ _).alloc (Nat.le_refl _) _).alloc (by simp) _).alloc (by simp; omega) _

set_option maxHeartbeats 1000000 in
theorem toOpS_any (A : Option Addr) (os : List Od) (c : Nat) (w : World) (h : OpsAt w w.heap.size A os) (hs : os.length ≤ 1048576) :
    Calls Tryd.prog 6 #[.slice A os.length c] w fun e w' => e = .returned (.slice (some ⟨w.heap.size, 0, none⟩) os.length os.length) ∧
      w'.rowIs w.heap.size 44 (os.length * 2) (opCell os) ∧ Below w.heap.size w w' := by
  have hmk := run_make_rows (P := Tryd.prog) 29 44 (.agg #[.int .i64 0, .int .i64 0]) 2 16 Tryd.underlying29 infoOp .i64 .i64 os.length (by omega) (by omega)
  obtain ⟨f0, hrow0⟩ := rowIs_made_any w (Value.agg #[.int .i64 0, .int .i64 0]).cells (os.length * 2) 44
  have hb0 := (Below.refl _ w).alloc (Nat.le_refl _) (.cells (madeCells (Value.agg #[.int .i64 0, .int .i64 0]).cells (os.length * 2)) 44)
  generalize (Value.agg #[.int .i64 0, .int .i64 0]).cells = zc at hmk hrow0 hb0
  go_enter Tryd.func6, Tryd.ntmps6
  go_wp2_with fail
  clear hmk
  go_loopw [4] (fun i wr => ∃ k : Nat, k ≤ os.length ∧ i = .int .i64 k ∧ Below w.heap.size w wr ∧ ∃ f, wr.rowIs w.heap.size 44 (os.length * 2) f ∧ ∀ j, j < 2 * k → f j = opCell os j) (fun i _ => os.length - (intOf i).toNat)
  case atStart => exact ⟨0, Nat.zero_le _, rfl, hb0, f0, hrow0, fun j hj => absurd hj (by omega)⟩
  case round =>
    obtain ⟨k, hk, rfl, hb, f, hrow, hf0⟩ := hrel
    clear hrow0 hb0
    have hf := hide hf0
    clear hf0
    have hg := hrow.lt
    by_cases hlt : k < os.length
    · obtain ⟨b, off, o, rfl, hbl, hx, hmem, hc0, hc1⟩ := (h.below hb).at_ hlt
      have Hx := hide hx
      clear hx hmem
      go_wp2_with fail
      refine (toOp_any o.code o.arg wr).mono ?_
      rintro e w1 ⟨rfl, hb1⟩
      have hrow1 := rowIs_below hrow hb1 hg
      have a0 := hrow1.cell (i := k * 2) (by omega)
      have a1 := hrow1.cell (i := k * 2 + 1) (by omega)
      have b0 := hrow1.frozen (k * 2)
      have b1 := hrow1.frozen (k * 2 + 1)
      have hb2 : Below w.heap.size w (set2 w1 w.heap.size (k * 2) (.int .i64 o.code) (.int .i64 o.arg)) :=
        below_set2 (hb.trans (hb1.mono (by omega))) (Nat.le_refl _) _ _
      have hrow2 := opRow_next hrow1 hf.out Hx.out
      clear hrow1 hf hrow hb hb1
      unfold set2 at hb2 hrow2
      have HB := hide hb2
      have HR := hide hrow2
      clear hb2 hrow2
      go_wp2
      go_roundw
      case rel => exact ⟨k + 1, by omega, by go_num, HB.out, HR.out⟩
      case measure => simp [intOf]; omega
    · obtain rfl : k = os.length := by omega
      clear hlt
      go_wp2
      go_ret
      exact ⟨rfl, hrow.congr (fun i hi => hf.out i (by omega)), hb⟩

end Go.Proofs.YtochdhibmmohfaaDoor

namespace Go.Proofs.YtochdhibmmohfaaDoor
open Go.RowKit
set_option linter.unusedVariables false

theorem takes_same : ∀ c : Nat, c < 20 → takesOf c = takesN (c : Int) := by
  decide

theorem use_small (s : Shp) (a : Int) : s.useAt a < 1000 := by
  rcases s.use_bits a with h | h | h | h | h | h | h <;> omega
theorem from_small (s : Shp) (a : Nat) : s.useFrom a < 1000 := by unfold Shp.useFrom; split <;> omega
theorem view_small (s : Shp) (c : Int) : s.view0 c < 1000 ∧ s.view1 c < 1000 ∧ s.view2 c < 1000 := by
  unfold Shp.view0 Shp.view1 Shp.view2
  refine ⟨?_, ?_, ?_⟩ <;> split <;> first | exact use_small _ _ | exact from_small _ _
theorem need_small (c : Int) : need0 c < 1000 ∧ need1 c < 1000 ∧ need2 c < 1000 := by
  unfold need0 need1 need2
  refine ⟨?_, ?_, ?_⟩ <;> (repeat' split) <;> omega

theorem viewOf_code (q base off : Nat) (p : ShPtr) (s : Shp) (c : Nat) (w : World) (h : SbAt w base q off p s) (hs : s.Small) (hc : c < 20) :
    Calls Tryd.prog 52 #[.pointer (some ⟨q, off, none⟩), .int .i64 (takesOf c)] w (GivesV w (s.view0 (c : Int)) (s.view1 (c : Int)) (s.view2 (c : Int))) := by
  rw [takes_same c hc]
  unfold Shp.view0 Shp.view1 Shp.view2
  by_cases ht : takesN (c : Int) = -1
  · rw [if_pos ht, if_pos ht, if_pos ht, ht]
    exact viewOf_all q base off p s _ _ _ w h hs rfl rfl rfl
  · rw [if_neg ht, if_neg ht, if_neg ht]
    exact viewOf_top q base off p s _ _ _ _ w h hs ht rfl rfl rfl

set_option maxRecDepth 100000 in
set_option maxHeartbeats 4000000 in
theorem hasNeeded_no (q base off : Nat) (p : ShPtr) (s : Shp) (ar : Nat) (w : World) (h : SbAt w base q off p s) (hs : s.Small) (ha : ar < 20) (hm : s.memo.getD ar 0 < 0) :
    Calls Tryd.prog 48 #[.pointer (some ⟨q, off, none⟩), .agg #[.int .i64 16, .int .i64 (ar : Int)]] w fun e w' => e = .returned (.bool false) ∧ Below w.heap.size w w' := by
  have hB := hide ((Below.refl w.heap.size w).alloc (Nat.le_refl _) (.cells #[.int .i64 16, .int .i64 (ar : Int)] 44))
  have lo := Lies.new w #[.int .i64 16, .int .i64 (ar : Int)] 44
  have h2 := h.alloc (.cells #[.int .i64 16, .int .i64 (ar : Int)] 44)
  have hml := hs.ok.ml
  obtain ⟨x, hx⟩ : ∃ x, s.memo[ar]? = some x := ⟨_, List.getElem?_eq_getElem (by omega)⟩
  have hx1 := (hs.ok.mm x (List.mem_of_getElem? hx)).1
  have hgd : s.memo.getD ar 0 = x := by rw [List.getD_eq_getElem?_getD, hx]; rfl
  rw [hgd] at hm
  obtain rfl : x = -1 := by omega
  obtain ⟨gm, hM, hm1, hm2, hcm, hfm⟩ := h2.own.m.atJ hx
  obtain ⟨e0, e1, e2, e3, e4, f0, f1, f2, f3, f4⟩ := h2.c
  rw [hM] at e3
  have d0 := lo.cell 0
  have d1 := lo.cell 1
  simp only [List.getElem?_toArray, List.getElem?_cons_zero, List.getElem?_cons_succ] at d0 d1
  have hj0 : (0 : Int) ≤ (ar : Int) := by omega
  have hj1 : (ar : Int) < (s.memo.length : Int) := by omega
  clear h hs h2 hx hgd hml hM lo hm hx1
  go_enter Tryd.func48, Tryd.ntmps48
  go_upto_region 1 with fail
  generalize w.alloc (.cells #[.int .i64 16, .int .i64 (ar : Int)] 44) = W at hB e0 e1 e2 e3 e4 f0 f1 f2 f3 f4 d0 d1 hcm hfm hm2 ⊢
  go_quiet (fail)
  go_wp2
  go_ret
  exact ⟨rfl, below_drewN hB.out _⟩

end Go.Proofs.YtochdhibmmohfaaDoor

namespace Go.Proofs.YtochdhibmmohfaaDoor
open Go.RowKit

theorem eqView_d (d : Nat) (m0 m1 m2 n0 n1 n2 : Int) (w : World) : (Op.equalIn (d + 1 + 1) 78 (.agg #[.int .i64 m0, .int .i64 m1, .int .i64 m2]) (.agg #[.int .i64 n0, .int .i64 n1, .int .i64 n2])).run Tryd.prog w = .ok ((m0 == n0) && ((m1 == n1) && (m2 == n2))) w := by
  obtain ⟨i0, hi, hz0, hz1, hz2⟩ := info_parts infoI
  have hI := fun a b => run_equalIn_int (P := Tryd.prog) w d 3 .i64 .i64 a b Tryd.underlying3
  rw [Op.equalIn]
  simp only [Sem.run_bind, run_underlying Tryd.underlying78, Result.andThen_ok]
  have hsz : (sizeOf 3).run Tryd.prog w = .ok 1 w := by simp [sizeOf, typeInfo, hi, hz1]
  have hpl : Tryd.prog.plainKey 3 = true := by kernel_rfl
  rw [hsz]
  simp only [Result.andThen_ok, Nat.mul_one]
  have p0 := run_part_plain (P := Tryd.prog) w hpl (xs := #[.int .i64 m0, .int .i64 m1, .int .i64 m2]) (off := 0) (v := .int .i64 m0) rfl
  have p1 := run_part_plain (P := Tryd.prog) w hpl (xs := #[.int .i64 m0, .int .i64 m1, .int .i64 m2]) (off := 1) (v := .int .i64 m1) rfl
  have p2 := run_part_plain (P := Tryd.prog) w hpl (xs := #[.int .i64 m0, .int .i64 m1, .int .i64 m2]) (off := 2) (v := .int .i64 m2) rfl
  have q0 := run_part_plain (P := Tryd.prog) w hpl (xs := #[.int .i64 n0, .int .i64 n1, .int .i64 n2]) (off := 0) (v := .int .i64 n0) rfl
  have q1 := run_part_plain (P := Tryd.prog) w hpl (xs := #[.int .i64 n0, .int .i64 n1, .int .i64 n2]) (off := 1) (v := .int .i64 n1) rfl
  have q2 := run_part_plain (P := Tryd.prog) w hpl (xs := #[.int .i64 n0, .int .i64 n1, .int .i64 n2]) (off := 2) (v := .int .i64 n2) rfl
  have hr : List.range' 0 3 1 = [0, 1, 2] := rfl
  cases h0 : (m0 == n0) <;> cases h1 : (m1 == n1) <;> cases h2 : (m2 == n2) <;>
    simp [Std.Legacy.Range.forIn_eq_forIn_range', Std.Legacy.Range.size, hr, p0, p1, p2, q0, q1, q2, hI, h0, h1, h2, Result.andThen_ok]

theorem eqView (m0 m1 m2 n0 n1 n2 : Int) (w : World) : (Op.equalIn 10000 78 (.agg #[.int .i64 m0, .int .i64 m1, .int .i64 m2]) (.agg #[.int .i64 n0, .int .i64 n1, .int .i64 n2])).run Tryd.prog w = .ok ((m0 == n0) && ((m1 == n1) && (m2 == n2))) w :=
  eqView_d 9998 m0 m1 m2 n0 n1 n2 w

end Go.Proofs.YtochdhibmmohfaaDoor

namespace Go.Proofs.YtochdhibmmohfaaDoor
open Go.RowKit
set_option linter.unusedVariables false

/-- no valid program -/
def GivesNoRun (w : World) (e : Ending) (w' : World) : Prop := e = .returned (.tuple #[shVal ShPtr.nil Shp.zero, .int .i64 (-1)]) ∧ Below w.heap.size w w'

set_option maxRecDepth 100000 in
set_option maxHeartbeats 1000000 in
theorem watched_bad (A : Option Addr) (os : List Od) (c : Nat) (v : Value) (w : World) (h : OpsAt w w.heap.size A os) (hF : FormsAt w w.heap.size) (hok : ¬ OpsOk os) :
    Calls Tryd.prog 29 #[.slice A os.length c, v] w (GivesNoRun w) := by
  have hB0 := (Below.refl w.heap.size w).alloc (Nat.le_refl _) (.cells zero5 39)
  have HB0 := hide hB0
  have L0 := hide (Lies.new w zero5 39)
  have HV := hide (implValidOps_any A os c _ (h.later hB0 (Nat.le_refl _)) (hF.later hB0 (Nat.le_refl _)))
  have Ht := hide (show tf (OpsOk os) = false from tf_false hok)
  clear hok hB0
  go_enter Tryd.func29, Tryd.ntmps29
  go_upto_region 1 with fail
  unfold zero5 at HB0 L0 HV
  have hlt := L0.out.lt
  generalize w.alloc (.cells #[.slice none 0 0, .slice none 0 0, .slice none 0 0, .slice none 0 0, .bool false] 39) = W at HB0 L0 HV hlt ⊢
  go_wp2_with fail
  refine HV.out.mono ?_
  rw [Ht.out]
  rintro e w2 ⟨rfl, hb⟩
  have hS := Lies.below L0.out hb hlt
  obtain ⟨⟨r0, r1, r2, r3, r4, f0, f1, f2, f3, f4, s0, s1, s2, s3, s4⟩, _⟩ := Lies.set5 hS (.slice none 0 0) (.slice none 0 0) (.slice none 0 0) (.slice none 0 0) (.bool false)
  have HB := hide (set5_below (v0 := .slice none 0 0) (v1 := .slice none 0 0) (v2 := .slice none 0 0) (v3 := .slice none 0 0) (v4 := .bool false) (HB0.out.trans (hb.mono HB0.out.size)) (Nat.le_refl _))
  clear hS hb HB0 L0 HV
  go_wp2
  refine bodyPost_ret (v := .tuple #[shVal ShPtr.nil Shp.zero, .int .i64 (-1)]) (by simp [shVal, shCells, ShPtr.nil, Shp.zero, results, Tryd.results29, go_sem, s0, s1, s2, s3, s4]) rfl ?_
  exact ⟨rfl, HB.out⟩

end Go.Proofs.YtochdhibmmohfaaDoor

namespace Go.Proofs.YtochdhibmmohfaaDoor
open Go.RowKit
set_option linter.unusedVariables false

theorem IntsAt.oneM (w : World) (n : Nat) (x : Int) (hx : In64 x) (h : w.heap.size = n) : IntsAt (w.alloc (.cells #[.int .i64 x] 3)) (n + 1) (some ⟨n, 0, none⟩) [x] := by
  have := IntsAt.one w x hx
  rwa [h] at this

set_option maxRecDepth 100000 in
set_option maxHeartbeats 2000000 in
theorem implClassesIn_any (A : Option Addr) (os : List Od) (c : Nat) (w : World) (h : OpsAt w w.heap.size A os) (hF : FormsAt w w.heap.size) :
    Calls Tryd.prog 20 #[.slice A os.length c] w (GivesInts w (classesIn os)) := by
  have HVo := hide (implValidOps_any A os c w h hF)
  by_cases hok : OpsOk os
  · have ht := hide (tf_true hok)
    have HV := hide (show classesIn os = clsTo os 10 by unfold classesIn; rw [if_pos hok])
    rw [HV.out]
    clear hok HV
    go_enter Tryd.func20, Tryd.ntmps20
    go_wp2_with fail
    refine HVo.out.mono ?_
    rintro e w1 ⟨rfl, hb1⟩
    rw [ht.out]
    have HB1 := hide hb1
    clear hb1
    go_wp2_with fail
    go_loopg [3, 8] 10 (fun gk ov iv wr => ∃ (k : Nat) (Ao : Option Addr) (co : Nat) (xs : List Int), k ≤ 10 ∧ gk = 10 - k ∧ iv = .int .i64 (k : Int) ∧ ov = .slice Ao xs.length co ∧ Hid (xs = clsTo os k) ∧ OwnI wr w.heap.size Ao co xs ∧ Below w.heap.size w wr)
    case atStart => exact ⟨0, none, 0, [], Nat.zero_le _, rfl, rfl, rfl, hide rfl, OwnI.empty _ _, HB1.out⟩
    case round =>
      clear HB1
      obtain ⟨k, Ao, co, xs, hk, rfl, rfl, rfl, hxs, hO, hB⟩ := hrel
      have HO := hide hO
      have HB := hide hB
      have hxl : xs.length ≤ 10 := by rw [hxs.out]; exact Nat.le_trans (clsTo_len _ _) hk
      clear hO hB
      by_cases hlt : k < 10
      · have hlt2 : (k : Int) < 10 := by omega
        have HCo := containsOp_any A os c ⟨13, (k : Int)⟩ wr (h.later HB.out (Nat.le_refl _))
        by_cases hm : (⟨13, (k : Int)⟩ : Od) ∈ os
        · rw [tf_true hm] at HCo
          have HS := hide (clsTo_yes hm)
          have HCC := hide HCo
          clear hm HCo
          go_wp2_with fail
          refine HCC.out.mono ?_
          clear HCC
          rintro e w5 ⟨rfl, hb5⟩
          have HO5 := hide (HO.out.below hb5)
          have HB5 := hide (HB.out.trans (hb5.mono HB.out.size))
          have hwz := HB5.out.size
          clear hb5 HO HB
          go_wp2_with (at_builtin; refine append_ints rfl (.tmp 15) (.tmp 17) rfl w.heap.size Ao co xs rfl (HO5.out.alloc _) _ _ 1 [(k : Int)] rfl (fun e => by cases e) (IntsAt.oneM _ w5.heap.size (k : Int) (by constructor <;> omega) rfl) (by simp <;> omega) (by simp <;> omega) ?_; intro zs A7 c7 w7 hz7 ho7 hg7 ha7; have HX := hide (And.intro ho7 (below_grown (HB5.out.alloc hwz _) hg7 (by simp; omega) (fun q hq => (HO5.out.blocks q hq).1))); have hzz := hide (show zs = clsTo os (k + 1) by rw [hz7.out, hxs.out, ← HS.out]); clear ho7 hg7 ha7 hz7)
          go_roundg (10 - (k + 1))
          case measure => omega
          case rel => exact ⟨k + 1, A7, c7, zs, by omega, rfl, by go_num, rfl, hzz, HX.out.1, HX.out.2⟩
        · rw [tf_false hm] at HCo
          have HS := hide (clsTo_no hm)
          have HCC := hide HCo
          clear hm HCo
          go_wp2_with fail
          refine HCC.out.mono ?_
          clear HCC
          rintro e w5 ⟨rfl, hb5⟩
          have HO5 := hide (HO.out.below hb5)
          have HB5 := hide (HB.out.trans (hb5.mono HB.out.size))
          have hzz := hide (show xs = clsTo os (k + 1) by rw [hxs.out, HS.out])
          clear hb5 HO HB
          go_wp2
          go_roundg (10 - (k + 1))
          case measure => omega
          case rel => exact ⟨k + 1, Ao, co, xs, by omega, rfl, by go_num, rfl, hzz, HO5.out, HB5.out⟩
      · obtain rfl : k = 10 := by omega
        rw [show ((10 : Nat) : Int) = 10 from rfl]
        go_wp2
        go_ret
        rw [← hxs.out]
        exact ⟨Ao, co, rfl, HO.out, HB.out⟩
  · have ht := hide (tf_false hok)
    have HV := hide (show classesIn os = [] by unfold classesIn; rw [if_neg hok])
    rw [HV.out]
    clear hok HV
    go_enter Tryd.func20, Tryd.ntmps20
    go_wp2_with fail
    refine HVo.out.mono ?_
    rintro e w1 ⟨rfl, hb1⟩
    rw [ht.out]
    go_wp2
    go_ret
    exact ⟨none, 0, rfl, OwnI.empty _ _, hb1⟩

end Go.Proofs.YtochdhibmmohfaaDoor
