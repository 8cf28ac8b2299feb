/-
  Lemmas, several texts in one: ClS, One, CutS.
-/
import Derived.Test.YtochdhibmmohfacPjAh
import Derived.Test.YtochdhibmmohfacPjAe
import Derived.Test.YtochdhibmmohfacOwn
import Derived.Deep.LoopGhost
import Derived.Test.YtochdhibmmohfacPjAb
import Derived.StillTailTactics
import Derived.Test.YtochdhibmmohfacRunS
import Derived.Test.YtochdhibmmohfacPjAg
namespace Go.Proofs.Ytochdhibmmohfac
open Go.RowKit
set_option linter.unusedVariables false

theorem IntsAt.oneS (w : World) (n : Nat) (x : Int) (hx : In64 x) (h : w.heap.size = n) : IntsAt (w.alloc (.cells #[.int .i64 x] 3)) (n + 1) (some ⟨n, 0, none⟩) [x] := by
  have := IntsAt.one w x hx
  rwa [h] at this

set_option maxRecDepth 100000 in
set_option maxHeartbeats 2000000 in
theorem specClassesIn_any (A : Option Addr) (os : List Od) (c : Nat) (w : World) (h : OpsAt w w.heap.size A os) :
    Calls Try.prog 29 #[.slice A os.length c] w (GivesInts w (classesIn os)) := by
  have hl := h.len
  by_cases hok : OpsOk os
  · have ht := hide (tf_true hok)
    have hl3 := hok.1
    have HV := hide (show classesIn os = clsTo os 10 by unfold classesIn; rw [if_pos hok])
    rw [HV.out]
    clear hok HV
    go_enter Try.func29, Try.ntmps29
    go_wp2_with fail
    refine (specValidOps_any A os c w h).mono ?_
    rintro e w1 ⟨rfl, hb1⟩
    rw [ht.out]
    have HB1 := hide (hb1.alloc hb1.size (.cells #[] 3))
    have HO1 := hide ((OwnI.bare w1).mono hb1.size)
    clear hb1
    go_wp2_with fail
    generalize w1.alloc (.cells #[] 3) = W1 at HB1 HO1 ⊢
    generalize w1.heap.size = g1 at HO1 ⊢
    go_loopg [3, 4] 10 (fun gk ov iv wr => ∃ (k : Nat) (Ao : Option Addr) (co : Nat) (xs : List Int), k ≤ 10 ∧ gk = 10 - k ∧ iv = .int .i64 (k : Int) ∧ ov = .slice Ao xs.length co ∧ Hid (xs = clsTo os k) ∧ OwnI wr w.heap.size Ao co xs ∧ Below w.heap.size w wr)
    case atStart => exact ⟨0, _, 0, [], Nat.zero_le _, rfl, rfl, rfl, hide rfl, HO1.out, HB1.out⟩
    case round =>
      clear HB1 HO1
      obtain ⟨k, Ao, co, xs, hk, rfl, rfl, rfl, hxs, hO, hB⟩ := hrel
      have HO := hide hO
      have HB := hide hB
      have hxl : xs.length ≤ 10 := by rw [hxs.out]; exact Nat.le_trans (clsTo_len _ _) hk
      clear hO hB
      by_cases hlt : k < 10
      · have hlt2 : (k : Int) ≤ 9 := by omega
        go_wp2_with fail
        go_loopg [3, 5] os.length (fun gj ov jv wq => ∃ j : Nat, j ≤ os.length ∧ gj = os.length - j ∧ ov = .slice Ao xs.length co ∧ jv = .int .i64 (j : Int) ∧ wq = wr ∧ ∀ i, i < j → os[i]? ≠ some ⟨13, (k : Int)⟩)
        case atStart => exact ⟨0, Nat.zero_le _, rfl, rfl, rfl, rfl, fun i hi => absurd hi (by omega)⟩
        case round =>
          obtain ⟨j, hj, rfl, rfl, rfl, rfl, he0⟩ := hrel
          have he := hide he0
          clear he0
          by_cases hjl : j < os.length
          · obtain ⟨b, off, x, rfl, hbl, hx, hm, hc0, hc1⟩ := (h.below HB.out).at_ hjl
            have Hx := hide hx
            have Hm := hide hm
            clear hx hm
            obtain ⟨xc, xa⟩ := x
            simp only at hc0 hc1
            have hj0 : (0 : Int) ≤ (j : Int) := by omega
            have hj1 : (j : Int) < (os.length : Int) := by omega
            by_cases hcd : xc = 13
            · subst hcd
              by_cases har : xa = (k : Int)
              · subst har
                have t2 : ((k : Int) == (k : Int)) = true := by simp
                have HS := hide (clsTo_yes Hm.out)
                have hwz := HB.out.size
                clear he
                go_wp2_with (at_builtin; refine append_ints rfl (.tmp 35) (.tmp 37) rfl w.heap.size Ao co xs rfl (HO.out.alloc _) _ _ 1 [(k : Int)] rfl (fun e => by cases e) (IntsAt.oneS _ _ (k : Int) (by constructor <;> omega) rfl) (by simp <;> omega) (by simp <;> omega) ?_; intro zs A7 c7 w7 hz7 ho7 hg7 ha7; have HX := hide (And.intro ho7 (below_grown (HB.out.alloc hwz _) hg7 (by simp; omega) (fun q hq => (HO.out.blocks q hq).1))); have hzz := hide (show zs = clsTo os (k + 1) by rw [hz7.out, hxs.out, ← HS.out]); clear ho7 hg7 ha7 hz7)
                go_roundg (10 - (k + 1))
                case measure => omega
                case rel => exact ⟨k + 1, A7, c7, zs, by omega, rfl, by go_num, rfl, hzz, HX.out.1, HX.out.2⟩
              · have t2 : (xa == (k : Int)) = false := by simpa using har
                have He : Hid (∀ i, i < j + 1 → os[i]? ≠ some ⟨13, (k : Int)⟩) := hide (by
                  intro i hi hh
                  by_cases e : i = j
                  · subst e; rw [Hx.out] at hh; injection hh with hh; injection hh with _ hh; exact har hh
                  · exact he.out i (by omega) hh)
                clear he har
                go_wp2
                go_roundg (os.length - (j + 1))
                case measure => omega
                case rel => exact ⟨j + 1, by omega, rfl, rfl, by go_num, by first | rfl | trivial, He.out⟩
            · have t1 : (xc == 13) = false := by simpa using hcd
              have He : Hid (∀ i, i < j + 1 → os[i]? ≠ some ⟨13, (k : Int)⟩) := hide (by
                intro i hi hh
                by_cases e : i = j
                · subst e; rw [Hx.out] at hh; injection hh with hh; injection hh with hh _; exact hcd hh
                · exact he.out i (by omega) hh)
              clear he hcd
              go_wp2
              go_roundg (os.length - (j + 1))
              case measure => omega
              case rel => exact ⟨j + 1, by omega, rfl, rfl, by go_num, by first | rfl | trivial, He.out⟩
          · obtain rfl : j = os.length := by omega
            have HN : (⟨13, (k : Int)⟩ : Od) ∉ os := by
              intro hmem
              obtain ⟨i, hi, e⟩ := List.getElem_of_mem hmem
              exact he.out i hi (by rw [List.getElem?_eq_getElem hi, e])
            have hzz := hide (show xs = clsTo os (k + 1) by rw [hxs.out, clsTo_no HN])
            clear he HN
            go_wp2
            go_roundg (10 - (k + 1))
            case measure => omega
            case rel => exact ⟨k + 1, Ao, co, xs, by omega, rfl, by go_num, rfl, hzz, HO.out, HB.out⟩
      · obtain rfl : k = 10 := by omega
        rw [show ((10 : Nat) : Int) = 10 from rfl]
        go_wp2
        go_ret
        rw [← hxs.out]
        exact ⟨Ao, co, rfl, HO.out, HB.out⟩
  · have ht := hide (tf_false hok)
    have HV := hide (show classesIn os = [] by unfold classesIn; rw [if_neg hok])
    rw [HV.out]
    clear hok HV
    go_enter Try.func29, Try.ntmps29
    go_wp2_with fail
    refine (specValidOps_any A os c w h).mono ?_
    rintro e w1 ⟨rfl, hb1⟩
    rw [ht.out]
    go_wp2
    go_ret
    exact ⟨none, 0, rfl, OwnI.empty _ _, hb1⟩

end Go.Proofs.Ytochdhibmmohfac

namespace Go.Proofs.Ytochdhibmmohfac
open Go.RowKit
set_option linter.unusedVariables false

/-- old memory is as it was, but for one block -/
structure Grew (g : Nat) (w w' : World) : Prop where
  os : w'.os = w.os
  tape : w'.tape = w.tape
  output : w'.output = w.output
  size : w.heap.size ≤ w'.heap.size
  block : ∀ k, k < w.heap.size → k ≠ g → w'.heap[k]? = w.heap[k]?

theorem Grew.refl (g : Nat) (w : World) : Grew g w w := ⟨rfl, rfl, rfl, Nat.le_refl _, fun _ _ _ => rfl⟩
theorem Grew.trans {g : Nat} {a b c : World} (h : Grew g a b) (k : Grew g b c) : Grew g a c :=
  ⟨k.os.trans h.os, k.tape.trans h.tape, k.output.trans h.output, Nat.le_trans h.size k.size, fun j hj hn => (k.block j (Nat.lt_of_lt_of_le hj h.size) hn).trans (h.block j hj hn)⟩
theorem Grew.of_turn {g : Nat} {w w' : World} (h : Turn g w w') : Grew g w w' := ⟨h.os, h.tape, h.output, by rw [h.size]; exact Nat.le_refl _, fun k _ hk => h.block k hk⟩
theorem Grew.of_below {g : Nat} {w w' : World} (h : Below w.heap.size w w') : Grew g w w' := ⟨h.os, h.tape, h.output, h.size, fun k hk _ => h.block k hk⟩
theorem Grew.below {g B : Nat} {w0 w w' : World} (h : Grew g w w') (hb : Below B w0 w) (hg : B ≤ g) (hB : B ≤ w.heap.size) : Below B w0 w' :=
  hb.trans ⟨h.os, h.tape, h.output, h.size, fun k hk => h.block k (by omega) (by omega)⟩
theorem Rd.below {w w' : World} {rb : Nat} {A : Option Addr} {n c p : Nat} (h : Rd w rb A n c p) (hb : Below w.heap.size w w') : Rd w' rb A n c p :=
  ⟨h.box.below hb h.box.lt, h.bytes.later (hb.mono (Nat.le_of_lt h.box.lt)), h.few⟩
theorem Grew.cell {g : Nat} {w w' : World} (h : Grew g w w') {b o : Nat} (h1 : b < w.heap.size) (h2 : b ≠ g) : w'.cell? ⟨b, o, none⟩ = w.cell? ⟨b, o, none⟩ := World.cell?_of_block (w := w) (h.block b h1 h2)
theorem Lies.grew {g b : Nat} {w w' : World} {cs : Array Value} {t : TypeId} (h : Lies w b cs t) (hg : Grew g w w') (h2 : b ≠ g) : Lies w' b cs t := (hg.block b h.lt h2).trans h

/-- a pick of one number of a list -/
def Chosen (rb : Nat) (A : Option Addr) (n c p : Nat) (xs : List Int) (w : World) (e : Ending) (w' : World) : Prop :=
  (∃ x ∈ xs, e = .returned (.int .i64 x)) ∧ Rd w' rb A n c (p + 1) ∧ Turn rb w w'

set_option maxHeartbeats 1000000 in
theorem one_any (rb : Nat) (A : Option Addr) (n c p g l c2 : Nat) (xs : List Int) (w : World) (h : Rd w rb A n c p) (hp : p < 1000000) (hl : xs.length = l) (h1 : 1 ≤ l) (h2 : l ≤ 100) (hg : g ≠ rb) (hc : ∀ k x, xs[k]? = some x → w.cell? ⟨g, k, none⟩ = some (.int .i64 x)) :
    Calls Try.prog 13 #[.pointer (some ⟨rb, 0, none⟩), .slice (some ⟨g, 0, none⟩) l c2] w (Chosen rb A n c p xs w) := by
  have HC := hide hc
  have Hl := hide hl
  clear hc hl
  go_enter Try.func13, Try.ntmps13
  go_wp2_with fail
  refine (pick_any rb A n c p (l : Int) w h hp (by omega)).mono ?_
  rintro e w' ⟨⟨x, rfl, hx, _⟩, hr, ht⟩
  have hxl : (x : Int) < (l : Int) := hx (by omega)
  have hx0 : (0 : Int) ≤ (x : Int) := by omega
  obtain ⟨y, hy⟩ : ∃ y, xs[x]? = some y := ⟨_, List.getElem?_eq_getElem (by have := Hl.out; omega)⟩
  have hcell : w'.cell? ⟨g, x, none⟩ = some (.int .i64 y) := (World.cell?_of_block (w := w) (ht.block g hg)).trans (HC.out x y hy)
  have hfin : Hid (Chosen rb A n c p xs w (.returned (.int .i64 y)) w') := ⟨⟨y, List.mem_of_getElem? hy, rfl⟩, hr, ht⟩
  clear hr ht hx hy
  go_wp2
  go_ret
  exact hfin.out

end Go.Proofs.Ytochdhibmmohfac

namespace Go.Proofs.Ytochdhibmmohfac
open Go.RowKit
set_option linter.unusedVariables false

set_option maxRecDepth 100000 in
set_option maxHeartbeats 1000000 in
theorem specCutOps_any (A : Option Addr) (os : List Od) (c : Nat) (w : World) (h : OpsAt w w.heap.size A os) (hnil : A = none → c = 0) (hc : os.length ≤ c) :
    Calls Try.prog 22 #[.slice A os.length c] w (GivesOps w (cutOf os)) := by
  have Hnil := hide hnil
  clear hnil
  by_cases hok : OpsOk os
  · have ht := hide (tf_true hok)
    have Hok := hide hok
    have hl := hok.1
    have hn := (runNew_le hok.2).2.2
    have HE := hide (cutOf_ok hok)
    obtain ⟨n, hnd⟩ : ∃ n, n = (runShp Shp.new os).2 := ⟨_, rfl⟩
    have Hnd := hide hnd
    rw [← hnd] at hn
    have HT : Hid ((os.take n).length = n) := hide (by simp; omega)
    have hnc : (n : Int) ≤ (c : Int) := by omega
    clear hok hnd
    go_enter Try.func22, Try.ntmps22
    go_wp2_with fail
    refine (specValidOps_any A os c w h).mono ?_
    rintro e w1 ⟨rfl, hb1⟩
    rw [ht.out]
    have h1 := h.later hb1 (Nat.le_refl _)
    go_wp2_with fail
    have HC := runShapes_any A os c w1 h1 Hok.out.2
    obtain ⟨sF, hsF⟩ : ∃ s, s = (runShp Shp.new os).1 := ⟨_, rfl⟩
    have e2 : runShp Shp.new os = (sF, n) := by rw [hsF, Hnd.out]
    rw [e2] at HC
    clear e2 hsF
    refine HC.mono ?_
    clear HC
    rintro e w2 ⟨p, rfl, _, hb2⟩
    have HB2 := hide (hb1.trans (hb2.mono hb1.size))
    clear hb1 hb2 h1
    simp only [shVal, shCells]
    have HB3 := hide (HB2.out.alloc HB2.out.size (.cells #[.slice p.K sF.kinds.length p.c1, .slice p.F sF.full.length p.c2, .slice p.S sF.stack.length p.c3, .slice p.M sF.memo.length p.c4, .bool sF.done] 46))
    go_upto_region 4 with fail
    generalize w2.alloc (.cells #[.slice p.K sF.kinds.length p.c1, .slice p.F sF.full.length p.c2, .slice p.S sF.stack.length p.c3, .slice p.M sF.memo.length p.c4, .bool sF.done] 46) = w3 at HB3 ⊢
    have HO := hide ((OwnO.bare w3).mono HB3.out.size)
    have HB4 := hide (HB3.out.alloc HB3.out.size (.cells #[] 49))
    go_wp2_with (at_builtin; refine append_ops rfl (.tmp 13) (.tmp 16) rfl w.heap.size _ 0 [] rfl HO.out w.heap.size A c (os.take n) (congrArg (fun k => Value.slice A k c) HT.out.symm) Hnil.out ((h.upto n).below HB4.out) (by simp; omega) HB4.out.size ?_; intro zs A5 c5 w5 e5 own5 hg5 _; have HG5 := hide hg5; have HO5 := hide own5; clear hg5 own5)
    go_ret
    have e6 : zs = cutOf os := by rw [e5.out, HE.out, ← Hnd.out, List.nil_append]
    subst e6
    exact ⟨A5, c5, rfl, HO5.out, below_grown HB4.out HG5.out HB4.out.size (fun q hq => (HO.out.blocks q hq).1)⟩
  · rw [cutOf_no hok]
    have ht := hide (tf_false hok)
    clear hok
    go_enter Try.func22, Try.ntmps22
    go_wp2_with fail
    refine (specValidOps_any A os c w h).mono ?_
    rintro e w1 ⟨rfl, hb1⟩
    rw [ht.out]
    go_wp2
    go_ret
    exact ⟨none, 0, rfl, OwnO.empty _ _, hb1⟩

end Go.Proofs.Ytochdhibmmohfac
