/-
  Lemmas, several texts in one: CutS, EncS, EqL, DtI, DoI, ReadB.
-/
import Derived.Test.YtlgahkeklmbefabDoorRunS
import Derived.Test.YtlgahkeklmbefabDoorPjAj
import Derived.Test.YtlgahkeklmbefabDoorPjAg
import Derived.Deep.LoopGhost
import Derived.Deep.QuietTactic
import Derived.BigQuiet
import Derived.StillTailTactics
import Derived.Test.YtlgahkeklmbefabDoorPjAk
import Derived.Deep.Cut
import Derived.Test.YtlgahkeklmbefabDoorPjAh
import Derived.Test.YtlgahkeklmbefabDoorRows
import Derived.ProofKit
import Derived.OpenShut
import Derived.ShutString
import Derived.ChangeOld
import Derived.Deep.Slices
import Derived.Deep.Fields
import Derived.Lib.SmallJoins
namespace Go.Proofs.YtlgahkeklmbefabDoor
open Go.RowKit
set_option linter.unusedVariables false

set_option maxRecDepth 100000 in
set_option maxHeartbeats 1000000 in
theorem specCutOps_any (A : Option Addr) (os : List Od) (c : Nat) (w : World) (h : OpsAt w w.heap.size A os) (hnil : A = none → c = 0) (hc : os.length ≤ c) :
    Calls Tryd.prog 33 #[.slice A os.length c] w (GivesOps w (cutOf os)) := by
  have Hnil := hide hnil
  clear hnil
  by_cases hok : OpsOk os
  · have ht := hide (tf_true hok)
    have Hok := hide hok
    have hl := hok.1
    have hn := (runNew_le hok.2).2.2
    have HE := hide (cutOf_ok hok)
    obtain ⟨n, hnd⟩ : ∃ n, n = (runShp Shp.new os).2 := ⟨_, rfl⟩
    have Hnd := hide hnd
    rw [← hnd] at hn
    have HT : Hid ((os.take n).length = n) := hide (by simp; omega)
    have hnc : (n : Int) ≤ (c : Int) := by omega
    clear hok hnd
    go_enter Tryd.func33, Tryd.ntmps33
    go_wp2_with fail
    refine (specValidOps_any A os c w h).mono ?_
    rintro e w1 ⟨rfl, hb1⟩
    rw [ht.out]
    have h1 := h.later hb1 (Nat.le_refl _)
    go_wp2_with fail
    have HC := runShapes_any A os c w1 h1 Hok.out.2
    obtain ⟨sF, hsF⟩ : ∃ s, s = (runShp Shp.new os).1 := ⟨_, rfl⟩
    have e2 : runShp Shp.new os = (sF, n) := by rw [hsF, Hnd.out]
    rw [e2] at HC
    clear e2 hsF
    refine HC.mono ?_
    clear HC
    rintro e w2 ⟨p, rfl, _, hb2⟩
    have HB2 := hide (hb1.trans (hb2.mono hb1.size))
    clear hb1 hb2 h1
    simp only [shVal, shCells]
    have HB3 := hide (HB2.out.alloc HB2.out.size (.cells #[.slice p.K sF.kinds.length p.c1, .slice p.F sF.full.length p.c2, .slice p.S sF.stack.length p.c3, .slice p.M sF.memo.length p.c4, .bool sF.done] 63))
    go_upto_region 4 with fail
    generalize w2.alloc (.cells #[.slice p.K sF.kinds.length p.c1, .slice p.F sF.full.length p.c2, .slice p.S sF.stack.length p.c3, .slice p.M sF.memo.length p.c4, .bool sF.done] 63) = w3 at HB3 ⊢
    have HO := hide ((OwnO.bare w3).mono HB3.out.size)
    have HB4 := hide (HB3.out.alloc HB3.out.size (.cells #[] 37))
    go_wp2_with (at_builtin; refine append_ops rfl (.tmp 13) (.tmp 16) rfl w.heap.size _ 0 [] rfl HO.out w.heap.size A c (os.take n) (congrArg (fun k => Value.slice A k c) HT.out.symm) Hnil.out ((h.upto n).below HB4.out) (by simp; omega) HB4.out.size ?_; intro zs A5 c5 w5 e5 own5 hg5 _; have HG5 := hide hg5; have HO5 := hide own5; clear hg5 own5)
    go_ret
    have e6 : zs = cutOf os := by rw [e5.out, HE.out, ← Hnd.out, List.nil_append]
    subst e6
    exact ⟨A5, c5, rfl, HO5.out, below_grown HB4.out HG5.out HB4.out.size (fun q hq => (HO.out.blocks q hq).1)⟩
  · rw [cutOf_no hok]
    have ht := hide (tf_false hok)
    clear hok
    go_enter Tryd.func33, Tryd.ntmps33
    go_wp2_with fail
    refine (specValidOps_any A os c w h).mono ?_
    rintro e w1 ⟨rfl, hb1⟩
    rw [ht.out]
    go_wp2
    go_ret
    exact ⟨none, 0, rfl, OwnO.empty _ _, hb1⟩

end Go.Proofs.YtlgahkeklmbefabDoor

namespace Go.Proofs.YtlgahkeklmbefabDoor
open Go.RowKit
set_option linter.unusedVariables false

/-- the memory while the bytes of k orders lie behind each other -/
structure EnS (w wr : World) (os : List Od) (k : Nat) (Ao : Option Addr) (co : Nat) (acc : List Int) : Prop where
  bel : Below w.heap.size w wr
  own : OwnI wr w.heap.size Ao co acc
  eq : acc = encs (os.take k)

theorem EnS.few {w wr : World} {os : List Od} {k : Nat} {Ao : Option Addr} {co : Nat} {acc : List Int} (h : EnS w wr os k Ao co acc) : acc.length ≤ 3 * k := by
  rw [h.eq]
  have := (encs_len (os.take k)).2
  simp only [List.length_take] at this
  omega

set_option maxRecDepth 100000 in
set_option maxHeartbeats 1000000 in
theorem specEncodeOps_any (A : Option Addr) (os : List Od) (c : Nat) (w : World) (h : OpsAt w w.heap.size A os) :
    Calls Tryd.prog 7 #[.slice A os.length c] w (GivesInts w (encodeOf os)) := by
  have hl := h.len
  by_cases hok : OpsOk os
  · rw [encodeOf_ok hok]
    have Hok := hide hok
    have ht := hide (tf_true hok)
    have hl3 := hok.1
    clear hok
    go_enter Tryd.func7, Tryd.ntmps7
    go_wp2_with fail
    refine (specValidOps_any A os c w h).mono ?_
    rintro e w1 ⟨rfl, hb1⟩
    rw [ht.out]
    have HS0 := hide (show EnS w (w1.alloc (.cells #[] 3)) os 0 (some ⟨w1.heap.size, 0, none⟩) 0 [] from
      ⟨hb1.alloc hb1.size _, (OwnI.bare w1).mono hb1.size, rfl⟩)
    go_wp2_with fail
    generalize w1.alloc (.cells #[] 3) = w0 at HS0 ⊢
    go_loopg [3, 4] os.length (fun gk ov iv wr => ∃ (k : Nat) (Ao : Option Addr) (co : Nat) (acc : List Int), k ≤ os.length ∧ gk = os.length - k ∧ iv = .int .i64 (k : Int) ∧ ov = .slice Ao acc.length co ∧ EnS w wr os k Ao co acc)
    case atStart => exact ⟨0, _, 0, [], Nat.zero_le _, rfl, rfl, rfl, HS0.out⟩
    case round =>
      clear HS0
      obtain ⟨k, Ao, co, acc, hk, rfl, rfl, rfl, hS⟩ := hrel
      have HS := hide hS
      have hfew := hS.few
      have hbs := hS.bel.size
      by_cases hlt : k < os.length
      · obtain ⟨b, off, o, rfl, hbl, hx, hmem, hc0, hc1⟩ := (h.below hS.bel).at_ hlt
        have Hx := hide hx
        have Hin := hide (Hok.out.2 o hmem)
        have hlen := encO_len o
        clear hS hx hmem
        go_wp2_with fail
        refine (bytesOf_any o _ Hin.out).mono ?_
        rintro e w2 ⟨A2, c2, rfl, hn2, hI2, hb2⟩
        have HN2 := hide hn2
        have HI2 := hide hI2
        have HB2 := hide hb2
        have HO2 := hide (HS.out.own.below hb2)
        have HW2 := hide (HS.out.bel.trans (hb2.mono hbs))
        have hs2 := HW2.out.size
        clear hn2 hI2 hb2
        go_wp2_with (at_builtin; refine append_ints rfl (.tmp 15) (.tmp 20) rfl w.heap.size Ao co acc rfl HO2.out w2.heap.size A2 c2 (encO o) rfl HN2.out HI2.out (by omega) hs2 ?_; intro zs A3 c3 w3 e3 own3 hg3 _; have HG3 := hide hg3; have HO3 := hide own3; clear hg3 own3)
        go_roundg (os.length - (k + 1))
        case measure => omega
        case rel => exact ⟨k + 1, A3, c3, zs, by omega, rfl, by go_num, rfl, below_grown HW2.out HG3.out hs2 (fun q hq => (HO2.out.blocks q hq).1), HO3.out, by rw [e3.out, HS.out.eq, encs_next Hx.out]⟩
      · obtain rfl : k = os.length := by omega
        have hE : acc = encs os := by have := hS.eq; rw [List.take_length] at this; exact this
        subst hE
        clear hS hlt
        go_wp2
        go_ret
        exact ⟨Ao, co, rfl, HS.out.own, HS.out.bel⟩
  · rw [encodeOf_no hok]
    have ht := hide (tf_false hok)
    clear hok
    go_enter Tryd.func7, Tryd.ntmps7
    go_wp2_with fail
    refine (specValidOps_any A os c w h).mono ?_
    rintro e w1 ⟨rfl, hb1⟩
    rw [ht.out]
    go_wp2
    go_ret
    exact ⟨none, 0, rfl, OwnI.empty _ _, hb1⟩

end Go.Proofs.YtlgahkeklmbefabDoor

namespace Go.Proofs.YtlgahkeklmbefabDoor
open Go.RowKit

set_option maxHeartbeats 1000000 in
theorem equalInts_any (A A' : Option Addr) (xs ys : List Int) (c c' : Nat) (w : World) (h : IntsAt w w.heap.size A xs) (h' : IntsAt w w.heap.size A' ys) :
    Calls Tryd.prog 6 #[.slice A xs.length c, .slice A' ys.length c'] w fun e w' => e = .returned (.bool (decide (xs = ys))) ∧ Below w.heap.size w w' := by
  have hl := h.len
  by_cases hne : xs.length = ys.length
  · have hb0 : ((xs.length : Int) != (ys.length : Int)) = false := by simp [hne]
    go_enter Tryd.func6, Tryd.ntmps6
    go_wp2_with fail
    go_loopw [5] (fun i wr => ∃ k : Nat, k ≤ xs.length ∧ i = .int .i64 k ∧ Below w.heap.size w wr ∧ ∀ j, j < k → xs[j]? = ys[j]?) (fun i _ => xs.length - (intOf i).toNat)
    case atStart => exact ⟨0, Nat.zero_le _, rfl, Below.refl _ _, fun j hj => absurd hj (by omega)⟩
    case round =>
      obtain ⟨k, hk, rfl, hb, he0⟩ := hrel
      have he := hide he0
      clear he0
      by_cases hlt : k < xs.length
      · obtain ⟨b, off, x, rfl, hbl, hx, _, hcx⟩ := (h.below hb).at_ hlt
        obtain ⟨b', off', y, rfl, hbl', hy, _, hcy⟩ := (h'.below hb).at_ (k := k) (by omega)
        have Hx := hide hx
        have Hy := hide hy
        clear hx hy
        have hk1 : (0 : Int) ≤ (k : Int) := by omega
        have hk2 : (k : Int) < (xs.length : Int) := by omega
        have hk3 : (k : Int) < (ys.length : Int) := by omega
        by_cases hxy : x = y
        · subst hxy
          go_wp2_with fail
          go_quiet (fail)
          go_wp2
          go_roundw
          case rel => exact ⟨k + 1, by omega, by go_num, below_drewN hb _, fun j hj => by
            by_cases e : j = k
            · subst e; rw [Hx.out, Hy.out]
            · exact he.out j (by omega)⟩
          case measure => simp [intOf]; omega
        · have hn1 : (x != y) = true := by simpa using hxy
          have hF : decide (xs = ys) = false := by
            simp only [decide_eq_false_iff_not]
            intro e
            subst e
            have := Hx.out.symm.trans Hy.out
            injection this with this
            exact hxy this
          have HF := hide hF
          clear hF
          go_wp2_with fail
          go_quiet (fail)
          go_wp2
          go_ret
          exact ⟨ret_bool HF.out.symm, below_drewN hb _⟩
      · obtain rfl : k = xs.length := by omega
        have hF : decide (xs = ys) = true := by
          simp only [decide_eq_true_eq]
          exact eq_of_prefix hne rfl he.out
        have HF := hide hF
        clear hF hlt
        go_wp2
        go_ret
        exact ⟨ret_bool HF.out.symm, hb⟩
  · have hb1 : ((xs.length : Int) != (ys.length : Int)) = true := by simp; omega
    have hF : decide (xs = ys) = false := by
      simp only [decide_eq_false_iff_not]
      intro e
      exact hne (by rw [e])
    have HF := hide hF
    clear hF
    go_enter Tryd.func6, Tryd.ntmps6
    go_wp2
    go_ret
    exact ⟨ret_bool HF.out.symm, Below.refl _ _⟩

theorem equalInts_same (A A' : Option Addr) (xs : List Int) (c c' : Nat) (w : World) (h : IntsAt w w.heap.size A xs) (h' : IntsAt w w.heap.size A' xs) :
    Calls Tryd.prog 6 #[.slice A xs.length c, .slice A' xs.length c'] w fun e w' => e = .returned (.bool true) ∧ Below w.heap.size w w' :=
  (equalInts_any A A' xs xs c c' w h h').mono fun e w' ⟨he, hb⟩ => ⟨by rw [he]; simp, hb⟩

end Go.Proofs.YtlgahkeklmbefabDoor

namespace Go.Proofs.YtlgahkeklmbefabDoor
open Go.RowKit
set_option linter.unusedVariables false

set_option maxRecDepth 100000 in
set_option maxHeartbeats 2000000 in
theorem implDecodeTorn_any (A : Option Addr) (xs : List Int) (c : Nat) (w : World) (h : IntsAt w w.heap.size A xs) (hnil : A = none → c = 0) (hc : xs.length ≤ c) (hF : FormsAt w w.heap.size) :
    Calls Tryd.prog 17 #[.slice A xs.length c] w (GivesOpsV w (tornOps xs) (.int .i64 (tornSize xs))) := by
  by_cases hok : BytesOk 1000 xs
  · rw [tornOps_ok hok, tornSize_ok hok]
    have ht := hide (tf_true hok)
    have hl := hok.1
    have Hb := hide hok.2
    clear hok
    obtain ⟨R, hR⟩ : ∃ R, R = (decs 300 xs).1 := ⟨_, rfl⟩
    obtain ⟨N, hN⟩ : ∃ N, N = (decs 300 xs).2 := ⟨_, rfl⟩
    have HR := hide hR
    have HN := hide hN
    rw [← hR, ← hN]
    clear hR hN
    have HS0 := hide (show DcS w w R N xs 0 0 none 0 [] from
      ⟨Below.refl _ _, OwnO.empty _ _, by rw [HR.out]; rfl, by rw [HN.out]; simp, rfl, by omega, Nat.zero_le _⟩)
    have Hnil := hide hnil
    clear hnil
    go_enter Tryd.func17, Tryd.ntmps17
    go_wp2_with fail
    refine (areBytes_any A xs c 1000 w h (by omega)).mono ?_
    rintro e w' ⟨rfl, rfl⟩
    rw [ht.out]
    go_wp2_with fail
    go_loopg [4, 5, 6, 7, 11] 300 (fun gk ov iv _ _ kv wr => ∃ (k i : Nat) (Ao : Option Addr) (co : Nat) (acc : List Od), gk = 300 - k ∧ kv = .int .i64 (k : Int) ∧ iv = .int .i64 (i : Int) ∧ ov = .slice Ao acc.length co ∧ DcS w wr R N xs k i Ao co acc)
    case atStart => exact ⟨0, 0, none, 0, [], rfl, rfl, rfl, rfl, HS0.out⟩
    case round =>
      clear HS0
      obtain ⟨k, i, Ao, co, acc, rfl, rfl, rfl, rfl, hS⟩ := hrel
      have HS := hide hS
      have hil := hS.le
      have hkl := hS.few
      have hbs := hS.bel.size
      have hlen := hide hS.len
      have hFr := hF.later hS.bel (Nat.le_refl _)
      by_cases hk : k < 300
      · have hw0 : (i : Int) ≤ (xs.length : Int) := by omega
        have hwc : (i : Int) ≤ (c : Int) := by omega
        have HD : Hid ((xs.drop i).length = xs.length - i) := hide (by simp)
        have HBd := hide (fun x (hx : x ∈ xs.drop i) => Hb.out x (List.mem_of_mem_drop hx))
        have HC : Hid (∃ A2 : Option Addr, (if c = i then A else A.map fun (a : Addr) => a.add i) = A2) := hide ⟨_, rfl⟩
        obtain ⟨o, hoD⟩ : ∃ o, o = (fstO (xs.drop i)).1 := ⟨_, rfl⟩
        obtain ⟨n, hnD⟩ : ∃ n, n = (fstO (xs.drop i)).2 := ⟨_, rfl⟩
        have HP : Hid (fstO (xs.drop i) = (o, n)) := hide (by rw [hoD, hnD])
        clear hoD hnD HC
        -- the slice from i on
        have hP0 : ∀ A2 c2, IntsAt wr wr.heap.size A2 (xs.drop i) → xs.length - i ≤ c2 → Calls Tryd.prog 28 #[.slice A2 (xs.length - i) c2] wr (GivesOp wr (o, n)) := by
          intro A2 c2 hI hcc
          have := firstOp_any A2 (xs.drop i) c2 wr hI HBd.out (by rw [HD.out]; exact hcc) (by rw [HD.out]; omega) hFr
          rw [HD.out, HP.out] at this
          exact this
        have HP0 := hide hP0
        have HI := hide h
        have hIr := hide (fun (b off : Nat) (e : A = some ⟨b, off, none⟩) => (by subst e; exact (h.behind i).later HS.out.bel (Nat.le_refl _) : IntsAt wr wr.heap.size (some ⟨b, off + i, none⟩) (xs.drop i)))
        have hsum := hide hS.own
        clear hS h hFr hP0
        have hcase : (∃ ad, A = some ad ∧ c = i) ∨ (∃ b off, A = some ⟨b, off, none⟩ ∧ c ≠ i) ∨ (∃ ad, A = some ad ∧ c ≠ i ∧ xs = []) ∨ A = none := by
          rcases A with _ | ad
          · exact .inr (.inr (.inr rfl))
          · by_cases hci : c = i
            · exact .inl ⟨ad, rfl, hci⟩
            · by_cases hx : xs = []
              · exact .inr (.inr (.inl ⟨ad, rfl, hci, hx⟩))
              · obtain ⟨b, off, e, _⟩ := HI.out.row hx
                exact .inr (.inl ⟨b, off, e, hci⟩)
        rcases hcase with ⟨ad, rfl, rfl⟩ | ⟨b, off, rfl, hci⟩ | ⟨ad, rfl, hci, rfl⟩ | rfl
        · have HE : Hid (xs.drop c = []) := hide (List.drop_eq_nil_of_le (by omega))
          have HZ : Hid (xs.length - c = 0) := hide (by omega)
          go_wp2_with fail
          have HC := HP0.out (some ad) 0 (by rw [HE.out]; exact IntsAt.empt _) (by omega)
          rw [HZ.out] at HC
          refine HC.mono ?_
          clear HC
          rintro e w2 ⟨rfl, hb2⟩
          have HO2 := hide (HS.out.own.below hb2)
          have HB2 := hide (HS.out.bel.trans (hb2.mono hbs))
          clear hb2
          have lb := Lies.new w2 #[.int .i64 o.code, .int .i64 o.arg] 37
          have hBb := HB2.out.alloc HB2.out.size (.cells #[.int .i64 o.code, .int .i64 o.arg] 37)
          have hOb := HO2.out.alloc (.cells #[.int .i64 o.code, .int .i64 o.arg] 37)
          have hgb := lb.lt
          have HBb := hide hBb
          have HOb := hide hOb
          have Hne := hide (fun (e : some w2.heap.size = blockOf Ao) => (by have := (HO2.out.blocks _ e.symm).2; omega : False))
          have HLb := hide lb
          clear hBb hOb lb
          go_upto_region 8 with fail
          generalize w2.alloc (.cells #[.int .i64 o.code, .int .i64 o.arg] 37) = wb at HBb HOb HLb hgb ⊢
          generalize w2.heap.size = gb at Hne HLb hgb ⊢
          by_cases hn0 : n = 0
          · have dn : ((n : Int) == 0) = true := by simpa using hn0
            have hE := HS.out.stop (.inr (firstO_zero HBd.out HP.out hn0))
            obtain ⟨rfl, rfl⟩ := hE
            clear hn0
            go_wp2
            go_ret2
            exact ⟨Ao, co, rfl, HOb.out, HBb.out⟩
          · have dn : ((n : Int) == 0) = false := by simpa using hn0
            have hF := hide (firstO_pos HBd.out HP.out hn0)
            have hfs := firstO_some HBd.out hF.out
            have hn3 := hfs.2.2.2.2.1
            clear hn0 hfs
            have lb := HLb.out
            have x0 := lb.cell 0
            have x1 := lb.cell 1
            simp at x0 x1
            have hal : acc.length ≤ 300 := by have := hlen.out; omega
            have HNw := hide (show Lies (wb.alloc (.cells #[.int .i64 o.code, .int .i64 o.arg] 37)) wb.heap.size #[.int .i64 o.code, .int .i64 o.arg] 37 from Lies.new wb _ _)
            clear lb
            go_wp2_with (at_builtin; refine append_op rfl (.tmp 22) (.tmp 24) rfl w.heap.size Ao co acc rfl (HOb.out.alloc _) wb.heap.size o 37 rfl HNw.out (by omega) (by have := HBb.out.size; simp; omega) ?_; intro zs A3 c3 w7 hz hown7 hg7 hat7; have HO7 := hide hown7; have HG7 := hide hg7; clear hown7 hg7 hat7)
            go_roundg (300 - (k + 1))
            case measure => omega
            case rel => exact ⟨k + 1, c + n, A3, c3, zs, rfl, by go_num, by go_num, rfl, HS.out.step Hb.out hk hF.out (below_grown (HBb.out.alloc HBb.out.size _) HG7.out (by have := HBb.out.size; simp; omega) (fun q hq => (HOb.out.blocks q hq).1)) hz.out HO7.out⟩
        · go_wp2_with fail
          refine (HP0.out (some ⟨b, off + i, none⟩) (c - i) (hIr.out b off rfl) (by omega)).mono ?_
          rintro e w2 ⟨rfl, hb2⟩
          have HO2 := hide (HS.out.own.below hb2)
          have HB2 := hide (HS.out.bel.trans (hb2.mono hbs))
          clear hb2
          have lb := Lies.new w2 #[.int .i64 o.code, .int .i64 o.arg] 37
          have hBb := HB2.out.alloc HB2.out.size (.cells #[.int .i64 o.code, .int .i64 o.arg] 37)
          have hOb := HO2.out.alloc (.cells #[.int .i64 o.code, .int .i64 o.arg] 37)
          have hgb := lb.lt
          have HBb := hide hBb
          have HOb := hide hOb
          have Hne := hide (fun (e : some w2.heap.size = blockOf Ao) => (by have := (HO2.out.blocks _ e.symm).2; omega : False))
          have HLb := hide lb
          clear hBb hOb lb
          go_upto_region 8 with fail
          generalize w2.alloc (.cells #[.int .i64 o.code, .int .i64 o.arg] 37) = wb at HBb HOb HLb hgb ⊢
          generalize w2.heap.size = gb at Hne HLb hgb ⊢
          by_cases hn0 : n = 0
          · have dn : ((n : Int) == 0) = true := by simpa using hn0
            have hE := HS.out.stop (.inr (firstO_zero HBd.out HP.out hn0))
            obtain ⟨rfl, rfl⟩ := hE
            clear hn0
            go_wp2
            go_ret2
            exact ⟨Ao, co, rfl, HOb.out, HBb.out⟩
          · have dn : ((n : Int) == 0) = false := by simpa using hn0
            have hF := hide (firstO_pos HBd.out HP.out hn0)
            have hfs := firstO_some HBd.out hF.out
            have hn3 := hfs.2.2.2.2.1
            clear hn0 hfs
            have lb := HLb.out
            have x0 := lb.cell 0
            have x1 := lb.cell 1
            simp at x0 x1
            have hal : acc.length ≤ 300 := by have := hlen.out; omega
            have HNw := hide (show Lies (wb.alloc (.cells #[.int .i64 o.code, .int .i64 o.arg] 37)) wb.heap.size #[.int .i64 o.code, .int .i64 o.arg] 37 from Lies.new wb _ _)
            clear lb
            go_wp2_with (at_builtin; refine append_op rfl (.tmp 22) (.tmp 24) rfl w.heap.size Ao co acc rfl (HOb.out.alloc _) wb.heap.size o 37 rfl HNw.out (by omega) (by have := HBb.out.size; simp; omega) ?_; intro zs A3 c3 w7 hz hown7 hg7 hat7; have HO7 := hide hown7; have HG7 := hide hg7; clear hown7 hg7 hat7)
            go_roundg (300 - (k + 1))
            case measure => omega
            case rel => exact ⟨k + 1, i + n, A3, c3, zs, rfl, by go_num, by go_num, rfl, HS.out.step Hb.out hk hF.out (below_grown (HBb.out.alloc HBb.out.size _) HG7.out (by have := HBb.out.size; simp; omega) (fun q hq => (HOb.out.blocks q hq).1)) hz.out HO7.out⟩
        · obtain rfl : i = 0 := by simpa using hil
          go_wp2_with fail
          refine (HP0.out (some ad) c (IntsAt.empt _) (by simp)).mono ?_
          rintro e w2 ⟨rfl, hb2⟩
          have HO2 := hide (HS.out.own.below hb2)
          have HB2 := hide (HS.out.bel.trans (hb2.mono hbs))
          clear hb2
          have lb := Lies.new w2 #[.int .i64 o.code, .int .i64 o.arg] 37
          have hBb := HB2.out.alloc HB2.out.size (.cells #[.int .i64 o.code, .int .i64 o.arg] 37)
          have hOb := HO2.out.alloc (.cells #[.int .i64 o.code, .int .i64 o.arg] 37)
          have hgb := lb.lt
          have HBb := hide hBb
          have HOb := hide hOb
          have Hne := hide (fun (e : some w2.heap.size = blockOf Ao) => (by have := (HO2.out.blocks _ e.symm).2; omega : False))
          have HLb := hide lb
          clear hBb hOb lb
          go_upto_region 8 with fail
          generalize w2.alloc (.cells #[.int .i64 o.code, .int .i64 o.arg] 37) = wb at HBb HOb HLb hgb ⊢
          generalize w2.heap.size = gb at Hne HLb hgb ⊢
          by_cases hn0 : n = 0
          · have dn : ((n : Int) == 0) = true := by simpa using hn0
            have hE := HS.out.stop (.inr (firstO_zero HBd.out HP.out hn0))
            obtain ⟨rfl, rfl⟩ := hE
            clear hn0
            go_wp2
            go_ret2
            exact ⟨Ao, co, rfl, HOb.out, HBb.out⟩
          · have dn : ((n : Int) == 0) = false := by simpa using hn0
            have hF := hide (firstO_pos HBd.out HP.out hn0)
            have hfs := firstO_some HBd.out hF.out
            have hn3 := hfs.2.2.2.2.1
            clear hn0 hfs
            have lb := HLb.out
            have x0 := lb.cell 0
            have x1 := lb.cell 1
            simp at x0 x1
            have hal : acc.length ≤ 300 := by have := hlen.out; omega
            have HNw := hide (show Lies (wb.alloc (.cells #[.int .i64 o.code, .int .i64 o.arg] 37)) wb.heap.size #[.int .i64 o.code, .int .i64 o.arg] 37 from Lies.new wb _ _)
            clear lb
            go_wp2_with (at_builtin; refine append_op rfl (.tmp 22) (.tmp 24) rfl w.heap.size Ao co acc rfl (HOb.out.alloc _) wb.heap.size o 37 rfl HNw.out (by omega) (by have := HBb.out.size; simp; omega) ?_; intro zs A3 c3 w7 hz hown7 hg7 hat7; have HO7 := hide hown7; have HG7 := hide hg7; clear hown7 hg7 hat7)
            go_roundg (300 - (k + 1))
            case measure => omega
            case rel => exact ⟨k + 1, 0 + n, A3, c3, zs, rfl, by go_num, by first | rw [Nat.zero_add] | go_num, rfl, HS.out.step Hb.out hk hF.out (below_grown (HBb.out.alloc HBb.out.size _) HG7.out (by have := HBb.out.size; simp; omega) (fun q hq => (HOb.out.blocks q hq).1)) hz.out HO7.out⟩
        · obtain rfl := Hnil.out rfl
          have e0 : xs = [] := List.eq_nil_of_length_eq_zero (by omega)
          subst e0
          obtain rfl : i = 0 := by simpa using hil
          go_wp2_with fail
          refine (HP0.out none 0 (IntsAt.empt _) (by simp)).mono ?_
          rintro e w2 ⟨rfl, hb2⟩
          have HO2 := hide (HS.out.own.below hb2)
          have HB2 := hide (HS.out.bel.trans (hb2.mono hbs))
          clear hb2
          have lb := Lies.new w2 #[.int .i64 o.code, .int .i64 o.arg] 37
          have hBb := HB2.out.alloc HB2.out.size (.cells #[.int .i64 o.code, .int .i64 o.arg] 37)
          have hOb := HO2.out.alloc (.cells #[.int .i64 o.code, .int .i64 o.arg] 37)
          have hgb := lb.lt
          have HBb := hide hBb
          have HOb := hide hOb
          have Hne := hide (fun (e : some w2.heap.size = blockOf Ao) => (by have := (HO2.out.blocks _ e.symm).2; omega : False))
          have HLb := hide lb
          clear hBb hOb lb
          go_upto_region 8 with fail
          generalize w2.alloc (.cells #[.int .i64 o.code, .int .i64 o.arg] 37) = wb at HBb HOb HLb hgb ⊢
          generalize w2.heap.size = gb at Hne HLb hgb ⊢
          by_cases hn0 : n = 0
          · have dn : ((n : Int) == 0) = true := by simpa using hn0
            have hE := HS.out.stop (.inr (firstO_zero HBd.out HP.out hn0))
            obtain ⟨rfl, rfl⟩ := hE
            clear hn0
            go_wp2
            go_ret2
            exact ⟨Ao, co, rfl, HOb.out, HBb.out⟩
          · have dn : ((n : Int) == 0) = false := by simpa using hn0
            have hF := hide (firstO_pos HBd.out HP.out hn0)
            have hfs := firstO_some HBd.out hF.out
            have hn3 := hfs.2.2.2.2.1
            clear hn0 hfs
            have lb := HLb.out
            have x0 := lb.cell 0
            have x1 := lb.cell 1
            simp at x0 x1
            have hal : acc.length ≤ 300 := by have := hlen.out; omega
            have HNw := hide (show Lies (wb.alloc (.cells #[.int .i64 o.code, .int .i64 o.arg] 37)) wb.heap.size #[.int .i64 o.code, .int .i64 o.arg] 37 from Lies.new wb _ _)
            clear lb
            go_wp2_with (at_builtin; refine append_op rfl (.tmp 22) (.tmp 24) rfl w.heap.size Ao co acc rfl (HOb.out.alloc _) wb.heap.size o 37 rfl HNw.out (by omega) (by have := HBb.out.size; simp; omega) ?_; intro zs A3 c3 w7 hz hown7 hg7 hat7; have HO7 := hide hown7; have HG7 := hide hg7; clear hown7 hg7 hat7)
            go_roundg (300 - (k + 1))
            case measure => omega
            case rel => exact ⟨k + 1, 0 + n, A3, c3, zs, rfl, by go_num, by first | rw [Nat.zero_add] | go_num, rfl, HS.out.step Hb.out hk hF.out (below_grown (HBb.out.alloc HBb.out.size _) HG7.out (by have := HBb.out.size; simp; omega) (fun q hq => (HOb.out.blocks q hq).1)) hz.out HO7.out⟩
      · obtain rfl : k = 300 := by omega
        have hE := HS.out.stop (.inl rfl)
        obtain ⟨rfl, rfl⟩ := hE
        clear hS hk
        go_wp2
        go_ret2
        exact ⟨Ao, co, rfl, HS.out.own, HS.out.bel⟩
  · rw [tornOps_no hok, tornSize_no hok]
    have ht := hide (tf_false hok)
    clear hok
    go_enter Tryd.func17, Tryd.ntmps17
    go_wp2_with fail
    refine (areBytes_any A xs c 1000 w h (by omega)).mono ?_
    rintro e w' ⟨rfl, rfl⟩
    rw [ht.out]
    go_wp2
    go_ret2
    exact ⟨none, 0, rfl, OwnO.empty _ _, Below.refl _ _⟩

end Go.Proofs.YtlgahkeklmbefabDoor

namespace Go.Proofs.YtlgahkeklmbefabDoor
open Go.RowKit
set_option linter.unusedVariables false

set_option maxHeartbeats 1000000 in
theorem implDecodeOps_any (A : Option Addr) (xs : List Int) (c : Nat) (w : World) (h : IntsAt w w.heap.size A xs) (hnil : A = none → c = 0) (hc : xs.length ≤ c) (hF : FormsAt w w.heap.size) :
    Calls Tryd.prog 8 #[.slice A xs.length c] w (GivesOpsV w (decAll xs) (.bool (tf (DecOk xs)))) := by
  have hlen := h.len
  have Hnil := hide hnil
  clear hnil
  by_cases hok : DecOk xs
  · rw [decAll_ok hok, tf_true hok]
    have e1 := hide (tornOps_ok hok.1)
    have e2 := hide (tornSize_ok hok.1)
    have e3 := hide hok.2
    clear hok
    have d1 : ((xs.length : Int) != (xs.length : Int)) = false := by simp
    go_enter Tryd.func8, Tryd.ntmps8
    go_wp2_with fail
    have HC := implDecodeTorn_any A xs c w h Hnil.out hc hF
    rw [e1.out, e2.out, e3.out] at HC
    refine HC.mono ?_
    clear HC
    rintro e w2 ⟨A2, c2, rfl, ho, hb⟩
    go_wp2
    go_ret2
    exact ⟨A2, c2, rfl, ho, hb⟩
  · rw [decAll_no hok, tf_false hok]
    have d0 : tornSize xs ≠ (xs.length : Int) := by
      unfold tornSize
      split
      · rename_i hb
        intro e
        exact hok ⟨hb, by omega⟩
      · omega
    have d1 : (tornSize xs != (xs.length : Int)) = true := by simpa using d0
    clear hok d0
    go_enter Tryd.func8, Tryd.ntmps8
    go_wp2_with fail
    refine (implDecodeTorn_any A xs c w h Hnil.out hc hF).mono ?_
    rintro e w2 ⟨A2, c2, rfl, ho, hb⟩
    go_wp2
    go_ret2
    exact ⟨none, 0, rfl, OwnO.empty _ _, hb⟩

end Go.Proofs.YtlgahkeklmbefabDoor

namespace Go.Proofs.YtlgahkeklmbefabDoor
open Go.ChangeShapes Go.WideShapes Go.ChangeAt Go.RowKit Go.Deep
set_option linter.unusedVariables false

theorem readCellsB : Tryd.prog.cellsOf 5 = 1 := by kernel_rfl
theorem readOwnB : ownKnob Tryd.prog.godebug = none := by kernel_rfl
theorem readLaidB : laidOutB Tryd.prog = true := by kernel_rfl

theorem addr_add_b (b off j : Nat) : (⟨b, off, none⟩ : Addr).add j = ⟨b, off + j, none⟩ := by
  unfold Addr.add
  split
  · rename_i h0; subst h0; rfl
  · rfl

/-- a slice of bytes that came in -/
theorem read_bytes {H : Type} {enc : TypeId × Value → H} {w : World} {base : Nat} {spare : Nat → Bool} {held : Bool} {m : Nat} {v : Value} {y : DataW H × List MemPlace} (h : DataW.trod enc Tryd.prog w base spare held m 22 [v] = some y) :
    ∃ (A : Option Addr) (n c : Nat), v = .slice A n c ∧ BytesAt w w.heap.size A n ∧ n ≤ c ∧ n ≤ 9223372036854775807 := by
  rcases open_ints Tryd.underlying22 Tryd.underlying5 readCellsB h with ⟨hcs, _⟩ | ⟨a, len, cap, zs, hcs, _, hl, hm, hz, _, hcell, hwz⟩
  · simp at hcs
    subst hcs
    exact ⟨none, 0, 0, rfl, fun k hk => absurd hk (by omega), Nat.le_refl _, by omega⟩
  · simp at hcs
    subst hcs
    have hzl : len ≤ zs.length := by rw [hz]; split <;> omega
    refine ⟨some a, len, cap, rfl, fun k hk => ?_, hl, by unfold maxLen at hm; omega⟩
    have hz0 := hcell 0 (by omega)
    have hc0 := hcell k (by omega)
    obtain ⟨b, off, sp⟩ := a
    have hsp : sp = none := by simpa [Addr.add] using World.cell?_spot hz0
    subst hsp
    rw [addr_add_b] at hc0
    have hb := range_u8 hwz k
    rw [List.getD_eq_getElem?_getD] at hc0
    obtain ⟨x, hx⟩ := Int.eq_ofNat_of_zero_le hb.1
    refine ⟨b, off, x, rfl, World.block_lt_of_cell? w _ hc0, ?_, by omega⟩
    rw [hc0, hx]

end Go.Proofs.YtlgahkeklmbefabDoor
