/-
  The program's DecodeTorn: what it returns.
-/
import Derived.Test.YtngohlegdjppeacDoorFsO
import Derived.Test.YtngohlegdjppeacDoorABy
import Derived.Test.YtngohlegdjppeacDoorDcS
import Derived.Deep.LoopGhost
import Derived.Deep.Cut
namespace Go.Proofs.YtngohlegdjppeacDoor
open Go.RowKit
set_option linter.unusedVariables false

set_option maxRecDepth 100000 in
set_option maxHeartbeats 2000000 in
theorem implDecodeTorn_any (A : Option Addr) (xs : List Int) (c : Nat) (w : World) (h : IntsAt w w.heap.size A xs) (hnil : A = none → c = 0) (hc : xs.length ≤ c) (hF : FormsAt w w.heap.size) :
    Calls Tryd.prog 21 #[.slice A xs.length c] w (GivesOpsV w (tornOps xs) (.int .i64 (tornSize xs))) := by
  by_cases hok : BytesOk 1000 xs
  · rw [tornOps_ok hok, tornSize_ok hok]
    have ht := hide (tf_true hok)
    have hl := hok.1
    have Hb := hide hok.2
    clear hok
    obtain ⟨R, hR⟩ : ∃ R, R = (decs 300 xs).1 := ⟨_, rfl⟩
    obtain ⟨N, hN⟩ : ∃ N, N = (decs 300 xs).2 := ⟨_, rfl⟩
    have HR := hide hR
    have HN := hide hN
    rw [← hR, ← hN]
    clear hR hN
    have HS0 := hide (show DcS w w R N xs 0 0 none 0 [] from
      ⟨Below.refl _ _, OwnO.empty _ _, by rw [HR.out]; rfl, by rw [HN.out]; simp, rfl, by omega, Nat.zero_le _⟩)
    have Hnil := hide hnil
    clear hnil
    go_enter Tryd.func21, Tryd.ntmps21
    go_wp2_with fail
    refine (areBytes_any A xs c 1000 w h (by omega)).mono ?_
    rintro e w' ⟨rfl, rfl⟩
    rw [ht.out]
    go_wp2_with fail
    go_loopg [4, 5, 6, 7, 11] 300 (fun gk ov iv _ _ kv wr => ∃ (k i : Nat) (Ao : Option Addr) (co : Nat) (acc : List Od), gk = 300 - k ∧ kv = .int .i64 (k : Int) ∧ iv = .int .i64 (i : Int) ∧ ov = .slice Ao acc.length co ∧ DcS w wr R N xs k i Ao co acc)
    case atStart => exact ⟨0, 0, none, 0, [], rfl, rfl, rfl, rfl, HS0.out⟩
    case round =>
      clear HS0
      obtain ⟨k, i, Ao, co, acc, rfl, rfl, rfl, rfl, hS⟩ := hrel
      have HS := hide hS
      have hil := hS.le
      have hkl := hS.few
      have hbs := hS.bel.size
      have hlen := hide hS.len
      have hFr := hF.later hS.bel (Nat.le_refl _)
      by_cases hk : k < 300
      · have hw0 : (i : Int) ≤ (xs.length : Int) := by omega
        have hwc : (i : Int) ≤ (c : Int) := by omega
        have HD : Hid ((xs.drop i).length = xs.length - i) := hide (by simp)
        have HBd := hide (fun x (hx : x ∈ xs.drop i) => Hb.out x (List.mem_of_mem_drop hx))
        have HC : Hid (∃ A2 : Option Addr, (if c = i then A else A.map fun (a : Addr) => a.add i) = A2) := hide ⟨_, rfl⟩
        obtain ⟨o, hoD⟩ : ∃ o, o = (fstO (xs.drop i)).1 := ⟨_, rfl⟩
        obtain ⟨n, hnD⟩ : ∃ n, n = (fstO (xs.drop i)).2 := ⟨_, rfl⟩
        have HP : Hid (fstO (xs.drop i) = (o, n)) := hide (by rw [hoD, hnD])
        clear hoD hnD HC
        -- the slice from i on
        have hP0 : ∀ A2 c2, IntsAt wr wr.heap.size A2 (xs.drop i) → xs.length - i ≤ c2 → Calls Tryd.prog 27 #[.slice A2 (xs.length - i) c2] wr (GivesOp wr (o, n)) := by
          intro A2 c2 hI hcc
          have := firstOp_any A2 (xs.drop i) c2 wr hI HBd.out (by rw [HD.out]; exact hcc) (by rw [HD.out]; omega) hFr
          rw [HD.out, HP.out] at this
          exact this
        have HP0 := hide hP0
        have HI := hide h
        have hIr := hide (fun (b off : Nat) (e : A = some ⟨b, off, none⟩) => (by subst e; exact (h.behind i).later HS.out.bel (Nat.le_refl _) : IntsAt wr wr.heap.size (some ⟨b, off + i, none⟩) (xs.drop i)))
        have hsum := hide hS.own
        clear hS h hFr hP0
        have hcase : (∃ ad, A = some ad ∧ c = i) ∨ (∃ b off, A = some ⟨b, off, none⟩ ∧ c ≠ i) ∨ (∃ ad, A = some ad ∧ c ≠ i ∧ xs = []) ∨ A = none := by
          rcases A with _ | ad
          · exact .inr (.inr (.inr rfl))
          · by_cases hci : c = i
            · exact .inl ⟨ad, rfl, hci⟩
            · by_cases hx : xs = []
              · exact .inr (.inr (.inl ⟨ad, rfl, hci, hx⟩))
              · obtain ⟨b, off, e, _⟩ := HI.out.row hx
                exact .inr (.inl ⟨b, off, e, hci⟩)
        rcases hcase with ⟨ad, rfl, rfl⟩ | ⟨b, off, rfl, hci⟩ | ⟨ad, rfl, hci, rfl⟩ | rfl
        · have HE : Hid (xs.drop c = []) := hide (List.drop_eq_nil_of_le (by omega))
          have HZ : Hid (xs.length - c = 0) := hide (by omega)
          go_wp2_with fail
          have HC := HP0.out (some ad) 0 (by rw [HE.out]; exact IntsAt.empt _) (by omega)
          rw [HZ.out] at HC
          refine HC.mono ?_
          clear HC
          rintro e w2 ⟨rfl, hb2⟩
          have HO2 := hide (HS.out.own.below hb2)
          have HB2 := hide (HS.out.bel.trans (hb2.mono hbs))
          clear hb2
          have lb := Lies.new w2 #[.int .i64 o.code, .int .i64 o.arg] 36
          have hBb := HB2.out.alloc HB2.out.size (.cells #[.int .i64 o.code, .int .i64 o.arg] 36)
          have hOb := HO2.out.alloc (.cells #[.int .i64 o.code, .int .i64 o.arg] 36)
          have hgb := lb.lt
          have HBb := hide hBb
          have HOb := hide hOb
          have Hne := hide (fun (e : some w2.heap.size = blockOf Ao) => (by have := (HO2.out.blocks _ e.symm).2; omega : False))
          have HLb := hide lb
          clear hBb hOb lb
          go_upto_region 8 with fail
          generalize w2.alloc (.cells #[.int .i64 o.code, .int .i64 o.arg] 36) = wb at HBb HOb HLb hgb ⊢
          generalize w2.heap.size = gb at Hne HLb hgb ⊢
          by_cases hn0 : n = 0
          · have dn : ((n : Int) == 0) = true := by simpa using hn0
            have hE := HS.out.stop (.inr (firstO_zero HBd.out HP.out hn0))
            obtain ⟨rfl, rfl⟩ := hE
            clear hn0
            go_wp2
            go_ret2
            exact ⟨Ao, co, rfl, HOb.out, HBb.out⟩
          · have dn : ((n : Int) == 0) = false := by simpa using hn0
            have hF := hide (firstO_pos HBd.out HP.out hn0)
            have hfs := firstO_some HBd.out hF.out
            have hn3 := hfs.2.2.2.2.1
            clear hn0 hfs
            have lb := HLb.out
            have x0 := lb.cell 0
            have x1 := lb.cell 1
            simp at x0 x1
            have hal : acc.length ≤ 300 := by have := hlen.out; omega
            have HNw := hide (show Lies (wb.alloc (.cells #[.int .i64 o.code, .int .i64 o.arg] 36)) wb.heap.size #[.int .i64 o.code, .int .i64 o.arg] 36 from Lies.new wb _ _)
            clear lb
            go_wp2_with (at_builtin; refine append_op rfl (.tmp 22) (.tmp 24) rfl w.heap.size Ao co acc rfl (HOb.out.alloc _) wb.heap.size o 36 rfl HNw.out (by omega) (by have := HBb.out.size; simp; omega) ?_; intro zs A3 c3 w7 hz hown7 hg7 hat7; have HO7 := hide hown7; have HG7 := hide hg7; clear hown7 hg7 hat7)
            go_roundg (300 - (k + 1))
            case measure => omega
            case rel => exact ⟨k + 1, c + n, A3, c3, zs, rfl, by go_num, by go_num, rfl, HS.out.step Hb.out hk hF.out (below_grown (HBb.out.alloc HBb.out.size _) HG7.out (by have := HBb.out.size; simp; omega) (fun q hq => (HOb.out.blocks q hq).1)) hz.out HO7.out⟩
        · go_wp2_with fail
          refine (HP0.out (some ⟨b, off + i, none⟩) (c - i) (hIr.out b off rfl) (by omega)).mono ?_
          rintro e w2 ⟨rfl, hb2⟩
          have HO2 := hide (HS.out.own.below hb2)
          have HB2 := hide (HS.out.bel.trans (hb2.mono hbs))
          clear hb2
          have lb := Lies.new w2 #[.int .i64 o.code, .int .i64 o.arg] 36
          have hBb := HB2.out.alloc HB2.out.size (.cells #[.int .i64 o.code, .int .i64 o.arg] 36)
          have hOb := HO2.out.alloc (.cells #[.int .i64 o.code, .int .i64 o.arg] 36)
          have hgb := lb.lt
          have HBb := hide hBb
          have HOb := hide hOb
          have Hne := hide (fun (e : some w2.heap.size = blockOf Ao) => (by have := (HO2.out.blocks _ e.symm).2; omega : False))
          have HLb := hide lb
          clear hBb hOb lb
          go_upto_region 8 with fail
          generalize w2.alloc (.cells #[.int .i64 o.code, .int .i64 o.arg] 36) = wb at HBb HOb HLb hgb ⊢
          generalize w2.heap.size = gb at Hne HLb hgb ⊢
          by_cases hn0 : n = 0
          · have dn : ((n : Int) == 0) = true := by simpa using hn0
            have hE := HS.out.stop (.inr (firstO_zero HBd.out HP.out hn0))
            obtain ⟨rfl, rfl⟩ := hE
            clear hn0
            go_wp2
            go_ret2
            exact ⟨Ao, co, rfl, HOb.out, HBb.out⟩
          · have dn : ((n : Int) == 0) = false := by simpa using hn0
            have hF := hide (firstO_pos HBd.out HP.out hn0)
            have hfs := firstO_some HBd.out hF.out
            have hn3 := hfs.2.2.2.2.1
            clear hn0 hfs
            have lb := HLb.out
            have x0 := lb.cell 0
            have x1 := lb.cell 1
            simp at x0 x1
            have hal : acc.length ≤ 300 := by have := hlen.out; omega
            have HNw := hide (show Lies (wb.alloc (.cells #[.int .i64 o.code, .int .i64 o.arg] 36)) wb.heap.size #[.int .i64 o.code, .int .i64 o.arg] 36 from Lies.new wb _ _)
            clear lb
            go_wp2_with (at_builtin; refine append_op rfl (.tmp 22) (.tmp 24) rfl w.heap.size Ao co acc rfl (HOb.out.alloc _) wb.heap.size o 36 rfl HNw.out (by omega) (by have := HBb.out.size; simp; omega) ?_; intro zs A3 c3 w7 hz hown7 hg7 hat7; have HO7 := hide hown7; have HG7 := hide hg7; clear hown7 hg7 hat7)
            go_roundg (300 - (k + 1))
            case measure => omega
            case rel => exact ⟨k + 1, i + n, A3, c3, zs, rfl, by go_num, by go_num, rfl, HS.out.step Hb.out hk hF.out (below_grown (HBb.out.alloc HBb.out.size _) HG7.out (by have := HBb.out.size; simp; omega) (fun q hq => (HOb.out.blocks q hq).1)) hz.out HO7.out⟩
        · obtain rfl : i = 0 := by simpa using hil
          go_wp2_with fail
          refine (HP0.out (some ad) c (IntsAt.empt _) (by simp)).mono ?_
          rintro e w2 ⟨rfl, hb2⟩
          have HO2 := hide (HS.out.own.below hb2)
          have HB2 := hide (HS.out.bel.trans (hb2.mono hbs))
          clear hb2
          have lb := Lies.new w2 #[.int .i64 o.code, .int .i64 o.arg] 36
          have hBb := HB2.out.alloc HB2.out.size (.cells #[.int .i64 o.code, .int .i64 o.arg] 36)
          have hOb := HO2.out.alloc (.cells #[.int .i64 o.code, .int .i64 o.arg] 36)
          have hgb := lb.lt
          have HBb := hide hBb
          have HOb := hide hOb
          have Hne := hide (fun (e : some w2.heap.size = blockOf Ao) => (by have := (HO2.out.blocks _ e.symm).2; omega : False))
          have HLb := hide lb
          clear hBb hOb lb
          go_upto_region 8 with fail
          generalize w2.alloc (.cells #[.int .i64 o.code, .int .i64 o.arg] 36) = wb at HBb HOb HLb hgb ⊢
          generalize w2.heap.size = gb at Hne HLb hgb ⊢
          by_cases hn0 : n = 0
          · have dn : ((n : Int) == 0) = true := by simpa using hn0
            have hE := HS.out.stop (.inr (firstO_zero HBd.out HP.out hn0))
            obtain ⟨rfl, rfl⟩ := hE
            clear hn0
            go_wp2
            go_ret2
            exact ⟨Ao, co, rfl, HOb.out, HBb.out⟩
          · have dn : ((n : Int) == 0) = false := by simpa using hn0
            have hF := hide (firstO_pos HBd.out HP.out hn0)
            have hfs := firstO_some HBd.out hF.out
            have hn3 := hfs.2.2.2.2.1
            clear hn0 hfs
            have lb := HLb.out
            have x0 := lb.cell 0
            have x1 := lb.cell 1
            simp at x0 x1
            have hal : acc.length ≤ 300 := by have := hlen.out; omega
            have HNw := hide (show Lies (wb.alloc (.cells #[.int .i64 o.code, .int .i64 o.arg] 36)) wb.heap.size #[.int .i64 o.code, .int .i64 o.arg] 36 from Lies.new wb _ _)
            clear lb
            go_wp2_with (at_builtin; refine append_op rfl (.tmp 22) (.tmp 24) rfl w.heap.size Ao co acc rfl (HOb.out.alloc _) wb.heap.size o 36 rfl HNw.out (by omega) (by have := HBb.out.size; simp; omega) ?_; intro zs A3 c3 w7 hz hown7 hg7 hat7; have HO7 := hide hown7; have HG7 := hide hg7; clear hown7 hg7 hat7)
            go_roundg (300 - (k + 1))
            case measure => omega
            case rel => exact ⟨k + 1, 0 + n, A3, c3, zs, rfl, by go_num, by first | rw [Nat.zero_add] | go_num, rfl, HS.out.step Hb.out hk hF.out (below_grown (HBb.out.alloc HBb.out.size _) HG7.out (by have := HBb.out.size; simp; omega) (fun q hq => (HOb.out.blocks q hq).1)) hz.out HO7.out⟩
        · obtain rfl := Hnil.out rfl
          have e0 : xs = [] := List.eq_nil_of_length_eq_zero (by omega)
          subst e0
          obtain rfl : i = 0 := by simpa using hil
          go_wp2_with fail
          refine (HP0.out none 0 (IntsAt.empt _) (by simp)).mono ?_
          rintro e w2 ⟨rfl, hb2⟩
          have HO2 := hide (HS.out.own.below hb2)
          have HB2 := hide (HS.out.bel.trans (hb2.mono hbs))
          clear hb2
          have lb := Lies.new w2 #[.int .i64 o.code, .int .i64 o.arg] 36
          have hBb := HB2.out.alloc HB2.out.size (.cells #[.int .i64 o.code, .int .i64 o.arg] 36)
          have hOb := HO2.out.alloc (.cells #[.int .i64 o.code, .int .i64 o.arg] 36)
          have hgb := lb.lt
          have HBb := hide hBb
          have HOb := hide hOb
          have Hne := hide (fun (e : some w2.heap.size = blockOf Ao) => (by have := (HO2.out.blocks _ e.symm).2; omega : False))
          have HLb := hide lb
          clear hBb hOb lb
          go_upto_region 8 with fail
          generalize w2.alloc (.cells #[.int .i64 o.code, .int .i64 o.arg] 36) = wb at HBb HOb HLb hgb ⊢
          generalize w2.heap.size = gb at Hne HLb hgb ⊢
          by_cases hn0 : n = 0
          · have dn : ((n : Int) == 0) = true := by simpa using hn0
            have hE := HS.out.stop (.inr (firstO_zero HBd.out HP.out hn0))
            obtain ⟨rfl, rfl⟩ := hE
            clear hn0
            go_wp2
            go_ret2
            exact ⟨Ao, co, rfl, HOb.out, HBb.out⟩
          · have dn : ((n : Int) == 0) = false := by simpa using hn0
            have hF := hide (firstO_pos HBd.out HP.out hn0)
            have hfs := firstO_some HBd.out hF.out
            have hn3 := hfs.2.2.2.2.1
            clear hn0 hfs
            have lb := HLb.out
            have x0 := lb.cell 0
            have x1 := lb.cell 1
            simp at x0 x1
            have hal : acc.length ≤ 300 := by have := hlen.out; omega
            have HNw := hide (show Lies (wb.alloc (.cells #[.int .i64 o.code, .int .i64 o.arg] 36)) wb.heap.size #[.int .i64 o.code, .int .i64 o.arg] 36 from Lies.new wb _ _)
            clear lb
            go_wp2_with (at_builtin; refine append_op rfl (.tmp 22) (.tmp 24) rfl w.heap.size Ao co acc rfl (HOb.out.alloc _) wb.heap.size o 36 rfl HNw.out (by omega) (by have := HBb.out.size; simp; omega) ?_; intro zs A3 c3 w7 hz hown7 hg7 hat7; have HO7 := hide hown7; have HG7 := hide hg7; clear hown7 hg7 hat7)
            go_roundg (300 - (k + 1))
            case measure => omega
            case rel => exact ⟨k + 1, 0 + n, A3, c3, zs, rfl, by go_num, by first | rw [Nat.zero_add] | go_num, rfl, HS.out.step Hb.out hk hF.out (below_grown (HBb.out.alloc HBb.out.size _) HG7.out (by have := HBb.out.size; simp; omega) (fun q hq => (HOb.out.blocks q hq).1)) hz.out HO7.out⟩
      · obtain rfl : k = 300 := by omega
        have hE := HS.out.stop (.inl rfl)
        obtain ⟨rfl, rfl⟩ := hE
        clear hS hk
        go_wp2
        go_ret2
        exact ⟨Ao, co, rfl, HS.out.own, HS.out.bel⟩
  · rw [tornOps_no hok, tornSize_no hok]
    have ht := hide (tf_false hok)
    clear hok
    go_enter Tryd.func21, Tryd.ntmps21
    go_wp2_with fail
    refine (areBytes_any A xs c 1000 w h (by omega)).mono ?_
    rintro e w' ⟨rfl, rfl⟩
    rw [ht.out]
    go_wp2
    go_ret2
    exact ⟨none, 0, rfl, OwnO.empty _ _, Below.refl _ _⟩

end Go.Proofs.YtngohlegdjppeacDoor
