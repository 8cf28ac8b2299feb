/-
  The program's UnframeTorn: what it returns.
-/
import Derived.Test.YtngohlegdjppeacDoorUfS
import Derived.Test.YtngohlegdjppeacDoorABy
import Derived.Test.YtngohlegdjppeacDoorFF
namespace Go.Proofs.YtngohlegdjppeacDoor
open Go.RowKit
set_option linter.unusedVariables false

set_option maxRecDepth 100000 in
set_option maxHeartbeats 1000000 in
theorem implUnframeTorn_any (A : Option Addr) (xs : List Int) (c : Nat) (w : World) (h : IntsAt w w.heap.size A xs) (hnil : A = none → c = 0) (hc : xs.length ≤ c) :
    Calls Tryd.prog 20 #[.slice A xs.length c] w (GivesIntsV w (unfrBytes xs) (.int .i64 (unfrSize xs))) := by
  by_cases hok : BytesOk 2000 xs
  · rw [unfrBytes_ok hok, unfrSize_ok hok]
    have ht := hide (tf_true hok)
    have hl := hok.1
    clear hok
    obtain ⟨R, hR⟩ : ∃ R, R = (unfr xs.length xs).1 := ⟨_, rfl⟩
    obtain ⟨N, hN⟩ : ∃ N, N = (unfr xs.length xs).2 := ⟨_, rfl⟩
    have HR := hide hR
    have HN := hide hN
    rw [← hR, ← hN]
    clear hR hN
    have HS0 := hide (show UfS w w R N xs 0 none 0 [] from
      ⟨Below.refl _ _, OwnI.empty _ _, by rw [HR.out]; rfl, by rw [HN.out]; simp, Nat.zero_le _, Nat.zero_le _⟩)
    have Hnil := hide hnil
    clear hnil
    go_enter Tryd.func20, Tryd.ntmps20
    go_wp2_with fail
    refine (areBytes_any A xs c 2000 w h (by omega)).mono ?_
    rintro e w' ⟨rfl, rfl⟩
    rw [ht.out]
    go_wp2_with fail
    go_loopg [4, 5, 6] xs.length (fun gk ov iv _ wr => ∃ (i : Nat) (Ao : Option Addr) (co : Nat) (acc : List Int), gk = xs.length - i ∧ iv = .int .i64 (i : Int) ∧ ov = .slice Ao acc.length co ∧ UfS w wr R N xs i Ao co acc)
    case atStart => exact ⟨0, none, 0, [], rfl, rfl, rfl, HS0.out⟩
    case round =>
      clear HS0
      obtain ⟨i, Ao, co, acc, rfl, rfl, rfl, hS⟩ := hrel
      have HS := hide hS
      have hil := hS.le
      have hsum := hS.sum
      have hbs := hS.bel.size
      have hw0 : (i : Int) ≤ (xs.length : Int) := by omega
      by_cases hlt : i < xs.length
      · obtain ⟨b, off, y, rfl, hbl, hy, _, hcell⟩ := (h.below hS.bel).at_ hlt
        have HD : Hid ((xs.drop i).length = xs.length - i) := hide (by simp)
        have h0 : (xs.drop i)[0]? = some y := by rw [List.getElem?_drop]; simpa using hy
        have H0 := hide h0
        have Hy := hide hy
        have hw5 : ¬ c = i := by omega
        have hP := ((h.behind i).later hS.bel (Nat.le_refl _))
        have HP := hide hP
        clear hS hy h0 hP hcell
        by_cases h12 : 1 ≤ y ∧ y ≤ 200 ∧ i + y.toNat < xs.length
        · obtain ⟨q, rfl⟩ := Int.eq_ofNat_of_zero_le (show 0 ≤ y by omega)
          obtain ⟨h1, h2, h3⟩ := h12
          rw [Int.toNat_natCast] at h3
          have HT : Hid ((((xs.drop i).drop 1).take q).length = q) := hide (by simp; omega)
          have HE : Hid (((xs.drop i).drop 1).take q = (xs.drop (i + 1)).take q) := hide (by rw [List.drop_drop])
          have hq0 : (((q : Nat) : Int) == 0) = false := by simp only [beq_eq_false_iff_ne, ne_eq]; omega
          go_wp2_with fail
          have HC := firstFrame_yes (some ⟨b, off + i, none⟩) (xs.drop i) (c - i) q wr HP.out (by rw [HD.out]; omega) H0.out (by omega) (by omega) (by rw [HD.out]; omega) (by rw [HD.out]; omega)
          rw [HD.out] at HC
          refine HC.mono ?_
          clear HC
          rintro e w' ⟨A3, c3, rfl, hI3, hn3, rfl⟩
          rw [HT.out]
          have HI3 := hide hI3
          have Hn3 := hide hn3
          clear hI3 hn3
          go_wp2_with (at_builtin; refine append_ints rfl (.tmp 19) (.tmp 20) rfl w.heap.size Ao co acc rfl HS.out.own wr.heap.size A3 c3 (((xs.drop i).drop 1).take q) (congrArg (fun n => Value.slice A3 n c3) HT.out.symm) Hn3.out HI3.out (by rw [HT.out]; omega) hbs ?_; intro zs2 A2 c2 w2 e2 own2 hg2 _; have HG2 := hide hg2; have HO2 := hide own2; clear hg2 own2)
          go_roundg (xs.length - (i + 1 + q))
          case measure => omega
          case rel => exact ⟨i + 1 + q, A2, c2, zs2, rfl, by go_num, rfl, HS.out.step Hy.out (by omega) (by omega) h3 HG2.out (by rw [← HE.out]; exact e2) HO2.out⟩
        · have hE := HS.out.stop (fun h hh => by
            have : h = y := by have := hh.symm.trans Hy.out; injection this
            rw [this]; exact h12)
          obtain ⟨rfl, rfl⟩ := hE
          have HN := hide h12
          clear h12
          go_wp2_with fail
          have HC := firstFrame_no (some ⟨b, off + i, none⟩) (xs.drop i) (c - i) wr HP.out (fun h hh => by
            have : h = y := by have := hh.symm.trans H0.out; injection this
            subst this
            intro hh2
            exact HN.out ⟨hh2.1, hh2.2.1, by have := hh2.2.2; rw [HD.out] at this; omega⟩) (by rw [HD.out]; omega)
          rw [HD.out] at HC
          refine HC.mono ?_
          clear HC
          rintro e w' ⟨A3, c3, rfl, _, _, rfl⟩
          go_wp2
          go_ret2
          exact ⟨Ao, co, rfl, HS.out.own, HS.out.bel⟩
      · have hE := HS.out.stop (fun h hh => by
          have := (List.getElem?_eq_some_iff.1 hh).1
          omega)
        obtain ⟨rfl, rfl⟩ := hE
        obtain rfl : i = xs.length := by omega
        clear hS hlt hw0
        have HF := hide (fun (A' : Option Addr) (c' : Nat) => firstFrame_no A' [] c' wr (IntsAt.empt _) (fun h hh => by cases hh) (by simp))
        rcases A with _ | ad
        · obtain rfl := Hnil.out rfl
          obtain rfl : xs = [] := List.eq_nil_of_length_eq_zero (by omega)
          go_wp2_with fail
          refine (HF.out none 0).mono ?_
          rintro e w' ⟨A3, c3, rfl, _, _, rfl⟩
          go_wp2
          go_ret2
          exact ⟨Ao, co, rfl, HS.out.own, HS.out.bel⟩
        · by_cases hcap : c = xs.length
          · subst hcap
            go_wp2_with fail
            refine (HF.out _ _).mono ?_
            rintro e w' ⟨A3, c3, rfl, _, _, rfl⟩
            go_wp2
            go_ret2
            exact ⟨Ao, co, rfl, HS.out.own, HS.out.bel⟩
          · go_wp2_with fail
            refine (HF.out _ _).mono ?_
            rintro e w' ⟨A3, c3, rfl, _, _, rfl⟩
            go_wp2
            go_ret2
            exact ⟨Ao, co, rfl, HS.out.own, HS.out.bel⟩
  · rw [unfrBytes_no hok, unfrSize_no hok]
    have ht := hide (tf_false hok)
    clear hok
    go_enter Tryd.func20, Tryd.ntmps20
    go_wp2_with fail
    refine (areBytes_any A xs c 2000 w h (by omega)).mono ?_
    rintro e w' ⟨rfl, rfl⟩
    rw [ht.out]
    go_wp2
    go_ret2
    exact ⟨none, 0, rfl, OwnI.empty _ _, Below.refl _ _⟩

end Go.Proofs.YtngohlegdjppeacDoor
