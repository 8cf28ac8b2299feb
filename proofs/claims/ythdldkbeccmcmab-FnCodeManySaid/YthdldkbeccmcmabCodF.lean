/-
  The program's codeFrom, whole.
-/
import Derived.Test.YthdldkbeccmcmabCodI
import Derived.Test.YthdldkbeccmcmabCodM
namespace Go.Proofs.Ythdldkbeccmcmab
open Go.RowKit Go.Maps
set_option linter.unusedVariables false


set_option maxRecDepth 100000 in
set_option maxHeartbeats 2000000 in
theorem codeFroms_any (ns : List Nd) (K : Nat) (hg : CodG ns K) (hl : ns.length ≤ 1048576) (A : Option Addr) (c : Nat) (Ar : Option Addr) (cr : Nat) (roots : List Int) (hM : 3 * roots.length + 3 + 3 * (K * ns.length) ≤ 16000000) (w : World) (hr : NdsAt w w.heap.size A ns)
    (hR : IntsAt w w.heap.size Ar roots) (hin : ∀ x ∈ roots, 0 ≤ x ∧ x < ns.length) :
    Calls Try.prog 12 #[.slice A ns.length c, .slice Ar roots.length cr] w (GivesInts w (codL ns (ns.length + 1) roots ([], [])).1) := by
  have Hg := hide hg
  have hB : Below w.heap.size w ((((w.alloc (.cells #[.slice A ns.length c] 23)).alloc (.cells #[.slice none 0 0] 26)).alloc (.cells #[.map none, .slice none 0 0] 47)).alloc
    (.cells #[.func (.func 20) #[] #[.pointer (some ⟨w.heap.size, 0, none⟩), .pointer (some ⟨w.heap.size + 1 + 1, 0, none⟩), .pointer (some ⟨w.heap.size + 1, 0, none⟩), .pointer (some ⟨w.heap.size + 1 + 1 + 1, 0, none⟩)]] 48)) :=
    ((((Below.refl _ w).alloc (Nat.le_refl _) _).alloc (by simp) _).alloc (by simp <;> omega) _).alloc (by simp <;> omega) _
  have henv : CEnv ((((w.alloc (.cells #[.slice A ns.length c] 23)).alloc (.cells #[.slice none 0 0] 26)).alloc (.cells #[.map none, .slice none 0 0] 47)).alloc
    (.cells #[.func (.func 20) #[] #[.pointer (some ⟨w.heap.size, 0, none⟩), .pointer (some ⟨w.heap.size + 1 + 1, 0, none⟩), .pointer (some ⟨w.heap.size + 1, 0, none⟩), .pointer (some ⟨w.heap.size + 1 + 1 + 1, 0, none⟩)]] 48)) (w.heap.size + 1 + 1 + 1 + 1) w.heap.size (w.heap.size + 1) (w.heap.size + 1 + 1) (w.heap.size + 1 + 1 + 1) A c ns [] [] := by
    refine ⟨?_, ?_, ⟨none, none, 0, none, 0, SetI.start ?_ (by omega), ?_, OwnI.empty _ _, fun g hg => by cases hg⟩, hr.below hB, by omega, by omega, by omega, by omega, by simp⟩
    · exact (((Lies.new w #[.slice A ns.length c] 23).alloc _).alloc _).alloc _
    · have := Lies.new (((w.alloc (.cells #[.slice A ns.length c] 23)).alloc (.cells #[.slice none 0 0] 26)).alloc (.cells #[.map none, .slice none 0 0] 47)) #[.func (.func 20) #[] #[.pointer (some ⟨w.heap.size, 0, none⟩), .pointer (some ⟨w.heap.size + 1 + 1, 0, none⟩), .pointer (some ⟨w.heap.size + 1, 0, none⟩), .pointer (some ⟨w.heap.size + 1 + 1 + 1, 0, none⟩)]] 48
      simpa using this
    · have := (Lies.new ((w.alloc (.cells #[.slice A ns.length c] 23)).alloc (.cells #[.slice none 0 0] 26)) #[.map none, .slice none 0 0] 47).alloc (.cells #[.func (.func 20) #[] #[.pointer (some ⟨w.heap.size, 0, none⟩), .pointer (some ⟨w.heap.size + 1 + 1, 0, none⟩), .pointer (some ⟨w.heap.size + 1, 0, none⟩), .pointer (some ⟨w.heap.size + 1 + 1 + 1, 0, none⟩)]] 48)
      simpa using this
    · have := ((Lies.new (w.alloc (.cells #[.slice A ns.length c] 23)) #[.slice none 0 0] 26).alloc (.cells #[.map none, .slice none 0 0] 47)).alloc (.cells #[.func (.func 20) #[] #[.pointer (some ⟨w.heap.size, 0, none⟩), .pointer (some ⟨w.heap.size + 1 + 1, 0, none⟩), .pointer (some ⟨w.heap.size + 1, 0, none⟩), .pointer (some ⟨w.heap.size + 1 + 1 + 1, 0, none⟩)]] 48)
      simpa using this
  have Henv := hide henv
  have Hin := hide hin
  have hrl : roots.length ≤ 16000000 := by omega
  clear hg henv hr hin
  go_enter Try.func12, Try.ntmps12
  go_wp2_with fail
  generalize ((((w.alloc (.cells #[.slice A ns.length c] 23)).alloc (.cells #[.slice none 0 0] 26)).alloc (.cells #[.map none, .slice none 0 0] 47)).alloc
    (.cells #[.func (.func 20) #[] #[.pointer (some ⟨w.heap.size, 0, none⟩), .pointer (some ⟨w.heap.size + 1 + 1, 0, none⟩), .pointer (some ⟨w.heap.size + 1, 0, none⟩), .pointer (some ⟨w.heap.size + 1 + 1 + 1, 0, none⟩)]] 48)) = W at hB Henv ⊢
  obtain ⟨bn, hbn⟩ : ∃ b, b = w.heap.size := ⟨_, rfl⟩
  rw [← hbn] at Henv ⊢
  have hRW : IntsAt W bn Ar roots := by rw [hbn]; exact hR.below hB
  have HB0 : Hid (Below bn w W) := hide (by rw [hbn]; exact hB)
  have Hbn := hide hbn
  clear hR hB hbn
  go_loopw [9, 13] (fun _ iv wr => ∃ (k : Nat) (P Q : List Int), k ≤ roots.length ∧ iv = .int .i64 (k : Int) ∧ codL ns (ns.length + 1) (roots.take k) ([], []) = (P, Q) ∧ CEnv wr (bn + 1 + 1 + 1 + 1) bn (bn + 1) (bn + 1 + 1) (bn + 1 + 1 + 1) A c ns P Q ∧ Below bn W wr) (fun _ iv _ => roots.length - (intOf iv).toNat)
  case atStart => exact ⟨0, [], [], Nat.zero_le _, rfl, rfl, Henv.out, Below.refl _ _⟩
  case round =>
    clear Henv
    obtain ⟨k, P, Q, hk, rfl, hP, hE, hb⟩ := hrel
    have HP := hide hP
    have HE := hide hE
    clear hP hE
    by_cases hlt : k < roots.length
    · obtain ⟨b, off, x, rfl, hbl, hx, hmem, hcx⟩ := (hRW.below hb).at_ hlt
      obtain ⟨hx0, hx1⟩ := Hin.out x hmem
      have hT : roots.take (k + 1) = roots.take k ++ [x] := by rw [List.take_add_one, hx]; rfl
      have HS : Hid (codL ns (ns.length + 1) (roots.take (k + 1)) ([], []) = cod ns (ns.length + 1) x (P, Q)) := hide (by rw [hT, codL_snoc, HP.out])
      have hall := codedAll ns K Hg.out hl (ns.length + 1) (roots.take k) ([], []) (CInv.start ns) (fun y hy => Hin.out y (List.mem_of_mem_take hy)) (fun _ => by simp)
      rw [HP.out] at hall
      have HI := hide hall.inv
      have hlen := hall.len
      have hml := hall.inv.met.len
      simp only [List.length_nil, Nat.mul_zero, Nat.add_zero, Nat.zero_add, List.length_take] at hlen
      have hMM : P.length + 3 + 3 * (K * (ns.length - Q.length)) ≤ 16000000 := by
        have e1 : K * (ns.length - Q.length) + K * Q.length = K * ns.length := by rw [← Nat.mul_add, Nat.sub_add_cancel hml]
        omega
      obtain ⟨i, rfl⟩ := Int.eq_ofNat_of_zero_le hx0
      have hi : i < ns.length := by omega
      have s0 := HE.out.self.cell 0
      simp at s0
      have hk1 : (0 : Int) ≤ (k : Int) := by omega
      have hk2 : (k : Int) < (roots.length : Int) := by omega
      clear hall hlen hx hmem hT hx0 hx1
      go_wp2_with fail
      refine (codw_any ns K 16000000 Hg.out hl (by omega) _ _ _ _ _ A c (ns.length + 1) i P Q wr hi HI.out HE.out (by omega) hMM).mono ?_
      rintro e w1 ⟨rfl, he, hb1⟩
      have HE1 := hide he
      have hB1 := hb1.below hb (by omega) (by omega) (by omega)
      clear he hb1 s0 hMM hml
      go_wp2
      go_roundw
      case rel => exact ⟨k + 1, _, _, by omega, by go_num, HS.out, HE1.out, hB1⟩
      case measure => simp [intOf]; omega
    · obtain rfl : k = roots.length := by omega
      obtain ⟨m, Am, cm, Ac, cc, _, hcode, hown, _⟩ := HE.out.st
      have z0 := hcode.cell 0
      simp at z0
      rw [List.take_length] at HP
      have Hown := hide hown
      have Hb := hide hb
      clear hcode hown hb
      go_wp2
      go_ret
      have e1 : (codL ns (ns.length + 1) roots ([], [])).1 = P := by rw [HP.out]
      rw [e1]
      exact ⟨Ac, cc, rfl, Hown.out.mono (by rw [← Hbn.out]; omega), by rw [← Hbn.out]; exact HB0.out.trans Hb.out⟩

theorem codL_one (ns : List Nd) (f : Nat) (x : Int) (p : CM) : codL ns f [x] p = cod ns f x p := rfl

end Go.Proofs.Ythdldkbeccmcmab
