/-
  The model's CodeMany: what it returns.
-/
import Derived.Test.YthdldkbeccmcmabCmM
import Derived.Test.YthdldkbeccmcmabCodS
import Derived.Test.YthdldkbeccmcmabSpecE
import Derived.Test.YthdldkbeccmcmabAllIn
import Derived.Deep.RegionHeld3
namespace Go.Proofs.Ythdldkbeccmcmab
open Go.RowKit Go.Maps
set_option linter.unusedVariables false

set_option maxHeartbeats 1000000 in
theorem validRoots_any (A : Option Addr) (ns : List Nd) (c : Nat) (r : Int) (Ar : Option Addr) (rs : List Int) (cr : Nat) (w : World) (hr : NdsAt w w.heap.size A ns) (hR : IntsAt w w.heap.size Ar rs) :
    Calls Try.prog 13 #[.agg #[.slice A ns.length c, .int .i64 r], .slice Ar rs.length cr] w fun e w' => e = .returned (.bool (tf (RootsOk ns r rs))) ∧ Below w.heap.size w w' := by
  have hB : Below w.heap.size w (w.alloc (.cells #[.slice A ns.length c, .int .i64 r] 25)) := (Below.refl _ _).alloc (Nat.le_refl _) _
  have l1 := Lies.new w #[.slice A ns.length c, .int .i64 r] 25
  have hr2 := hr.later hB (Nat.le_refl _)
  have hR2 := hR.later hB (Nat.le_refl _)
  have hnl := hr.len
  have hrl := hR.len
  clear hr hR
  by_cases hv : ValidG ns r
  · have HV := hide (tf_true hv)
    by_cases h5 : rs.length ≤ 5
    · have HE : Hid (tf (RootsOk ns r rs) = tf (AllIn rs 0 ((ns.length : Int) - 1))) := hide (tf_congr ⟨fun h x hx => by have := h.2.2 x hx; omega, fun h => ⟨hv, h5, fun x hx => by have := h x hx; omega⟩⟩)
      clear hv
      go_enter Try.func13, Try.ntmps13
      go_wp2_with fail
      generalize w.alloc (.cells #[.slice A ns.length c, .int .i64 r] 25) = W at hB l1 hr2 hR2 ⊢
      refine (specValidGraph_any A ns c r W hr2).mono ?_
      rintro e w1 ⟨rfl, hb1⟩
      rw [HV.out]
      have l2 := l1.below hb1 l1.lt
      have hR3 := hR2.later hb1 (Nat.le_refl _)
      have hB1 := hB.trans (hb1.mono hB.size)
      have e0 := l2.cell 0
      simp at e0
      clear l1 hr2 hb1 hB hR2 l2
      go_wp2_with fail
      refine (allIn_any Ar rs cr 0 ((ns.length : Int) - 1) w1 hR3).mono ?_
      rintro e w' ⟨rfl, rfl⟩
      go_wp2
      go_ret
      exact ⟨ret_bool HE.out.symm, hB1⟩
    · have HF := hide (show tf (RootsOk ns r rs) = false from tf_false fun h => h5 h.2.1)
      clear hv
      go_enter Try.func13, Try.ntmps13
      go_wp2_with fail
      refine (specValidGraph_any A ns c r _ hr2).mono ?_
      rintro e w1 ⟨rfl, hb1⟩
      rw [HV.out]
      have hB1 := hB.trans (hb1.mono hB.size)
      clear l1 hr2 hb1 hB hR2
      go_wp2
      go_ret
      exact ⟨ret_bool HF.out.symm, hB1⟩
  · have HF := hide (show tf (RootsOk ns r rs) = false from tf_false fun h => hv h.1)
    have HV := hide (tf_false hv)
    clear hv
    go_enter Try.func13, Try.ntmps13
    go_wp2_with fail
    refine (specValidGraph_any A ns c r _ hr2).mono ?_
    rintro e w1 ⟨rfl, hb1⟩
    rw [HV.out]
    have hB1 := hB.trans (hb1.mono hB.size)
    clear l1 hr2 hb1 hB hR2
    go_wp2
    go_ret
    exact ⟨ret_bool HF.out.symm, hB1⟩

/-- the memory while the codes of roots are put together -/
structure CmS (w wr : World) (Ao : Option Addr) (co : Nat) (P : List Int) (Am : Option Addr) (cm : Nat) (Q : List Int) : Prop where
  bel : Below w.heap.size w wr
  own : OwnI wr w.heap.size Ao co P
  met : IntsAt wr wr.heap.size Am Q
  nil : Am = none → cm = 0

set_option maxRecDepth 100000 in
set_option maxHeartbeats 2000000 in
theorem specCodes_any (ns : List Nd) (K : Nat) (hg : CodG ns K) (hl : ns.length ≤ 1048576) (A : Option Addr) (c : Nat) (r : Int) (Ar : Option Addr) (cr : Nat) (rs : List Int) (hM : 3 * rs.length + 3 + 3 * (K * ns.length) ≤ 16000000) (w : World) (hr : NdsAt w w.heap.size A ns)
    (hR : IntsAt w w.heap.size Ar rs) (hin : ∀ x ∈ rs, 0 ≤ x ∧ x < ns.length) :
    Calls Try.prog 14 #[.agg #[.slice A ns.length c, .int .i64 r], .slice Ar rs.length cr] w (GivesInts w (codesOf ns rs)) := by
  have Hg := hide hg
  have hB : Below w.heap.size w (((w.alloc (.cells #[.slice A ns.length c, .int .i64 r] 25)).alloc (.cells #[] 3)).alloc (.cells #[] 3)) := (((Below.refl _ _).alloc (Nat.le_refl _) _).alloc (by simp) _).alloc (by simp; omega) _
  have l1 := ((Lies.new w #[.slice A ns.length c, .int .i64 r] 25).alloc (.cells #[] 3)).alloc (.cells #[] 3)
  have o1 := (OwnI.bare (w.alloc (.cells #[.slice A ns.length c, .int .i64 r] 25))).alloc (.cells #[] 3)
  have o2 := OwnI.bare ((w.alloc (.cells #[.slice A ns.length c, .int .i64 r] 25)).alloc (.cells #[] 3))
  simp only [World.size_alloc] at o1 o2
  have hrl : rs.length ≤ 16000000 := by omega
  have Hr := hide hr
  have HR := hide hR
  have Hin := hide hin
  clear hr hg hR hin
  go_enter Try.func14, Try.ntmps14
  go_wp2_with fail
  generalize ((w.alloc (.cells #[.slice A ns.length c, .int .i64 r] 25)).alloc (.cells #[] 3)).alloc (.cells #[] 3) = W at hB l1 o1 o2 ⊢
  have HS0 := hide (show CmS w W (some ⟨w.heap.size + 1, 0, none⟩) 0 [] (some ⟨w.heap.size + 1 + 1, 0, none⟩) 0 [] from ⟨hB, o1.mono (by omega), o2.ints (by simp) (by simp), fun e => by cases e⟩)
  have HL := hide (show Lies W w.heap.size #[.slice A ns.length c, .int .i64 r] 25 from l1)
  have hWl : w.heap.size < W.heap.size := l1.lt
  have HBW := hide hB
  clear l1 o1 o2 hB
  go_loopw [5, 6, 7] (fun ov mv iv wr => ∃ (k : Nat) (Ao : Option Addr) (co : Nat) (P : List Int) (Am : Option Addr) (cm : Nat) (Q : List Int), k ≤ rs.length ∧ iv = .int .i64 (k : Int) ∧ ov = .slice Ao P.length co ∧ mv = .slice Am Q.length cm ∧ codL ns (ns.length + 1) (rs.take k) ([], []) = (P, Q) ∧ CmS w wr Ao co P Am cm Q ∧ Below W.heap.size W wr) (fun _ _ iv _ => rs.length - (intOf iv).toNat)
  case atStart => exact ⟨0, _, 0, [], _, 0, [], Nat.zero_le _, rfl, rfl, rfl, rfl, HS0.out, Below.refl _ _⟩
  case round =>
    clear HS0
    obtain ⟨k, Ao, co, P, Am, cm, Q, hk, rfl, rfl, rfl, hP, hS, hb⟩ := hrel
    have HP := hide hP
    have HS := hide hS
    have hsz := hS.bel.size
    clear hP hS
    by_cases hlt : k < rs.length
    · obtain ⟨b, off, x, rfl, hbl, hx, hmem, hcx⟩ := (HR.out.below HS.out.bel).at_ hlt
      obtain ⟨hx0, hx1⟩ := Hin.out x hmem
      have hT : rs.take (k + 1) = rs.take k ++ [x] := by rw [List.take_add_one, hx]; rfl
      have HT : Hid (codL ns (ns.length + 1) (rs.take (k + 1)) ([], []) = cod ns (ns.length + 1) x (P, Q)) := hide (by rw [hT, codL_snoc, HP.out])
      have hall := codedAll ns K Hg.out hl (ns.length + 1) (rs.take k) ([], []) (CInv.start ns) (fun y hy => Hin.out y (List.mem_of_mem_take hy)) (fun _ => by simp)
      rw [HP.out] at hall
      have HI := hide hall.inv
      have hlen := hall.len
      have hml := hall.inv.met.len
      simp only [List.length_nil, Nat.mul_zero, Nat.add_zero, Nat.zero_add, List.length_take] at hlen
      have hMM : P.length + 3 + 3 * (K * (ns.length - Q.length)) ≤ 16000000 := by
        have e1 : K * (ns.length - Q.length) + K * Q.length = K * ns.length := by rw [← Nat.mul_add, Nat.sub_add_cancel hml]
        omega
      obtain ⟨i, rfl⟩ := Int.eq_ofNat_of_zero_le hx0
      have hi : i < ns.length := by omega
      have l2 := HL.out.below hb hWl
      have e0 := l2.cell 0
      have e1 := l2.cell 1
      simp at e0 e1
      have HB := hide hb
      have hk1 : (0 : Int) ≤ (k : Int) := by omega
      have hk2 : (k : Int) < (rs.length : Int) := by omega
      have HD := hide ((Below.refl wr.heap.size wr).drew)
      have HPi := hide ((HS.out.own.ints HI.out.wf (by omega)).later HD.out (Nat.le_refl _))
      have HMt := hide (HS.out.met.later HD.out (Nat.le_refl _))
      have HPn := hide HS.out.own.nil
      have hPl : P.length ≤ 16000000 := by omega
      have HNs := hide ((Hr.out.later HS.out.bel (Nat.le_refl _)).later HD.out (Nat.le_refl _))
      have HSn := hide HS.out.nil
      have HBd := hide (HS.out.bel.trans (HD.out.mono hsz))
      have HBw := hide (HB.out.trans (HD.out.mono HB.out.size))
      have hszd : w.heap.size ≤ wr.drew.heap.size := HBd.out.size
      clear hall hlen hx hmem hT hx0 hx1 l2 hb
      have z1 : w.heap.size < wr.heap.size := by have := HB.out.size; omega
      have z3 : b < wr.heap.size := by omega
      go_wp2_with fail
      go_region_held3 (fun w' => w'.cell? ⟨w.heap.size, 0, none⟩ = some (.slice A ns.length c) ∧ w'.cell? ⟨w.heap.size, 1, none⟩ = some (.int .i64 r) ∧ w'.cell? ⟨b, off + k, none⟩ = some (.int .i64 (i : Int)))
        (first
          | (go_split_ands; refine ⟨?_, ?_, ?_⟩ <;> assumption))
        (first
          | (go_at_call 25; refine (code_any ns K 16000000 Hg.out hl (by omega) A c r (ns.length + 1) i P Q Ao co Am cm _ hi HI.out HNs.out HPi.out HPn.out HMt.out HSn.out (by omega) hMM).mono ?_; rintro e w1 ⟨A1, c1, A2, c2, rfl, hb1, hown, hm1, hm2, _⟩; have q0 := (hb1.cell (p := ⟨w.heap.size, 0, none⟩) z1).trans e0; have q1 := (hb1.cell (p := ⟨w.heap.size, 1, none⟩) z1).trans e1; have q2 := (hb1.cell (p := ⟨b, off + k, none⟩) z3).trans hcx))
      have HS1 := hide (show CmS w w1 A1 c1 (cod ns (ns.length + 1) (i : Int) (P, Q)).1 A2 c2 (cod ns (ns.length + 1) (i : Int) (P, Q)).2 from ⟨HBd.out.trans (hb1.mono hszd), hown.mono hszd, hm1, hm2⟩)
      have HB1 := hide (HBw.out.trans (hb1.mono HBw.out.size))
      clear hown hb1 hm1 hm2 e0 e1 hMM hml q0 q1 q2 hcx
      generalize hz : cod ns (ns.length + 1) (i : Int) (P, Q) = Z at HT HS1 ⊢
      have HZ := hide hz
      clear hz
      go_wp2
      go_roundw
      case rel => exact ⟨k + 1, A1, c1, _, A2, c2, _, by omega, by go_num, rfl, rfl, HT.out, HS1.out, HB1.out⟩
      case measure => simp [intOf]; omega
    · obtain rfl : k = rs.length := by omega
      rw [List.take_length] at HP
      clear hb
      go_wp2
      go_ret
      have e1 : codesOf ns rs = P := by unfold codesOf; rw [HP.out]
      rw [e1]
      exact ⟨Ao, co, rfl, HS.out.own, HS.out.bel⟩

set_option maxHeartbeats 1000000 in
theorem specCodeMany_any (A : Option Addr) (ns : List Nd) (c : Nat) (r : Int) (Ar : Option Addr) (rs : List Int) (cr : Nat) (w : World) (hr : NdsAt w w.heap.size A ns) (hR : IntsAt w w.heap.size Ar rs) :
    Calls Try.prog 7 #[.agg #[.slice A ns.length c, .int .i64 r], .slice Ar rs.length cr] w (GivesInts w (codeMany ns r rs)) := by
  have hB : Below w.heap.size w (w.alloc (.cells #[.slice A ns.length c, .int .i64 r] 25)) := (Below.refl _ _).alloc (Nat.le_refl _) _
  have l1 := Lies.new w #[.slice A ns.length c, .int .i64 r] 25
  have hr2 := hr.later hB (Nat.le_refl _)
  have hR2 := hR.later hB (Nat.le_refl _)
  have hwf := hide hr.wf
  clear hr hR
  by_cases hv : RootsOk ns r rs
  · have HV := hide (tf_true hv)
    have hg := hide (codG_of_valid hv.1 hwf.out)
    have h12 := hv.1.few
    have h5 := hv.2.1
    have Hin := hide hv.2.2
    have he := hide (codeMany_ok hv)
    clear hv
    go_enter Try.func7, Try.ntmps7
    go_wp2_with fail
    generalize w.alloc (.cells #[.slice A ns.length c, .int .i64 r] 25) = W at hB l1 hr2 hR2 ⊢
    refine (validRoots_any A ns c r Ar rs cr W hr2 hR2).mono ?_
    rintro e w1 ⟨rfl, hb1⟩
    rw [HV.out]
    have l2 := l1.below hb1 l1.lt
    have hr3 := hr2.later hb1 (Nat.le_refl _)
    have hR3 := hR2.later hb1 (Nat.le_refl _)
    have hB1 := hB.trans (hb1.mono hB.size)
    have e0 := l2.cell 0
    have e1 := l2.cell 1
    simp at e0 e1
    clear l1 hr2 hb1 hB hR2 l2
    go_wp2_with fail
    refine (specCodes_any ns 6 hg.out (by omega) A c r Ar cr rs (by omega) w1 hr3 hR3 Hin.out).mono ?_
    rintro e w2 ⟨Ao, co, rfl, hown, hb2⟩
    have Hfin : Hid (GivesInts w (codeMany ns r rs) (.returned (.slice Ao (codesOf ns rs).length co)) w2) := by
      show GivesInts _ _ _ _
      rw [he.out]
      exact ⟨Ao, co, rfl, hown.mono hB1.size, hB1.trans (hb2.mono hB1.size)⟩
    clear hown hb2 e0 e1
    go_wp2
    go_ret
    exact Hfin.out
  · have HV := hide (tf_false hv)
    have he := hide (codeMany_no hv)
    clear hv
    go_enter Try.func7, Try.ntmps7
    go_wp2_with fail
    refine (validRoots_any A ns c r Ar rs cr _ hr2 hR2).mono ?_
    rintro e w1 ⟨rfl, hb1⟩
    rw [HV.out]
    have hB1 := hB.trans (hb1.mono hB.size)
    clear hb1 hB hr2 hR2 l1
    go_wp2
    go_ret
    rw [he.out]
    exact ⟨none, 0, rfl, OwnI.empty _ _, hB1⟩

end Go.Proofs.Ythdldkbeccmcmab
