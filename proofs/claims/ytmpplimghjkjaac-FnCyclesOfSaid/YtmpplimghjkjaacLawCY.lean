/-
  The walk of the law FnCyclesOf: for every text it returns true and writes nothing that was there.
-/
import Derived.Test.YtmpplimghjkjaacDrawCY
import Derived.Test.YtmpplimghjkjaacImplR
import Derived.Test.YtmpplimghjkjaacCycS2
import Derived.Test.YtmpplimghjkjaacSharedI
import Derived.Test.YtmpplimghjkjaacTreeI2
import Derived.Test.YtmpplimghjkjaacShTr
import Derived.Test.YtmpplimghjkjaacLawG
namespace Go.Proofs.Ytmpplimghjkjaac
open Go.RowKit
set_option linter.unusedVariables false

theorem cyclesOf_few (ns : List Nd) (r : Int) : (cyclesOf ns r).length ≤ 12 := by
  unfold cyclesOf
  split
  · next hv =>
    have := pickTo_len (isCyc ns r) ns.length
    have := hv.few
    omega
  · simp
theorem cyclesOf_64 (ns : List Nd) (r : Int) : ∀ x ∈ cyclesOf ns r, In64 x := by
  unfold cyclesOf
  split
  · next hv => exact pickTo_64 (by have := hv.few; omega)
  · intro x hx; simp at hx
theorem cyclesOf_valid {ns : List Nd} {r : Int} (h : cyclesOf ns r ≠ []) : ValidG ns r := by
  by_cases hv : ValidG ns r
  · exact hv
  · unfold cyclesOf at h
    rw [if_neg hv] at h
    exact absurd rfl h

set_option maxRecDepth 100000 in
set_option maxHeartbeats 4000000 in
theorem lawCY_any (A : Option Addr) (n c : Nat) (w : World) (h : BytesAt w w.heap.size A n) (hc : n ≤ c) (hn : n ≤ 9223372036854775807) :
    Calls Try.prog 3 #[.slice A n c] w fun e w' => e = .returned (.bool true) ∧ Below w.heap.size w w' := by
  by_cases hbig : 1048576 < n
  · have d : decide ((1048576 : Int) < (n : Int)) = true := by simp; omega
    go_enter Try.func3, Try.ntmps3
    go_wp2
    go_ret
    exact ⟨rfl, Below.refl _ _⟩
  · have d : decide ((1048576 : Int) < (n : Int)) = false := by simp; omega
    go_enter Try.func3, Try.ntmps3
    go_wp2_with fail
    refine (drawCyclesOf_any A n c w h hc hn).mono ?_
    rintro e w1 ⟨g, cap, ns, r, rfl, hnds, h1, h10, hr64, hb1⟩
    have hb2 := hb1.alloc hb1.size (.cells #[.slice (some ⟨g, 0, none⟩) ns.length cap, .int .i64 r] 25)
    have l2 := Lies.new w1 #[.slice (some ⟨g, 0, none⟩) ns.length cap, .int .i64 r] 25
    have hn2 := hnds.later ((Below.refl w1.heap.size w1).alloc (Nat.le_refl _) (.cells #[.slice (some ⟨g, 0, none⟩) ns.length cap, .int .i64 r] 25)) (Nat.le_refl _)
    have hsz := hb1.size
    have e0 := l2.cell 0
    have e1 := l2.cell 1
    simp at e0 e1
    clear hnds hb1 h
    go_wp2_with fail
    generalize w1.alloc (.cells #[.slice (some ⟨g, 0, none⟩) ns.length cap, .int .i64 r] 25) = w2 at hb2 l2 hn2 e0 e1 ⊢
    generalize w1.heap.size = bg at l2 hsz e0 e1 ⊢
    have HI := implCyclesOf_any (some ⟨g, 0, none⟩) ns cap r w2 hn2
    refine HI.mono ?_
    clear HI
    rintro e w3 ⟨Ag, cg, rfl, hoG, hb3⟩
    have l3 := l2.below hb3 l2.lt
    have hn3 := hn2.later hb3 (Nat.le_refl _)
    have hB3 := hb2.trans (hb3.mono hb2.size)
    have hSf := cyclesOf_few ns r
    have H64 := hide (cyclesOf_64 ns r)
    have e0 := l3.cell 0
    have e1 := l3.cell 1
    simp at e0 e1
    clear l2 hn2 hb2 hb3
    go_wp2_with fail
    have HI := specCyclesOf_any (some ⟨g, 0, none⟩) ns cap r w3 hn3
    refine HI.mono ?_
    clear HI
    rintro e w4 ⟨Aw, cw, rfl, hoW, hb4⟩
    have HV : Hid (cyclesOf ns r ≠ [] → ValidG ns r ∧ (∀ x ∈ cyclesOf ns r, x ∈ reachOf ns r) ∧ (∃ x ∈ cyclesOf ns r, x ∈ sharedOf ns r) ∧ (∃ x ∈ cyclesOf ns r, kindOf ns x = 3 ∨ kindOf ns x = 4 ∨ kindOf ns x = 5) ∧ treeN ns r = 5000) := hide (fun hne => by
      have hv := cyclesOf_valid hne
      exact ⟨hv, fun x hx => (reach_iff hv x).2 ((mem_cycles hv).1 hx).1, cycle_shared hv hne, cycle_changes hv hne, cycle_tree hv hne⟩)
    generalize hSd : cyclesOf ns r = C at hoG hoW hSf HV H64 ⊢
    have HSd := hide hSd
    clear hSd
    have hcap := hoG.capLe
    have hoG4 := hoG.below hb4
    have iG := hoG4.ints H64.out (by omega)
    have iW := hoW.ints H64.out (by omega)
    have L4 : LawS w w4 bg g cap Ag ns r C := ⟨hB3.trans (hb4.mono hB3.size), l3.below hb4 l3.lt, hn3.later hb4 (Nat.le_refl _), iG⟩
    clear l3 hn3 hB3 hb4 hoG hoW e0 e1 hoG4
    go_wp2_with fail
    refine (equalInts_any Ag Aw C C cg cw w4 iG iW).mono ?_
    rintro e w5 ⟨rfl, hb5⟩
    have hself : decide (C = C) = true := by simp
    rw [hself]
    have L5 := L4.below hb5
    obtain ⟨e0, e1⟩ := L5.cells
    clear L4 iG iW hb5 hself
    by_cases hne : C = []
    · have HE := hide hne
      have hz : ((C.length : Int) == 0) = true := beq_iff_eq.2 (by rw [hne]; rfl)
      clear hne
      go_wp2_with fail
      refine (specCyclesOf_any (some ⟨g, 0, none⟩) ns cap r w5 L5.nd).mono ?_
      rintro e w7 ⟨Ax, cx, rfl, hoX, hb7⟩
      rw [HSd.out] at hoX ⊢
      have L7 := L5.below hb7
      have iX := hoX.ints H64.out (by omega)
      clear hb7 L5 hoX e0 e1
      go_wp2_with fail
      refine (equalInts_any Ag Ax C C cg cx w7 L7.out iX).mono ?_
      rintro e w8 ⟨rfl, hb8⟩
      have hself : decide (C = C) = true := by simp
      rw [hself]
      have HB := hide (L7.below hb8).bel
      clear hb8 L7 iX hself
      go_wp2
      go_ret
      exact ⟨rfl, HB.out⟩
    · have hlen : 0 < C.length := List.length_pos_iff.2 hne
      have hz : ((C.length : Int) == 0) = false := beq_eq_false_iff_ne.2 (by omega)
      have HH := hide (HV.out hne)
      have HRr : Hid (∀ x ∈ C, 0 ≤ x ∧ x < ns.length) := hide (fun x hx => (reachOf_met (ns := ns) (r := r)).range x (HH.out.2.1 x hx))
      have HS := hide HH.out.2.2.1
      have HK := hide HH.out.2.2.2.1
      have hSf2 := sharedOf_few ns r
      have H64S := hide (sharedOf_64 ns r)
      clear hne
      go_wp2_with fail
      refine (implSharedOf_any (some ⟨g, 0, none⟩) ns cap r w5 L5.nd).mono ?_
      rintro e w6 ⟨Al, cl, rfl, hoL, hb6⟩
      have L6 := hide (L5.below hb6)
      have i6 := hide (hoL.ints H64S.out (by omega))
      generalize sharedOf ns r = S at hSf2 HS H64S i6 ⊢
      clear L5 hb6 hoL e0 e1 hlen hz HV
      go_wp2_with fail
      go_loopg [6, 7] C.length (fun gk mv jv wi => ∃ (j : Nat) (b2 : Bool), j ≤ C.length ∧ gk = C.length - j ∧ mv = .bool b2 ∧ jv = .int .i64 (j : Int) ∧ LawS w wi bg g cap Ag ns r C ∧ IntsAt wi wi.heap.size Al S ∧ (b2 = false → ∀ (m : Nat) (y : Int), m < j → C[m]? = some y → y ∉ S))
      case atStart => exact ⟨0, false, Nat.zero_le _, rfl, rfl, rfl, L6.out, i6.out, fun _ m y hm => absurd hm (by omega)⟩
      case round =>
        clear L6 i6
        obtain ⟨j, b2, hj, rfl, rfl, rfl, hL, hi, hno⟩ := hrel
        have HL := hide hL
        have HI := hide hi
        by_cases hlt : j < C.length
        · cases b2 with
          | true =>
            clear hL hi hno
            go_wp2
            go_roundg (C.length - (j + 1))
            case measure => omega
            case rel => exact ⟨j + 1, true, by omega, rfl, rfl, by go_num, HL.out, HI.out, fun e => by cases e⟩
          | false =>
            obtain ⟨b, off, i, m, rfl, hx, hm, hc, hi1, hnat, hkd⟩ := hL.elem HRr.out hlt
            have hX := hide hx
            have hno2 := hno rfl
            obtain ⟨b3, hb3⟩ : ∃ b3, tf ((i : Int) ∈ S) = b3 := ⟨_, rfl⟩
            have HN : Hid (b3 = false → ∀ (m : Nat) (y : Int), m < j + 1 → C[m]? = some y → y ∉ S) := hide (by
              intro e m y hm2 hy
              by_cases em : m = j
              · subst em
                obtain rfl := Option.some.inj (hx.symm.trans hy)
                intro hmem
                rw [tf_true hmem, e] at hb3
                cases hb3
              · exact hno2 m y (by omega) hy)
            have q1 : (0 : Int) ≤ (j : Int) := by omega
            have q2 : (j : Int) < (C.length : Int) := by omega
            clear hx hm hi1 hnat hkd hL hi hno hno2
            go_wp2_with fail
            refine (isIn_q Al S S.length cl (i : Int) wr b3 rfl hb3 HI.out).mono ?_
            rintro e w' ⟨rfl, rfl⟩
            clear hb3
            go_wp2
            go_roundg (C.length - (j + 1))
            case measure => omega
            case rel => exact ⟨j + 1, b3, by omega, rfl, rfl, by go_num, HL.out, HI.out, HN.out⟩
        · obtain rfl : j = C.length := by omega
          obtain rfl : b2 = true := by
            cases b2 with
            | true => rfl
            | false =>
              exfalso
              obtain ⟨x, hx, hxs⟩ := HS.out
              obtain ⟨m, hm, e⟩ := List.getElem_of_mem hx
              exact hno rfl m x hm (by rw [List.getElem?_eq_getElem hm, e]) hxs
          clear hL hi hno hlt
          go_wp2_with fail
          go_loopg [8, 9, 10] C.length (fun gk mv jv kv wi => ∃ (j : Nat) (b2 : Bool), j ≤ C.length ∧ gk = C.length - j ∧ mv = .bool b2 ∧ jv = .int .i64 (j : Int) ∧ LawS w wi bg g cap Ag ns r C ∧ (b2 = false → ∀ (m : Nat) (y : Int), m < j → C[m]? = some y → ¬ (kindOf ns y = 3 ∨ kindOf ns y = 4 ∨ kindOf ns y = 5)))
          case atStart => exact ⟨0, false, Nat.zero_le _, rfl, rfl, rfl, HL.out, fun _ m y hm => absurd hm (by omega)⟩
          case round =>
            clear HL HI
            obtain ⟨j, b2, hj, rfl, rfl, rfl, hL, hno⟩ := hrel
            have HL := hide hL
            by_cases hlt : j < C.length
            · obtain ⟨b, off, i, m, rfl, hx, hm, hc, hi1, hnat, hkd⟩ := hL.elem HRr.out hlt
              obtain ⟨e0, e1⟩ := hL.cells
              have hkk := kindOf_at hnat
              obtain ⟨b3, hb3⟩ : ∃ b3, (m.kind == 3 || m.kind == 4 || m.kind == 5) = b3 := ⟨_, rfl⟩
              have HN : Hid ((b2 || b3) = false → ∀ (m : Nat) (y : Int), m < j + 1 → C[m]? = some y → ¬ (kindOf ns y = 3 ∨ kindOf ns y = 4 ∨ kindOf ns y = 5)) := hide (by
                intro e m' y hm2 hy
                rw [Bool.or_eq_false_iff] at e
                by_cases em : m' = j
                · subst em
                  obtain rfl := Option.some.inj (hx.symm.trans hy)
                  rw [hkk]
                  intro hor
                  rw [e.2] at hb3
                  simp at hb3
                  omega
                · exact hno e.1 m' y (by omega) hy)
              have q1 : (0 : Int) ≤ (j : Int) := by omega
              have q2 : (j : Int) < (C.length : Int) := by omega
              have q3 : (0 : Int) ≤ (i : Int) := by omega
              have q4 : (i : Int) < (ns.length : Int) := by omega
              clear hx hm hi1 hnat hL hno hkk
              generalize m.kind = kd at hkd hb3 ⊢
              obtain ⟨c3, h3⟩ : ∃ c3, (kd == 3) = c3 := ⟨_, rfl⟩
              obtain ⟨c4, h4⟩ : ∃ c4, (kd == 4) = c4 := ⟨_, rfl⟩
              obtain ⟨c5, h5⟩ : ∃ c5, (kd == 5) = c5 := ⟨_, rfl⟩
              rw [h3, h4, h5] at hb3
              have Hb3 := hide hb3
              clear hb3
              go_wp2_with fail
              go_quiet (fail)
              cases b2 with
              | true =>
                go_wp2
                go_roundg (C.length - (j + 1))
                case measure => omega
                case rel => exact ⟨j + 1, true, by omega, rfl, rfl, by go_num, HL.out.drewN _, fun e => by cases e⟩
              | false =>
                cases c3 with
                | true =>
                  go_wp2
                  go_roundg (C.length - (j + 1))
                  case measure => omega
                  case rel => exact ⟨j + 1, true, by omega, rfl, rfl, by go_num, HL.out.drewN _, fun e => by cases e⟩
                | false =>
                  cases c4 with
                  | true =>
                    go_wp2
                    go_roundg (C.length - (j + 1))
                    case measure => omega
                    case rel => exact ⟨j + 1, true, by omega, rfl, rfl, by go_num, HL.out.drewN _, fun e => by cases e⟩
                  | false =>
                    cases c5 with
                    | true =>
                      go_wp2
                      go_roundg (C.length - (j + 1))
                      case measure => omega
                      case rel => exact ⟨j + 1, true, by omega, rfl, rfl, by go_num, HL.out.drewN _, fun e => by cases e⟩
                    | false =>
                      have HN2 : Hid (∀ (m : Nat) (y : Int), m < j + 1 → C[m]? = some y → ¬ (kindOf ns y = 3 ∨ kindOf ns y = 4 ∨ kindOf ns y = 5)) := hide (HN.out (by rw [← Hb3.out]; rfl))
                      go_wp2
                      go_roundg (C.length - (j + 1))
                      case measure => omega
                      case rel => exact ⟨j + 1, false, by omega, rfl, rfl, by go_num, HL.out.drewN _, fun _ => HN2.out⟩
            · obtain rfl : j = C.length := by omega
              obtain rfl : b2 = true := by
                cases b2 with
                | true => rfl
                | false =>
                  exfalso
                  obtain ⟨x, hx, hxs⟩ := HK.out
                  obtain ⟨m, hm, e⟩ := List.getElem_of_mem hx
                  exact hno rfl m x hm (by rw [List.getElem?_eq_getElem hm, e]) hxs
              obtain ⟨e0, e1⟩ := hL.cells
              clear hL hno hlt
              have HT : Hid (treeSizeOf ns r = 5000) := hide (by unfold treeSizeOf; rw [if_pos HH.out.1, HH.out.2.2.2.2]; rfl)
              go_wp2_with fail
              refine (implTreeSize_any (some ⟨g, 0, none⟩) ns cap r wr HL.out.nd).mono ?_
              rintro e w8 ⟨rfl, hb8⟩
              rw [HT.out]
              have L8 := hide (HL.out.below hb8)
              obtain ⟨e0, e1⟩ := L8.out.cells
              clear hb8
              have hRf := @reachOf_few ns r
              have hRm : Met ns (reachOf ns r) := reachOf_met
              have H64R : Hid (∀ x ∈ reachOf ns r, In64 x) := hide (fun x hx => by have := hRm.range x hx; constructor <;> omega)
              have HRin := hide HH.out.2.1
              clear hRm
              go_wp2_with fail
              refine (implReachOf_any (some ⟨g, 0, none⟩) ns cap r w8 L8.out.nd).mono ?_
              rintro e w9 ⟨Ar, cr, rfl, hoR, hb9⟩
              have L9 := hide (L8.out.below hb9)
              have i9 := hide (hoR.ints H64R.out (by omega))
              clear hb9 hoR e0 e1
              generalize reachOf ns r = R at hRf HRin H64R i9 ⊢
              go_wp2_with fail
              refine (within_q Ag Ar C R cg cr w9 HRin.out L9.out.out i9.out).mono ?_
              rintro e w' ⟨rfl, rfl⟩
              have HB := hide L9.out.bel
              go_wp2
              go_ret
              exact ⟨rfl, HB.out⟩

end Go.Proofs.Ytmpplimghjkjaac
