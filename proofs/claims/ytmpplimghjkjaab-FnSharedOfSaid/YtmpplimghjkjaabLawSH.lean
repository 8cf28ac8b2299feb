/-
  The walk of the law FnSharedOf: for every text it returns true and writes nothing that was there.
-/
import Derived.Test.YtmpplimghjkjaabDrawSH
import Derived.Test.YtmpplimghjkjaabImplR
import Derived.Test.YtmpplimghjkjaabSharedS
import Derived.Test.YtmpplimghjkjaabSharedI
import Derived.Test.YtmpplimghjkjaabTreeI2
import Derived.Test.YtmpplimghjkjaabShTr
import Derived.Test.YtmpplimghjkjaabLawG
import Derived.Test.YtmpplimghjkjaabAsc
namespace Go.Proofs.Ytmpplimghjkjaab
open Go.RowKit
set_option linter.unusedVariables false

set_option maxRecDepth 100000 in
set_option maxHeartbeats 4000000 in
theorem lawSH_any (A : Option Addr) (n c : Nat) (w : World) (h : BytesAt w w.heap.size A n) (hc : n ≤ c) (hn : n ≤ 9223372036854775807) :
    Calls Try.prog 3 #[.slice A n c] w fun e w' => e = .returned (.bool true) ∧ Below w.heap.size w w' := by
  by_cases hbig : 1048576 < n
  · have d : decide ((1048576 : Int) < (n : Int)) = true := by simp; omega
    go_enter Try.func3, Try.ntmps3
    go_wp2
    go_ret
    exact ⟨rfl, Below.refl _ _⟩
  · have d : decide ((1048576 : Int) < (n : Int)) = false := by simp; omega
    go_enter Try.func3, Try.ntmps3
    go_wp2_with fail
    refine (drawSharedOf_any A n c w h hc hn).mono ?_
    rintro e w1 ⟨g, cap, ns, r, rfl, hnds, h1, h10, hr64, hb1⟩
    have hb2 := hb1.alloc hb1.size (.cells #[.slice (some ⟨g, 0, none⟩) ns.length cap, .int .i64 r] 25)
    have l2 := Lies.new w1 #[.slice (some ⟨g, 0, none⟩) ns.length cap, .int .i64 r] 25
    have hn2 := hnds.later ((Below.refl w1.heap.size w1).alloc (Nat.le_refl _) (.cells #[.slice (some ⟨g, 0, none⟩) ns.length cap, .int .i64 r] 25)) (Nat.le_refl _)
    have hsz := hb1.size
    have e0 := l2.cell 0
    have e1 := l2.cell 1
    simp at e0 e1
    clear hnds hb1 h
    go_wp2_with fail
    generalize w1.alloc (.cells #[.slice (some ⟨g, 0, none⟩) ns.length cap, .int .i64 r] 25) = w2 at hb2 l2 hn2 e0 e1 ⊢
    generalize w1.heap.size = bg at l2 hsz e0 e1 ⊢
    have HI := implSharedOf_any (some ⟨g, 0, none⟩) ns cap r w2 hn2
    refine HI.mono ?_
    clear HI
    rintro e w3 ⟨Ag, cg, rfl, hoG, hb3⟩
    have l3 := l2.below hb3 l2.lt
    have hn3 := hn2.later hb3 (Nat.le_refl _)
    have hB3 := hb2.trans (hb3.mono hb2.size)
    have hSf := sharedOf_few ns r
    have H64 := hide (sharedOf_64 ns r)
    have e0 := l3.cell 0
    have e1 := l3.cell 1
    simp at e0 e1
    clear l2 hn2 hb2 hb3
    go_wp2_with fail
    have HI := specSharedOf_any (some ⟨g, 0, none⟩) ns cap r w3 hn3
    refine HI.mono ?_
    clear HI
    rintro e w4 ⟨Aw, cw, rfl, hoW, hb4⟩
    have HV : Hid (ValidG ns r → (∀ x ∈ sharedOf ns r, x ∈ reachOf ns r ∧ kindOf ns x ≠ 0) ∧ (treeN ns r = (reachOf ns r).length → sharedOf ns r = [])) := hide (fun hv => ⟨fun x hx => by
      have := (mem_shared hv).1 hx
      exact ⟨this.1, this.2.2⟩, tree_shares hv⟩)
    have HA := hide (shared_asc ns r)
    generalize hSd : sharedOf ns r = S at hoG hoW hSf HV HA H64 ⊢
    have HSd := hide hSd
    clear hSd
    have hcap := hoG.capLe
    have hoG4 := hoG.below hb4
    have iG := hoG4.ints H64.out (by omega)
    have iW := hoW.ints H64.out (by omega)
    have L4 : LawS w w4 bg g cap Ag ns r S := ⟨hB3.trans (hb4.mono hB3.size), l3.below hb4 l3.lt, hn3.later hb4 (Nat.le_refl _), iG⟩
    clear l3 hn3 hB3 hb4 hoG hoW e0 e1 hoG4
    go_wp2_with fail
    refine (equalInts_any Ag Aw S S cg cw w4 iG iW).mono ?_
    rintro e w5 ⟨rfl, hb5⟩
    have hself : decide (S = S) = true := by simp
    rw [hself]
    have L5 := L4.below hb5
    obtain ⟨e0, e1⟩ := L5.cells
    clear L4 iG iW hb5 hself
    go_wp2_with fail
    refine (implValid_any (some ⟨g, 0, none⟩) ns cap r w5 L5.nd).mono ?_
    rintro e w6 ⟨rfl, hb6⟩
    have L6 := L5.below hb6
    obtain ⟨e0, e1⟩ := L6.cells
    clear L5 hb6
    by_cases hv : ValidG ns r
    · rw [tf_true hv]
      have HVv := hide hv
      clear hv
      have hRf := @reachOf_few ns r
      have hRm : Met ns (reachOf ns r) := reachOf_met
      have H64R : Hid (∀ x ∈ reachOf ns r, In64 x) := hide (fun x hx => by have := hRm.range x hx; constructor <;> omega)
      have HRr : Hid (∀ x ∈ S, 0 ≤ x ∧ x < ns.length) := hide (fun x hx => hRm.range x ((HV.out HVv.out).1 x hx).1)
      have HRin : Hid (∀ x ∈ S, x ∈ reachOf ns r) := hide (fun x hx => ((HV.out HVv.out).1 x hx).1)
      have HRk : Hid (∀ x ∈ S, kindOf ns x ≠ 0) := hide (fun x hx => ((HV.out HVv.out).1 x hx).2)
      have HRt := hide (HV.out HVv.out).2
      have HT : Hid (treeSizeOf ns r = (treeN ns r : Int)) := hide (by unfold treeSizeOf; rw [if_pos HVv.out])
      clear hRm
      go_wp2_with fail
      have HI := implReachOf_any (some ⟨g, 0, none⟩) ns cap r w6 L6.nd
      refine HI.mono ?_
      clear HI
      rintro e w7 ⟨Al, cl, rfl, hoL, hb7⟩
      have L7 := L6.below hb7
      have i7 := hoL.ints H64R.out (by omega)
      obtain ⟨e0, e1⟩ := L7.cells
      clear L6 hb7 hoL
      go_wp2_with fail
      refine (implTreeSize_any (some ⟨g, 0, none⟩) ns cap r w7 L7.nd).mono ?_
      rintro e w8 ⟨rfl, hb8⟩
      rw [HT.out]
      have L8 := L7.below hb8
      have i8 := i7.later hb8 (Nat.le_refl _)
      clear L7 i7 hb8
      generalize reachOf ns r = R at hRf HRin HRt i8 H64R ⊢
      generalize treeN ns r = T at HRt ⊢
      have hno : ∃ b1 b2 : Bool, ((T : Int) == (R.length : Int)) = b1 ∧ (T == R.length) = b1 ∧ decide ((0 : Int) < (S.length : Int)) = b2 ∧ decide (0 < S.length) = b2 ∧ (b1 && b2) = false := by
        refine ⟨T == R.length, decide (0 < S.length), ?_, rfl, by simp, rfl, ?_⟩
        · by_cases e : T = R.length
          · simp [e]
          · have e2 : (T == R.length) = false := by simpa using e
            rw [e2]
            exact beq_eq_false_iff_ne.2 (by omega)
        · by_cases e : T = R.length
          · have := HRt.out e
            simp [this]
          · simp [e]
      obtain ⟨b1, b2, hb1, hb1', hb2, hb2', hb12⟩ := hno
      have L8h := hide L8
      have i8h := hide i8
      clear L8 i8 e0 e1 HRt HV HT
      cases b1 with
      | true =>
        cases b2 with
        | true => cases hb12
        | false =>
          clear hb12
          go_wp2_with fail
          go_loopg [6] S.length (fun gk iv wr => ∃ k : Nat, k ≤ S.length ∧ gk = S.length - k ∧ iv = .int .i64 (k : Int) ∧ LawS w wr bg g cap Ag ns r S ∧ IntsAt wr wr.heap.size Al R)
          case atStart => exact ⟨0, Nat.zero_le _, rfl, rfl, L8h.out, i8h.out⟩
          case round =>
            clear L8h i8h hb1 hb1' hb2 hb2'
            obtain ⟨k, hk, rfl, rfl, hL, hi⟩ := hrel
            have HL := hide hL
            have HI := hide hi
            by_cases hlt : k < S.length
            · obtain ⟨b, off, i, m, rfl, hx, hm, hc, hi1, hnat, hkd⟩ := hL.elem HRr.out hlt
              obtain ⟨e0, e1⟩ := hL.cells
              have hk0 : m.kind ≠ 0 := by
                have := HRk.out _ hm
                rw [kindOf_at hnat] at this
                exact this
              have t0 : (m.kind == 0) = false := beq_eq_false_iff_ne.2 hk0
              have q1 : (0 : Int) ≤ (k : Int) := by omega
              have q2 : (k : Int) < (S.length : Int) := by omega
              have q3 : (0 : Int) ≤ (i : Int) := by omega
              have q4 : (i : Int) < (ns.length : Int) := by omega
              clear hx hm hi1 hnat hk0 hL hi
              go_wp2_with fail
              go_quiet (fail)
              go_wp2
              go_roundg (S.length - (k + 1))
              case measure => omega
              case rel => exact ⟨k + 1, by omega, rfl, by go_num, HL.out.drewN _, HI.out.drewN _⟩
            · obtain rfl : k = S.length := by omega
              clear hlt hL hi
              go_wp2_with fail
              refine (within_q Ag Al S R cg cl wr HRin.out HL.out.out HI.out).mono ?_
              rintro e w' ⟨rfl, rfl⟩
              go_wp2_with fail
              refine (ascends_any Ag S cg w' HL.out.out HA.out).mono ?_
              rintro e w9 ⟨rfl, hb9⟩
              have HB := hide (HL.out.below hb9).bel
              clear hb9
              go_wp2
              go_ret
              exact ⟨rfl, HB.out⟩
      | false =>
        clear hb12
        go_wp2_with fail
        go_loopg [6] S.length (fun gk iv wr => ∃ k : Nat, k ≤ S.length ∧ gk = S.length - k ∧ iv = .int .i64 (k : Int) ∧ LawS w wr bg g cap Ag ns r S ∧ IntsAt wr wr.heap.size Al R)
        case atStart => exact ⟨0, Nat.zero_le _, rfl, rfl, L8h.out, i8h.out⟩
        case round =>
          clear L8h i8h hb1 hb1' hb2 hb2'
          obtain ⟨k, hk, rfl, rfl, hL, hi⟩ := hrel
          have HL := hide hL
          have HI := hide hi
          by_cases hlt : k < S.length
          · obtain ⟨b, off, i, m, rfl, hx, hm, hc, hi1, hnat, hkd⟩ := hL.elem HRr.out hlt
            obtain ⟨e0, e1⟩ := hL.cells
            have hk0 : m.kind ≠ 0 := by
              have := HRk.out _ hm
              rw [kindOf_at hnat] at this
              exact this
            have t0 : (m.kind == 0) = false := beq_eq_false_iff_ne.2 hk0
            have q1 : (0 : Int) ≤ (k : Int) := by omega
            have q2 : (k : Int) < (S.length : Int) := by omega
            have q3 : (0 : Int) ≤ (i : Int) := by omega
            have q4 : (i : Int) < (ns.length : Int) := by omega
            clear hx hm hi1 hnat hk0 hL hi
            go_wp2_with fail
            go_quiet (fail)
            go_wp2
            go_roundg (S.length - (k + 1))
            case measure => omega
            case rel => exact ⟨k + 1, by omega, rfl, by go_num, HL.out.drewN _, HI.out.drewN _⟩
          · obtain rfl : k = S.length := by omega
            clear hlt hL hi
            go_wp2_with fail
            refine (within_q Ag Al S R cg cl wr HRin.out HL.out.out HI.out).mono ?_
            rintro e w' ⟨rfl, rfl⟩
            go_wp2_with fail
            refine (ascends_any Ag S cg w' HL.out.out HA.out).mono ?_
            rintro e w9 ⟨rfl, hb9⟩
            have HB := hide (HL.out.below hb9).bel
            clear hb9
            go_wp2
            go_ret
            exact ⟨rfl, HB.out⟩
    · rw [tf_false hv]
      have HN := hide hv
      clear hv
      go_wp2_with fail
      refine (specSharedOf_any (some ⟨g, 0, none⟩) ns cap r w6 L6.nd).mono ?_
      rintro e w7 ⟨Ax, cx, rfl, hoX, hb7⟩
      rw [HSd.out] at hoX ⊢
      have L7 := L6.below hb7
      have iX := hoX.ints H64.out (by omega)
      clear hb7 L6 hoX e0 e1
      go_wp2_with fail
      refine (equalInts_any Ag Ax S S cg cx w7 L7.out iX).mono ?_
      rintro e w8 ⟨rfl, hb8⟩
      have hself : decide (S = S) = true := by simp
      rw [hself]
      have HB := hide (L7.below hb8).bel
      clear hb8 L7 iX hself
      go_wp2
      go_ret
      exact ⟨rfl, HB.out⟩

end Go.Proofs.Ytmpplimghjkjaab
