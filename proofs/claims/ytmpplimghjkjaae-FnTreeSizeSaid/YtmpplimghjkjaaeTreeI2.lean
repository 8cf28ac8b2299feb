/-
  The program's TreeSize, whole.
-/
import Derived.Test.YtmpplimghjkjaaeTreeI
import Derived.Test.YtmpplimghjkjaaeCycI2
namespace Go.Proofs.Ytmpplimghjkjaae
open Go.RowKit Go.Maps
set_option linter.unusedVariables false

set_option maxRecDepth 100000 in
set_option maxHeartbeats 2000000 in
theorem implTreeSize_any (A : Option Addr) (ns : List Nd) (c : Nat) (r : Int) (w : World) (hr : NdsAt w w.heap.size A ns) :
    Calls Try.prog 5 #[.agg #[.slice A ns.length c, .int .i64 r]] w fun e w' => e = .returned (.int .i64 (treeSizeOf ns r)) ∧ Below w.heap.size w w' := by
  have hB : Below w.heap.size w (w.alloc (.cells #[.slice A ns.length c, .int .i64 r] 25)) := (Below.refl _ _).alloc (Nat.le_refl _) _
  have l1 := Lies.new w #[.slice A ns.length c, .int .i64 r] 25
  have hr2 := hr.below hB
  clear hr
  go_enter Try.func5, Try.ntmps5
  go_wp2_with fail
  generalize hWd : w.alloc (.cells #[.slice A ns.length c, .int .i64 r] 25) = W at hB l1 hr2 ⊢
  have hWs : Hid (W.heap.size = w.heap.size + 1) := by rw [← hWd]; simp [Hid]
  clear hWd
  refine (implValid_any A ns c r W (hr2.more hB.size)).mono ?_
  rintro e w1 ⟨rfl, hb1⟩
  have l2 := l1.below hb1 l1.lt
  have hr3 := hr2.below (hb1.mono hB.size)
  have hB1 := hB.trans (hb1.mono hB.size)
  have e0 := l2.cell 0
  have e1 := l2.cell 1
  simp at e0 e1
  have hsz := l2.lt
  have hws := hB1.size
  clear l1 hr2 hb1 hB
  by_cases hv : ValidG ns r
  · rw [tf_true hv]
    have HV := hide hv
    have h12 := hv.few
    have hmk := run_make_row' (P := Try.prog) 28 3 (.int .i64 0) 8 Try.underlying28 infoI rfl .i64 .i64 ns.length (by have := hv.few; omega) (by have := hv.few; omega)
    obtain ⟨i, rfl⟩ := Int.eq_ofNat_of_zero_le hv.root0
    have hi : i < ns.length := by have := hv.root; omega
    clear hv
    go_wp2_with fail
    refine (implCyclesOf_any A ns c i w1 (hr3.more hws)).mono ?_
    rintro e w2 ⟨A', c', rfl, hown, hb2⟩
    have l3 := l2.below hb2 l2.lt
    have hr4 := hr3.below (hb2.mono hws)
    have hB2 := hB1.trans (hb2.mono hws)
    have hs2 : w1.heap.size ≤ w2.heap.size := hb2.size
    have f0 := l3.cell 0
    have f1 := l3.cell 1
    simp at f0 f1
    clear e0 e1 l2 hr3 hB1 hb2 hown
    by_cases hc : cyclesOf ns (i : Int) = []
    · have hl : (cyclesOf ns (i : Int)).length = 0 := by rw [hc]; rfl
      have Hgh := hide (hgt_acyclic HV.out hc)
      rw [hl]
      clear hc hl
      have hB3 : Below w.heap.size w (((w2.alloc (.cells (madeCells #[.int .i64 0] ns.length) 3)).alloc (.cells #[.slice (some ⟨w2.heap.size, 0, none⟩) ns.length ns.length] 28)).alloc
        (.cells #[.func (.func 14) #[] #[.pointer (some ⟨w2.heap.size + 1, 0, none⟩), .pointer (some ⟨w.heap.size, 0, none⟩), .pointer (some ⟨w2.heap.size + 1 + 1, 0, none⟩)]] 35)) :=
        ((hB2.alloc (by omega) _).alloc (by simp; omega) _).alloc (by simp; omega) _
      have hrow : Row (((w2.alloc (.cells (madeCells #[.int .i64 0] ns.length) 3)).alloc (.cells #[.slice (some ⟨w2.heap.size, 0, none⟩) ns.length ns.length] 28)).alloc
        (.cells #[.func (.func 14) #[] #[.pointer (some ⟨w2.heap.size + 1, 0, none⟩), .pointer (some ⟨w.heap.size, 0, none⟩), .pointer (some ⟨w2.heap.size + 1 + 1, 0, none⟩)]] 35)) w2.heap.size ns (List.replicate ns.length 0) :=
        (((World.rowIs_made w2 (.int .i64 0) ns.length 3).congr (fun j hj => by simp [intCell, List.getD, hj])).alloc _).alloc _
      have henv : TEnv (((w2.alloc (.cells (madeCells #[.int .i64 0] ns.length) 3)).alloc (.cells #[.slice (some ⟨w2.heap.size, 0, none⟩) ns.length ns.length] 28)).alloc
        (.cells #[.func (.func 14) #[] #[.pointer (some ⟨w2.heap.size + 1, 0, none⟩), .pointer (some ⟨w.heap.size, 0, none⟩), .pointer (some ⟨w2.heap.size + 1 + 1, 0, none⟩)]] 35)) (w2.heap.size + 1 + 1 + 1) (w2.heap.size + 1) w.heap.size (w2.heap.size + 1 + 1) w2.heap.size A c ns (i : Int) := by
        refine ⟨?_, ?_, ?_, hr4.below (((Below.refl w2.heap.size w2).alloc (Nat.le_refl _) _).alloc (by simp) _ |>.alloc (by simp; omega) _ |>.mono (by omega)), by omega, by omega, by omega, by omega⟩
        · have := (Lies.new (w2.alloc (.cells (madeCells #[.int .i64 0] ns.length) 3)) #[.slice (some ⟨w2.heap.size, 0, none⟩) ns.length ns.length] 28).alloc (.cells #[.func (.func 14) #[] #[.pointer (some ⟨w2.heap.size + 1, 0, none⟩), .pointer (some ⟨w.heap.size, 0, none⟩), .pointer (some ⟨w2.heap.size + 1 + 1, 0, none⟩)]] 35)
          simpa using this
        · exact ((l3.alloc _).alloc _).alloc _
        · have := Lies.new ((w2.alloc (.cells (madeCells #[.int .i64 0] ns.length) 3)).alloc (.cells #[.slice (some ⟨w2.heap.size, 0, none⟩) ns.length ns.length] 28)) #[.func (.func 14) #[] #[.pointer (some ⟨w2.heap.size + 1, 0, none⟩), .pointer (some ⟨w.heap.size, 0, none⟩), .pointer (some ⟨w2.heap.size + 1 + 1, 0, none⟩)]] 35
          simpa using this
      have Hrow := hide hrow
      have Henv := hide henv
      have HB3 := hide hB3
      have g1 := (((l3.alloc (.cells (madeCells #[.int .i64 0] ns.length) 3)).alloc (.cells #[.slice (some ⟨w2.heap.size, 0, none⟩) ns.length ns.length] 28)).alloc
        (.cells #[.func (.func 14) #[] #[.pointer (some ⟨w2.heap.size + 1, 0, none⟩), .pointer (some ⟨w.heap.size, 0, none⟩), .pointer (some ⟨w2.heap.size + 1 + 1, 0, none⟩)]] 35)).cell 1
      simp at g1
      clear hrow henv hB3 hB2 hr4 l3
      go_wp2_with fail
      generalize (((w2.alloc (.cells (madeCells #[.int .i64 0] ns.length) 3)).alloc (.cells #[.slice (some ⟨w2.heap.size, 0, none⟩) ns.length ns.length] 28)).alloc
        (.cells #[.func (.func 14) #[] #[.pointer (some ⟨w2.heap.size + 1, 0, none⟩), .pointer (some ⟨w.heap.size, 0, none⟩), .pointer (some ⟨w2.heap.size + 1 + 1, 0, none⟩)]] 35)) = X at Hrow Henv HB3 g1 ⊢
      refine (tsz_any ns i HV.out _ _ _ _ _ A c 13 (by omega) i _ X hi Hgh.out (Memo.zeros ns) Hrow.out Henv.out).mono ?_
      rintro e w5 ⟨rfl, hb5, _⟩
      have hB5 := hide (hb5.below HB3.out (by omega) (by omega))
      have hfin : Hid ((treeN ns (i : Int) : Int) = treeSizeOf ns (i : Int)) := by
        show _ = _
        unfold treeSizeOf
        rw [if_pos HV.out]
      generalize treeN ns (i : Int) = u at hfin ⊢
      clear hb5 Hrow Henv HB3 g1 f0 f1
      go_wp2
      go_ret
      exact ⟨ret_int hfin.out, hB5.out⟩
    · have hl : 0 < (cyclesOf ns (i : Int)).length := List.length_pos_iff.2 hc
      have hfin : Hid ((5000 : Int) = treeSizeOf ns (i : Int)) := by
        show _ = _
        unfold treeSizeOf treeN
        rw [if_pos HV.out]
        have := unf_cyclic HV.out hc 5000
        omega
      have hll : (cyclesOf ns (i : Int)).length ≤ 12 := by
        unfold cyclesOf
        rw [if_pos HV.out]
        exact Nat.le_trans (pickTo_len _ _) HV.out.few
      generalize (cyclesOf ns (i : Int)).length = len at hl hll ⊢
      have HB2 := hide hB2
      have hgt : (0 : Int) < (len : Int) := by omega
      clear hc hmk hB2 hr4 l3
      go_wp2
      go_ret
      exact ⟨ret_int hfin.out, HB2.out⟩
  · rw [tf_false hv]
    have hfin : Hid ((-1 : Int) = treeSizeOf ns r) := by
      show _ = _
      unfold treeSizeOf
      rw [if_neg hv]
    have HBw := hide hB1
    clear hv l2
    go_wp2
    go_ret
    exact ⟨ret_int hfin.out, HBw.out⟩

end Go.Proofs.Ytmpplimghjkjaae
