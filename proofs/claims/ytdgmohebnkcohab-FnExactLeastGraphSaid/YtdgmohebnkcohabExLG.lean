/-
  The walk of the law FnExactLeastGraph: for every graph it returns true and writes nothing that was there.
-/
import Derived.Test.YtdgmohebnkcohabLstS
import Derived.Test.YtdgmohebnkcohabLstI
import Derived.Test.YtdgmohebnkcohabPjAp
import Derived.Test.YtdgmohebnkcohabPjAs
import Derived.Test.YtdgmohebnkcohabTo
import Derived.Test.YtdgmohebnkcohabPjAt
import Derived.Deep.RegionHeld3
namespace Go.Proofs.Ytdgmohebnkcohab
open Go.RowKit Go.Maps
set_option linter.unusedVariables false

set_option maxRecDepth 100000 in
set_option maxHeartbeats 4000000 in
theorem exLG_small (A : Option Addr) (ns : List Nd) (c : Nat) (r : Int) (w : World) (hr : NdsAt w w.heap.size A ns) (hs : 0 ≤ szNs ns 1048576) :
    Calls Try.prog 3 #[.agg #[.slice A ns.length c, .int .i64 r]] w fun e w' => e = .returned (.bool true) ∧ Below w.heap.size w w' := by
  have hsm := small_of_sz (by omega) (by omega) hs
  have hwf := hr.wf
  have Hwf := hide hwf
  have hB0 : Below w.heap.size w (w.alloc (.cells #[.slice A ns.length c, .int .i64 r] 24)) := (Below.refl _ _).alloc (Nat.le_refl _) _
  have l1 := Lies.new w #[.slice A ns.length c, .int .i64 r] 24
  have hr1 := hr.below hB0
  have hnl := hr.len
  clear hr hwf
  go_enter Try.func3, Try.ntmps3
  go_wp2_with fail
  generalize w.alloc (.cells #[.slice A ns.length c, .int .i64 r] 24) = W at hB0 l1 hr1 ⊢
  have hW := l1.lt
  refine (szGraph_any A ns c r 1048576 W (by omega) (by omega) (hr1.more (by omega))).mono ?_
  rintro e w1 ⟨rfl, hb1⟩
  generalize szNs ns 1048576 = sz at hs ⊢
  have hd : decide (sz < 0) = false := by simp; omega
  have l2 := l1.below hb1 hW
  have hr2 := hr1.below (hb1.mono (by omega))
  have hB1 := hB0.trans (hb1.mono (by omega))
  have e0 := l2.cell 0
  have e1 := l2.cell 1
  simp at e0 e1
  clear hB0 l1 hr1 hb1
  go_wp2_with fail
  refine (toGraph_any A ns c r w1 (hr2.more (by have := l2.lt; omega)) hsm).mono ?_
  rintro e w2 ⟨rfl, hm2, hb2⟩
  have l3 := l2.below hb2 l2.lt
  have hr3 := hr2.below (hb2.mono (by have := l2.lt; omega))
  have hB2 := hB1.trans (hb2.mono (by have := l2.lt; omega))
  have hx2 := hm2.at_ Hwf.out hnl
  have e0 := l3.cell 0
  have e1 := l3.cell 1
  simp at e0 e1
  clear hB1 l2 hr2 hb2 hm2
  go_wp2_with fail
  refine (specLeast_any _ ns _ r w2 hx2).mono ?_
  rintro e w3 ⟨Aw, cw, rfl, hrow, hmwf, hb3⟩
  have hmsm := lstN_smallN ns r
  generalize hPd : lstN ns r = ms at hrow hmwf hmsm ⊢
  have HPd := hide hPd
  have Hmwf := hide hmwf
  have Hqwf := hide (marksN_wf (k := 1) hmsm (by omega) (by omega))
  have Hql := hide (marksN_len 1 ms)
  have hml := hmsm.len
  have hme := marksEnd_grows 1 ms
  have hW3 := hrow.nds hmwf (by omega)
  have l4 := l3.below hb3 l3.lt
  have hr4 := hr3.below (hb3.mono (by have := l3.lt; omega))
  have hB3 := hB2.trans (hb3.mono (by have := l3.lt; omega))
  have hz : w.heap.size < w3.heap.size := l4.lt
  have hba : Below w3.heap.size w3 (w3.alloc (.cells #[.slice Aw ms.length cw, .int .i64 0] 28)) := (Below.refl _ _).alloc (Nat.le_refl _) _
  have S4 : StG w (w3.alloc (.cells #[.slice Aw ms.length cw, .int .i64 0] 28)) A ns c r ms 0 Aw cw w3.heap.size :=
    ⟨hB3.trans (hba.mono (by omega)), l4.below hba l4.lt, hr4.below (hba.mono (by omega)), Lies.new _ _ _, hW3.below hba, hz⟩
  clear hPd hmwf hrow hW3 l4 hr4 hB3 l3 hr3 hB2 hx2 hb3 e0 e1 hba
  obtain ⟨e0, e1, e2, e3⟩ := S4.cells
  go_wp2_with fail
  generalize w3.alloc (.cells #[.slice Aw ms.length cw, .int .i64 0] 28) = w4 at S4 e0 e1 e2 e3 ⊢
  generalize w3.heap.size = b0 at S4 e0 e1 e2 e3 hz ⊢
  have s4 := S4.lt
  refine (toGraph_any A ns c r w4 (S4.hr.more (by omega)) hsm).mono ?_
  rintro e w5 ⟨rfl, hm5, hb5⟩
  have S5 := S4.below hb5 S4.lt
  have s5 := hb5.size
  have hg5 : w4.heap.size + 3 < w5.heap.size := by obtain ⟨f, hf⟩ := hm5.row; exact hf.lt
  have X6 := StX.make (r := r) hm5 Hwf.out hnl
  have hba : Below w5.heap.size w5 (w5.alloc (.cells #[.slice (some ⟨w4.heap.size + 3, 0, none⟩) ns.length ns.length, .int .i64 r] 28)) := (Below.refl _ _).alloc (Nat.le_refl _) _
  have S6 := S5.below hba S5.lt
  clear hm5 hb5 S4 S5 hba e0 e1 e2 e3
  obtain ⟨e0, e1, e2, e3⟩ := S6.cells
  obtain ⟨x0, x1⟩ := X6.cells
  go_wp2_with fail
  generalize w5.alloc (.cells #[.slice (some ⟨w4.heap.size + 3, 0, none⟩) ns.length ns.length, .int .i64 r] 28) = w6 at S6 X6 e0 e1 e2 e3 x0 x1 ⊢
  generalize hxl : w4.heap.size + 3 = xl at X6 hg5 x0 x1 ⊢
  generalize w5.heap.size = bx at X6 hg5 s5 x0 x1 ⊢
  have hx6 := X6.lt
  have HI := implLeast_any (some ⟨xl, 0, none⟩) ns ns.length r w6 (X6.hx.more (by omega)) (Nat.le_refl _)
  rw [HPd.out] at HI
  refine HI.mono ?_
  clear HI
  rintro e w7 ⟨Ag, cg, rfl, hoG, hb7⟩
  have S7 := S6.below hb7 S6.lt
  have X7 := X6.below hb7 X6.lt
  have s7 := hb7.size
  have O8 := StO.make (s := 0) hoG
  have hba : Below w7.heap.size w7 (w7.alloc (.cells #[.slice Ag ms.length cg, .int .i64 0] 28)) := (Below.refl _ _).alloc (Nat.le_refl _) _
  have S8 := S7.below hba S7.lt
  have X8 := X7.below hba X7.lt
  clear hoG hb7 S6 X6 S7 X7 hba e0 e1 e2 e3 x0 x1
  obtain ⟨e0, e1, e2, e3⟩ := S8.cells
  obtain ⟨x0, x1⟩ := X8.cells
  obtain ⟨g0, g1⟩ := O8.cells
  go_wp2_with fail
  generalize w7.alloc (.cells #[.slice Ag ms.length cg, .int .i64 0] 28) = w8 at S8 X8 O8 e0 e1 e2 e3 x0 x1 g0 g1 ⊢
  generalize w7.heap.size = bg at O8 s7 g0 g1 ⊢
  generalize w6.heap.size = lo at O8 s7 hx6 ⊢
  have hg8 := O8.lt
  refine (eqGraph_same _ _ ms 0 _ _ w8 (O8.hG.nds Hmwf.out (by omega)) (S8.hW.more (by omega))).mono ?_
  rintro e w9 ⟨rfl, hb9⟩
  have S9 := S8.below hb9 S8.lt
  have X9 := X8.below hb9 X8.lt
  have O9 := O8.below hb9 O8.lt
  have s9 := hb9.size
  clear hb9 S8 X8 O8 e0 e1 e2 e3 x0 x1 g0 g1
  obtain ⟨e0, e1, e2, e3⟩ := S9.cells
  obtain ⟨x0, x1⟩ := X9.cells
  obtain ⟨g0, g1⟩ := O9.cells
  have hl9 : w.heap.size < w9.heap.size := S9.la.lt
  have hx9 := X9.lt
  have hrr : (decide (ns = ns) && decide (r = r)) = true := by simp
  go_wp2_with fail
  go_region_held3 (fun w' => w'.cell? ⟨bx, 0, none⟩ = some (.slice (some ⟨xl, 0, none⟩) ns.length ns.length) ∧ w'.cell? ⟨bx, 1, none⟩ = some (.int .i64 r) ∧ w'.cell? ⟨w.heap.size, 0, none⟩ = some (.slice A ns.length c) ∧ w'.cell? ⟨w.heap.size, 1, none⟩ = some (.int .i64 r))
    (first
      | (go_split_ands; refine ⟨?_, ?_, ?_, ?_⟩ <;> assumption))
    (first
      | (go_at_call 6; refine (toGraph_any A ns c r _ (S9.hr.later (Below.refl _ _).drew (by omega)) hsm).mono ?_; rintro e w10 ⟨rfl, hm10, hb10⟩; have q0 := (hb10.cell (p := ⟨bx, 0, none⟩) hx9).trans x0; have q1 := (hb10.cell (p := ⟨bx, 1, none⟩) hx9).trans x1; have q2 := (hb10.cell (p := ⟨w.heap.size, 0, none⟩) hl9).trans e0; have q3 := (hb10.cell (p := ⟨w.heap.size, 1, none⟩) hl9).trans e1)
      | (go_at_call 8; refine (eqGraph_any _ _ ns ns r r _ _ _ (X9.hx.later (((Below.refl bx _).drew).trans (hb10.mono (by simp; omega))) (by omega)) (hm10.at_ Hwf.out hnl)).mono ?_; rintro e w11 ⟨rfl, hb11⟩; have z0 := (hb11.cell (p := ⟨bx, 0, none⟩) (Nat.lt_of_lt_of_le hx9 hb10.size)).trans q0; have z1 := (hb11.cell (p := ⟨bx, 1, none⟩) (Nat.lt_of_lt_of_le hx9 hb10.size)).trans q1; have z2 := (hb11.cell (p := ⟨w.heap.size, 0, none⟩) (Nat.lt_of_lt_of_le hl9 hb10.size)).trans q2; have z3 := (hb11.cell (p := ⟨w.heap.size, 1, none⟩) (Nat.lt_of_lt_of_le hl9 hb10.size)).trans q3))
  have hb911 : Below w9.heap.size w9 w11 := ((Below.refl _ w9).drew.trans (hb10.mono (by simp))).trans (hb11.mono (by have := hb10.size; simp at this; omega))
  have S11 := S9.below hb911 S9.lt
  have X11 := X9.below hb911 X9.lt
  have O11 := O9.below hb911 O9.lt
  have s11 := hb911.size
  clear hb10 hb11 hm10 q0 q1 q2 q3 z0 z1 z2 z3 e0 e1 e2 e3 x0 x1 g0 g1 hb911 S9 X9 O9 hrr
  obtain ⟨e0, e1, e2, e3⟩ := S11.cells
  obtain ⟨x0, x1⟩ := X11.cells
  obtain ⟨g0, g1⟩ := O11.cells
  have hx11 := X11.lt
  go_wp2_with fail
  refine (markGraph_any xl xl bx ns ns.length r 1 w11 X11.hM hsm (by omega) (by omega) (Nat.le_refl _) (by omega) (by omega)).mono ?_
  rintro e w12 ⟨⟨k1, hk1, rfl⟩, hS⟩
  have hdk : decide (k1 < 0) = false := by simp; omega
  have S12 := S11.below (hS.below (by omega)) (by omega)
  have O12 := O11.save hS (by omega) (by have := O11.z; omega)
  have s12 := hS.size
  clear hS S11 X11 O11 e0 e1 e2 e3 x0 x1 g0 g1
  obtain ⟨e0, e1, e2, e3⟩ := S12.cells
  obtain ⟨g0, g1⟩ := O12.cells
  have hg12 := O12.lt
  go_wp2_with fail
  refine (eqGraph_same _ _ ms 0 _ _ w12 (O12.hG.nds Hmwf.out (by omega)) (S12.hW.more (by omega))).mono ?_
  rintro e w13 ⟨rfl, hb13⟩
  have S13 := S12.below hb13 S12.lt
  have O13 := O12.below hb13 O12.lt
  have s13 := hb13.size
  clear hb13 S12 O12 e0 e1 e2 e3 g0 g1
  obtain ⟨e0, e1, e2, e3⟩ := S13.cells
  obtain ⟨g0, g1⟩ := O13.cells
  have hg13 := O13.lt
  have hz13 := O13.z
  go_wp2_with fail
  refine (markGraph_own lo bg Ag cg ms 0 1 w13 O13.hG (by omega) hmsm (by omega) (by omega)).mono ?_
  rintro e w14 ⟨rfl, hoG14, hS⟩
  have S14 := S13.below (hS.below (by omega)) (by omega)
  have O14 : StO w14 lo bg bg Ag cg ms.length (marksN 1 ms) 0 := ⟨(hS.block bg hg13 (.inr (Nat.le_refl _))).trans O13.lg, hoG14, Nat.le_refl _⟩
  have s14 := hS.size
  have iG := hoG14.nds Hqwf.out (by rw [Hql.out]; omega)
  clear hS S13 O13 hoG14 e0 e1 e2 e3 g0 g1
  obtain ⟨e0, e1, e2, e3⟩ := S14.cells
  obtain ⟨g0, g1⟩ := O14.cells
  have hg14 := O14.lt
  have HHD := hide (heldGraph_own Ag cg ms 0 1 w14 iG hmsm (by omega) (by omega))
  generalize hqd : marksEnd 1 ms = q at hme HHD ⊢
  have HQ := hide hqd
  clear hqd iG
  have dq : decide (q < 0) = false := by simp; omega
  have dn : (q != q) = false := by simp
  go_wp2_with fail
  refine HHD.out.mono ?_
  rintro e w15 ⟨rfl, hb15⟩
  have S15 := S14.below hb15 S14.lt
  have O15 := O14.below hb15 O14.lt
  have s15 := hb15.size
  clear HHD hb15 S14 O14 e0 e1 e2 e3 g0 g1
  obtain ⟨e0, e1, e2, e3⟩ := S15.cells
  go_wp2_with fail
  refine (toGraph_any A ns c r w15 (S15.hr.more (by have := S15.la.lt; omega)) hsm).mono ?_
  rintro e w16 ⟨rfl, hm16, hb16⟩
  have S16 := S15.below hb16 S15.lt
  have O16 := O15.below hb16 O15.lt
  have s16 := hb16.size
  have hx16 := hm16.at_ Hwf.out hnl
  clear hm16 hb16 S15 O15 e0 e1 e2 e3
  go_wp2_with fail
  have HI := implLeast_any (some ⟨w15.heap.size + 3, 0, none⟩) ns ns.length r w16 hx16 (Nat.le_refl _)
  rw [HPd.out] at HI
  refine HI.mono ?_
  clear HI
  rintro e w17 ⟨Ah, ch, rfl, hoH, hb17⟩
  have S17 := S16.below hb17 S16.lt
  have O17 := O16.below hb17 O16.lt
  have s17 := hb17.size
  have H18 := StO.make (s := 0) hoH
  have hba : Below w17.heap.size w17 (w17.alloc (.cells #[.slice Ah ms.length ch, .int .i64 0] 28)) := (Below.refl _ _).alloc (Nat.le_refl _) _
  have S18 := S17.below hba S17.lt
  have O18 := O17.below hba O17.lt
  clear hoH hb17 hx16 S16 O16 S17 O17 hba
  obtain ⟨e0, e1, e2, e3⟩ := S18.cells
  obtain ⟨h0, h1⟩ := H18.cells
  go_wp2_with fail
  generalize w17.alloc (.cells #[.slice Ah ms.length ch, .int .i64 0] 28) = w18 at S18 O18 H18 e0 e1 e2 e3 h0 h1 ⊢
  generalize w17.heap.size = bh at H18 s17 h0 h1 ⊢
  generalize w16.heap.size = lh at H18 s17 ⊢
  have hg18 := O18.lt
  have hs18 := S18.lt
  refine (eqGraph_same _ _ ms 0 _ _ w18 (H18.hG.nds Hmwf.out (by omega)) (S18.hW.more (by omega))).mono ?_
  rintro e w19 ⟨rfl, hb19⟩
  have S19 := S18.below hb19 S18.lt
  have O19 := O18.below hb19 O18.lt
  clear hb19 S18 O18 H18 e0 e1 e2 e3 h0 h1
  obtain ⟨g0, g1⟩ := O19.cells
  have iG := O19.hG.nds Hqwf.out (by rw [Hql.out]; omega)
  have HHD := hide (heldGraph_own Ag cg ms 0 1 w19 iG hmsm (by omega) (by omega))
  rw [HQ.out] at HHD
  clear iG
  go_wp2_with fail
  refine HHD.out.mono ?_
  rintro e w20 ⟨rfl, hb20⟩
  have HB := hide (S19.below hb20 S19.lt).bel
  clear HHD hb20 S19 O19 g0 g1
  go_wp2
  go_ret
  exact ⟨rfl, HB.out⟩

set_option maxHeartbeats 1000000 in
theorem exLG_big (A : Option Addr) (ns : List Nd) (c : Nat) (r : Int) (w : World) (hr : NdsAt w w.heap.size A ns) (hs : szNs ns 1048576 < 0) :
    Calls Try.prog 3 #[.agg #[.slice A ns.length c, .int .i64 r]] w fun e w' => e = .returned (.bool true) ∧ Below w.heap.size w w' := by
  have hB0 : Below w.heap.size w (w.alloc (.cells #[.slice A ns.length c, .int .i64 r] 24)) := (Below.refl _ _).alloc (Nat.le_refl _) _
  have hr1 := hr.later hB0 (Nat.le_refl _)
  clear hr
  go_enter Try.func3, Try.ntmps3
  go_wp2_with fail
  refine (szGraph_any A ns c r 1048576 _ (by omega) (by omega) hr1).mono ?_
  rintro e w1 ⟨rfl, hb1⟩
  generalize szNs ns 1048576 = sz at hs ⊢
  have hd : decide (sz < 0) = true := by simp; omega
  go_wp2
  go_ret
  exact ⟨rfl, hB0.trans (hb1.mono hB0.size)⟩

theorem exLG_any (A : Option Addr) (ns : List Nd) (c : Nat) (r : Int) (w : World) (hr : NdsAt w w.heap.size A ns) :
    Calls Try.prog 3 #[.agg #[.slice A ns.length c, .int .i64 r]] w fun e w' => e = .returned (.bool true) ∧ Below w.heap.size w w' := by
  by_cases hs : 0 ≤ szNs ns 1048576
  · exact exLG_small A ns c r w hr hs
  · exact exLG_big A ns c r w hr (by omega)

end Go.Proofs.Ytdgmohebnkcohab
