import Derived.Test.YtaolnnjcpnhghaeBmI
import Derived.Test.YtaolnnjcpnhghaeStO
import Derived.Test.YtaolnnjcpnhghaeEqGS
import Derived.Deep.Cut
namespace Go.Proofs.Ytaolnnjcpnhghae
open Go.RowKit Go.Maps
set_option linter.unusedVariables false
structure StB (w wr : World) (ms : List Nd) (r : Int) (Aw : Option Addr) (cw b0 : Nat) : Prop where
  bel : Below w.heap.size w wr
  lw : Lies wr b0 #[.slice Aw ms.length cw, .int .i64 r] 24
  hW : NdsAt wr b0 Aw ms
  z : w.heap.size ≤ b0
theorem StB.below {w wr w' : World} {ms : List Nd} {r : Int} {Aw : Option Addr} {cw b0 B : Nat} (h : StB w wr ms r Aw cw b0) (hb : Below B wr w') (hB : b0 < B) : StB w w' ms r Aw cw b0 :=
  ⟨h.bel.trans (hb.mono (by have := h.z; omega)), h.lw.below hb hB, h.hW.below (hb.mono (by omega)), h.z⟩
theorem StB.lt {w wr : World} {ms : List Nd} {r : Int} {Aw : Option Addr} {cw b0 : Nat} (h : StB w wr ms r Aw cw b0) : b0 < wr.heap.size := h.lw.lt
theorem StB.cells {w wr : World} {ms : List Nd} {r : Int} {Aw : Option Addr} {cw b0 : Nat} (h : StB w wr ms r Aw cw b0) : wr.cell? ⟨b0, 0, none⟩ = some (.slice Aw ms.length cw) ∧ wr.cell? ⟨b0, 1, none⟩ = some (.int .i64 r) := by
  have e0 := h.lw.cell 0
  have e1 := h.lw.cell 1
  simp at e0 e1
  exact ⟨e0, e1⟩
set_option maxRecDepth 100000 in
set_option maxHeartbeats 1000000 in
theorem exBG_any (l : Int) (w : World) (hl : In64 l) :
    Calls Try.prog 3 #[.int .i64 l] w fun e w' => e = .returned (.bool true) ∧ Below w.heap.size w w' := by
  have HI := hide (implBomb_any l)
  have HSp := hide (specBomb_any l)
  have hmsm := bombOf_small l
  have hmwf := bombOf_wf l
  generalize bombOf l = ms at HI HSp hmsm hmwf
  generalize bombR l = r at HI HSp
  have Hmwf := hide hmwf
  have Hqwf := hide (marksN_wf (k := 1) hmsm (by omega) (by omega))
  have Hql := hide (marksN_len 1 ms)
  have hml := hmsm.len
  have hme := marksEnd_grows 1 ms
  clear hmwf
  go_enter Try.func3, Try.ntmps3
  go_wp2_with fail
  refine (HSp.out w).mono ?_
  rintro e w3 ⟨Aw, cw, rfl, hW3, hb3⟩
  have hba : Below w3.heap.size w3 (w3.alloc (.cells #[.slice Aw ms.length cw, .int .i64 r] 24)) := (Below.refl _ _).alloc (Nat.le_refl _) _
  have S4 : StB w (w3.alloc (.cells #[.slice Aw ms.length cw, .int .i64 r] 24)) ms r Aw cw w3.heap.size := ⟨hb3.trans (hba.mono hb3.size), Lies.new _ _ _, hW3.below hba, hb3.size⟩
  clear hW3 hb3 hba HSp
  obtain ⟨e0, e1⟩ := S4.cells
  go_wp2_with fail
  generalize w3.alloc (.cells #[.slice Aw ms.length cw, .int .i64 r] 24) = w4 at S4 e0 e1 ⊢
  generalize w3.heap.size = b0 at S4 e0 e1 ⊢
  have s4 := S4.lt
  refine (HI.out w4).mono ?_
  rintro e w5 ⟨Ag, cg, rfl, hoG, hb5⟩
  have S5 := S4.below hb5 S4.lt
  have s5 := hb5.size
  have O6 := StO.make (s := r) hoG
  have hba : Below w5.heap.size w5 (w5.alloc (.cells #[.slice Ag ms.length cg, .int .i64 r] 24)) := (Below.refl _ _).alloc (Nat.le_refl _) _
  have S6 := S5.below hba S5.lt
  clear hoG hb5 S4 S5 hba e0 e1
  obtain ⟨e0, e1⟩ := S6.cells
  obtain ⟨g0, g1⟩ := O6.cells
  go_wp2_with fail
  generalize w5.alloc (.cells #[.slice Ag ms.length cg, .int .i64 r] 24) = w6 at S6 O6 e0 e1 g0 g1 ⊢
  generalize w5.heap.size = bg at O6 s5 g0 g1 ⊢
  generalize w4.heap.size = lo at O6 s5 s4 ⊢
  have hg6 := O6.lt
  refine (eqGraph_same _ _ ms r _ _ w6 (O6.hG.nds Hmwf.out (by omega)) (S6.hW.more (by omega))).mono ?_
  rintro e w7 ⟨rfl, hb7⟩
  have S7 := S6.below hb7 S6.lt
  have O7 := O6.below hb7 O6.lt
  clear hb7 S6 O6 e0 e1 g0 g1
  obtain ⟨e0, e1⟩ := S7.cells
  obtain ⟨g0, g1⟩ := O7.cells
  have hg7 := O7.lt
  have hz7 := O7.z
  go_wp2_with fail
  refine (markGraph_own (lo + 1) bg Ag cg ms r 1 w7 O7.hG (by omega) hmsm (by omega) (by omega)).mono ?_
  rintro e w8 ⟨rfl, hoG8, hS⟩
  have S8 := S7.below (hS.below (by omega)) (by omega)
  have O8 : StO w8 (lo + 1) bg bg Ag cg ms.length (marksN 1 ms) r := ⟨(hS.block bg hg7 (.inr (Nat.le_refl _))).trans O7.lg, hoG8, Nat.le_refl _⟩
  have s8 := hS.size
  have iG := hoG8.nds Hqwf.out (by rw [Hql.out]; omega)
  clear hS S7 O7 hoG8 e0 e1 g0 g1
  obtain ⟨e0, e1⟩ := S8.cells
  obtain ⟨g0, g1⟩ := O8.cells
  have hg8 := O8.lt
  have HHD := hide (heldGraph_own Ag cg ms r 1 w8 iG hmsm (by omega) (by omega))
  generalize hqd : marksEnd 1 ms = q at hme HHD ⊢
  have HQ := hide hqd
  clear hqd iG
  have dq : decide (q < 0) = false := by simp; omega
  have dn : (q != q) = false := by simp
  go_wp2_with fail
  refine HHD.out.mono ?_
  rintro e w9 ⟨rfl, hb9⟩
  have S9 := S8.below hb9 S8.lt
  have O9 := O8.below hb9 O8.lt
  clear HHD hb9 S8 O8 e0 e1 g0 g1
  obtain ⟨e0, e1⟩ := S9.cells
  have s9 := S9.lt
  have g9 := O9.lt
  go_wp2_with fail
  refine (HI.out w9).mono ?_
  rintro e w10 ⟨Ah, ch, rfl, hoH, hb10⟩
  have S10 := S9.below hb10 S9.lt
  have O10 := O9.below hb10 O9.lt
  have s10 := hb10.size
  have H11 := StO.make (s := r) hoH
  have hba : Below w10.heap.size w10 (w10.alloc (.cells #[.slice Ah ms.length ch, .int .i64 r] 24)) := (Below.refl _ _).alloc (Nat.le_refl _) _
  have S11 := S10.below hba S10.lt
  have O11 := O10.below hba O10.lt
  clear hoH hb10 S9 O9 S10 O10 hba e0 e1
  obtain ⟨e0, e1⟩ := S11.cells
  obtain ⟨h0, h1⟩ := H11.cells
  go_wp2_with fail
  generalize w10.alloc (.cells #[.slice Ah ms.length ch, .int .i64 r] 24) = w11 at S11 O11 H11 e0 e1 h0 h1 ⊢
  generalize w10.heap.size = bh at H11 s10 h0 h1 ⊢
  generalize w9.heap.size = lh at H11 s10 s9 g9 ⊢
  have hs11 := S11.lt
  refine (eqGraph_same _ _ ms r _ _ w11 (H11.hG.nds Hmwf.out (by omega)) (S11.hW.more (by omega))).mono ?_
  rintro e w12 ⟨rfl, hb12⟩
  have S12 := S11.below hb12 S11.lt
  have O12 := O11.below hb12 O11.lt
  clear hb12 S11 O11 H11 e0 e1 h0 h1
  obtain ⟨g0, g1⟩ := O12.cells
  have iG := O12.hG.nds Hqwf.out (by rw [Hql.out]; omega)
  have HHD := hide (heldGraph_own Ag cg ms r 1 w12 iG hmsm (by omega) (by omega))
  rw [HQ.out] at HHD
  clear iG
  go_wp2_with fail
  refine HHD.out.mono ?_
  rintro e w13 ⟨rfl, hb13⟩
  have HB := hide (S12.below hb13 S12.lt).bel
  clear HHD hb13 S12 O12 g0 g1
  go_wp2
  go_ret
  exact ⟨rfl, HB.out⟩
end Go.Proofs.Ytaolnnjcpnhghae
