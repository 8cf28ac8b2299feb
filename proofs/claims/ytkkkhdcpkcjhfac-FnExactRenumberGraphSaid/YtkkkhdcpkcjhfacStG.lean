/-
  What stays while the law of a function from graphs to graphs looks at the answers; and markGraph and heldGraph of a graph of the call's own.
-/
import Derived.Test.YtkkkhdcpkcjhfacMarkG
import Derived.Test.YtkkkhdcpkcjhfacMarkN
import Derived.Test.YtkkkhdcpkcjhfacRowN
namespace Go.Proofs.Ytkkkhdcpkcjhfac
open Go.RowKit
set_option linter.unusedVariables false

/-- the argument, and the model's answer -/
structure StG (w wr : World) (A : Option Addr) (ns : List Nd) (c : Nat) (r : Int) (ms : List Nd) (s : Int) (Aw : Option Addr) (cw b0 : Nat) : Prop where
  bel : Below w.heap.size w wr
  la : Lies wr w.heap.size #[.slice A ns.length c, .int .i64 r] 24
  hr : NdsAt wr w.heap.size A ns
  l0 : Lies wr b0 #[.slice Aw ms.length cw, .int .i64 s] 29
  hW : NdsAt wr b0 Aw ms
  z1 : w.heap.size < b0

theorem StG.lt {w wr : World} {A : Option Addr} {ns : List Nd} {c : Nat} {r : Int} {ms : List Nd} {s : Int} {Aw : Option Addr} {cw b0 : Nat} (h : StG w wr A ns c r ms s Aw cw b0) : b0 < wr.heap.size := h.l0.lt

theorem StG.below {w wr w' : World} {A : Option Addr} {ns : List Nd} {c : Nat} {r : Int} {ms : List Nd} {s : Int} {Aw : Option Addr} {cw b0 B : Nat} (h : StG w wr A ns c r ms s Aw cw b0) (hb : Below B wr w') (hB : b0 < B) : StG w w' A ns c r ms s Aw cw b0 := by
  have h1 := h.z1
  exact ⟨h.bel.trans (hb.mono (by omega)), h.la.below hb (by omega), h.hr.below (hb.mono (by omega)), h.l0.below hb (by omega), h.hW.below (hb.mono (by omega)), h1⟩

theorem StG.cells {w wr : World} {A : Option Addr} {ns : List Nd} {c : Nat} {r : Int} {ms : List Nd} {s : Int} {Aw : Option Addr} {cw b0 : Nat} (h : StG w wr A ns c r ms s Aw cw b0) :
    wr.cell? ⟨w.heap.size, 0, none⟩ = some (.slice A ns.length c) ∧ wr.cell? ⟨w.heap.size, 1, none⟩ = some (.int .i64 r) ∧ wr.cell? ⟨b0, 0, none⟩ = some (.slice Aw ms.length cw) ∧ wr.cell? ⟨b0, 1, none⟩ = some (.int .i64 s) := by
  have e0 := h.la.cell 0
  have e1 := h.la.cell 1
  have e2 := h.l0.cell 0
  have e3 := h.l0.cell 1
  simp at e0 e1 e2 e3
  exact ⟨e0, e1, e2, e3⟩

/-- the copy of the argument that the program gets -/
structure StX (wr : World) (xl bx : Nat) (ns : List Nd) (r : Int) : Prop where
  lx : Lies wr bx #[.slice (some ⟨xl, 0, none⟩) ns.length ns.length, .int .i64 r] 29
  hx : NdsAt wr bx (some ⟨xl, 0, none⟩) ns
  hM : Markable wr xl xl bx 42 3 ns
  z : xl < bx

theorem StX.lt {wr : World} {xl bx : Nat} {ns : List Nd} {r : Int} (h : StX wr xl bx ns r) : bx < wr.heap.size := h.lx.lt

theorem StX.below {wr w' : World} {xl bx B : Nat} {ns : List Nd} {r : Int} (h : StX wr xl bx ns r) (hb : Below B wr w') (hB : bx < B) : StX w' xl bx ns r :=
  ⟨h.lx.below hb hB, h.hx.below (hb.mono (by omega)), h.hM.kept (hb.block _ (by have := h.z; omega)) (fun k _ hk => hb.block k (by omega)), h.z⟩

theorem StX.make {w4 : World} {g : Nat} {ns : List Nd} {r : Int} (hm : MadeNds w4 g 42 3 ns) (hwf : Wf ns) (hl : ns.length ≤ 9223372036854775807) :
    StX (w4.alloc (.cells #[.slice (some ⟨g, 0, none⟩) ns.length ns.length, .int .i64 r] 29)) g w4.heap.size ns r := by
  have hb : Below w4.heap.size w4 (w4.alloc (.cells #[.slice (some ⟨g, 0, none⟩) ns.length ns.length, .int .i64 r] 29)) := (Below.refl _ _).alloc (Nat.le_refl _) _
  have hg : g < w4.heap.size := by obtain ⟨f, hf⟩ := hm.row; exact hf.lt
  exact ⟨Lies.new _ _ _, (hm.at_ hwf hl).below hb, hm.markable.kept (hb.block _ hg) (fun k _ hk => hb.block k hk), hg⟩

theorem StX.cells {wr : World} {xl bx : Nat} {ns : List Nd} {r : Int} (h : StX wr xl bx ns r) : wr.cell? ⟨bx, 0, none⟩ = some (.slice (some ⟨xl, 0, none⟩) ns.length ns.length) ∧ wr.cell? ⟨bx, 1, none⟩ = some (.int .i64 r) := by
  have e0 := h.lx.cell 0
  have e1 := h.lx.cell 1
  simp at e0 e1
  exact ⟨e0, e1⟩

/-- the program's answer, of which memory holds qs now -/
structure StO (wr : World) (lo hi bg : Nat) (Ag : Option Addr) (cg n : Nat) (qs : List Nd) (s : Int) : Prop where
  lg : Lies wr bg #[.slice Ag n cg, .int .i64 s] 29
  hG : OwnNs wr lo hi Ag cg qs
  z : hi ≤ bg

theorem StO.lt {wr : World} {lo hi bg : Nat} {Ag : Option Addr} {cg n : Nat} {qs : List Nd} {s : Int} (h : StO wr lo hi bg Ag cg n qs s) : bg < wr.heap.size := h.lg.lt

theorem StO.below {wr w' : World} {lo hi bg B : Nat} {Ag : Option Addr} {cg n : Nat} {qs : List Nd} {s : Int} (h : StO wr lo hi bg Ag cg n qs s) (hb : Below B wr w') (hB : bg < B) : StO w' lo hi bg Ag cg n qs s :=
  ⟨h.lg.below hb hB, h.hG.below hb (by have := h.z; omega), h.z⟩

theorem StO.save {wr w' : World} {lo hi bg l2 h2 : Nat} {Ag : Option Addr} {cg n : Nat} {qs : List Nd} {s : Int} (h : StO wr lo hi bg Ag cg n qs s) (hb : Save l2 h2 wr w') (h1 : h2 ≤ lo) (h3 : h2 ≤ bg) : StO w' lo hi bg Ag cg n qs s :=
  ⟨(hb.block bg h.lt (.inr h3)).trans h.lg, h.hG.kept (fun b h4 h5 => hb.block b (by have := h.z; have := h.lt; omega) (.inr (by omega))), h.z⟩

theorem StO.make {w4 : World} {lo : Nat} {Ag : Option Addr} {cg : Nat} {qs : List Nd} {s : Int} (h : OwnNs w4 lo w4.heap.size Ag cg qs) :
    StO (w4.alloc (.cells #[.slice Ag qs.length cg, .int .i64 s] 29)) lo w4.heap.size w4.heap.size Ag cg qs.length qs s :=
  ⟨Lies.new _ _ _, h.below ((Below.refl _ _).alloc (Nat.le_refl _) _) (Nat.le_refl _), Nat.le_refl _⟩

theorem StO.cells {wr : World} {lo hi bg : Nat} {Ag : Option Addr} {cg n : Nat} {qs : List Nd} {s : Int} (h : StO wr lo hi bg Ag cg n qs s) : wr.cell? ⟨bg, 0, none⟩ = some (.slice Ag n cg) ∧ wr.cell? ⟨bg, 1, none⟩ = some (.int .i64 s) := by
  have e0 := h.lg.cell 0
  have e1 := h.lg.cell 1
  simp at e0 e1
  exact ⟨e0, e1⟩

theorem OwnNs.le_size {w : World} {lo hi : Nat} {A : Option Addr} {c : Nat} {ns : List Nd} (h : OwnNs w lo hi A c ns) (hl : lo ≤ hi) : lo ≤ hi := hl

set_option maxHeartbeats 1000000 in
theorem markGraph_own (lo hi : Nat) (A : Option Addr) (c : Nat) (ns : List Nd) (r k0 : Int) (w : World) (h : OwnNs w lo hi A c ns) (hhi : hi ≤ w.heap.size) (hs : SmallN ns) (hk0 : 0 ≤ k0) (hk1 : k0 ≤ 1000) :
    Calls Try.prog 11 #[.agg #[.slice A ns.length c, .int .i64 r], .int .i64 k0] w fun e w' => e = .returned (.int .i64 (marksEnd k0 ns)) ∧ OwnNs w' lo hi A c (marksN k0 ns) ∧ Save lo hi w w' := by
  have hB : Below w.heap.size w (w.alloc (.cells #[.slice A ns.length c, .int .i64 r] 29)) := (Below.refl _ _).alloc (Nat.le_refl _) _
  have h2 := h.below hB hhi
  clear h
  go_enter Try.func11, Try.ntmps11
  go_wp2_with fail
  refine (markNodeS_own lo hi A c ns k0 _ h2 hs hk0 hk1).mono ?_
  rintro e w' ⟨rfl, ho, hO⟩
  have HS := hide ((Save.of_below hB).trans (Save.of_only hO))
  have HO := hide ho
  generalize hed : marksEnd k0 ns = ke
  have HED := hide hed
  clear ho hO h2 hB hed
  go_wp2
  go_ret
  exact ⟨ret_int HED.out.symm, HO.out, HS.out⟩

set_option maxHeartbeats 1000000 in
theorem heldGraph_own (A : Option Addr) (c : Nat) (ns : List Nd) (r k0 : Int) (w : World) (h : NdsAt w w.heap.size A (marksN k0 ns)) (hs : SmallN ns) (hk0 : 0 ≤ k0) (hk1 : k0 ≤ 1000) :
    Calls Try.prog 13 #[.agg #[.slice A ns.length c, .int .i64 r], .int .i64 k0] w fun e w' => e = .returned (.int .i64 (marksEnd k0 ns)) ∧ Below w.heap.size w w' := by
  have hB : Below w.heap.size w (w.alloc (.cells #[.slice A ns.length c, .int .i64 r] 29)) := (Below.refl _ _).alloc (Nat.le_refl _) _
  have h2 := h.later hB (Nat.le_refl _)
  have hg := marksEnd_grows k0 ns
  clear h
  go_enter Try.func13, Try.ntmps13
  go_wp2_with fail
  refine (heldNodeS_any A ns c k0 _ h2 hs hk0 hk1).mono ?_
  rintro e w' ⟨rfl, rfl⟩
  have HB := hide hB
  generalize hed : marksEnd k0 ns = ke at hg ⊢
  have HED := hide hed
  have hd : decide (ke < 0) = false := by simp; omega
  clear h2 hB hed
  go_wp2
  go_ret
  exact ⟨ret_int HED.out.symm, HB.out⟩

end Go.Proofs.Ytkkkhdcpkcjhfac
