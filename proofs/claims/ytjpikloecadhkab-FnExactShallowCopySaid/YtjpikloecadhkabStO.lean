/-
  A graph of the call's own in a box: what stays, and markGraph and heldGraph of it.
-/
import Derived.Test.YtjpikloecadhkabMarkN
import Derived.Test.YtjpikloecadhkabRowN
namespace Go.Proofs.Ytjpikloecadhkab
open Go.RowKit
set_option linter.unusedVariables false


/-- the program's answer, of which memory holds qs now -/
structure StO (wr : World) (lo hi bg : Nat) (Ag : Option Addr) (cg n : Nat) (qs : List Nd) (s : Int) : Prop where
  lg : Lies wr bg #[.slice Ag n cg, .int .i64 s] 28
  hG : OwnNs wr lo hi Ag cg qs
  z : hi ≤ bg

theorem StO.lt {wr : World} {lo hi bg : Nat} {Ag : Option Addr} {cg n : Nat} {qs : List Nd} {s : Int} (h : StO wr lo hi bg Ag cg n qs s) : bg < wr.heap.size := h.lg.lt

theorem StO.below {wr w' : World} {lo hi bg B : Nat} {Ag : Option Addr} {cg n : Nat} {qs : List Nd} {s : Int} (h : StO wr lo hi bg Ag cg n qs s) (hb : Below B wr w') (hB : bg < B) : StO w' lo hi bg Ag cg n qs s :=
  ⟨h.lg.below hb hB, h.hG.below hb (by have := h.z; omega), h.z⟩

theorem StO.save {wr w' : World} {lo hi bg l2 h2 : Nat} {Ag : Option Addr} {cg n : Nat} {qs : List Nd} {s : Int} (h : StO wr lo hi bg Ag cg n qs s) (hb : Save l2 h2 wr w') (h1 : h2 ≤ lo) (h3 : h2 ≤ bg) : StO w' lo hi bg Ag cg n qs s :=
  ⟨(hb.block bg h.lt (.inr h3)).trans h.lg, h.hG.kept (fun b h4 h5 => hb.block b (by have := h.z; have := h.lt; omega) (.inr (by omega))), h.z⟩

theorem StO.make {w4 : World} {lo : Nat} {Ag : Option Addr} {cg : Nat} {qs : List Nd} {s : Int} (h : OwnNs w4 lo w4.heap.size Ag cg qs) :
    StO (w4.alloc (.cells #[.slice Ag qs.length cg, .int .i64 s] 28)) lo w4.heap.size w4.heap.size Ag cg qs.length qs s :=
  ⟨Lies.new _ _ _, h.below ((Below.refl _ _).alloc (Nat.le_refl _) _) (Nat.le_refl _), Nat.le_refl _⟩

theorem StO.cells {wr : World} {lo hi bg : Nat} {Ag : Option Addr} {cg n : Nat} {qs : List Nd} {s : Int} (h : StO wr lo hi bg Ag cg n qs s) : wr.cell? ⟨bg, 0, none⟩ = some (.slice Ag n cg) ∧ wr.cell? ⟨bg, 1, none⟩ = some (.int .i64 s) := by
  have e0 := h.lg.cell 0
  have e1 := h.lg.cell 1
  simp at e0 e1
  exact ⟨e0, e1⟩

theorem OwnNs.le_size {w : World} {lo hi : Nat} {A : Option Addr} {c : Nat} {ns : List Nd} (h : OwnNs w lo hi A c ns) (hl : lo ≤ hi) : lo ≤ hi := hl

set_option maxHeartbeats 1000000 in
theorem markGraph_own (lo hi : Nat) (A : Option Addr) (c : Nat) (ns : List Nd) (r k0 : Int) (w : World) (h : OwnNs w lo hi A c ns) (hhi : hi ≤ w.heap.size) (hs : SmallN ns) (hk0 : 0 ≤ k0) (hk1 : k0 ≤ 1000) :
    Calls Try.prog 9 #[.agg #[.slice A ns.length c, .int .i64 r], .int .i64 k0] w fun e w' => e = .returned (.int .i64 (marksEnd k0 ns)) ∧ OwnNs w' lo hi A c (marksN k0 ns) ∧ Save lo hi w w' := by
  have hB : Below w.heap.size w (w.alloc (.cells #[.slice A ns.length c, .int .i64 r] 28)) := (Below.refl _ _).alloc (Nat.le_refl _) _
  have h2 := h.below hB hhi
  clear h
  go_enter Try.func9, Try.ntmps9
  go_wp2_with fail
  refine (markNodeS_own lo hi A c ns k0 _ h2 hs hk0 hk1).mono ?_
  rintro e w' ⟨rfl, ho, hO⟩
  have HS := hide ((Save.of_below hB).trans (Save.of_only hO))
  have HO := hide ho
  generalize hed : marksEnd k0 ns = ke
  have HED := hide hed
  clear ho hO h2 hB hed
  go_wp2
  go_ret
  exact ⟨ret_int HED.out.symm, HO.out, HS.out⟩

set_option maxHeartbeats 1000000 in
theorem heldGraph_own (A : Option Addr) (c : Nat) (ns : List Nd) (r k0 : Int) (w : World) (h : NdsAt w w.heap.size A (marksN k0 ns)) (hs : SmallN ns) (hk0 : 0 ≤ k0) (hk1 : k0 ≤ 1000) :
    Calls Try.prog 10 #[.agg #[.slice A ns.length c, .int .i64 r], .int .i64 k0] w fun e w' => e = .returned (.int .i64 (marksEnd k0 ns)) ∧ Below w.heap.size w w' := by
  have hB : Below w.heap.size w (w.alloc (.cells #[.slice A ns.length c, .int .i64 r] 28)) := (Below.refl _ _).alloc (Nat.le_refl _) _
  have h2 := h.later hB (Nat.le_refl _)
  have hg := marksEnd_grows k0 ns
  clear h
  go_enter Try.func10, Try.ntmps10
  go_wp2_with fail
  refine (heldNodeS_any A ns c k0 _ h2 hs hk0 hk1).mono ?_
  rintro e w' ⟨rfl, rfl⟩
  have HB := hide hB
  generalize hed : marksEnd k0 ns = ke at hg ⊢
  have HED := hide hed
  have hd : decide (ke < 0) = false := by simp; omega
  clear h2 hB hed
  go_wp2
  go_ret
  exact ⟨ret_int HED.out.symm, HB.out⟩

end Go.Proofs.Ytjpikloecadhkab
