/-
  Lemmas, several texts in one: StO, StG, ToI.
-/
import Derived.Test.YtdgmohebnkcohaaMarkN
import Derived.Test.YtdgmohebnkcohaaRowN
import Derived.Test.YtdgmohebnkcohaaPjAj
import Derived.Test.YtdgmohebnkcohaaPjAe
import Derived.Test.YtdgmohebnkcohaaPjAc
import Derived.Test.YtdgmohebnkcohaaPjAa
namespace Go.Proofs.Ytdgmohebnkcohaa
open Go.RowKit
set_option linter.unusedVariables false


/-- the program's answer, of which memory holds qs now -/
structure StO (wr : World) (lo hi bg : Nat) (Ag : Option Addr) (cg n : Nat) (qs : List Nd) (s : Int) : Prop where
  lg : Lies wr bg #[.slice Ag n cg, .int .i64 s] 28
  hG : OwnNs wr lo hi Ag cg qs
  z : hi ≤ bg

theorem StO.lt {wr : World} {lo hi bg : Nat} {Ag : Option Addr} {cg n : Nat} {qs : List Nd} {s : Int} (h : StO wr lo hi bg Ag cg n qs s) : bg < wr.heap.size := h.lg.lt

theorem StO.below {wr w' : World} {lo hi bg B : Nat} {Ag : Option Addr} {cg n : Nat} {qs : List Nd} {s : Int} (h : StO wr lo hi bg Ag cg n qs s) (hb : Below B wr w') (hB : bg < B) : StO w' lo hi bg Ag cg n qs s :=
  ⟨h.lg.below hb hB, h.hG.below hb (by have := h.z; omega), h.z⟩

theorem StO.save {wr w' : World} {lo hi bg l2 h2 : Nat} {Ag : Option Addr} {cg n : Nat} {qs : List Nd} {s : Int} (h : StO wr lo hi bg Ag cg n qs s) (hb : Save l2 h2 wr w') (h1 : h2 ≤ lo) (h3 : h2 ≤ bg) : StO w' lo hi bg Ag cg n qs s :=
  ⟨(hb.block bg h.lt (.inr h3)).trans h.lg, h.hG.kept (fun b h4 h5 => hb.block b (by have := h.z; have := h.lt; omega) (.inr (by omega))), h.z⟩

theorem StO.make {w4 : World} {lo : Nat} {Ag : Option Addr} {cg : Nat} {qs : List Nd} {s : Int} (h : OwnNs w4 lo w4.heap.size Ag cg qs) :
    StO (w4.alloc (.cells #[.slice Ag qs.length cg, .int .i64 s] 28)) lo w4.heap.size w4.heap.size Ag cg qs.length qs s :=
  ⟨Lies.new _ _ _, h.below ((Below.refl _ _).alloc (Nat.le_refl _) _) (Nat.le_refl _), Nat.le_refl _⟩

theorem StO.cells {wr : World} {lo hi bg : Nat} {Ag : Option Addr} {cg n : Nat} {qs : List Nd} {s : Int} (h : StO wr lo hi bg Ag cg n qs s) : wr.cell? ⟨bg, 0, none⟩ = some (.slice Ag n cg) ∧ wr.cell? ⟨bg, 1, none⟩ = some (.int .i64 s) := by
  have e0 := h.lg.cell 0
  have e1 := h.lg.cell 1
  simp at e0 e1
  exact ⟨e0, e1⟩

theorem OwnNs.le_size {w : World} {lo hi : Nat} {A : Option Addr} {c : Nat} {ns : List Nd} (h : OwnNs w lo hi A c ns) (hl : lo ≤ hi) : lo ≤ hi := hl

set_option maxHeartbeats 1000000 in
theorem markGraph_own (lo hi : Nat) (A : Option Addr) (c : Nat) (ns : List Nd) (r k0 : Int) (w : World) (h : OwnNs w lo hi A c ns) (hhi : hi ≤ w.heap.size) (hs : SmallN ns) (hk0 : 0 ≤ k0) (hk1 : k0 ≤ 1000) :
    Calls Try.prog 9 #[.agg #[.slice A ns.length c, .int .i64 r], .int .i64 k0] w fun e w' => e = .returned (.int .i64 (marksEnd k0 ns)) ∧ OwnNs w' lo hi A c (marksN k0 ns) ∧ Save lo hi w w' := by
  have hB : Below w.heap.size w (w.alloc (.cells #[.slice A ns.length c, .int .i64 r] 28)) := (Below.refl _ _).alloc (Nat.le_refl _) _
  have h2 := h.below hB hhi
  clear h
  go_enter Try.func9, Try.ntmps9
  go_wp2_with fail
  refine (markNodeS_own lo hi A c ns k0 _ h2 hs hk0 hk1).mono ?_
  rintro e w' ⟨rfl, ho, hO⟩
  have HS := hide ((Save.of_below hB).trans (Save.of_only hO))
  have HO := hide ho
  generalize hed : marksEnd k0 ns = ke
  have HED := hide hed
  clear ho hO h2 hB hed
  go_wp2
  go_ret
  exact ⟨ret_int HED.out.symm, HO.out, HS.out⟩

set_option maxHeartbeats 1000000 in
theorem heldGraph_own (A : Option Addr) (c : Nat) (ns : List Nd) (r k0 : Int) (w : World) (h : NdsAt w w.heap.size A (marksN k0 ns)) (hs : SmallN ns) (hk0 : 0 ≤ k0) (hk1 : k0 ≤ 1000) :
    Calls Try.prog 10 #[.agg #[.slice A ns.length c, .int .i64 r], .int .i64 k0] w fun e w' => e = .returned (.int .i64 (marksEnd k0 ns)) ∧ Below w.heap.size w w' := by
  have hB : Below w.heap.size w (w.alloc (.cells #[.slice A ns.length c, .int .i64 r] 28)) := (Below.refl _ _).alloc (Nat.le_refl _) _
  have h2 := h.later hB (Nat.le_refl _)
  have hg := marksEnd_grows k0 ns
  clear h
  go_enter Try.func10, Try.ntmps10
  go_wp2_with fail
  refine (heldNodeS_any A ns c k0 _ h2 hs hk0 hk1).mono ?_
  rintro e w' ⟨rfl, rfl⟩
  have HB := hide hB
  generalize hed : marksEnd k0 ns = ke at hg ⊢
  have HED := hide hed
  have hd : decide (ke < 0) = false := by simp; omega
  clear h2 hB hed
  go_wp2
  go_ret
  exact ⟨ret_int HED.out.symm, HB.out⟩

end Go.Proofs.Ytdgmohebnkcohaa

namespace Go.Proofs.Ytdgmohebnkcohaa
open Go.RowKit
set_option linter.unusedVariables false

/-- the argument, and the model's answer -/
structure StG (w wr : World) (A : Option Addr) (ns : List Nd) (c : Nat) (r : Int) (ms : List Nd) (s : Int) (Aw : Option Addr) (cw b0 : Nat) : Prop where
  bel : Below w.heap.size w wr
  la : Lies wr w.heap.size #[.slice A ns.length c, .int .i64 r] 24
  hr : NdsAt wr w.heap.size A ns
  l0 : Lies wr b0 #[.slice Aw ms.length cw, .int .i64 s] 28
  hW : NdsAt wr b0 Aw ms
  z1 : w.heap.size < b0

theorem StG.lt {w wr : World} {A : Option Addr} {ns : List Nd} {c : Nat} {r : Int} {ms : List Nd} {s : Int} {Aw : Option Addr} {cw b0 : Nat} (h : StG w wr A ns c r ms s Aw cw b0) : b0 < wr.heap.size := h.l0.lt

theorem StG.below {w wr w' : World} {A : Option Addr} {ns : List Nd} {c : Nat} {r : Int} {ms : List Nd} {s : Int} {Aw : Option Addr} {cw b0 B : Nat} (h : StG w wr A ns c r ms s Aw cw b0) (hb : Below B wr w') (hB : b0 < B) : StG w w' A ns c r ms s Aw cw b0 := by
  have h1 := h.z1
  exact ⟨h.bel.trans (hb.mono (by omega)), h.la.below hb (by omega), h.hr.below (hb.mono (by omega)), h.l0.below hb (by omega), h.hW.below (hb.mono (by omega)), h1⟩

theorem StG.cells {w wr : World} {A : Option Addr} {ns : List Nd} {c : Nat} {r : Int} {ms : List Nd} {s : Int} {Aw : Option Addr} {cw b0 : Nat} (h : StG w wr A ns c r ms s Aw cw b0) :
    wr.cell? ⟨w.heap.size, 0, none⟩ = some (.slice A ns.length c) ∧ wr.cell? ⟨w.heap.size, 1, none⟩ = some (.int .i64 r) ∧ wr.cell? ⟨b0, 0, none⟩ = some (.slice Aw ms.length cw) ∧ wr.cell? ⟨b0, 1, none⟩ = some (.int .i64 s) := by
  have e0 := h.la.cell 0
  have e1 := h.la.cell 1
  have e2 := h.l0.cell 0
  have e3 := h.l0.cell 1
  simp at e0 e1 e2 e3
  exact ⟨e0, e1, e2, e3⟩

end Go.Proofs.Ytdgmohebnkcohaa

namespace Go.Proofs.Ytdgmohebnkcohaa
open Go.RowKit

set_option maxHeartbeats 1000000 in
theorem toIntS_any (A : Option Addr) (xs : List Int) (c : Nat) (w : World) (h : IntsAt w w.heap.size A xs) (hs : xs.length ≤ 1048576) :
    Calls Try.prog 44 #[.slice A xs.length c] w fun e w' => e = .returned (.slice (some ⟨w.heap.size, 0, none⟩) xs.length xs.length) ∧
      w'.rowIs w.heap.size 3 xs.length (intCell xs) ∧ Below w.heap.size w w' := by
  have hmk := run_make_row' (P := Try.prog) 36 3 (.int .i64 0) 8 Try.underlying36 infoInt rfl .i64 .i64 xs.length (by omega) (by omega)
  have hrow0 := World.rowIs_made w (.int .i64 0) xs.length 3
  go_enter Try.func44, Try.ntmps44
  go_wp2_with fail
  clear hmk
  go_loopw [4] (fun i wr => ∃ k : Nat, k ≤ xs.length ∧ i = .int .i64 k ∧ Below w.heap.size w wr ∧ wr.rowIs w.heap.size 3 xs.length (fun j => if j < k then intCell xs j else .int .i64 0)) (fun i _ => xs.length - (intOf i).toNat)
  case atStart => exact ⟨0, Nat.zero_le _, rfl, (Below.refl _ _).alloc (Nat.le_refl _) _, hrow0.congr (fun i _ => by simp)⟩
  case round =>
    obtain ⟨k, hk, rfl, hb, hrow⟩ := hrel
    clear hrow0
    by_cases hlt : k < xs.length
    · obtain ⟨b, off, x, rfl, hbl, hx, _, hc⟩ := (h.below hb).at_ hlt
      have Hx := hide hx
      clear hx
      have hc2 := hrow.cell hlt
      have hf2 := hrow.frozen k
      have hnext := hrow.set k (.int .i64 x)
      have hb2 := hb.setCell (p := ⟨w.heap.size, k, none⟩) (Nat.le_refl _) (.int .i64 x)
      clear hrow hb
      go_wp2
      go_roundw
      case rel => exact ⟨k + 1, by omega, by go_num, hb2, hnext.congr (fun i _ => by
        by_cases e : i = k
        · subst e; rw [if_pos rfl, if_pos (by omega), intCell_at Hx.out]
        · rw [if_neg e]
          by_cases e2 : i < k
          · rw [if_pos e2, if_pos (by omega)]
          · rw [if_neg e2, if_neg (by omega)])⟩
      case measure => simp [intOf]; omega
    · obtain rfl : k = xs.length := by omega
      clear hlt
      go_wp2
      go_ret
      exact ⟨rfl, hrow.congr (fun i hi => by rw [if_pos hi]), hb⟩

end Go.Proofs.Ytdgmohebnkcohaa
