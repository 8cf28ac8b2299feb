/-
  The copying functions toOp and toOpS: each makes new memory that reads as what it was given, and leaves all old memory as it was.
-/
import Derived.Test.YtfhmmdiicnfjbaaDoorOps
import Derived.Test.YtfhmmdiicnfjbaaDoorPjAa
namespace Go.Proofs.YtfhmmdiicnfjbaaDoor
open Go.RowKit

set_option maxHeartbeats 1000000 in
theorem toOp_any (c a : Int) (w : World) :
    Calls Tryd.prog 18 #[.agg #[.int .i64 c, .int .i64 a]] w fun e w' => e = .returned (.agg #[.int .i64 c, .int .i64 a]) ∧ Below w.heap.size w w' := by
  go_enter Tryd.func18, Tryd.ntmps18
  go_wp2
  refine bodyPost_ret (v := .agg #[.int .i64 c, .int .i64 a]) (by simp [results, Tryd.results18, go_sem]) rfl ⟨rfl, ?_⟩
  exact (((Below.refl _ _).alloc (Nat.le_refl _) _).alloc (by simp) _).alloc (by simp; omega) _

set_option maxHeartbeats 1000000 in
theorem toOpS_any (A : Option Addr) (os : List Od) (c : Nat) (w : World) (h : OpsAt w w.heap.size A os) (hs : os.length ≤ 1048576) :
    Calls Tryd.prog 6 #[.slice A os.length c] w fun e w' => e = .returned (.slice (some ⟨w.heap.size, 0, none⟩) os.length os.length) ∧
      w'.rowIs w.heap.size 40 (os.length * 2) (opCell os) ∧ Below w.heap.size w w' := by
  have hmk := run_make_rows (P := Tryd.prog) 26 40 (.agg #[.int .i64 0, .int .i64 0]) 2 16 Tryd.underlying26 infoOp .i64 .i64 os.length (by omega) (by omega)
  obtain ⟨f0, hrow0⟩ := rowIs_made_any w (Value.agg #[.int .i64 0, .int .i64 0]).cells (os.length * 2) 40
  have hb0 := (Below.refl _ w).alloc (Nat.le_refl _) (.cells (madeCells (Value.agg #[.int .i64 0, .int .i64 0]).cells (os.length * 2)) 40)
  generalize (Value.agg #[.int .i64 0, .int .i64 0]).cells = zc at hmk hrow0 hb0
  go_enter Tryd.func6, Tryd.ntmps6
  go_wp2_with fail
  clear hmk
  go_loopw [4] (fun i wr => ∃ k : Nat, k ≤ os.length ∧ i = .int .i64 k ∧ Below w.heap.size w wr ∧ ∃ f, wr.rowIs w.heap.size 40 (os.length * 2) f ∧ ∀ j, j < 2 * k → f j = opCell os j) (fun i _ => os.length - (intOf i).toNat)
  case atStart => exact ⟨0, Nat.zero_le _, rfl, hb0, f0, hrow0, fun j hj => absurd hj (by omega)⟩
  case round =>
    obtain ⟨k, hk, rfl, hb, f, hrow, hf0⟩ := hrel
    clear hrow0 hb0
    have hf := hide hf0
    clear hf0
    have hg := hrow.lt
    by_cases hlt : k < os.length
    · obtain ⟨b, off, o, rfl, hbl, hx, hmem, hc0, hc1⟩ := (h.below hb).at_ hlt
      have Hx := hide hx
      clear hx hmem
      go_wp2_with fail
      refine (toOp_any o.code o.arg wr).mono ?_
      rintro e w1 ⟨rfl, hb1⟩
      have hrow1 := rowIs_below hrow hb1 hg
      have a0 := hrow1.cell (i := k * 2) (by omega)
      have a1 := hrow1.cell (i := k * 2 + 1) (by omega)
      have b0 := hrow1.frozen (k * 2)
      have b1 := hrow1.frozen (k * 2 + 1)
      have hb2 : Below w.heap.size w (set2 w1 w.heap.size (k * 2) (.int .i64 o.code) (.int .i64 o.arg)) :=
        below_set2 (hb.trans (hb1.mono (by omega))) (Nat.le_refl _) _ _
      have hrow2 := opRow_next hrow1 hf.out Hx.out
      clear hrow1 hf hrow hb hb1
      unfold set2 at hb2 hrow2
      have HB := hide hb2
      have HR := hide hrow2
      clear hb2 hrow2
      go_wp2
      go_roundw
      case rel => exact ⟨k + 1, by omega, by go_num, HB.out, HR.out⟩
      case measure => simp [intOf]; omega
    · obtain rfl : k = os.length := by omega
      clear hlt
      go_wp2
      go_ret
      exact ⟨rfl, hrow.congr (fun i hi => hf.out i (by omega)), hb⟩

end Go.Proofs.YtfhmmdiicnfjbaaDoor
