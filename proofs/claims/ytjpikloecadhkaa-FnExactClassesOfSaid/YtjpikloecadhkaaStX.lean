/-
  The copy of a graph that the program gets, in memory. Plain lemmas, no walk.
-/
import Derived.Test.YtjpikloecadhkaaMark
namespace Go.Proofs.Ytjpikloecadhkaa
open Go.RowKit
set_option linter.unusedVariables false

/-- the copy of the argument that the program gets -/
structure StX (wr : World) (xl bx : Nat) (ns : List Nd) (r : Int) : Prop where
  lx : Lies wr bx #[.slice (some ⟨xl, 0, none⟩) ns.length ns.length, .int .i64 r] 30
  hx : NdsAt wr bx (some ⟨xl, 0, none⟩) ns
  hM : Markable wr xl xl bx 48 3 ns
  z : xl < bx

theorem StX.lt {wr : World} {xl bx : Nat} {ns : List Nd} {r : Int} (h : StX wr xl bx ns r) : bx < wr.heap.size := h.lx.lt

theorem StX.below {wr w' : World} {xl bx B : Nat} {ns : List Nd} {r : Int} (h : StX wr xl bx ns r) (hb : Below B wr w') (hB : bx < B) : StX w' xl bx ns r :=
  ⟨h.lx.below hb hB, h.hx.below (hb.mono (by omega)), h.hM.kept (hb.block _ (by have := h.z; omega)) (fun k _ hk => hb.block k (by omega)), h.z⟩

theorem StX.make {w4 : World} {g : Nat} {ns : List Nd} {r : Int} (hm : MadeNds w4 g 48 3 ns) (hwf : Wf ns) (hl : ns.length ≤ 9223372036854775807) :
    StX (w4.alloc (.cells #[.slice (some ⟨g, 0, none⟩) ns.length ns.length, .int .i64 r] 30)) g w4.heap.size ns r := by
  have hb : Below w4.heap.size w4 (w4.alloc (.cells #[.slice (some ⟨g, 0, none⟩) ns.length ns.length, .int .i64 r] 30)) := (Below.refl _ _).alloc (Nat.le_refl _) _
  have hg : g < w4.heap.size := by obtain ⟨f, hf⟩ := hm.row; exact hf.lt
  exact ⟨Lies.new _ _ _, (hm.at_ hwf hl).below hb, hm.markable.kept (hb.block _ hg) (fun k _ hk => hb.block k hk), hg⟩

theorem StX.cells {wr : World} {xl bx : Nat} {ns : List Nd} {r : Int} (h : StX wr xl bx ns r) : wr.cell? ⟨bx, 0, none⟩ = some (.slice (some ⟨xl, 0, none⟩) ns.length ns.length) ∧ wr.cell? ⟨bx, 1, none⟩ = some (.int .i64 r) := by
  have e0 := h.lx.cell 0
  have e1 := h.lx.cell 1
  simp at e0 e1
  exact ⟨e0, e1⟩

end Go.Proofs.Ytjpikloecadhkaa
