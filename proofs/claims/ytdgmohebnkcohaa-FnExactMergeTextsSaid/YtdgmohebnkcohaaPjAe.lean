/-
  Lemmas, several texts in one: GivB, StX.
-/
import Derived.Test.YtdgmohebnkcohaaOwnNB
import Derived.Test.YtdgmohebnkcohaaMark
namespace Go.Proofs.Ytdgmohebnkcohaa
open Go.RowKit Go.Maps
set_option linter.unusedVariables false

theorem GivesG.zero (w w' : World) (hb : Below w.heap.size w w') : GivesG w [] 0 (.returned (.agg #[.slice none 0 0, .int .i64 0])) w' :=
  ⟨none, 0, rfl, .inl ⟨rfl, rfl, rfl⟩, hb⟩

theorem OwnNs.lowB {w : World} {lo lo2 hi : Nat} {A : Option Addr} {c : Nat} {ns : List Nd} (h : OwnNs w lo hi A c ns) (h2 : lo2 ≤ lo) : OwnNs w lo2 hi A c ns := by
  rcases h with h | ⟨g, e, h⟩
  · exact .inl h
  · exact .inr ⟨g, e, h.low h2⟩

/-- the result is stored -/
theorem GivesG.put {w wd w2 w3 : World} {A : Option Addr} {c : Nat} {ms : List Nd} {r : Int} (hw : w.heap.size + 1 < wd.heap.size) (h0 : Below w.heap.size w wd) (h2 : Below wd.heap.size wd w2) (h3 : Below w2.heap.size w2 w3) (h : OwnNs w3 w2.heap.size w3.heap.size A c ms) :
    GivesG w ms r (.returned (.agg #[.slice A ms.length c, .int .i64 r])) ((w3.setCell ⟨w.heap.size + 1, 0, none⟩ (.slice A ms.length c)).setCell ⟨w.heap.size + 1, 1, none⟩ (.int .i64 r)) := by
  have hs2 := h2.size
  refine ⟨A, c, rfl, ?_, ((h0.trans ((h2.mono (by omega)).trans (h3.mono (by omega)))).setCell (p := ⟨w.heap.size + 1, 0, none⟩) (by show w.heap.size ≤ w.heap.size + 1; omega) _).setCell (p := ⟨w.heap.size + 1, 1, none⟩) (by show w.heap.size ≤ w.heap.size + 1; omega) _⟩
  have := (h.kept (w' := (w3.setCell ⟨w.heap.size + 1, 0, none⟩ (.slice A ms.length c)).setCell ⟨w.heap.size + 1, 1, none⟩ (.int .i64 r)) (fun b hb _ => (Below.heap_setCell _ _ _ _ (by show b ≠ w.heap.size + 1; omega)).trans (Below.heap_setCell _ _ _ _ (by show b ≠ w.heap.size + 1; omega)))).lowB (lo2 := w.heap.size) (by omega)
  simpa using this

end Go.Proofs.Ytdgmohebnkcohaa

namespace Go.Proofs.Ytdgmohebnkcohaa
open Go.RowKit
set_option linter.unusedVariables false

/-- the copy of the argument that the program gets -/
structure StX (wr : World) (xl bx : Nat) (ns : List Nd) (r : Int) : Prop where
  lx : Lies wr bx #[.slice (some ⟨xl, 0, none⟩) ns.length ns.length, .int .i64 r] 28
  hx : NdsAt wr bx (some ⟨xl, 0, none⟩) ns
  hM : Markable wr xl xl bx 38 3 ns
  z : xl < bx

theorem StX.lt {wr : World} {xl bx : Nat} {ns : List Nd} {r : Int} (h : StX wr xl bx ns r) : bx < wr.heap.size := h.lx.lt

theorem StX.below {wr w' : World} {xl bx B : Nat} {ns : List Nd} {r : Int} (h : StX wr xl bx ns r) (hb : Below B wr w') (hB : bx < B) : StX w' xl bx ns r :=
  ⟨h.lx.below hb hB, h.hx.below (hb.mono (by omega)), h.hM.kept (hb.block _ (by have := h.z; omega)) (fun k _ hk => hb.block k (by omega)), h.z⟩

theorem StX.make {w4 : World} {g : Nat} {ns : List Nd} {r : Int} (hm : MadeNds w4 g 38 3 ns) (hwf : Wf ns) (hl : ns.length ≤ 9223372036854775807) :
    StX (w4.alloc (.cells #[.slice (some ⟨g, 0, none⟩) ns.length ns.length, .int .i64 r] 28)) g w4.heap.size ns r := by
  have hb : Below w4.heap.size w4 (w4.alloc (.cells #[.slice (some ⟨g, 0, none⟩) ns.length ns.length, .int .i64 r] 28)) := (Below.refl _ _).alloc (Nat.le_refl _) _
  have hg : g < w4.heap.size := by obtain ⟨f, hf⟩ := hm.row; exact hf.lt
  exact ⟨Lies.new _ _ _, (hm.at_ hwf hl).below hb, hm.markable.kept (hb.block _ hg) (fun k _ hk => hb.block k hk), hg⟩

theorem StX.cells {wr : World} {xl bx : Nat} {ns : List Nd} {r : Int} (h : StX wr xl bx ns r) : wr.cell? ⟨bx, 0, none⟩ = some (.slice (some ⟨xl, 0, none⟩) ns.length ns.length) ∧ wr.cell? ⟨bx, 1, none⟩ = some (.int .i64 r) := by
  have e0 := h.lx.cell 0
  have e1 := h.lx.cell 1
  simp at e0 e1
  exact ⟨e0, e1⟩

end Go.Proofs.Ytdgmohebnkcohaa
