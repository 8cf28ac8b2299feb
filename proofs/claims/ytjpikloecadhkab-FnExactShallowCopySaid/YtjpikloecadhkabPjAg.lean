/-
  Lemmas, several texts in one: InfoI, GivNd, SmN, StX, EqGS.
-/
import Derived.Test.YtjpikloecadhkabMem
import Derived.Test.YtjpikloecadhkabOwnNB
import Derived.Test.YtjpikloecadhkabPjAa
import Derived.Test.YtjpikloecadhkabMark
import Derived.Test.YtjpikloecadhkabEq
namespace Go.Proofs.Ytjpikloecadhkab

theorem infoInt : (Try.prog.info? 3).map (fun i => (i.zero, i.size, i.bytes)) = some (some (.int .i64 0), 1, 8) := by kernel_rfl

end Go.Proofs.Ytjpikloecadhkab

namespace Go.Proofs.Ytjpikloecadhkab
open Go.RowKit
set_option linter.unusedVariables false

/-- a node, its kids in memory of the call's own -/
def GivesNd (w : World) (k v : Int) (ks : List Int) (e : Ending) (w' : World) : Prop := ∃ A c, e = .returned (.agg #[.int .i64 k, .int .i64 v, .slice A ks.length c]) ∧ OwnI w' w.heap.size A c ks ∧ Below w.heap.size w w'

end Go.Proofs.Ytjpikloecadhkab

namespace Go.Proofs.Ytjpikloecadhkab

/-- all lists of kids, and the marks, are small -/
structure SmallN (ns : List Nd) : Prop where
  len : ns.length ≤ 400
  kids : ∀ n ∈ ns, n.kids.length ≤ 2000

end Go.Proofs.Ytjpikloecadhkab

namespace Go.Proofs.Ytjpikloecadhkab
open Go.RowKit
set_option linter.unusedVariables false

/-- the copy of the argument that the program gets -/
structure StX (wr : World) (xl bx : Nat) (ns : List Nd) (r : Int) : Prop where
  lx : Lies wr bx #[.slice (some ⟨xl, 0, none⟩) ns.length ns.length, .int .i64 r] 28
  hx : NdsAt wr bx (some ⟨xl, 0, none⟩) ns
  hM : Markable wr xl xl bx 38 3 ns
  z : xl < bx

theorem StX.lt {wr : World} {xl bx : Nat} {ns : List Nd} {r : Int} (h : StX wr xl bx ns r) : bx < wr.heap.size := h.lx.lt

theorem StX.below {wr w' : World} {xl bx B : Nat} {ns : List Nd} {r : Int} (h : StX wr xl bx ns r) (hb : Below B wr w') (hB : bx < B) : StX w' xl bx ns r :=
  ⟨h.lx.below hb hB, h.hx.below (hb.mono (by omega)), h.hM.kept (hb.block _ (by have := h.z; omega)) (fun k _ hk => hb.block k (by omega)), h.z⟩

theorem StX.make {w4 : World} {g : Nat} {ns : List Nd} {r : Int} (hm : MadeNds w4 g 38 3 ns) (hwf : Wf ns) (hl : ns.length ≤ 9223372036854775807) :
    StX (w4.alloc (.cells #[.slice (some ⟨g, 0, none⟩) ns.length ns.length, .int .i64 r] 28)) g w4.heap.size ns r := by
  have hb : Below w4.heap.size w4 (w4.alloc (.cells #[.slice (some ⟨g, 0, none⟩) ns.length ns.length, .int .i64 r] 28)) := (Below.refl _ _).alloc (Nat.le_refl _) _
  have hg : g < w4.heap.size := by obtain ⟨f, hf⟩ := hm.row; exact hf.lt
  exact ⟨Lies.new _ _ _, (hm.at_ hwf hl).below hb, hm.markable.kept (hb.block _ hg) (fun k _ hk => hb.block k hk), hg⟩

theorem StX.cells {wr : World} {xl bx : Nat} {ns : List Nd} {r : Int} (h : StX wr xl bx ns r) : wr.cell? ⟨bx, 0, none⟩ = some (.slice (some ⟨xl, 0, none⟩) ns.length ns.length) ∧ wr.cell? ⟨bx, 1, none⟩ = some (.int .i64 r) := by
  have e0 := h.lx.cell 0
  have e1 := h.lx.cell 1
  simp at e0 e1
  exact ⟨e0, e1⟩

end Go.Proofs.Ytjpikloecadhkab

namespace Go.Proofs.Ytjpikloecadhkab
open Go.RowKit

theorem eqGraph_same (A A' : Option Addr) (ms : List Nd) (r : Int) (c c' : Nat) (w : World) (h : NdsAt w w.heap.size A ms) (h' : NdsAt w w.heap.size A' ms) :
    Calls Try.prog 8 #[.agg #[.slice A ms.length c, .int .i64 r], .agg #[.slice A' ms.length c', .int .i64 r]] w fun e w' => e = .returned (.bool true) ∧ Below w.heap.size w w' :=
  (eqGraph_any A A' ms ms r r c c' w h h').mono fun e w' ⟨he, hb⟩ => ⟨by rw [he]; simp, hb⟩

end Go.Proofs.Ytjpikloecadhkab
