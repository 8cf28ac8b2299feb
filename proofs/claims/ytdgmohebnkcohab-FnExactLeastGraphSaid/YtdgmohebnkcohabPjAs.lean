/-
  Lemmas, several texts in one: CpL, StG.
-/
import Derived.Test.YtdgmohebnkcohabPjAc
import Derived.Test.YtdgmohebnkcohabPjAj
import Derived.Laws.CopyOwn
import Derived.Test.YtdgmohebnkcohabPjAg
import Derived.Test.YtdgmohebnkcohabMarkN
import Derived.Test.YtdgmohebnkcohabPjAd
import Derived.Test.YtdgmohebnkcohabPjAk
namespace Go.Proofs.Ytdgmohebnkcohab
open Go.RowKit
set_option linter.unusedVariables false

theorem copy_rowL {w : World} {ops : Array Oper} {rest : List Oper} {o : Oper} {a : Act} {Q : Exit → Act → World → Prop} (hgd : o.guard = none) (d s : Operand)
    (ho : o.op = .call { callee := .builtin .copy, args := #[d, s], argTypes := #[38, 38] }) (n g1 g2 : Nat) (hd : a.eval d = .slice (some ⟨g2, 0, none⟩) n n) (hs : a.eval s = .slice (some ⟨g1, 0, none⟩) n n)
    (xs ys : List Int) (h1 : RowL w g1 xs) (h2 : RowL w g2 ys) (hx : xs.length = n) (hy : ys.length = n)
    (h : ∀ w', RowL w' g2 xs → Below g2 w w' → wpList Try.prog ops Q rest (a.put o.dst (goInt n)) w') : wpList Try.prog ops Q (o :: rest) a w := by
  have hl : (xs.map (fun x => Value.int .i64 x)).length = n := by simpa using hx
  refine wpList_copy_splice hgd d s 38 38 ho 3 Try.underlying38 (by kernel_rfl) (some ⟨g2, 0, none⟩) (some ⟨g1, 0, none⟩) n n n n hd hs g2 0 (ys.map (fun x => Value.int .i64 x)) 3 h2 (xs.map (fun x => Value.int .i64 x)) (by rw [hl]; simp) (fun _ => ⟨rfl, _, rfl, fun j v hv => ?_⟩) (by simp; omega) (fun v hv => by obtain ⟨x, _, rfl⟩ := List.mem_map.1 hv; rfl) g2 w (Below.refl _ _) (Nat.le_refl _) ?_
  · rw [List.getElem?_map] at hv
    cases hj : xs[j]? with
    | none => rw [hj] at hv; cases hv
    | some x =>
      rw [hj] at hv
      injection hv with hv
      subst hv
      have := h1.cell hj
      by_cases h0 : j = 0
      · subst h0; simpa [Addr.add] using this
      · simpa [Addr.add, h0] using this
  · intro w' hl' hb
    rw [hl]
    refine h w' ?_ hb
    have h3 := hl'.out
    unfold splice at h3
    simp only [List.take_zero, List.nil_append, hl, Nat.zero_add] at h3
    rw [List.drop_eq_nil_of_le (by simp; omega), List.append_nil] at h3
    exact h3

end Go.Proofs.Ytdgmohebnkcohab

namespace Go.Proofs.Ytdgmohebnkcohab
open Go.RowKit
set_option linter.unusedVariables false

/-- the argument, and the model's answer -/
structure StG (w wr : World) (A : Option Addr) (ns : List Nd) (c : Nat) (r : Int) (ms : List Nd) (s : Int) (Aw : Option Addr) (cw b0 : Nat) : Prop where
  bel : Below w.heap.size w wr
  la : Lies wr w.heap.size #[.slice A ns.length c, .int .i64 r] 24
  hr : NdsAt wr w.heap.size A ns
  l0 : Lies wr b0 #[.slice Aw ms.length cw, .int .i64 s] 28
  hW : NdsAt wr b0 Aw ms
  z1 : w.heap.size < b0

theorem StG.lt {w wr : World} {A : Option Addr} {ns : List Nd} {c : Nat} {r : Int} {ms : List Nd} {s : Int} {Aw : Option Addr} {cw b0 : Nat} (h : StG w wr A ns c r ms s Aw cw b0) : b0 < wr.heap.size := h.l0.lt

theorem StG.below {w wr w' : World} {A : Option Addr} {ns : List Nd} {c : Nat} {r : Int} {ms : List Nd} {s : Int} {Aw : Option Addr} {cw b0 B : Nat} (h : StG w wr A ns c r ms s Aw cw b0) (hb : Below B wr w') (hB : b0 < B) : StG w w' A ns c r ms s Aw cw b0 := by
  have h1 := h.z1
  exact ⟨h.bel.trans (hb.mono (by omega)), h.la.below hb (by omega), h.hr.below (hb.mono (by omega)), h.l0.below hb (by omega), h.hW.below (hb.mono (by omega)), h1⟩

theorem StG.cells {w wr : World} {A : Option Addr} {ns : List Nd} {c : Nat} {r : Int} {ms : List Nd} {s : Int} {Aw : Option Addr} {cw b0 : Nat} (h : StG w wr A ns c r ms s Aw cw b0) :
    wr.cell? ⟨w.heap.size, 0, none⟩ = some (.slice A ns.length c) ∧ wr.cell? ⟨w.heap.size, 1, none⟩ = some (.int .i64 r) ∧ wr.cell? ⟨b0, 0, none⟩ = some (.slice Aw ms.length cw) ∧ wr.cell? ⟨b0, 1, none⟩ = some (.int .i64 s) := by
  have e0 := h.la.cell 0
  have e1 := h.la.cell 1
  have e2 := h.l0.cell 0
  have e3 := h.l0.cell 1
  simp at e0 e1 e2 e3
  exact ⟨e0, e1, e2, e3⟩

end Go.Proofs.Ytdgmohebnkcohab
