/-
  The builtin copy from one whole row of ints to another one.
-/
import Derived.Test.YtjpikloecadhkaaRwL
import Derived.Test.YtjpikloecadhkaaPjAd
import Derived.Laws.CopyOwn
namespace Go.Proofs.Ytjpikloecadhkaa
open Go.RowKit
set_option linter.unusedVariables false

theorem copy_rowL {w : World} {ops : Array Oper} {rest : List Oper} {o : Oper} {a : Act} {Q : Exit → Act → World → Prop} (hgd : o.guard = none) (d s : Operand)
    (ho : o.op = .call { callee := .builtin .copy, args := #[d, s], argTypes := #[26, 26] }) (n g1 g2 : Nat) (hd : a.eval d = .slice (some ⟨g2, 0, none⟩) n n) (hs : a.eval s = .slice (some ⟨g1, 0, none⟩) n n)
    (xs ys : List Int) (h1 : RowL w g1 xs) (h2 : RowL w g2 ys) (hx : xs.length = n) (hy : ys.length = n)
    (h : ∀ w', RowL w' g2 xs → Below g2 w w' → wpList Try.prog ops Q rest (a.put o.dst (goInt n)) w') : wpList Try.prog ops Q (o :: rest) a w := by
  have hl : (xs.map (fun x => Value.int .i64 x)).length = n := by simpa using hx
  refine wpList_copy_splice hgd d s 26 26 ho 3 Try.underlying26 (by kernel_rfl) (some ⟨g2, 0, none⟩) (some ⟨g1, 0, none⟩) n n n n hd hs g2 0 (ys.map (fun x => Value.int .i64 x)) 3 h2 (xs.map (fun x => Value.int .i64 x)) (by rw [hl]; simp) (fun _ => ⟨rfl, _, rfl, fun j v hv => ?_⟩) (by simp; omega) (fun v hv => by obtain ⟨x, _, rfl⟩ := List.mem_map.1 hv; rfl) g2 w (Below.refl _ _) (Nat.le_refl _) ?_
  · rw [List.getElem?_map] at hv
    cases hj : xs[j]? with
    | none => rw [hj] at hv; cases hv
    | some x =>
      rw [hj] at hv
      injection hv with hv
      subst hv
      have := h1.cell hj
      by_cases h0 : j = 0
      · subst h0; simpa [Addr.add] using this
      · simpa [Addr.add, h0] using this
  · intro w' hl' hb
    rw [hl]
    refine h w' ?_ hb
    have h3 := hl'.out
    unfold splice at h3
    simp only [List.take_zero, List.nil_append, hl, Nat.zero_add] at h3
    rw [List.drop_eq_nil_of_le (by simp; omega), List.append_nil] at h3
    exact h3

end Go.Proofs.Ytjpikloecadhkaa
