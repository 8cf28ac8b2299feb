/-
  Lemmas, several texts in one: InfoI, OwnS, GivNd, OwnRD, SzI.
-/
import Derived.Test.YtbpjoiccjpiknabMem
import Derived.Test.YtbpjoiccjpiknabPjAa
import Derived.Deep.RegionLaw
import Derived.Deep.AppendLies
import Derived.Test.YtbpjoiccjpiknabOwnNB
import Derived.Test.YtbpjoiccjpiknabRowD
namespace Go.Proofs.Ytbpjoiccjpiknab

theorem infoInt : (Try.prog.info? 3).map (fun i => (i.zero, i.size, i.bytes)) = some (some (.int .i64 0), 1, 8) := by kernel_rfl

end Go.Proofs.Ytbpjoiccjpiknab

namespace Go.Proofs.Ytbpjoiccjpiknab
open Go.RowKit

theorem IntsAt.lit (w : World) (xs : List Int) (hx : ∀ x ∈ xs, In64 x) (hl : xs.length ≤ 1048576) : IntsAt (w.alloc (.cells (xs.map (Value.int .i64)).toArray 3)) (w.heap.size + 1) (some ⟨w.heap.size, 0, none⟩) xs := by
  refine ⟨fun _ => ⟨w.heap.size, 0, rfl, Nat.lt_succ_self _, fun j y hj => ?_⟩, hx, by omega⟩
  rw [(Lies.new w (xs.map (Value.int .i64)).toArray 3).cell]
  simp [hj]

theorem IntsAt.hold {w : World} {b : Nat} {cs : Array Value} {t : TypeId} (h : Lies w b cs t) (xs : List Int) (hc : cs = (xs.map (Value.int .i64)).toArray) (hx : ∀ x ∈ xs, In64 x) (hl : xs.length ≤ 1048576) : IntsAt w w.heap.size (some ⟨b, 0, none⟩) xs := by
  subst hc
  refine ⟨fun _ => ⟨b, 0, rfl, h.lt, fun j y hj => ?_⟩, hx, by omega⟩
  rw [h.cell]
  simp [hj]

/-- append(s, t...) in a statement that draws its order, where s is the call's own and t is an int slice that is not empty -/
theorem step_append_ints {w : World} {ops : Array Oper} {o : Oper} {a : Act} {K : Act → World → Prop} {Q : Exit → Act → World → Prop} {E : Prop} (hgd : o.guard = none) (s x : Operand)
    (ho : o.op = .call { callee := .builtin .append, args := #[s, x], argTypes := #[39, 39] })
    (base : Nat) (A : Option Addr) (c : Nat) (xs : List Int) (hs : a.eval s = .slice A xs.length c) (hown : OwnI w base A c xs)
    (ad : Addr) (c2 : Nat) (ys : List Int) (hne : ys ≠ []) (hx : a.eval x = .slice (some ad) ys.length c2) (hr : IntsAt w w.heap.size (some ad) ys)
    (hsum : xs.length + ys.length ≤ 16777216) (hbase : base ≤ w.heap.size)
    (h : ∀ (zs : List Int) (A' : Option Addr) (c' : Nat) (w' : World), Hid (zs = xs ++ ys) → OwnI w' base A' c' zs → w.grownBy w' (blockOf A) → (blockOf A' = blockOf A ∨ blockOf A' = some w.heap.size) →
      K (a.put o.dst (.slice A' zs.length c')) w') :
    if Region.wanted o (yielded ops a.tmps) = true then Oper.wp Try.prog o a w K Q else E := by
  obtain ⟨i0, hi, hz0, hz1, hz2⟩ := info_parts infoI
  have hcells : ∀ j u, (ys.map (Value.int .i64))[j]? = some u → w.cell? (ad.add j) = some u := by
    intro j u hu
    rw [List.getElem?_map] at hu
    cases hy : ys[j]? with
    | none => rw [hy] at hu; cases hu
    | some y =>
      rw [hy] at hu
      simp at hu
      subst hu
      obtain ⟨b, off, e2, _, hc⟩ := hr.row hne
      obtain rfl : ad = ⟨b, off, none⟩ := Option.some.inj e2
      have hadd : (⟨b, off, none⟩ : Addr).add j = ⟨b, off + j, none⟩ := by
        unfold Addr.add
        split
        · rename_i h0; subst h0; rfl
        · rfl
      rw [hadd]
      exact hc j y hy
  refine step_append_lies w hgd s x 39 ho base 3 i0 _ 1 8 Try.underlying39 hi hz0 hz1 hz2 rfl (by omega) _ _ _ hs hown.own ad ys.length c2 (ys.map (Value.int .i64)) hx (by simp) hcells (ints_one ys)
    (List.length_pos_iff.2 hne) (by unfold maxLen; omega) (by omega) hbase w.heap.size rfl ?_
  intro g cap w' h2 h3 h4 _
  have hlen : xs.length + ys.length = (xs ++ ys).length := by simp
  rw [ownBlock_slice] at h3 h4
  rw [← List.map_append, hlen] at h2
  rw [hlen]
  refine h (xs ++ ys) (some ⟨g, 0, none⟩) cap w' (by simp [Hid]) ⟨h2⟩ h3 ?_
  rcases h4 with h4 | h4
  · exact .inl (by rw [h4]; rfl)
  · exact .inr (by rw [h4]; rfl)

end Go.Proofs.Ytbpjoiccjpiknab

namespace Go.Proofs.Ytbpjoiccjpiknab
open Go.RowKit
set_option linter.unusedVariables false

/-- a node, its kids in memory of the call's own -/
def GivesNd (w : World) (k v : Int) (ks : List Int) (e : Ending) (w' : World) : Prop := ∃ A c, e = .returned (.agg #[.int .i64 k, .int .i64 v, .slice A ks.length c]) ∧ OwnI w' w.heap.size A c ks ∧ Below w.heap.size w w'

end Go.Proofs.Ytbpjoiccjpiknab

namespace Go.Proofs.Ytbpjoiccjpiknab
open Go.RowKit
set_option linter.unusedVariables false

theorem OwnRow.rowD {w : World} {lo hi g cap : Nat} {ns : List Nd} (h : OwnRow w lo hi g cap ns) (hc : cap ≤ maxLen) : RowD w lo hi (some ⟨g, 0, none⟩) cap ns := by
  obtain ⟨f, cur, h1, h2, h3⟩ := h.row
  have hle := h.le
  have hat : ∀ i, i < ns.length * 3 → (cur.toList.take (ns.length * 3))[i]? = w.cell? ⟨g, i, none⟩ := fun i hi => by
    rw [List.getElem?_take_of_lt hi, Array.getElem?_toList, cell_of_row w g i cur _ _ h1]
  refine ⟨⟨cur.toList.take (ns.length * 3), ⟨by simp; omega, .inr ⟨g, cap, cur, rfl, h.hlo, h1, hle, hc, h2, rfl⟩⟩, fun j n hj => ?_, fun i j A1 A2 n1 n2 c1 c2 hij hj d1 d2 => ?_, fun i A1 n1 c1 hi d1 b hb => ?_⟩⟩
  · have hjl := (List.getElem?_eq_some_iff.1 hj).1
    have hn := h.nd j n hj
    obtain ⟨A1, c1, k1, k2, _⟩ := hn.kids
    exact ⟨A1, c1, (hat _ (by omega)).trans hn.kind, (hat _ (by omega)).trans hn.value, (hat _ (by omega)).trans k1, k2⟩
  · rw [hat _ (by omega)] at d1 d2
    exact h.dis i j A1 A2 n1 n2 c1 c2 (by omega) (by omega) hj d1 d2
  · rw [hat _ (by omega)] at d1
    obtain ⟨A3, c3, k1, _, k3⟩ := (h.nd i _ (List.getElem?_eq_getElem hi)).kids
    rw [d1] at k1
    injection k1 with k1
    injection k1 with k1 _ _
    subst k1
    exact (k3 b hb).1

end Go.Proofs.Ytbpjoiccjpiknab

namespace Go.Proofs.Ytbpjoiccjpiknab

/-- what szIntS counts -/
def szI (n : Nat) (left : Int) : Int := if left - n < 0 then -1 else left - n

theorem szI_le (n : Nat) (left : Int) (h1 : left ≤ 1048576) (h0 : 0 ≤ left) : szI n left ≤ left ∧ -1 ≤ szI n left := by
  unfold szI; split <;> omega

end Go.Proofs.Ytbpjoiccjpiknab
