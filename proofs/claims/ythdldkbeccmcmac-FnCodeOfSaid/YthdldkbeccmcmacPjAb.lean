/-
  Lemmas, several texts in one: One, OwnS.
-/
import Derived.Test.YthdldkbeccmcmacPick
import Derived.StillTailTactics
import Derived.Test.YthdldkbeccmcmacPjAa
import Derived.Deep.RegionLaw
import Derived.Deep.AppendLies
namespace Go.Proofs.Ythdldkbeccmcmac
open Go.RowKit
set_option linter.unusedVariables false

/-- old memory is as it was, but for one block -/
structure Grew (g : Nat) (w w' : World) : Prop where
  os : w'.os = w.os
  tape : w'.tape = w.tape
  output : w'.output = w.output
  size : w.heap.size ≤ w'.heap.size
  block : ∀ k, k < w.heap.size → k ≠ g → w'.heap[k]? = w.heap[k]?

theorem Grew.refl (g : Nat) (w : World) : Grew g w w := ⟨rfl, rfl, rfl, Nat.le_refl _, fun _ _ _ => rfl⟩
theorem Grew.trans {g : Nat} {a b c : World} (h : Grew g a b) (k : Grew g b c) : Grew g a c :=
  ⟨k.os.trans h.os, k.tape.trans h.tape, k.output.trans h.output, Nat.le_trans h.size k.size, fun j hj hn => (k.block j (Nat.lt_of_lt_of_le hj h.size) hn).trans (h.block j hj hn)⟩
theorem Grew.of_turn {g : Nat} {w w' : World} (h : Turn g w w') : Grew g w w' := ⟨h.os, h.tape, h.output, by rw [h.size]; exact Nat.le_refl _, fun k _ hk => h.block k hk⟩
theorem Grew.of_below {g : Nat} {w w' : World} (h : Below w.heap.size w w') : Grew g w w' := ⟨h.os, h.tape, h.output, h.size, fun k hk _ => h.block k hk⟩
theorem Grew.below {g B : Nat} {w0 w w' : World} (h : Grew g w w') (hb : Below B w0 w) (hg : B ≤ g) (hB : B ≤ w.heap.size) : Below B w0 w' :=
  hb.trans ⟨h.os, h.tape, h.output, h.size, fun k hk => h.block k (by omega) (by omega)⟩
theorem Rd.below {w w' : World} {rb : Nat} {A : Option Addr} {n c p : Nat} (h : Rd w rb A n c p) (hb : Below w.heap.size w w') : Rd w' rb A n c p :=
  ⟨h.box.below hb h.box.lt, h.bytes.later (hb.mono (Nat.le_of_lt h.box.lt)), h.few⟩
theorem Grew.cell {g : Nat} {w w' : World} (h : Grew g w w') {b o : Nat} (h1 : b < w.heap.size) (h2 : b ≠ g) : w'.cell? ⟨b, o, none⟩ = w.cell? ⟨b, o, none⟩ := World.cell?_of_block (w := w) (h.block b h1 h2)
theorem Lies.grew {g b : Nat} {w w' : World} {cs : Array Value} {t : TypeId} (h : Lies w b cs t) (hg : Grew g w w') (h2 : b ≠ g) : Lies w' b cs t := (hg.block b h.lt h2).trans h

/-- a pick of one number of a list -/
def Chosen (rb : Nat) (A : Option Addr) (n c p : Nat) (xs : List Int) (w : World) (e : Ending) (w' : World) : Prop :=
  (∃ x ∈ xs, e = .returned (.int .i64 x)) ∧ Rd w' rb A n c (p + 1) ∧ Turn rb w w'

set_option maxHeartbeats 1000000 in
theorem one_any (rb : Nat) (A : Option Addr) (n c p g l c2 : Nat) (xs : List Int) (w : World) (h : Rd w rb A n c p) (hp : p < 1000000) (hl : xs.length = l) (h1 : 1 ≤ l) (h2 : l ≤ 100) (hg : g ≠ rb) (hc : ∀ k x, xs[k]? = some x → w.cell? ⟨g, k, none⟩ = some (.int .i64 x)) :
    Calls Try.prog 19 #[.pointer (some ⟨rb, 0, none⟩), .slice (some ⟨g, 0, none⟩) l c2] w (Chosen rb A n c p xs w) := by
  have HC := hide hc
  have Hl := hide hl
  clear hc hl
  go_enter Try.func19, Try.ntmps19
  go_wp2_with fail
  refine (pick_any rb A n c p (l : Int) w h hp (by omega)).mono ?_
  rintro e w' ⟨⟨x, rfl, hx, _⟩, hr, ht⟩
  have hxl : (x : Int) < (l : Int) := hx (by omega)
  have hx0 : (0 : Int) ≤ (x : Int) := by omega
  obtain ⟨y, hy⟩ : ∃ y, xs[x]? = some y := ⟨_, List.getElem?_eq_getElem (by have := Hl.out; omega)⟩
  have hcell : w'.cell? ⟨g, x, none⟩ = some (.int .i64 y) := (World.cell?_of_block (w := w) (ht.block g hg)).trans (HC.out x y hy)
  have hfin : Hid (Chosen rb A n c p xs w (.returned (.int .i64 y)) w') := ⟨⟨y, List.mem_of_getElem? hy, rfl⟩, hr, ht⟩
  clear hr ht hx hy
  go_wp2
  go_ret
  exact hfin.out

end Go.Proofs.Ythdldkbeccmcmac

namespace Go.Proofs.Ythdldkbeccmcmac
open Go.RowKit

theorem IntsAt.lit (w : World) (xs : List Int) (hx : ∀ x ∈ xs, In64 x) (hl : xs.length ≤ 1048576) : IntsAt (w.alloc (.cells (xs.map (Value.int .i64)).toArray 3)) (w.heap.size + 1) (some ⟨w.heap.size, 0, none⟩) xs := by
  refine ⟨fun _ => ⟨w.heap.size, 0, rfl, Nat.lt_succ_self _, fun j y hj => ?_⟩, hx, by omega⟩
  rw [(Lies.new w (xs.map (Value.int .i64)).toArray 3).cell]
  simp [hj]

theorem IntsAt.hold {w : World} {b : Nat} {cs : Array Value} {t : TypeId} (h : Lies w b cs t) (xs : List Int) (hc : cs = (xs.map (Value.int .i64)).toArray) (hx : ∀ x ∈ xs, In64 x) (hl : xs.length ≤ 1048576) : IntsAt w w.heap.size (some ⟨b, 0, none⟩) xs := by
  subst hc
  refine ⟨fun _ => ⟨b, 0, rfl, h.lt, fun j y hj => ?_⟩, hx, by omega⟩
  rw [h.cell]
  simp [hj]

/-- append(s, t...) in a statement that draws its order, where s is the call's own and t is an int slice that is not empty -/
theorem step_append_ints {w : World} {ops : Array Oper} {o : Oper} {a : Act} {K : Act → World → Prop} {Q : Exit → Act → World → Prop} {E : Prop} (hgd : o.guard = none) (s x : Operand)
    (ho : o.op = .call { callee := .builtin .append, args := #[s, x], argTypes := #[27, 27] })
    (base : Nat) (A : Option Addr) (c : Nat) (xs : List Int) (hs : a.eval s = .slice A xs.length c) (hown : OwnI w base A c xs)
    (ad : Addr) (c2 : Nat) (ys : List Int) (hne : ys ≠ []) (hx : a.eval x = .slice (some ad) ys.length c2) (hr : IntsAt w w.heap.size (some ad) ys)
    (hsum : xs.length + ys.length ≤ 16777216) (hbase : base ≤ w.heap.size)
    (h : ∀ (zs : List Int) (A' : Option Addr) (c' : Nat) (w' : World), Hid (zs = xs ++ ys) → OwnI w' base A' c' zs → w.grownBy w' (blockOf A) → (blockOf A' = blockOf A ∨ blockOf A' = some w.heap.size) →
      K (a.put o.dst (.slice A' zs.length c')) w') :
    if Region.wanted o (yielded ops a.tmps) = true then Oper.wp Try.prog o a w K Q else E := by
  obtain ⟨i0, hi, hz0, hz1, hz2⟩ := info_parts infoI
  have hcells : ∀ j u, (ys.map (Value.int .i64))[j]? = some u → w.cell? (ad.add j) = some u := by
    intro j u hu
    rw [List.getElem?_map] at hu
    cases hy : ys[j]? with
    | none => rw [hy] at hu; cases hu
    | some y =>
      rw [hy] at hu
      simp at hu
      subst hu
      obtain ⟨b, off, e2, _, hc⟩ := hr.row hne
      obtain rfl : ad = ⟨b, off, none⟩ := Option.some.inj e2
      have hadd : (⟨b, off, none⟩ : Addr).add j = ⟨b, off + j, none⟩ := by
        unfold Addr.add
        split
        · rename_i h0; subst h0; rfl
        · rfl
      rw [hadd]
      exact hc j y hy
  refine step_append_lies w hgd s x 27 ho base 3 i0 _ 1 8 Try.underlying27 hi hz0 hz1 hz2 rfl (by omega) _ _ _ hs hown.own ad ys.length c2 (ys.map (Value.int .i64)) hx (by simp) hcells (ints_one ys)
    (List.length_pos_iff.2 hne) (by unfold maxLen; omega) (by omega) hbase w.heap.size rfl ?_
  intro g cap w' h2 h3 h4 _
  have hlen : xs.length + ys.length = (xs ++ ys).length := by simp
  rw [ownBlock_slice] at h3 h4
  rw [← List.map_append, hlen] at h2
  rw [hlen]
  refine h (xs ++ ys) (some ⟨g, 0, none⟩) cap w' (by simp [Hid]) ⟨h2⟩ h3 ?_
  rcases h4 with h4 | h4
  · exact .inl (by rw [h4]; rfl)
  · exact .inr (by rw [h4]; rfl)

end Go.Proofs.Ythdldkbeccmcmac
