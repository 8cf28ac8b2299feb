/-
  Lemmas, several texts in one: OwnS, SigM, Mark, MarkG.
-/
import Derived.Test.YtdgmohebnkcohabPjAa
import Derived.Deep.RegionLaw
import Derived.Deep.AppendLies
import Derived.Test.YtdgmohebnkcohabEqvM
import Derived.Test.YtdgmohebnkcohabPjAe
import Derived.Test.YtdgmohebnkcohabSz
namespace Go.Proofs.Ytdgmohebnkcohab
open Go.RowKit

theorem IntsAt.lit (w : World) (xs : List Int) (hx : ∀ x ∈ xs, In64 x) (hl : xs.length ≤ 1048576) : IntsAt (w.alloc (.cells (xs.map (Value.int .i64)).toArray 3)) (w.heap.size + 1) (some ⟨w.heap.size, 0, none⟩) xs := by
  refine ⟨fun _ => ⟨w.heap.size, 0, rfl, Nat.lt_succ_self _, fun j y hj => ?_⟩, hx, by omega⟩
  rw [(Lies.new w (xs.map (Value.int .i64)).toArray 3).cell]
  simp [hj]

theorem IntsAt.hold {w : World} {b : Nat} {cs : Array Value} {t : TypeId} (h : Lies w b cs t) (xs : List Int) (hc : cs = (xs.map (Value.int .i64)).toArray) (hx : ∀ x ∈ xs, In64 x) (hl : xs.length ≤ 1048576) : IntsAt w w.heap.size (some ⟨b, 0, none⟩) xs := by
  subst hc
  refine ⟨fun _ => ⟨b, 0, rfl, h.lt, fun j y hj => ?_⟩, hx, by omega⟩
  rw [h.cell]
  simp [hj]

/-- append(s, t...) in a statement that draws its order, where s is the call's own and t is an int slice that is not empty -/
theorem step_append_ints {w : World} {ops : Array Oper} {o : Oper} {a : Act} {K : Act → World → Prop} {Q : Exit → Act → World → Prop} {E : Prop} (hgd : o.guard = none) (s x : Operand)
    (ho : o.op = .call { callee := .builtin .append, args := #[s, x], argTypes := #[38, 38] })
    (base : Nat) (A : Option Addr) (c : Nat) (xs : List Int) (hs : a.eval s = .slice A xs.length c) (hown : OwnI w base A c xs)
    (ad : Addr) (c2 : Nat) (ys : List Int) (hne : ys ≠ []) (hx : a.eval x = .slice (some ad) ys.length c2) (hr : IntsAt w w.heap.size (some ad) ys)
    (hsum : xs.length + ys.length ≤ 16777216) (hbase : base ≤ w.heap.size)
    (h : ∀ (zs : List Int) (A' : Option Addr) (c' : Nat) (w' : World), Hid (zs = xs ++ ys) → OwnI w' base A' c' zs → w.grownBy w' (blockOf A) → (blockOf A' = blockOf A ∨ blockOf A' = some w.heap.size) →
      K (a.put o.dst (.slice A' zs.length c')) w') :
    if Region.wanted o (yielded ops a.tmps) = true then Oper.wp Try.prog o a w K Q else E := by
  obtain ⟨i0, hi, hz0, hz1, hz2⟩ := info_parts infoI
  have hcells : ∀ j u, (ys.map (Value.int .i64))[j]? = some u → w.cell? (ad.add j) = some u := by
    intro j u hu
    rw [List.getElem?_map] at hu
    cases hy : ys[j]? with
    | none => rw [hy] at hu; cases hu
    | some y =>
      rw [hy] at hu
      simp at hu
      subst hu
      obtain ⟨b, off, e2, _, hc⟩ := hr.row hne
      obtain rfl : ad = ⟨b, off, none⟩ := Option.some.inj e2
      have hadd : (⟨b, off, none⟩ : Addr).add j = ⟨b, off + j, none⟩ := by
        unfold Addr.add
        split
        · rename_i h0; subst h0; rfl
        · rfl
      rw [hadd]
      exact hc j y hy
  refine step_append_lies w hgd s x 38 ho base 3 i0 _ 1 8 Try.underlying38 hi hz0 hz1 hz2 rfl (by omega) _ _ _ hs hown.own ad ys.length c2 (ys.map (Value.int .i64)) hx (by simp) hcells (ints_one ys)
    (List.length_pos_iff.2 hne) (by unfold maxLen; omega) (by omega) hbase w.heap.size rfl ?_
  intro g cap w' h2 h3 h4 _
  have hlen : xs.length + ys.length = (xs ++ ys).length := by simp
  rw [ownBlock_slice] at h3 h4
  rw [← List.map_append, hlen] at h2
  rw [hlen]
  refine h (xs ++ ys) (some ⟨g, 0, none⟩) cap w' (by simp [Hid]) ⟨h2⟩ h3 ?_
  rcases h4 with h4 | h4
  · exact .inl (by rw [h4]; rfl)
  · exact .inr (by rw [h4]; rfl)

end Go.Proofs.Ytdgmohebnkcohab

namespace Go.Proofs.Ytdgmohebnkcohab
open Go.RowKit
set_option linter.unusedVariables false

/-- nodes that look alike without their kids -/
def Alike (m n : Nd) : Prop := m.kind = n.kind ∧ m.value = n.value ∧ m.kids.length = n.kids.length

theorem sig_alike {cl : List Int} {n m : Nd} (ha : Alike n m) (h : ∀ (j : Nat) (x y : Int), n.kids[j]? = some x → m.kids[j]? = some y → look cl x = look cl y) : sigOf cl n = sigOf cl m := by
  unfold sigOf
  rw [ha.1, ha.2.1]
  congr 2
  apply List.ext_getElem?
  intro j
  rw [List.getElem?_map, List.getElem?_map]
  have hlen := ha.2.2
  by_cases hj : j < n.kids.length
  · have hx : n.kids[j]? = some n.kids[j] := List.getElem?_eq_getElem hj
    have hy : m.kids[j]? = some m.kids[j] := List.getElem?_eq_getElem (by have := ha.2.2; omega)
    rw [hx, hy]
    simp only [Option.map_some]
    rw [h j _ _ hx hy]
  · rw [List.getElem?_eq_none (by omega), List.getElem?_eq_none (by have := ha.2.2; omega)]

theorem alike_sig {cl : List Int} {n m : Nd} (h : sigOf cl n = sigOf cl m) : Alike n m ∧ ∀ (j : Nat) (x y : Int), n.kids[j]? = some x → m.kids[j]? = some y → look cl x = look cl y := by
  unfold sigOf at h
  simp only [Prod.mk.injEq] at h
  obtain ⟨h1, h2, h3⟩ := h
  refine ⟨⟨h1, h2, by have := congrArg List.length h3; simpa using this⟩, fun j x y hx hy => ?_⟩
  have := congrArg (fun l => l[j]?) h3
  simp only [List.getElem?_map, hx, hy, Option.map_some] at this
  injection this

theorem look_in {cl : List Int} {x : Int} (h0 : 0 ≤ x) (h1 : x < cl.length) : cl[x.toNat]? = some (look cl x) := by
  obtain ⟨i, rfl⟩ := Int.eq_ofNat_of_zero_le h0
  have : cl[i]? = some cl[i] := List.getElem?_eq_getElem (by omega)
  rw [look_at this, Int.toNat_natCast, this]

end Go.Proofs.Ytdgmohebnkcohab

namespace Go.Proofs.Ytdgmohebnkcohab
open Go.RowKit
set_option linter.unusedVariables false

/-- what is known of a graph's rows while they are marked: rows that can be written, in blocks from lo on and below hi -/
structure Markable (w : World) (g lo hi : Nat) (tn t : TypeId) (ns : List Nd) : Prop where
  row : ∃ f, w.rowIs g tn (ns.length * 3) f
  kids : ∀ j n, ns[j]? = some n → ∃ gk, lo ≤ gk ∧ gk < hi ∧ gk ≠ g ∧ w.cell? ⟨g, j * 3 + 2, none⟩ = some (.slice (some ⟨gk, 0, none⟩) n.kids.length n.kids.length) ∧ ∃ f, w.rowIs gk t n.kids.length f

theorem MadeNds.markable {w : World} {g : Nat} {tn t : TypeId} {ns : List Nd} (h : MadeNds w g tn t ns) : Markable w g g w.heap.size tn t ns :=
  ⟨h.row, fun j n hj => by
    obtain ⟨gk, h1, h2, h3⟩ := (h.nodes j n hj).kids
    exact ⟨gk, by omega, h3.lt, by omega, h2, _, h3⟩⟩

theorem Markable.kept {w w' : World} {g lo hi : Nat} {tn t : TypeId} {ns : List Nd} (h : Markable w g lo hi tn t ns) (hg : w'.heap[g]? = w.heap[g]?) (hk : ∀ k, lo ≤ k → k < hi → w'.heap[k]? = w.heap[k]?) : Markable w' g lo hi tn t ns := by
  obtain ⟨f, hf⟩ := h.row
  refine ⟨⟨f, hf.of_block hg⟩, fun j n hj => ?_⟩
  obtain ⟨gk, h1, h2, h3, h4, f', h5⟩ := h.kids j n hj
  exact ⟨gk, h1, h2, h3, (World.cell?_of_block (w := w) hg).trans h4, f', h5.of_block (hk gk h1 h2)⟩

/-- marking a cell of a node that is not its kids' slice -/
theorem Markable.set {w : World} {g lo hi p : Nat} {tn t : TypeId} {ns : List Nd} (h : Markable w g lo hi tn t ns) (hp : ∀ j, p ≠ j * 3 + 2) (u : Value) : Markable (w.setCell ⟨g, p, none⟩ u) g lo hi tn t ns := by
  obtain ⟨f, hf⟩ := h.row
  refine ⟨⟨_, hf.set p u⟩, fun j n hj => ?_⟩
  obtain ⟨gk, h1, h2, h3, h4, f', h5⟩ := h.kids j n hj
  refine ⟨gk, h1, h2, h3, ?_, f', h5.setOther (by show gk ≠ g; exact h3) u⟩
  rw [World.cell?_setCell_other]
  · exact h4
  · intro e
    injection e with _ e
    exact hp j e

/-- marking the row of one node's kids -/
theorem Markable.only {w w' : World} {g lo hi gk m : Nat} {tn t : TypeId} {ns : List Nd} {f' : Nat → Value} (h : Markable w g lo hi tn t ns) (hgk : gk ≠ g) (ho : Only gk (gk + 1) w w') (hr : w'.rowIs gk t m f')
    (hlen : ∀ n f, w.rowIs gk t n f → n = m) : Markable w' g lo hi tn t ns := by
  obtain ⟨f, hf⟩ := h.row
  have hg : w'.heap[g]? = w.heap[g]? := ho.block g (by omega)
  refine ⟨⟨f, hf.of_block hg⟩, fun j n hj => ?_⟩
  obtain ⟨gk', h1, h2, h3, h4, f2, h5⟩ := h.kids j n hj
  refine ⟨gk', h1, h2, h3, (World.cell?_of_block (w := w) hg).trans h4, ?_⟩
  by_cases e : gk' = gk
  · subst e
    rw [hlen _ _ h5]
    exact ⟨f', hr⟩
  · exact ⟨f2, h5.of_block (ho.block gk' (by omega))⟩

theorem rowIs_len {w : World} {g : Nat} {t t' : TypeId} {m n : Nat} {f f' : Nat → Value} (h : w.rowIs g t m f) (h' : w.rowIs g t' n f') : m = n := by
  obtain ⟨c, h1, h2, _⟩ := h
  obtain ⟨c', h3, h4, _⟩ := h'
  rw [h1] at h3
  injection h3 with h3
  injection h3 with h3
  subst h3
  omega

set_option maxRecDepth 100000 in
set_option maxHeartbeats 2000000 in
theorem markNodeS_any (g lo hi : Nat) (ns : List Nd) (c : Nat) (k0 : Int) (w : World) (h : Markable w g lo hi 47 3 ns) (hs : Small ns) (hk0 : 0 ≤ k0) (hk1 : k0 ≤ 1048576) (hg1 : lo ≤ g) (hg2 : g < hi) :
    Calls Try.prog 20 #[.slice (some ⟨g, 0, none⟩) ns.length c, .int .i64 k0] w fun e w' => (∃ k1 : Int, (0 ≤ k1 ∧ k1 ≤ 2000000000000) ∧ e = .returned (.int .i64 k1)) ∧ Only lo hi w w' := by
  have hlen := hs.len
  go_enter Try.func20, Try.ntmps20
  go_wp2_with fail
  go_loopw [1, 5] (fun kv iv wr => ∃ (j : Nat) (kc : Int), j ≤ ns.length ∧ iv = .int .i64 j ∧ kv = .int .i64 kc ∧ 0 ≤ kc ∧ kc ≤ 1048576 + 1048578 * (j : Int) ∧ Markable wr g lo hi 47 3 ns ∧ Only lo hi w wr) (fun _ iv _ => ns.length - (intOf iv).toNat)
  case atStart => exact ⟨0, k0, Nat.zero_le _, rfl, rfl, hk0, by omega, h, Only.refl _ _ _⟩
  case round =>
    obtain ⟨j, kc, hj, rfl, rfl, hc0, hc1, hm, ho⟩ := hrel
    clear h
    by_cases hlt : j < ns.length
    · have hat : ns[j]? = some ns[j] := List.getElem?_eq_getElem hlt
      have hkl := hs.kids _ (List.getElem_mem hlt)
      generalize ns[j] = n at hat hkl
      have Hat := hide hat
      obtain ⟨f, hf⟩ := hm.row
      have a0 := hf.cell (i := j * 3) (by omega)
      have a1 := hf.cell (i := j * 3 + 1) (by omega)
      have b0 := hf.frozen (j * 3)
      have b1 := hf.frozen (j * 3 + 1)
      have hkc : kc ≤ 4611686018427387000 := by omega
      have hm2 := (hm.set (p := j * 3) (fun i => by omega) (.int .i64 kc)).set (p := j * 3 + 1) (fun i => by omega) (.int .i64 (kc + 1))
      have ho2 := (ho.setCell (p := ⟨g, j * 3, none⟩) hg1 hg2 (.int .i64 kc)).setCell (p := ⟨g, j * 3 + 1, none⟩) hg1 hg2 (.int .i64 (kc + 1))
      obtain ⟨gk, h1, h2, h3, h4, f2, h5⟩ := hm2.kids j n hat
      have HM := hide hm2
      have HO := hide ho2
      have H5 := hide h5
      clear hat hm ho hf hm2 ho2 h5
      go_wp2_with fail
      refine (markIntS_row gk 3 _ _ f2 (kc + 1 + 1) _ H5.out n.kids.length (Nat.le_refl _) (by omega) (by omega) hkl).mono ?_
      rintro e w2 ⟨rfl, hr2, ho3⟩
      have HM2 := hide (HM.out.only h3 ho3 hr2 (fun m f hf => rowIs_len hf H5.out))
      have HO2 := hide (HO.out.trans (ho3.mono h1 (by omega)))
      clear a0 a1 b0 b1 h4 hr2 ho3
      go_wp2
      go_roundw
      case rel => exact ⟨j + 1, kc + 1 + 1 + n.kids.length, by omega, by go_num, rfl, by omega, by omega, HM2.out, HO2.out⟩
      case measure => simp [intOf]; omega
    · obtain rfl : j = ns.length := by omega
      have hkm : 0 ≤ kc ∧ kc ≤ 2000000000000 := by omega
      clear hlt hm
      go_wp2
      go_ret
      exact ⟨⟨kc, hkm, rfl⟩, ho⟩

end Go.Proofs.Ytdgmohebnkcohab

namespace Go.Proofs.Ytdgmohebnkcohab
open Go.RowKit
set_option linter.unusedVariables false

set_option maxHeartbeats 1000000 in
theorem markGraph_any (g lo hi : Nat) (ns : List Nd) (c : Nat) (r k0 : Int) (w : World) (h : Markable w g lo hi 47 3 ns) (hs : Small ns) (hk0 : 0 ≤ k0) (hk1 : k0 ≤ 1048576) (hg1 : lo ≤ g) (hg2 : g < hi) (hhi : hi ≤ w.heap.size) :
    Calls Try.prog 9 #[.agg #[.slice (some ⟨g, 0, none⟩) ns.length c, .int .i64 r], .int .i64 k0] w fun e w' => (∃ k1 : Int, (0 ≤ k1 ∧ k1 ≤ 2000000000000) ∧ e = .returned (.int .i64 k1)) ∧ Save lo hi w w' := by
  have hB : Below w.heap.size w (w.alloc (.cells #[.slice (some ⟨g, 0, none⟩) ns.length c, .int .i64 r] 28)) := (Below.refl _ _).alloc (Nat.le_refl _) _
  have h2 : Markable (w.alloc (.cells #[.slice (some ⟨g, 0, none⟩) ns.length c, .int .i64 r] 28)) g lo hi 47 3 ns :=
    h.kept (hB.block g (by omega)) (fun k _ hk => hB.block k (by omega))
  clear h
  go_enter Try.func9, Try.ntmps9
  go_wp2_with fail
  refine (markNodeS_any g lo hi ns c k0 _ h2 hs hk0 hk1 hg1 hg2).mono ?_
  rintro e w' ⟨⟨k1, hk, rfl⟩, ho⟩
  have HS := hide ((Save.of_below hB).trans (Save.of_only ho))
  clear ho h2 hB
  go_wp2
  go_ret
  exact ⟨⟨k1, hk, rfl⟩, HS.out⟩

end Go.Proofs.Ytdgmohebnkcohab
