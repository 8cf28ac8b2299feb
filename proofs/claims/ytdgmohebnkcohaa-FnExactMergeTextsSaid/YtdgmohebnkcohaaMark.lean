/-
  The marking function markNodeS: what it writes, and what it leaves alone.
-/
import Derived.Test.YtdgmohebnkcohaaMarkI
import Derived.Test.YtdgmohebnkcohaaSz
namespace Go.Proofs.Ytdgmohebnkcohaa
open Go.RowKit
set_option linter.unusedVariables false

/-- what is known of a graph's rows while they are marked: rows that can be written, in blocks from lo on and below hi -/
structure Markable (w : World) (g lo hi : Nat) (tn t : TypeId) (ns : List Nd) : Prop where
  row : ∃ f, w.rowIs g tn (ns.length * 3) f
  kids : ∀ j n, ns[j]? = some n → ∃ gk, lo ≤ gk ∧ gk < hi ∧ gk ≠ g ∧ w.cell? ⟨g, j * 3 + 2, none⟩ = some (.slice (some ⟨gk, 0, none⟩) n.kids.length n.kids.length) ∧ ∃ f, w.rowIs gk t n.kids.length f

theorem MadeNds.markable {w : World} {g : Nat} {tn t : TypeId} {ns : List Nd} (h : MadeNds w g tn t ns) : Markable w g g w.heap.size tn t ns :=
  ⟨h.row, fun j n hj => by
    obtain ⟨gk, h1, h2, h3⟩ := (h.nodes j n hj).kids
    exact ⟨gk, by omega, h3.lt, by omega, h2, _, h3⟩⟩

theorem Markable.kept {w w' : World} {g lo hi : Nat} {tn t : TypeId} {ns : List Nd} (h : Markable w g lo hi tn t ns) (hg : w'.heap[g]? = w.heap[g]?) (hk : ∀ k, lo ≤ k → k < hi → w'.heap[k]? = w.heap[k]?) : Markable w' g lo hi tn t ns := by
  obtain ⟨f, hf⟩ := h.row
  refine ⟨⟨f, hf.of_block hg⟩, fun j n hj => ?_⟩
  obtain ⟨gk, h1, h2, h3, h4, f', h5⟩ := h.kids j n hj
  exact ⟨gk, h1, h2, h3, (World.cell?_of_block (w := w) hg).trans h4, f', h5.of_block (hk gk h1 h2)⟩

/-- marking a cell of a node that is not its kids' slice -/
theorem Markable.set {w : World} {g lo hi p : Nat} {tn t : TypeId} {ns : List Nd} (h : Markable w g lo hi tn t ns) (hp : ∀ j, p ≠ j * 3 + 2) (u : Value) : Markable (w.setCell ⟨g, p, none⟩ u) g lo hi tn t ns := by
  obtain ⟨f, hf⟩ := h.row
  refine ⟨⟨_, hf.set p u⟩, fun j n hj => ?_⟩
  obtain ⟨gk, h1, h2, h3, h4, f', h5⟩ := h.kids j n hj
  refine ⟨gk, h1, h2, h3, ?_, f', h5.setOther (by show gk ≠ g; exact h3) u⟩
  rw [World.cell?_setCell_other]
  · exact h4
  · intro e
    injection e with _ e
    exact hp j e

/-- marking the row of one node's kids -/
theorem Markable.only {w w' : World} {g lo hi gk m : Nat} {tn t : TypeId} {ns : List Nd} {f' : Nat → Value} (h : Markable w g lo hi tn t ns) (hgk : gk ≠ g) (ho : Only gk (gk + 1) w w') (hr : w'.rowIs gk t m f')
    (hlen : ∀ n f, w.rowIs gk t n f → n = m) : Markable w' g lo hi tn t ns := by
  obtain ⟨f, hf⟩ := h.row
  have hg : w'.heap[g]? = w.heap[g]? := ho.block g (by omega)
  refine ⟨⟨f, hf.of_block hg⟩, fun j n hj => ?_⟩
  obtain ⟨gk', h1, h2, h3, h4, f2, h5⟩ := h.kids j n hj
  refine ⟨gk', h1, h2, h3, (World.cell?_of_block (w := w) hg).trans h4, ?_⟩
  by_cases e : gk' = gk
  · subst e
    rw [hlen _ _ h5]
    exact ⟨f', hr⟩
  · exact ⟨f2, h5.of_block (ho.block gk' (by omega))⟩

theorem rowIs_len {w : World} {g : Nat} {t t' : TypeId} {m n : Nat} {f f' : Nat → Value} (h : w.rowIs g t m f) (h' : w.rowIs g t' n f') : m = n := by
  obtain ⟨c, h1, h2, _⟩ := h
  obtain ⟨c', h3, h4, _⟩ := h'
  rw [h1] at h3
  injection h3 with h3
  injection h3 with h3
  subst h3
  omega

set_option maxRecDepth 100000 in
set_option maxHeartbeats 2000000 in
theorem markNodeS_any (g lo hi : Nat) (ns : List Nd) (c : Nat) (k0 : Int) (w : World) (h : Markable w g lo hi 38 3 ns) (hs : Small ns) (hk0 : 0 ≤ k0) (hk1 : k0 ≤ 1048576) (hg1 : lo ≤ g) (hg2 : g < hi) :
    Calls Try.prog 20 #[.slice (some ⟨g, 0, none⟩) ns.length c, .int .i64 k0] w fun e w' => (∃ k1 : Int, (0 ≤ k1 ∧ k1 ≤ 2000000000000) ∧ e = .returned (.int .i64 k1)) ∧ Only lo hi w w' := by
  have hlen := hs.len
  go_enter Try.func20, Try.ntmps20
  go_wp2_with fail
  go_loopw [1, 5] (fun kv iv wr => ∃ (j : Nat) (kc : Int), j ≤ ns.length ∧ iv = .int .i64 j ∧ kv = .int .i64 kc ∧ 0 ≤ kc ∧ kc ≤ 1048576 + 1048578 * (j : Int) ∧ Markable wr g lo hi 38 3 ns ∧ Only lo hi w wr) (fun _ iv _ => ns.length - (intOf iv).toNat)
  case atStart => exact ⟨0, k0, Nat.zero_le _, rfl, rfl, hk0, by omega, h, Only.refl _ _ _⟩
  case round =>
    obtain ⟨j, kc, hj, rfl, rfl, hc0, hc1, hm, ho⟩ := hrel
    clear h
    by_cases hlt : j < ns.length
    · have hat : ns[j]? = some ns[j] := List.getElem?_eq_getElem hlt
      have hkl := hs.kids _ (List.getElem_mem hlt)
      generalize ns[j] = n at hat hkl
      have Hat := hide hat
      obtain ⟨f, hf⟩ := hm.row
      have a0 := hf.cell (i := j * 3) (by omega)
      have a1 := hf.cell (i := j * 3 + 1) (by omega)
      have b0 := hf.frozen (j * 3)
      have b1 := hf.frozen (j * 3 + 1)
      have hkc : kc ≤ 4611686018427387000 := by omega
      have hm2 := (hm.set (p := j * 3) (fun i => by omega) (.int .i64 kc)).set (p := j * 3 + 1) (fun i => by omega) (.int .i64 (kc + 1))
      have ho2 := (ho.setCell (p := ⟨g, j * 3, none⟩) hg1 hg2 (.int .i64 kc)).setCell (p := ⟨g, j * 3 + 1, none⟩) hg1 hg2 (.int .i64 (kc + 1))
      obtain ⟨gk, h1, h2, h3, h4, f2, h5⟩ := hm2.kids j n hat
      have HM := hide hm2
      have HO := hide ho2
      have H5 := hide h5
      clear hat hm ho hf hm2 ho2 h5
      go_wp2_with fail
      refine (markIntS_row gk 3 _ _ f2 (kc + 1 + 1) _ H5.out n.kids.length (Nat.le_refl _) (by omega) (by omega) hkl).mono ?_
      rintro e w2 ⟨rfl, hr2, ho3⟩
      have HM2 := hide (HM.out.only h3 ho3 hr2 (fun m f hf => rowIs_len hf H5.out))
      have HO2 := hide (HO.out.trans (ho3.mono h1 (by omega)))
      clear a0 a1 b0 b1 h4 hr2 ho3
      go_wp2
      go_roundw
      case rel => exact ⟨j + 1, kc + 1 + 1 + n.kids.length, by omega, by go_num, rfl, by omega, by omega, HM2.out, HO2.out⟩
      case measure => simp [intOf]; omega
    · obtain rfl : j = ns.length := by omega
      have hkm : 0 ≤ kc ∧ kc ≤ 2000000000000 := by omega
      clear hlt hm
      go_wp2
      go_ret
      exact ⟨⟨kc, hkm, rfl⟩, ho⟩

end Go.Proofs.Ytdgmohebnkcohaa
