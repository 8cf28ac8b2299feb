/-
  Lemmas, several texts in one: Gen, AppK, SetI.
-/
import Derived.Test.YthgklkpfmjgeoaaSomeNode
import Derived.Test.YthgklkpfmjgeoaaPjAe
import Derived.Test.YthgklkpfmjgeoaaPjAa
import Derived.ArgAppend
import Derived.RegionTactic
import Derived.Deep.AppendLies
import Derived.Deep.Onto
namespace Go.Proofs.Ythgklkpfmjgeoaa
open Go.RowKit
set_option linter.unusedVariables false

/-- the three cells of the node j in the row of the block g -/
structure NdX (w : World) (g rb j : Nat) (n : Nd) : Prop where
  kind : w.cell? ⟨g, j * 3, none⟩ = some (.int .i64 n.kind)
  value : w.cell? ⟨g, j * 3 + 1, none⟩ = some (.int .i64 n.value)
  kids : ∃ A c, w.cell? ⟨g, j * 3 + 2, none⟩ = some (.slice A n.kids.length c) ∧ OwnI w 0 A c n.kids ∧ (∀ x ∈ n.kids, In64 x) ∧ n.kids.length ≤ 1000 ∧ blockOf A ≠ some g ∧ blockOf A ≠ some rb
  wfk : In64 n.kind
  wfv : In64 n.value

structure GenG (w : World) (g rb cap : Nat) (ns : List Nd) : Prop where
  row : ∃ f, w.rowIs g 43 (cap * 3) f
  le : ns.length ≤ cap
  few : ns.length ≤ 1000
  nd : ∀ j n, ns[j]? = some n → NdX w g rb j n
  ne : g ≠ rb
  dis : ∀ (i j : Nat) (A A' : Option Addr) (n n' c c' : Nat), i ≠ j → i < ns.length → j < ns.length → w.cell? ⟨g, i * 3 + 2, none⟩ = some (.slice A n c) → w.cell? ⟨g, j * 3 + 2, none⟩ = some (.slice A' n' c') → ∀ b, blockOf A = some b → blockOf A' ≠ some b

theorem OwnI.same' {w w' : World} {base : Nat} {A : Option Addr} {c : Nat} {xs : List Int} (h : OwnI w base A c xs) (hA : ∀ g, blockOf A = some g → w'.heap[g]? = w.heap[g]?) : OwnI w' base A c xs := by
  refine ⟨h.own.1, ?_⟩
  rcases h.own.2 with h2 | ⟨g, cap, cur, hv, hg, hh, r⟩
  · exact .inl h2
  · have hAg : blockOf A = some g := by
      injection hv with hv
      rw [hv]; rfl
    exact .inr ⟨g, cap, cur, hv, hg, (hA g hAg).trans hh, r⟩

/-- old memory is as it was, but for two blocks -/
structure Grew2 (g1 g2 : Nat) (w w' : World) : Prop where
  os : w'.os = w.os
  tape : w'.tape = w.tape
  output : w'.output = w.output
  size : w.heap.size ≤ w'.heap.size
  block : ∀ k, k < w.heap.size → k ≠ g1 → k ≠ g2 → w'.heap[k]? = w.heap[k]?

theorem Grew2.of_grew {g1 g2 : Nat} {w w' : World} (h : Grew g1 w w') : Grew2 g1 g2 w w' := ⟨h.os, h.tape, h.output, h.size, fun k hk h1 _ => h.block k hk h1⟩
theorem Grew2.trans {g1 g2 : Nat} {a b c : World} (h : Grew2 g1 g2 a b) (k : Grew2 g1 g2 b c) : Grew2 g1 g2 a c :=
  ⟨k.os.trans h.os, k.tape.trans h.tape, k.output.trans h.output, Nat.le_trans h.size k.size, fun j hj h1 h2 => (k.block j (Nat.lt_of_lt_of_le hj h.size) h1 h2).trans (h.block j hj h1 h2)⟩
theorem Grew2.below {g1 g2 B : Nat} {w0 w w' : World} (h : Grew2 g1 g2 w w') (hb : Below B w0 w) (h1 : B ≤ g1) (h2 : B ≤ g2) (hB : B ≤ w.heap.size) : Below B w0 w' :=
  hb.trans ⟨h.os, h.tape, h.output, h.size, fun k hk => h.block k (by omega) (by omega) (by omega)⟩

/-- int slices in a block that is left alone -/
theorem IntsAt.kept {w w' : World} {A : Option Addr} {xs : List Int} (h : IntsAt w w.heap.size A xs) (hs : w.heap.size ≤ w'.heap.size) (hb : ∀ k, blockOf A = some k → k < w.heap.size → w'.heap[k]? = w.heap[k]?) : IntsAt w' w'.heap.size A xs :=
  ⟨fun hx => by
    obtain ⟨b, off, e, hlt, hc⟩ := h.row hx
    subst e
    exact ⟨b, off, rfl, Nat.lt_of_lt_of_le hlt hs, fun j x hj => (World.cell?_of_block (w := w) (hb b rfl hlt)).trans (hc j x hj)⟩, h.wf, h.len⟩

theorem NdX.kept {w w' : World} {g rb j : Nat} {n : Nd} (h : NdX w g rb j n) (hc : ∀ o, o < 3 → w'.cell? ⟨g, j * 3 + o, none⟩ = w.cell? ⟨g, j * 3 + o, none⟩) (hb : ∀ k, k < w.heap.size → k ≠ rb → k ≠ g → w'.heap[k]? = w.heap[k]?) : NdX w' g rb j n := by
  obtain ⟨A, c, h1, h2, h3, h6, h4, h5⟩ := h.kids
  exact ⟨(hc 0 (by omega)).trans h.kind, (hc 1 (by omega)).trans h.value, ⟨A, c, (hc 2 (by omega)).trans h1, h2.same' (fun k hk => hb k (h2.blocks k hk).2 (fun e => h5 (by rw [hk, e])) (fun e => h4 (by rw [hk, e]))), h3, h6, h4, h5⟩, h.wfk, h.wfv⟩

theorem GenG.lt {w : World} {g rb cap : Nat} {ns : List Nd} (h : GenG w g rb cap ns) : g < w.heap.size := by
  obtain ⟨f, hf⟩ := h.row
  exact hf.lt

theorem GenG.grew {w w' : World} {g rb cap : Nat} {ns : List Nd} (h : GenG w g rb cap ns) (hg : Grew rb w w') : GenG w' g rb cap ns := by
  have hb := hg.block g h.lt h.ne
  obtain ⟨f, hf⟩ := h.row
  exact ⟨⟨f, hf.of_block hb⟩, h.le, h.few, fun j n hj => (h.nd j n hj).kept (fun o _ => World.cell?_of_block (w := w) hb) (fun k hk h1 _ => hg.block k hk h1), h.ne, fun i j A A' n n' c c' hij hi hj h1 h2 => h.dis i j A A' n n' c c' hij hi hj ((World.cell?_of_block (w := w) hb).symm.trans h1) ((World.cell?_of_block (w := w) hb).symm.trans h2)⟩

theorem GenG.nds {w : World} {g rb cap : Nat} {ns : List Nd} (h : GenG w g rb cap ns) : NdsAt w w.heap.size (some ⟨g, 0, none⟩) ns :=
  ⟨fun _ => ⟨g, 0, rfl, h.lt, fun j n hj => by
    have hn := h.nd j n hj
    obtain ⟨A, c, h1, h2, h3, h6, _, _⟩ := hn.kids
    rw [Nat.zero_add]
    exact ⟨hn.kind, hn.value, ⟨A, c, h1, h2.ints h3 (by omega), h2.nil⟩, hn.wfk, hn.wfv⟩⟩, by have := h.few; omega⟩

/-- the world behind a store to the node j -/
def put3 (w : World) (g j : Nat) (v0 v1 v2 : Value) : World := ((w.setCell ⟨g, j * 3, none⟩ v0).setCell ⟨g, j * 3 + 1, none⟩ v1).setCell ⟨g, j * 3 + 2, none⟩ v2

theorem put3_block {w : World} {g j k : Nat} {v0 v1 v2 : Value} (hk : k ≠ g) : (put3 w g j v0 v1 v2).heap[k]? = w.heap[k]? := by
  unfold put3
  rw [Below.heap_setCell _ _ _ _ (by show k ≠ g; exact hk), Below.heap_setCell _ _ _ _ (by show k ≠ g; exact hk), Below.heap_setCell _ _ _ _ (by show k ≠ g; exact hk)]
theorem put3_size {w : World} {g j : Nat} {v0 v1 v2 : Value} : (put3 w g j v0 v1 v2).heap.size = w.heap.size := by unfold put3; simp
theorem put3_far {w : World} {g j q : Nat} {v0 v1 v2 : Value} (hq : q < j * 3 ∨ j * 3 + 2 < q) : (put3 w g j v0 v1 v2).cell? ⟨g, q, none⟩ = w.cell? ⟨g, q, none⟩ := by
  unfold put3
  rw [World.cell?_setCell_other, World.cell?_setCell_other, World.cell?_setCell_other] <;> (intro e; injection e with _ e; omega)
theorem put3_row {w : World} {g j n : Nat} {t : TypeId} {f : Nat → Value} (h : w.rowIs g t n f) (v0 v1 v2 : Value) : ∃ f', (put3 w g j v0 v1 v2).rowIs g t n f' := ⟨_, ((h.set _ _).set _ _).set _ _⟩
theorem put3_at {w : World} {g j n : Nat} {t : TypeId} {f : Nat → Value} (h : w.rowIs g t n f) (hn : j * 3 + 2 < n) (v0 v1 v2 : Value) : (put3 w g j v0 v1 v2).cell? ⟨g, j * 3, none⟩ = some v0 ∧ (put3 w g j v0 v1 v2).cell? ⟨g, j * 3 + 1, none⟩ = some v1 ∧ (put3 w g j v0 v1 v2).cell? ⟨g, j * 3 + 2, none⟩ = some v2 := by
  have hr := ((h.set (j * 3) v0).set (j * 3 + 1) v1).set (j * 3 + 2) v2
  unfold put3
  refine ⟨?_, ?_, ?_⟩
  · have := hr.cell (i := j * 3) (by omega)
    simpa using this
  · have := hr.cell (i := j * 3 + 1) (by omega)
    simpa using this
  · have := hr.cell (i := j * 3 + 2) (by omega)
    simpa using this
theorem put3_grew {w : World} {g rb j : Nat} {v0 v1 v2 : Value} : Grew2 rb g w (put3 w g j v0 v1 v2) := ⟨rfl, rfl, rfl, by rw [put3_size]; exact Nat.le_refl _, fun k _ _ hk => put3_block hk⟩

theorem GenG.setFar {w : World} {g rb cap b o : Nat} {ns : List Nd} {v : Value} (h : GenG w g rb cap ns) (hb : b ≠ g) (hk : ∀ j, j < ns.length → ∀ (A : Option Addr) (n c : Nat), w.cell? ⟨g, j * 3 + 2, none⟩ = some (.slice A n c) → blockOf A ≠ some b) : GenG (w.setCell ⟨b, o, none⟩ v) g rb cap ns := by
  have hbl : ∀ k, k ≠ b → (w.setCell ⟨b, o, none⟩ v).heap[k]? = w.heap[k]? := fun k hk => Below.heap_setCell _ _ _ _ hk
  have hg := hbl g (fun e => hb e.symm)
  obtain ⟨f, hf⟩ := h.row
  refine ⟨⟨f, hf.of_block hg⟩, h.le, h.few, fun j n hj => ?_, h.ne, fun i j A A' n n' c c' hij hi hj h1 h2 => h.dis i j A A' n n' c c' hij hi hj ((World.cell?_of_block (w := w) hg).symm.trans h1) ((World.cell?_of_block (w := w) hg).symm.trans h2)⟩
  have hn := h.nd j n hj
  obtain ⟨A, c, h1, h2, h3, h6, h4, h5⟩ := hn.kids
  have hc := fun q => World.cell?_of_block (w := w) (w' := w.setCell ⟨b, o, none⟩ v) (a := ⟨g, q, none⟩) hg
  exact ⟨(hc _).trans hn.kind, (hc _).trans hn.value, ⟨A, c, (hc _).trans h1, h2.same' (fun k hk2 => hbl k (fun e => hk j (List.getElem?_eq_some_iff.1 hj).1 A _ c h1 (by rw [hk2, e]))), h3, h6, h4, h5⟩, hn.wfk, hn.wfv⟩

theorem Rd.kept {w w' : World} {rb : Nat} {A : Option Addr} {n c p : Nat} (h : Rd w rb A n c p) (hr : Below (rb + 1) w w') : Rd w' rb A n c p :=
  ⟨h.box.below hr (by omega), h.bytes.later (hr.mono (by omega)), h.few⟩
theorem Rd.put {w : World} {rb g j : Nat} {A : Option Addr} {n c p : Nat} (h : Rd w rb A n c p) (hg : rb < g) (v0 v1 v2 : Value) : Rd (put3 w g j v0 v1 v2) rb A n c p :=
  h.kept ⟨rfl, rfl, rfl, by rw [put3_size]; exact Nat.le_refl _, fun k hk => put3_block (by omega)⟩

end Go.Proofs.Ythgklkpfmjgeoaa

namespace Go.Proofs.Ythgklkpfmjgeoaa
open Go.RowKit
set_option linter.unusedVariables false

section
variable {P : Program} (w : World)

theorem run_append_keep (base : Nat) (t ty e : TypeId) (i : TypeInfo) (z : Value) (size bytes : Nat) (ht : P.underlying t = some (.slice e)) (hi : P.info? e = some i) (hz : i.zero = some z)
    (hsize : i.size = size) (hby : i.bytes = bytes) (hzs : z.cells.size = size) (hsz : 0 < size)
    (A : Option Addr) (c0 n : Nat) (xs : List Value) (hown : w.ownsRow base e size (.slice A n c0) n xs)
    (a : Addr) (m c : Nat) (news : List Value) (hl : news.length = m * size) (hnews : ∀ j u, news[j]? = some u → w.cell? (a.add j) = some u) (h1 : ∀ u ∈ news, u.oneCell' = true)
    (h63 : n + m ≤ maxLen) (hbytes : (n + m) * bytes ≤ 140737488355328) (hbase : base ≤ w.heap.size) (hm : 0 < m) :
    ∃ A' c' w', (Builtin.append_ #[t, t] ty #[.slice A n c0, .slice (some a) m c]).run P w = .ok (.slice A' (n + m) c') w' ∧ w'.ownsRow base e size (.slice A' (n + m) c') (n + m) (xs ++ news) ∧ w'.ownsRow base e size (.slice A n c0) n xs ∧
      ((A' = A ∧ c' = c0 ∧ w.grownBy w' (blockOf A)) ∨ (blockOf A' = some w.heap.size ∧ w.grownBy w' none)) := by
  have hown0 := hown
  rcases hown.2 with ⟨hv, rfl⟩ | ⟨g, cap, cur, hv, hbg, hg, hnc, hcm, hcs, htake⟩
  · injection hv with e1 _ e3
    subst e1 e3
    obtain ⟨v', w', hr, h2, h3, h4, h5⟩ := run_append_own_at (P := P) w base t ty e i z size bytes ht hi hz hsize hby hzs hsz _ 0 xs hown a m c news hl hnews h1 h63 hbytes hbase
    obtain ⟨g, cap, rfl, hgb, hlt⟩ := h2.form (by omega)
    refine ⟨some ⟨g, 0, none⟩, cap, w', hr, h2, ⟨hown.1, .inl ⟨rfl, rfl⟩⟩, .inr ⟨?_, ?_⟩⟩
    · simpa [Value.ownBlock, blockOf] using h5
    · simpa [Value.ownBlock] using h3
  · injection hv with e1 _ e3
    subst e1 e3
    subst hsize
    by_cases hroom : n + m ≤ c0
    · have hfit : n * i.size + news.length ≤ cur.size := by
        rw [hl, hcs, ← Nat.add_mul]
        exact Nat.mul_le_mul_right _ hroom
      have hr := run_append_room (P := P) w t ty e i ht hi g n c0 cur hg a m c news hl hnews h1 hroom hfit
      have hxl : xs.length = n * i.size := hown.1
      have htk : (cur.toList.take (n * i.size)) = xs := htake
      have hsz2 : (cur.toList.take (n * i.size) ++ news ++ cur.toList.drop (n * i.size + news.length)).toArray.size = c0 * i.size := by
        simp only [List.size_toArray, List.length_append, List.length_take, List.length_drop, Array.length_toList]
        omega
      have hh := setRow_heap w g cur (cur.toList.take (n * i.size) ++ news ++ cur.toList.drop (n * i.size + news.length)).toArray e (0, 0) hg
      refine ⟨some ⟨g, 0, none⟩, c0, _, hr, ⟨?_, .inr ⟨g, c0, _, rfl, hbg, hh, hroom, hcm, hsz2, ?_⟩⟩, ⟨hown.1, .inr ⟨g, c0, _, rfl, hbg, hh, hnc, hcm, hsz2, ?_⟩⟩, .inl ⟨rfl, rfl, rfl, rfl, rfl, by simp [World.setRow], fun k _ hk => setRow_other w g k _ (fun e => hk (by simp [blockOf, e]))⟩⟩
      · rw [List.length_append, hxl, hl, Nat.add_mul]
      · show List.take ((n + m) * i.size) (cur.toList.take (n * i.size) ++ news ++ cur.toList.drop (n * i.size + news.length)) = xs ++ news
        rw [htk, show (n + m) * i.size = (xs ++ news).length by rw [List.length_append, hxl, hl, Nat.add_mul]]
        exact List.take_left
      · show List.take (n * i.size) (cur.toList.take (n * i.size) ++ news ++ cur.toList.drop (n * i.size + news.length)) = xs
        rw [htk, List.append_assoc, ← hxl]
        exact List.take_left
    · have holds : ∀ j u, xs[j]? = some u → w.cell? ((⟨g, 0, none⟩ : Addr).add j) = some u := hown.cells (by rfl)
      obtain ⟨v', w', hr, h2, h3⟩ := run_append_arg_grows (P := P) w t ty e i z i.size bytes ht hi hz rfl hby hzs hsz ⟨g, 0, none⟩ n c0 xs hown.1 holds a m c news hl hnews (by omega) h63 hbytes
      have h2b := h2.mono hbase
      obtain ⟨g', cap, rfl, hgb, hlt⟩ := h2.form (by omega)
      refine ⟨some ⟨g', 0, none⟩, cap, w', hr, h2b, hown0.kept h3 (by right; simp [Value.ownBlock]), .inr ⟨?_, h3⟩⟩
      obtain ⟨v2, w2, hr2, _, _, _, h52⟩ := run_append_own_at (P := P) w base t ty e i z i.size bytes ht hi hz rfl hby hzs hsz _ n xs hown0 a m c news hl hnews h1 h63 hbytes hbase
      rw [hr] at hr2
      injection hr2 with hr2 _
      subst hr2
      have hgl := lt_of_block hg
      rcases h52 with h5 | h5
      · simp [Value.ownBlock] at h5
        omega
      · simpa [Value.ownBlock, blockOf] using h5
end

/-- a longer slice of the same address tells what a shorter one reads -/
theorem OwnI.short {w : World} {base : Nat} {A : Option Addr} {c : Nat} {xs ys : List Int} (h : OwnI w base A c ys) (hp : xs <+: ys) : OwnI w base A c xs := by
  have hle := hp.length_le
  refine ⟨by simp, ?_⟩
  rcases h.own.2 with ⟨hv, hn⟩ | ⟨g, cap, cur, hv, hbg, hg, hnc, hcm, hcs, htake⟩
  · injection hv with e1 _ e3
    have : xs.length = 0 := by omega
    exact .inl ⟨by rw [e1, e3, this], this⟩
  · injection hv with e1 _ e3
    subst e1 e3
    refine .inr ⟨g, c, cur, rfl, hbg, hg, by omega, hcm, hcs, ?_⟩
    have h2 : (cur.toList.take (ys.length * 1)).take (xs.length * 1) = (ys.map (Value.int .i64)).take (xs.length * 1) := by rw [htake]
    rw [List.take_take, Nat.min_eq_left (by omega)] at h2
    rw [h2, ← List.map_take, Nat.mul_one]
    obtain ⟨zs, rfl⟩ := hp
    rw [List.take_left]

/-- what an append leaves behind -/
structure AppK (w w' : World) (base : Nat) (A A' : Option Addr) (c c' : Nat) (xs ys zs : List Int) : Prop where
  eq : zs = xs ++ ys
  own : OwnI w' base A' c' zs
  old : OwnI w' base A c xs
  how : (A' = A ∧ c' = c ∧ w.grownBy w' (blockOf A)) ∨ (blockOf A' = some w.heap.size ∧ w.grownBy w' none)

theorem AppK.grown {w w' : World} {base : Nat} {A A' : Option Addr} {c c' : Nat} {xs ys zs : List Int} (h : AppK w w' base A A' c c' xs ys zs) : w.grownBy w' (blockOf A) := by
  rcases h.how with ⟨_, _, h⟩ | ⟨_, h⟩
  · exact h
  · exact ⟨h.os, h.tape, h.output, h.size, fun k hk _ => h.block k hk (by simp)⟩

theorem append_intsK {w : World} {ops : Array Oper} {rest : List Oper} {o : Oper} {a : Act} {Q : Exit → Act → World → Prop} (hgd : o.guard = none) (s x : Operand)
    (ho : o.op = .call { callee := .builtin .append, args := #[s, x], argTypes := #[35, 35] })
    (base : Nat) (A : Option Addr) (c : Nat) (xs : List Int) (hs : a.eval s = .slice A xs.length c) (hown : OwnI w base A c xs)
    (B : Nat) (ad : Addr) (c2 : Nat) (ys : List Int) (hne : ys ≠ []) (hx : a.eval x = .slice (some ad) ys.length c2) (hr : IntsAt w B (some ad) ys)
    (hsum : xs.length + ys.length ≤ 16777216) (hbase : base ≤ w.heap.size)
    (h : ∀ (zs : List Int) (A' : Option Addr) (c' : Nat) (w' : World), Hid (AppK w w' base A A' c c' xs ys zs) → 
      wpList Try.prog ops Q rest (a.put o.dst (.slice A' zs.length c')) w') : wpList Try.prog ops Q (o :: rest) a w := by
  obtain ⟨i0, hi, hz0, hz1, hz2⟩ := info_parts infoI
  have hcells : ∀ j u, (ys.map (Value.int .i64))[j]? = some u → w.cell? (ad.add j) = some u := by
    intro j u hu
    rw [List.getElem?_map] at hu
    cases hy : ys[j]? with
    | none => rw [hy] at hu; cases hu
    | some y =>
      rw [hy] at hu
      simp at hu
      subst hu
      obtain ⟨b, off, e2, _, hc⟩ := hr.row hne
      obtain rfl : ad = ⟨b, off, none⟩ := Option.some.inj e2
      have hadd : (⟨b, off, none⟩ : Addr).add j = ⟨b, off + j, none⟩ := by
        unfold Addr.add
        split
        · rename_i h0; subst h0; rfl
        · rfl
      rw [hadd]
      exact hc j y hy
  refine wpList_plain hgd fun K hK' => ?_
  obtain ⟨A', c', w', hrun, h1, h2, h3⟩ := run_append_keep (P := Try.prog) w base 35 o.type 3 i0 _ 1 8 Try.underlying35 hi hz0 hz1 hz2 rfl (by omega) _ _ _ _ hown.own ad ys.length c2 (ys.map (Value.int .i64)) (by simp) hcells (ints_one ys)
    (by unfold maxLen; omega) (by omega) hbase (List.length_pos_iff.2 hne)
  have hlen : xs.length + ys.length = (xs ++ ys).length := by simp
  rw [← List.map_append, hlen] at h1
  rw [hlen] at hrun
  unfold Oper.wp
  simp [execOp, ho, resolve, invoke, builtin, hs, hx, hrun, Result.andThen]
  simp only [List.length_append] at *
  exact hK' _ _ (by simpa using h (xs ++ ys) A' c' w' (hide ⟨rfl, ⟨by simpa using h1⟩, ⟨h2⟩, h3⟩))

theorem step_append_intsK {w : World} {ops : Array Oper} {o : Oper} {a : Act} {K : Act → World → Prop} {Q : Exit → Act → World → Prop} {E : Prop} (hgd : o.guard = none) (s x : Operand)
    (ho : o.op = .call { callee := .builtin .append, args := #[s, x], argTypes := #[35, 35] })
    (base : Nat) (A : Option Addr) (c : Nat) (xs : List Int) (hs : a.eval s = .slice A xs.length c) (hown : OwnI w base A c xs)
    (B : Nat) (ad : Addr) (c2 : Nat) (ys : List Int) (hne : ys ≠ []) (hx : a.eval x = .slice (some ad) ys.length c2) (hr : IntsAt w B (some ad) ys)
    (hsum : xs.length + ys.length ≤ 16777216) (hbase : base ≤ w.heap.size)
    (h : ∀ (zs : List Int) (A' : Option Addr) (c' : Nat) (w' : World), Hid (AppK w w' base A A' c c' xs ys zs) →
      K (a.put o.dst (.slice A' zs.length c')) w') :
    if Region.wanted o (yielded ops a.tmps) = true then Oper.wp Try.prog o a w K Q else E := by
  obtain ⟨i0, hi, hz0, hz1, hz2⟩ := info_parts infoI
  have hcells : ∀ j u, (ys.map (Value.int .i64))[j]? = some u → w.cell? (ad.add j) = some u := by
    intro j u hu
    rw [List.getElem?_map] at hu
    cases hy : ys[j]? with
    | none => rw [hy] at hu; cases hu
    | some y =>
      rw [hy] at hu
      simp at hu
      subst hu
      obtain ⟨b, off, e2, _, hc⟩ := hr.row hne
      obtain rfl : ad = ⟨b, off, none⟩ := Option.some.inj e2
      have hadd : (⟨b, off, none⟩ : Addr).add j = ⟨b, off + j, none⟩ := by
        unfold Addr.add
        split
        · rename_i h0; subst h0; rfl
        · rfl
      rw [hadd]
      exact hc j y hy
  obtain ⟨A', c', w', hrun, h1, h2, h3⟩ := run_append_keep (P := Try.prog) w base 35 o.type 3 i0 _ 1 8 Try.underlying35 hi hz0 hz1 hz2 rfl (by omega) _ _ _ _ hown.own ad ys.length c2 (ys.map (Value.int .i64)) (by simp) hcells (ints_one ys)
    (by unfold maxLen; omega) (by omega) hbase (List.length_pos_iff.2 hne)
  have hlen : xs.length + ys.length = (xs ++ ys).length := by simp
  rw [← List.map_append, hlen] at h1
  rw [hlen] at hrun
  have hw : Region.wanted o (yielded ops a.tmps) = true := by
    unfold Region.wanted
    rw [hgd]
  rw [if_pos hw]
  unfold Oper.wp execOp
  simp only [ho, resolve, invoke, builtin, Sem.run_bind, Sem.run_pure, Result.andThen_ok, List.map_toArray, List.map_cons, List.map_nil, hs, hx, hrun]
  exact h (xs ++ ys) A' c' w' (hide ⟨rfl, ⟨h1⟩, ⟨h2⟩, h3⟩)

end Go.Proofs.Ythgklkpfmjgeoaa

namespace Go.Proofs.Ythgklkpfmjgeoaa
open Go.RowKit Go.Maps
set_option linter.unusedVariables false

/-- the map part of a set of ints: nil and empty, or a map of the call's own that numbers the members -/
def MapI (w : World) (base : Nat) (m : Option Nat) (L : List Int) : Prop :=
  (m = none ∧ L = []) ∨ ∃ (b n : Nat) (D : DataW Unit), m = some b ∧ base ≤ b ∧ w.ownsMap Try.prog 3 (plainElem Try.prog 3) b n D ∧ n ≤ L.length ∧
    (∀ x, In64 x → (Maps.has D (.int .i64 x) = true ↔ x ∈ L)) ∧ ∀ x ∈ L, D.atKey (.int .i64 x) (.lit (.int .i64 0)) = .lit (.int .i64 (L.idxOf x : Int))

structure SetI (w : World) (g base : Nat) (m : Option Nat) (A : Option Addr) (c : Nat) (L : List Int) : Prop where
  box : Lies w g #[.map m, .slice A L.length c] 87
  row : OwnI w base A c L
  map : MapI w base m L
  lt : g < base
  wf : ∀ x ∈ L, In64 x

theorem MapI.below {w w' : World} {base : Nat} {m : Option Nat} {L : List Int} (h : MapI w base m L) (hb : Below w.heap.size w w') : MapI w' base m L := by
  rcases h with h | ⟨b, n, D, h1, h2, h3, h4⟩
  · exact .inl h
  · exact .inr ⟨b, n, D, h1, h2, h3.kept (grownBy_of_below hb) (by simp), h4⟩

theorem SetI.below {w w' : World} {g base : Nat} {m : Option Nat} {A : Option Addr} {c : Nat} {L : List Int} (h : SetI w g base m A c L) (hb : Below w.heap.size w w') : SetI w' g base m A c L :=
  ⟨h.box.below hb h.box.lt, h.row.below hb, h.map.below hb, h.lt, h.wf⟩

theorem SetI.drew {w : World} {g base : Nat} {m : Option Nat} {A : Option Addr} {c : Nat} {L : List Int} (h : SetI w g base m A c L) : SetI w.drew g base m A c L :=
  h.below (Below.refl _ _).drew

theorem SetI.start {w : World} {g base : Nat} (hbox : Lies w g #[.map none, .slice none 0 0] 87) (hlt : g < base) : SetI w g base none none 0 [] :=
  ⟨hbox, OwnI.empty _ _, .inl ⟨rfl, rfl⟩, hlt, fun x hx => by cases hx⟩

theorem lookI {w : World} {b n : Nat} {D : DataW Unit} {x : Int} (h : w.ownsMap Try.prog 3 (plainElem Try.prog 3) b n D) (hx : In64 x) :
    ∃ cc : Int, (Instr.lookup 85 (.map (some b)) (.int .i64 x) true).run Try.prog w = .ok (.tuple #[.int .i64 cc, .bool (Maps.has D (.int .i64 x))]) w := by
  obtain ⟨y, ps, hrun, hy⟩ := h.look_ok lawI Try.underlying85 (zeroI w) (plainElem_int Try.underlying3 (by decide)) (keyOf_i hx)
  obtain ⟨a, rfl, _, _⟩ := plainElem_int_inv Try.underlying3 hy
  exact ⟨a, hrun⟩

theorem lookNilI {x : Int} (hx : In64 x) (w : World) :
    (Instr.lookup 85 (.map none) (.int .i64 x) true).run Try.prog w = .ok (.tuple #[.int .i64 0, .bool false]) w :=
  Maps.look_nil true lawI Try.underlying85 (zeroI w) (keyOf_i hx)

set_option maxHeartbeats 1000000 in
theorem hasI_any (g base : Nat) (m : Option Nat) (A : Option Addr) (c : Nat) (L : List Int) (x : Int) (w : World) (h : SetI w g base m A c L) (hx : In64 x) :
    Calls Try.prog 79 #[.pointer (some ⟨g, 0, none⟩), .int .i64 x] w fun e w' => e = .returned (.bool (tf (x ∈ L))) ∧ w = w' := by
  obtain ⟨hbox, _, hmap, hlt, _⟩ := h
  have b0 := hbox.cell 0
  simp at b0
  rcases hmap with ⟨rfl, rfl⟩ | ⟨b, n, D, rfl, hb, hown, hn, hhas, _⟩
  · have hlk := lookNilI hx w
    have HF := hide (show tf (x ∈ ([] : List Int)) = false from tf_false (by simp))
    clear hbox
    go_enter Try.func79, Try.ntmps79
    go_wp2
    go_ret
    exact ⟨ret_bool HF.out.symm, rfl⟩
  · obtain ⟨cc, hlk⟩ := lookI hown hx
    have HF : Hid (tf (x ∈ L) = Maps.has D (.int .i64 x)) := by
      cases hq : Maps.has D (.int .i64 x)
      · exact tf_false fun hm => by rw [(hhas x hx).2 hm] at hq; cases hq
      · exact tf_true ((hhas x hx).1 hq)
    generalize Maps.has D (.int .i64 x) = q at hlk HF
    clear hbox hown hhas
    go_enter Try.func79, Try.ntmps79
    go_wp2
    go_ret
    exact ⟨ret_bool HF.out.symm, rfl⟩

set_option maxRecDepth 100000 in
set_option maxHeartbeats 1000000 in
theorem addI_seen (g base : Nat) (m : Option Nat) (A : Option Addr) (c : Nat) (L : List Int) (x : Int) (w : World) (h : SetI w g base m A c L) (hx : In64 x) (hin : x ∈ L) :
    Calls Try.prog 69 #[.pointer (some ⟨g, 0, none⟩), .int .i64 x] w fun e w' => e = .returned (.bool false) ∧ w = w' := by
  have H := hasI_any g base m A c L x w h hx
  rw [tf_true hin] at H
  have HH := hide H
  clear H h hin
  go_enter Try.func69, Try.ntmps69
  go_wp2_with fail
  refine HH.out.mono ?_
  rintro e w' ⟨rfl, rfl⟩
  go_wp2
  go_ret
  exact ⟨rfl, rfl⟩

theorem idxOf_snoc_old {L : List Int} {x y : Int} (h : y ∈ L) : (L ++ [x]).idxOf y = L.idxOf y := by
  rw [List.idxOf_append, if_pos h]
theorem idxOf_snoc_new {L : List Int} {x : Int} (h : x ∉ L) : (L ++ [x]).idxOf x = L.length := by
  rw [List.idxOf_append, if_neg h]
  simp

/-- a row and a map never share a block -/
theorem row_map_ne {w : World} {base b n : Nat} {A : Option Addr} {c : Nat} {L : List Int} {P : Program} {k : TypeId} {R : Value → Option (DataW Unit × List MemPlace)} {D : DataW Unit} (hrow : OwnI w base A c L) (hmap : w.ownsMap P k R b n D) : blockOf A ≠ some b := by
  intro e
  rcases hrow.own.2 with ⟨h1, _⟩ | ⟨q, cap', cur, hv', _, hh, _⟩
  · injection h1 with h1
    subst h1
    cases e
  · injection hv' with hv'
    subst hv'
    simp [blockOf] at e
    subst e
    obtain ⟨es, cl, hm, _⟩ := hmap
    rw [hm] at hh
    cases hh

/-- what an add leaves alone: all old blocks but the set's own -/
structure Tight (g : Nat) (m : Option Nat) (A : Option Addr) (m' : Option Nat) (A' : Option Addr) (w w' : World) : Prop where
  size : w.heap.size ≤ w'.heap.size
  map : m' = m ∨ ∃ b, m' = some b ∧ w.heap.size ≤ b
  row : blockOf A' = blockOf A ∨ ∃ b, blockOf A' = some b ∧ w.heap.size ≤ b
  block : ∀ k, k < w.heap.size → k ≠ g → m ≠ some k → blockOf A ≠ some k → w'.heap[k]? = w.heap[k]?

/-- what a new member does to a set, behind the append to its row -/
theorem SetI.grow {W w1 : World} {g base b n cap : Nat} {A A' : Option Addr} {c : Nat} {L zs : List Int} {x : Int} {D : DataW Unit} {o : Obj}
    (hbox : Lies W g #[.map (some b), .slice A L.length c] 87) (hlt : g < base) (hbb : base ≤ b)
    (hmap : W.ownsMap Try.prog 3 (plainElem Try.prog 3) b n (D.put (.int .i64 x) (.lit (.int .i64 (L.length : Int))))) (hD : IsMap D) (hn : n ≤ L.length + 1)
    (hhas : ∀ y, In64 y → (Maps.has D (.int .i64 y) = true ↔ y ∈ L)) (hat : ∀ y ∈ L, D.atKey (.int .i64 y) (.lit (.int .i64 0)) = .lit (.int .i64 (L.idxOf y : Int))) (hx : In64 x) (hno : x ∉ L) (hwf : ∀ y ∈ L, In64 y)
    (hrow : OwnI W base A c L) (hbs : base ≤ W.heap.size) (hz : zs = L ++ [x]) (hown : OwnI w1 base A' cap zs) (hgrow : (W.alloc o).grownBy w1 (blockOf A)) :
    SetI (w1.setCell ⟨g, 1, none⟩ (.slice A' zs.length cap)) g base (some b) A' cap (L ++ [x]) ∧ But base g W (w1.setCell ⟨g, 1, none⟩ (.slice A' zs.length cap)) := by
  subst hz
  have hglt := hbox.lt
  have hne : blockOf A ≠ some g := fun e => by have := (hrow.blocks g e).1; omega
  have hblt := hmap.lt
  have hnb : blockOf A ≠ some b := by
    intro e
    rcases hrow.own.2 with ⟨h1, _⟩ | ⟨q, cap', cur, hv', _, hh, _⟩
    · injection h1 with h1
      subst h1
      cases e
    · injection hv' with hv'
      subst hv'
      simp [blockOf] at e
      subst e
      obtain ⟨es, cl, hm, _⟩ := hmap
      rw [hm] at hh
      cases hh
  have hbox1 : Lies w1 g #[.map (some b), .slice A L.length c] 87 := (hgrow.block g (by simp; omega) (fun e => hne e.symm)).trans (hbox.alloc o)
  have hmap1 := ((hmap.alloc o).kept hgrow (fun e => hnb e.symm)).setCell (a := ⟨g, 1, none⟩) (by show b ≠ g; omega) (.slice A' (L ++ [x]).length cap)
  have hbox2 := hbox1.set 1 (.slice A' (L ++ [x]).length cap)
  simp only [List.setIfInBounds_toArray, List.set_cons_succ, List.set_cons_zero] at hbox2
  have hkey : ∀ {y : Int}, In64 y → WideAt.IsKeyLit (.int .i64 y) := fun hy => lawI.key (keyOf_i hy)
  refine ⟨⟨hbox2, ⟨ownsRow_setCell_below hown.own (a := ⟨g, 1, none⟩) hlt _⟩, .inr ⟨b, n, _, rfl, hbb, hmap1, by simp; omega, fun y hy => ?_, fun y hy => ?_⟩, hlt, fun y hy => ?_⟩, ?_⟩
  · by_cases e : y = x
    · subst e
      simp [Maps.has_put_same hD (hkey hx)]
    · have hne' : (Lit.int .i64 y) ≠ .int .i64 x := fun h => by injection h with _ h; exact e h
      rw [Maps.has_put_other hne', hhas y hy]
      simp [e]
  · by_cases e : y = x
    · subst e
      rw [Maps.atKey_put_same hD (hkey hx), idxOf_snoc_new hno]
    · have hyL : y ∈ L := by simpa [e] using hy
      have hne' : (Lit.int .i64 y) ≠ .int .i64 x := fun h => by injection h with _ h; exact e h
      rw [Maps.atKey_put_other hne', hat y hyL, idxOf_snoc_old hyL]
  · rcases List.mem_append.1 hy with hy | hy
    · exact hwf y hy
    · simp at hy
      subst hy
      exact hx
  · refine ⟨hgrow.os, hgrow.tape, hgrow.output, by have := hgrow.size; simp at this ⊢; omega, fun j hj hjg => ?_⟩
    rw [Below.heap_setCell _ _ _ _ hjg, hgrow.block j (by simp; omega) (fun e => by have := (hrow.blocks j e.symm).1; omega)]
    exact Below.heap_alloc _ _ _ (by omega)

set_option maxRecDepth 100000 in
set_option maxHeartbeats 2000000 in
theorem addI_next2 (g base b : Nat) (c : Nat) (A : Option Addr) (L : List Int) (x : Int) (w : World) (h : SetI w g base (some b) A c L) (hx : In64 x) (hbs : base ≤ w.heap.size) (hno : x ∉ L) (hL : L.length ≤ 1048576) :
    Calls Try.prog 69 #[.pointer (some ⟨g, 0, none⟩), .int .i64 x] w fun e w' => e = .returned (.bool true) ∧ (∃ m' A' c', SetI w' g base m' A' c' (L ++ [x]) ∧ Tight g (some b) A m' A' w w') ∧ But base g w w' := by
  have H := hasI_any g base (some b) A c L x w h hx
  rw [tf_false hno] at H
  have HH := hide H
  clear H
  obtain ⟨hbox, hrow, hmap0, hlt, hwf0⟩ := h
  rcases hmap0 with ⟨h0, _⟩ | ⟨b', n, D, he, hbb, hmap, hn, hhas0, hat0⟩
  · cases h0
  obtain rfl : b = b' := by injection he
  have hhas := hide hhas0
  have hat := hide hat0
  have hwf := hide hwf0
  have Hno := hide hno
  have hwfl : (Lit.int .i64 (L.length : Int)).wf = true := WalkArith.wf_i64 (by omega)
  have Hwfl := hide hwfl
  have heq := fun (w : World) => run_eql_map_nil (P := Try.prog) w 85 _ _ (some b) Try.underlying85
  have e0 := hbox.cell 0
  have e1 := hbox.cell 1
  simp at e0 e1
  have Hx := hide hx
  have hbox5 : Lies w.drew g #[.map (some b), .slice A L.length c] 87 := hbox
  have hmap5 := hmap.drew
  have hrow5 := hrow.drew
  have hbut5 : But base g w w.drew := ⟨rfl, rfl, rfl, Nat.le_refl _, fun _ _ _ => rfl⟩
  have hs5 : base ≤ w.drew.heap.size := hbs
  have Hh5 : Hid (∀ k : Nat, w.drew.heap[k]? = w.heap[k]?) := fun _ => rfl
  have Hz5 : Hid (w.drew.heap.size = w.heap.size) := rfl
  clear hhas0 hat0 hwf0 hno hwfl he
  go_enter Try.func69, Try.ntmps69
  go_wp2_with fail
  refine HH.out.mono ?_
  rintro e w' ⟨rfl, rfl⟩
  go_wp2_with fail
  go_still_tail 10, (by kernel_rfl)
  change wpList _ _ _ _ _ w.drew
  generalize w.drew = W5 at hbox5 hmap5 hrow5 hbut5 hs5 Hh5 Hz5 ⊢
  clear hbox hmap hrow e0 e1 heq
  have hne7 : blockOf A ≠ some g := fun e => by have := (hrow5.blocks g e).1; omega
  have hnb7 := row_map_ne hrow5 hmap5
  go_wp2_with (first
    | (at_mapUpdate; refine wpList_mapUpdate_own _ rfl _ _ _ 85 rfl 3 3 lawI Try.underlying85 _ b n _ rfl hmap5 (by unfold maxLen; omega) _ _ _ rfl rfl (keyOf_i Hx.out) _ [] (plainElem_int Try.underlying3 Hwfl.out) ?_; intro W6 hown6 hgrow6; have hbox6 : Lies W6 g #[.map (some b), .slice A L.length c] 87 := (hgrow6.block g hbox5.lt (by simp; omega)).trans hbox5; have hrow6 := hrow5.kept hgrow6 (.inr hnb7); have e1 := hbox6.cell 1; simp at e1; have hs6 := hgrow6.size; have hl6 := hbox6.lt)
    | (at_builtin; refine append_ints rfl (.tmp 31) (.tmp 33) rfl base A c L rfl (hrow6.alloc _) (W6.heap.size + 1) _ 1 [x] rfl (fun e => by cases e) (IntsAt.one W6 x Hx.out) (by simp <;> omega) (by simp <;> omega) ?_; intro zs A' c' w1 hz hown1 hgrow1 hat1; have s1 : w1.cell? ⟨g, 1, none⟩ = some (.slice A L.length c) := (hgrow1.cell_far _ (by simp; omega) (fun e => hne7 e.symm)).trans ((World.cell?_alloc_lt _ _ _ (by simp; omega)).trans e1); have s2 : w1.frozen? ⟨g, 1, none⟩ = false := (hgrow1.frozen_far _ (by simp; omega) (fun e => hne7 e.symm)).trans ((hbox6.alloc _).frozen 1)))
  go_ret
  have hfin := SetI.grow (o := .cells #[.int .i64 x] 3) hbox6 hlt hbb hown6 hmap5.isMap (by omega) hhas.out hat.out Hx.out Hno.out hwf.out hrow6 (by omega) hz.out hown1 hgrow1
  have hz5 := Hz5.out
  have hg1 := hgrow1.size
  simp at hg1
  refine ⟨rfl, ⟨_, _, _, hfin.1, ⟨by simp; omega, .inl rfl, ?_, fun k hk hkg hkm hkA => ?_⟩⟩, (hbut5.trans ⟨hgrow6.os, hgrow6.tape, hgrow6.output, hgrow6.size, fun j hj _ => hgrow6.block j (by omega) (by simp; omega)⟩).trans hfin.2⟩
  · rcases hat1 with h | h
    · exact .inl h
    · exact .inr ⟨_, h, by simp; omega⟩
  · rw [Below.heap_setCell _ _ _ _ hkg, hgrow1.block k (by simp; omega) (fun e => hkA e.symm), Below.heap_alloc _ _ _ (by omega), hgrow6.block k (by omega) (fun e => hkm e.symm)]
    exact Hh5.out k

set_option maxRecDepth 100000 in
set_option maxHeartbeats 2000000 in
theorem addI_first2 (g base : Nat) (c : Nat) (A : Option Addr) (x : Int) (w : World) (h : SetI w g base none A c []) (hx : In64 x) (hbs : base ≤ w.heap.size) :
    Calls Try.prog 69 #[.pointer (some ⟨g, 0, none⟩), .int .i64 x] w fun e w' => e = .returned (.bool true) ∧ (∃ m' A' c', SetI w' g base m' A' c' [x] ∧ Tight g none A m' A' w w') ∧ But base g w w' := by
  have H := hasI_any g base none A c [] x w h hx
  rw [tf_false (by simp)] at H
  have HH := hide H
  clear H
  obtain ⟨hbox, hrow, _, hlt, _⟩ := h
  have hglt := hbox.lt
  have hmm := @run_makeMap Try.prog
  have heq := fun (w : World) => run_eql_map_nil (P := Try.prog) w 85 _ _ none Try.underlying85
  have d0 := hbox.cell 0
  have b0 := (hbox.alloc (.map #[] 0)).cell 0
  have f0 := (hbox.alloc (.map #[] 0)).frozen 0
  simp at b0 d0
  have hbox4 := (hbox.alloc (.map #[] 0)).set 0 (.map (some w.heap.size))
  have hmap4 := ((World.ownsMap_made (H := Unit) w Try.prog 3 (plainElem Try.prog 3))).setCell (a := ⟨g, 0, none⟩) (by simp; omega) (.map (some w.heap.size))
  have hrow4 : OwnI ((w.alloc (.map #[] 0)).setCell ⟨g, 0, none⟩ (.map (some w.heap.size))) base A c [] := ⟨ownsRow_setCell_below (hrow.alloc (.map #[] 0)).own (a := ⟨g, 0, none⟩) hlt (.map (some w.heap.size))⟩
  have hbut4 : But base g w ((w.alloc (.map #[] 0)).setCell ⟨g, 0, none⟩ (.map (some w.heap.size))) :=
    ⟨rfl, rfl, rfl, by simp, fun j hj hjg => by
      rw [Below.heap_setCell _ _ _ _ hjg, Below.heap_alloc _ _ _ (by omega)]⟩
  have hs4 : ((w.alloc (.map #[] 0)).setCell ⟨g, 0, none⟩ (.map (some w.heap.size))).heap.size = w.heap.size + 1 := by simp
  simp only [List.setIfInBounds_toArray, List.set_cons_zero] at hbox4
  have Hx := hide hx
  have Hh4 : Hid (∀ k : Nat, k < w.heap.size → k ≠ g → ((w.alloc (.map #[] 0)).setCell ⟨g, 0, none⟩ (.map (some w.heap.size))).heap[k]? = w.heap[k]?) := fun k hk hkg => by
    rw [Below.heap_setCell _ _ _ _ hkg, Below.heap_alloc _ _ _ hk]
  clear hglt
  go_enter Try.func69, Try.ntmps69
  go_wp2_with fail
  refine HH.out.mono ?_
  rintro e w' ⟨rfl, rfl⟩
  go_wp2_with fail
  have HS4 := hide hs4
  clear hs4
  generalize (w.alloc (.map #[] 0)).setCell ⟨g, 0, none⟩ (.map (some w.heap.size)) = W3 at hbox4 hmap4 hrow4 hbut4 HS4 Hh4 ⊢
  have hbb : base ≤ w.heap.size := hbs
  have hbut5' := hbut4
  generalize hbw : w.heap.size = b at hmap4 hbox4 HS4 hbb ⊢
  have Hbw := hide hbw
  clear hbw
  clear hmm heq d0 b0 f0 hbox hrow
  have e0 := hbox4.cell 0
  have e1 := hbox4.cell 1
  simp at e0 e1
  have hbox5 : Lies W3.drew g #[.map (some b), .slice A ([] : List Int).length c] 87 := hbox4
  have hmap5 := hmap4.drew
  have hrow5 := hrow4.drew
  have hbut5 : But base g w W3.drew := ⟨hbut4.os, hbut4.tape, hbut4.output, hbut4.size, hbut4.block⟩
  have hs5 : b + 1 ≤ W3.drew.heap.size := Nat.le_of_eq HS4.out.symm
  have Hh5 : Hid (∀ k : Nat, k < w.heap.size → k ≠ g → W3.drew.heap[k]? = w.heap[k]?) := Hh4
  go_still_tail 10, (by kernel_rfl)
  change wpList _ _ _ _ _ W3.drew
  generalize W3.drew = W5 at hbox5 hmap5 hrow5 hbut5 hs5 Hh5 ⊢
  clear hbox4 hmap4 hrow4 hbut4 HS4 Hh4 e0 e1 hbut5'
  have hL : ([] : List Int).length ≤ 1048576 := by simp
  have Hwfl : Hid ((Lit.int .i64 (0 : Int)).wf = true) := WalkArith.wf_i64 (by omega)
  have hne7 : blockOf A ≠ some g := fun e => by have := (hrow5.blocks g e).1; omega
  have hnb7 := row_map_ne hrow5 hmap5
  go_wp2_with (first
    | (at_mapUpdate; refine wpList_mapUpdate_own _ rfl _ _ _ 85 rfl 3 3 lawI Try.underlying85 _ b 0 _ rfl hmap5 (by unfold maxLen; omega) _ _ _ rfl rfl (keyOf_i Hx.out) _ [] (plainElem_int Try.underlying3 Hwfl.out) ?_; intro W6 hown6 hgrow6; have hbox6 : Lies W6 g #[.map (some b), .slice A 0 c] 87 := (hgrow6.block g hbox5.lt (by simp; omega)).trans hbox5; have hrow6 := hrow5.kept hgrow6 (.inr hnb7); have e1 := hbox6.cell 1; simp at e1; have hs6 := hgrow6.size; have hl6 := hbox6.lt)
    | (at_builtin; refine append_ints rfl (.tmp 31) (.tmp 33) rfl base A c [] rfl (hrow6.alloc _) (W6.heap.size + 1) _ 1 [x] rfl (fun e => by cases e) (IntsAt.one W6 x Hx.out) (by simp <;> omega) (by simp <;> omega) ?_; intro zs A' c' w1 hz hown1 hgrow1 hat1; have s1 : w1.cell? ⟨g, 1, none⟩ = some (.slice A 0 c) := (hgrow1.cell_far _ (by simp; omega) (fun e => hne7 e.symm)).trans ((World.cell?_alloc_lt _ _ _ (by simp; omega)).trans e1); have s2 : w1.frozen? ⟨g, 1, none⟩ = false := (hgrow1.frozen_far _ (by simp; omega) (fun e => hne7 e.symm)).trans ((hbox6.alloc _).frozen 1)))
  go_ret
  have hfin := SetI.grow (L := []) (o := .cells #[.int .i64 x] 3) hbox6 hlt hbb hown6 isMap_empty (by simp) (fun y _ => by simp [Maps.has]) (by simp) Hx.out (by simp) (by simp) hrow6 (by omega) hz.out hown1 hgrow1
  have hg1 := hgrow1.size
  have hbw := Hbw.out
  simp at hg1
  refine ⟨rfl, ⟨_, _, _, hfin.1, ⟨by simp; omega, .inr ⟨b, rfl, by omega⟩, ?_, fun k hk hkg _ hkA => ?_⟩⟩, (hbut5.trans ⟨hgrow6.os, hgrow6.tape, hgrow6.output, hgrow6.size, fun j hj _ => hgrow6.block j (by omega) (by simp; omega)⟩).trans hfin.2⟩
  · rcases hat1 with h | h
    · exact .inl h
    · exact .inr ⟨_, h, by simp; omega⟩
  · rw [Below.heap_setCell _ _ _ _ hkg, hgrow1.block k (by simp; omega) (fun e => hkA e.symm), Below.heap_alloc _ _ _ (by omega), hgrow6.block k (by omega) (by simp; omega)]
    exact Hh5.out k hk hkg

theorem addI_new2 (g base : Nat) (m : Option Nat) (c : Nat) (A : Option Addr) (L : List Int) (x : Int) (w : World) (h : SetI w g base m A c L) (hx : In64 x) (hbs : base ≤ w.heap.size) (hno : x ∉ L) (hL : L.length ≤ 1048576) :
    Calls Try.prog 69 #[.pointer (some ⟨g, 0, none⟩), .int .i64 x] w fun e w' => e = .returned (.bool true) ∧ (∃ m' A' c', SetI w' g base m' A' c' (L ++ [x]) ∧ Tight g m A m' A' w w') ∧ But base g w w' := by
  cases m with
  | none =>
    obtain rfl : L = [] := by
      rcases h.map with ⟨_, h2⟩ | ⟨_, _, _, h2, _⟩
      · exact h2
      · cases h2
    exact addI_first2 g base c A x w h hx hbs
  | some b => exact addI_next2 g base b c A L x w h hx hbs hno hL

theorem addI_new (g base : Nat) (m : Option Nat) (c : Nat) (A : Option Addr) (L : List Int) (x : Int) (w : World) (h : SetI w g base m A c L) (hx : In64 x) (hbs : base ≤ w.heap.size) (hno : x ∉ L) (hL : L.length ≤ 1048576) :
    Calls Try.prog 69 #[.pointer (some ⟨g, 0, none⟩), .int .i64 x] w fun e w' => e = .returned (.bool true) ∧ (∃ m A' c', SetI w' g base m A' c' (L ++ [x])) ∧ But base g w w' := by
  exact (addI_new2 g base m c A L x w h hx hbs hno hL).mono fun e w' ⟨h1, ⟨m', A', c', h2, _⟩, h3⟩ => ⟨h1, ⟨m', A', c', h2⟩, h3⟩

end Go.Proofs.Ythgklkpfmjgeoaa
