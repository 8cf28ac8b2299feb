/-
  Lemmas, several texts in one: Tup, Gen, SpecD, Only, InfoO, Sub, ShpM, SpecO, EqI, EqL.
-/
import Derived.Test.YtmilbhhlbjcodabMem
import Derived.Test.YtmilbhhlbjcodabSomeNode
import Derived.Test.YtmilbhhlbjcodabPjAd
import Derived.StillTailTactics
import Derived.Test.YtmilbhhlbjcodabOwn
import Derived.Test.YtmilbhhlbjcodabShpMa
import Derived.Test.YtmilbhhlbjcodabShpMb
import Derived.Test.YtmilbhhlbjcodabShpMc
import Derived.Test.YtmilbhhlbjcodabShpMd
import Derived.Deep.QuietTactic
import Derived.BigQuiet
namespace Go.Proofs.Ytmilbhhlbjcodab
theorem nodup_le : ∀ (N : Nat) (l : List Int), l.Nodup → (∀ x ∈ l, 0 ≤ x ∧ x < N) → l.length ≤ N
  | 0, l, _, h => by
    cases l with
    | nil => simp
    | cons x l => have := h x (by simp); omega
  | N + 1, l, hd, h => by
    have h1 : (l.erase (N : Int)).length ≤ N := nodup_le N _ (hd.erase _) (fun x hx => by
      have hx2 := (List.Nodup.mem_erase_iff hd).1 hx
      have := h x hx2.2
      have hne := hx2.1
      omega)
    have h2 := List.length_erase (a := (N : Int)) (l := l)
    split at h2 <;> omega
def kidsOf (ns : List Nd) (x : Int) : List Int := ((ns[x.toNat]?).map Nd.kids).getD []
def kindOf (ns : List Nd) (x : Int) : Int := ((ns[x.toNat]?).map Nd.kind).getD (-1)
theorem kidsOf_at {ns : List Nd} {k : Nat} {n : Nd} (h : ns[k]? = some n) : kidsOf ns (k : Int) = n.kids := by
  unfold kidsOf
  rw [Int.toNat_natCast, h]; rfl
theorem kindOf_at {ns : List Nd} {k : Nat} {n : Nd} (h : ns[k]? = some n) : kindOf ns (k : Int) = n.kind := by
  unfold kindOf
  rw [Int.toNat_natCast, h]; rfl
inductive TReach (ns : List Nd) (i : Int) : Int → Prop
  | kid (x : Int) : x ∈ kidsOf ns i → TReach ns i x
  | step (y x : Int) : TReach ns i y → kindOf ns y = 2 → x ∈ kidsOf ns y → TReach ns i x
structure TInv (ns : List Nd) (i : Int) (out list : List Int) (k : Nat) : Prop where
  sound : ∀ x ∈ list, TReach ns i x
  range : ∀ x ∈ list, 0 ≤ x ∧ x < ns.length
  sub : ∀ x ∈ out, x ∈ list
  done : ∀ j x, j < k → list[j]? = some x → x ∈ out
  nodup : out.Nodup
  kids : ∀ x ∈ kidsOf ns i, x ∈ list
  closed : ∀ y ∈ out, kindOf ns y = 2 → ∀ x ∈ kidsOf ns y, x ∈ list
  len : list.length ≤ 6 * (1 + out.length)
theorem TInv.start {ns : List Nd} {i : Int} (h6 : (kidsOf ns i).length ≤ 6) (hr : ∀ x ∈ kidsOf ns i, 0 ≤ x ∧ x < ns.length) : TInv ns i [] (kidsOf ns i) 0 :=
  ⟨fun x hx => .kid x hx, hr, fun x hx => (by cases hx), fun j x hj => absurd hj (by omega), List.nodup_nil, fun x hx => hx, fun y hy => (by cases hy), by simp; omega⟩
theorem TInv.seen {ns : List Nd} {i : Int} {out list : List Int} {k : Nat} {x : Int} (h : TInv ns i out list k) (hx : list[k]? = some x) (hm : x ∈ out) : TInv ns i out list (k + 1) :=
  ⟨h.sound, h.range, h.sub, fun j y hj hy => by
    by_cases e : j = k
    · subst e; rw [hx] at hy; injection hy with hy; subst hy; exact hm
    · exact h.done j y (by omega) hy, h.nodup, h.kids, h.closed, h.len⟩
theorem TInv.outLen {ns : List Nd} {i : Int} {out list : List Int} {k : Nat} (h : TInv ns i out list k) : out.length ≤ ns.length :=
  nodup_le ns.length out h.nodup fun x hx => h.range x (h.sub x hx)
theorem TInv.listLen {ns : List Nd} {i : Int} {out list : List Int} {k : Nat} (h : TInv ns i out list k) (h12 : ns.length ≤ 12) : list.length ≤ 78 := by
  have := h.outLen
  have := h.len
  omega
theorem TInv.leaf {ns : List Nd} {i : Int} {out list : List Int} {k : Nat} {x : Int} (h : TInv ns i out list k) (hx : list[k]? = some x) (hm : x ∉ out) (hk : kindOf ns x ≠ 2) : TInv ns i (out ++ [x]) list (k + 1) := by
  have hmem : x ∈ list := List.mem_of_getElem? hx
  refine ⟨h.sound, h.range, fun y hy => ?_, fun j y hj hy => ?_, ?_, h.kids, fun y hy h2 z hz => ?_, ?_⟩
  · rcases List.mem_append.1 hy with hy | hy
    · exact h.sub y hy
    · simp at hy; subst hy; exact hmem
  · by_cases e : j = k
    · subst e; rw [hx] at hy; injection hy with hy; subst hy; simp
    · exact List.mem_append_left _ (h.done j y (by omega) hy)
  · rw [List.nodup_append]
    exact ⟨h.nodup, by simp, fun a ha b hb => by simp at hb; subst hb; intro e; subst e; exact hm ha⟩
  · rcases List.mem_append.1 hy with hy | hy
    · exact h.closed y hy h2 z hz
    · simp at hy; subst hy; exact absurd h2 hk
  · have := h.len
    simp only [List.length_append, List.length_singleton]
    omega
theorem TInv.tuple {ns : List Nd} {i : Int} {out list : List Int} {k : Nat} {x : Int} (h : TInv ns i out list k) (hx : list[k]? = some x) (hm : x ∉ out) (hk : kindOf ns x = 2) (h6 : (kidsOf ns x).length ≤ 6)
    (hr : ∀ z ∈ kidsOf ns x, 0 ≤ z ∧ z < ns.length) : TInv ns i (out ++ [x]) (list ++ kidsOf ns x) (k + 1) := by
  have hmem : x ∈ list := List.mem_of_getElem? hx
  have hkl : k < list.length := (List.getElem?_eq_some_iff.1 hx).1
  refine ⟨fun y hy => ?_, fun y hy => ?_, fun y hy => ?_, fun j y hj hy => ?_, ?_, fun y hy => List.mem_append_left _ (h.kids y hy), fun y hy h2 z hz => ?_, ?_⟩
  · rcases List.mem_append.1 hy with hy | hy
    · exact h.sound y hy
    · exact .step x y (h.sound x hmem) hk hy
  · rcases List.mem_append.1 hy with hy | hy
    · exact h.range y hy
    · exact hr y hy
  · rcases List.mem_append.1 hy with hy | hy
    · exact List.mem_append_left _ (h.sub y hy)
    · simp at hy; subst hy; exact List.mem_append_left _ hmem
  · rw [List.getElem?_append_left (by omega)] at hy
    by_cases e : j = k
    · subst e; rw [hx] at hy; injection hy with hy; subst hy; simp
    · exact List.mem_append_left _ (h.done j y (by omega) hy)
  · rw [List.nodup_append]
    exact ⟨h.nodup, by simp, fun a ha b hb => by simp at hb; subst hb; intro e; subst e; exact hm ha⟩
  · rcases List.mem_append.1 hy with hy | hy
    · exact List.mem_append_left _ (h.closed y hy h2 z hz)
    · simp at hy; subst hy; exact List.mem_append_right _ hz
  · have := h.len
    simp only [List.length_append, List.length_singleton]
    omega
theorem TInv.all {ns : List Nd} {i : Int} {out list : List Int} (h : TInv ns i out list list.length) (x : Int) : x ∈ out ↔ TReach ns i x := by
  have hall : ∀ y ∈ list, y ∈ out := fun y hy => by
    obtain ⟨j, hj, rfl⟩ := List.getElem_of_mem hy
    exact h.done j _ hj (List.getElem?_eq_getElem hj)
  constructor
  · exact fun hx => h.sound x (h.sub x hx)
  · intro hx
    induction hx with
    | kid x hx => exact hall x (h.kids x hx)
    | step y x _ h2 hx ih => exact hall x (h.closed y ih h2 x hx)
end Go.Proofs.Ytmilbhhlbjcodab

namespace Go.Proofs.Ytmilbhhlbjcodab
open Go.RowKit
set_option linter.unusedVariables false
structure NdX (w : World) (g rb j : Nat) (n : Nd) : Prop where
  kind : w.cell? ⟨g, j * 3, none⟩ = some (.int .i64 n.kind)
  value : w.cell? ⟨g, j * 3 + 1, none⟩ = some (.int .i64 n.value)
  kids : ∃ A c, w.cell? ⟨g, j * 3 + 2, none⟩ = some (.slice A n.kids.length c) ∧ OwnI w 0 A c n.kids ∧ (∀ x ∈ n.kids, In64 x) ∧ n.kids.length ≤ 1000 ∧ blockOf A ≠ some g ∧ blockOf A ≠ some rb
  wfk : In64 n.kind
  wfv : In64 n.value
structure GenG (w : World) (g rb cap : Nat) (ns : List Nd) : Prop where
  row : ∃ f, w.rowIs g 75 (cap * 3) f
  le : ns.length ≤ cap
  few : ns.length ≤ 1000
  nd : ∀ j n, ns[j]? = some n → NdX w g rb j n
  ne : g ≠ rb
  dis : ∀ (i j : Nat) (A A' : Option Addr) (n n' c c' : Nat), i ≠ j → i < ns.length → j < ns.length → w.cell? ⟨g, i * 3 + 2, none⟩ = some (.slice A n c) → w.cell? ⟨g, j * 3 + 2, none⟩ = some (.slice A' n' c') → ∀ b, blockOf A = some b → blockOf A' ≠ some b
theorem OwnI.same' {w w' : World} {base : Nat} {A : Option Addr} {c : Nat} {xs : List Int} (h : OwnI w base A c xs) (hA : ∀ g, blockOf A = some g → w'.heap[g]? = w.heap[g]?) : OwnI w' base A c xs := by
  refine ⟨h.own.1, ?_⟩
  rcases h.own.2 with h2 | ⟨g, cap, cur, hv, hg, hh, r⟩
  · exact .inl h2
  · have hAg : blockOf A = some g := by
      injection hv with hv
      rw [hv]; rfl
    exact .inr ⟨g, cap, cur, hv, hg, (hA g hAg).trans hh, r⟩
structure Grew2 (g1 g2 : Nat) (w w' : World) : Prop where
  os : w'.os = w.os
  tape : w'.tape = w.tape
  output : w'.output = w.output
  size : w.heap.size ≤ w'.heap.size
  block : ∀ k, k < w.heap.size → k ≠ g1 → k ≠ g2 → w'.heap[k]? = w.heap[k]?
theorem Grew2.trans {g1 g2 : Nat} {a b c : World} (h : Grew2 g1 g2 a b) (k : Grew2 g1 g2 b c) : Grew2 g1 g2 a c :=
  ⟨k.os.trans h.os, k.tape.trans h.tape, k.output.trans h.output, Nat.le_trans h.size k.size, fun j hj h1 h2 => (k.block j (Nat.lt_of_lt_of_le hj h.size) h1 h2).trans (h.block j hj h1 h2)⟩
theorem Grew2.below {g1 g2 B : Nat} {w0 w w' : World} (h : Grew2 g1 g2 w w') (hb : Below B w0 w) (h1 : B ≤ g1) (h2 : B ≤ g2) (hB : B ≤ w.heap.size) : Below B w0 w' :=
  hb.trans ⟨h.os, h.tape, h.output, h.size, fun k hk => h.block k (by omega) (by omega) (by omega)⟩
theorem IntsAt.kept {w w' : World} {A : Option Addr} {xs : List Int} (h : IntsAt w w.heap.size A xs) (hs : w.heap.size ≤ w'.heap.size) (hb : ∀ k, blockOf A = some k → k < w.heap.size → w'.heap[k]? = w.heap[k]?) : IntsAt w' w'.heap.size A xs :=
  ⟨fun hx => by
    obtain ⟨b, off, e, hlt, hc⟩ := h.row hx
    subst e
    exact ⟨b, off, rfl, Nat.lt_of_lt_of_le hlt hs, fun j x hj => (World.cell?_of_block (w := w) (hb b rfl hlt)).trans (hc j x hj)⟩, h.wf, h.len⟩
theorem NdX.kept {w w' : World} {g rb j : Nat} {n : Nd} (h : NdX w g rb j n) (hc : ∀ o, o < 3 → w'.cell? ⟨g, j * 3 + o, none⟩ = w.cell? ⟨g, j * 3 + o, none⟩) (hb : ∀ k, k < w.heap.size → k ≠ rb → k ≠ g → w'.heap[k]? = w.heap[k]?) : NdX w' g rb j n := by
  obtain ⟨A, c, h1, h2, h3, h6, h4, h5⟩ := h.kids
  exact ⟨(hc 0 (by omega)).trans h.kind, (hc 1 (by omega)).trans h.value, ⟨A, c, (hc 2 (by omega)).trans h1, h2.same' (fun k hk => hb k (h2.blocks k hk).2 (fun e => h5 (by rw [hk, e])) (fun e => h4 (by rw [hk, e]))), h3, h6, h4, h5⟩, h.wfk, h.wfv⟩
theorem GenG.lt {w : World} {g rb cap : Nat} {ns : List Nd} (h : GenG w g rb cap ns) : g < w.heap.size := by
  obtain ⟨f, hf⟩ := h.row
  exact hf.lt
theorem GenG.grew {w w' : World} {g rb cap : Nat} {ns : List Nd} (h : GenG w g rb cap ns) (hg : Grew rb w w') : GenG w' g rb cap ns := by
  have hb := hg.block g h.lt h.ne
  obtain ⟨f, hf⟩ := h.row
  exact ⟨⟨f, hf.of_block hb⟩, h.le, h.few, fun j n hj => (h.nd j n hj).kept (fun o _ => World.cell?_of_block (w := w) hb) (fun k hk h1 _ => hg.block k hk h1), h.ne, fun i j A A' n n' c c' hij hi hj h1 h2 => h.dis i j A A' n n' c c' hij hi hj ((World.cell?_of_block (w := w) hb).symm.trans h1) ((World.cell?_of_block (w := w) hb).symm.trans h2)⟩
theorem GenG.nds {w : World} {g rb cap : Nat} {ns : List Nd} (h : GenG w g rb cap ns) : NdsAt w w.heap.size (some ⟨g, 0, none⟩) ns :=
  ⟨fun _ => ⟨g, 0, rfl, h.lt, fun j n hj => by
    have hn := h.nd j n hj
    obtain ⟨A, c, h1, h2, h3, h6, _, _⟩ := hn.kids
    rw [Nat.zero_add]
    exact ⟨hn.kind, hn.value, ⟨A, c, h1, h2.ints h3 (by omega), h2.nil⟩, hn.wfk, hn.wfv⟩⟩, by have := h.few; omega⟩
def put3 (w : World) (g j : Nat) (v0 v1 v2 : Value) : World := ((w.setCell ⟨g, j * 3, none⟩ v0).setCell ⟨g, j * 3 + 1, none⟩ v1).setCell ⟨g, j * 3 + 2, none⟩ v2
theorem put3_block {w : World} {g j k : Nat} {v0 v1 v2 : Value} (hk : k ≠ g) : (put3 w g j v0 v1 v2).heap[k]? = w.heap[k]? := by
  unfold put3
  rw [Below.heap_setCell _ _ _ _ (by show k ≠ g; exact hk), Below.heap_setCell _ _ _ _ (by show k ≠ g; exact hk), Below.heap_setCell _ _ _ _ (by show k ≠ g; exact hk)]
theorem put3_size {w : World} {g j : Nat} {v0 v1 v2 : Value} : (put3 w g j v0 v1 v2).heap.size = w.heap.size := by unfold put3; simp
theorem put3_far {w : World} {g j q : Nat} {v0 v1 v2 : Value} (hq : q < j * 3 ∨ j * 3 + 2 < q) : (put3 w g j v0 v1 v2).cell? ⟨g, q, none⟩ = w.cell? ⟨g, q, none⟩ := by
  unfold put3
  rw [World.cell?_setCell_other, World.cell?_setCell_other, World.cell?_setCell_other] <;> (intro e; injection e with _ e; omega)
theorem put3_row {w : World} {g j n : Nat} {t : TypeId} {f : Nat → Value} (h : w.rowIs g t n f) (v0 v1 v2 : Value) : ∃ f', (put3 w g j v0 v1 v2).rowIs g t n f' := ⟨_, ((h.set _ _).set _ _).set _ _⟩
theorem put3_at {w : World} {g j n : Nat} {t : TypeId} {f : Nat → Value} (h : w.rowIs g t n f) (hn : j * 3 + 2 < n) (v0 v1 v2 : Value) : (put3 w g j v0 v1 v2).cell? ⟨g, j * 3, none⟩ = some v0 ∧ (put3 w g j v0 v1 v2).cell? ⟨g, j * 3 + 1, none⟩ = some v1 ∧ (put3 w g j v0 v1 v2).cell? ⟨g, j * 3 + 2, none⟩ = some v2 := by
  have hr := ((h.set (j * 3) v0).set (j * 3 + 1) v1).set (j * 3 + 2) v2
  unfold put3
  refine ⟨?_, ?_, ?_⟩
  · have := hr.cell (i := j * 3) (by omega)
    simpa using this
  · have := hr.cell (i := j * 3 + 1) (by omega)
    simpa using this
  · have := hr.cell (i := j * 3 + 2) (by omega)
    simpa using this
theorem GenG.setFar {w : World} {g rb cap b o : Nat} {ns : List Nd} {v : Value} (h : GenG w g rb cap ns) (hb : b ≠ g) (hk : ∀ j, j < ns.length → ∀ (A : Option Addr) (n c : Nat), w.cell? ⟨g, j * 3 + 2, none⟩ = some (.slice A n c) → blockOf A ≠ some b) : GenG (w.setCell ⟨b, o, none⟩ v) g rb cap ns := by
  have hbl : ∀ k, k ≠ b → (w.setCell ⟨b, o, none⟩ v).heap[k]? = w.heap[k]? := fun k hk => Below.heap_setCell _ _ _ _ hk
  have hg := hbl g (fun e => hb e.symm)
  obtain ⟨f, hf⟩ := h.row
  refine ⟨⟨f, hf.of_block hg⟩, h.le, h.few, fun j n hj => ?_, h.ne, fun i j A A' n n' c c' hij hi hj h1 h2 => h.dis i j A A' n n' c c' hij hi hj ((World.cell?_of_block (w := w) hg).symm.trans h1) ((World.cell?_of_block (w := w) hg).symm.trans h2)⟩
  have hn := h.nd j n hj
  obtain ⟨A, c, h1, h2, h3, h6, h4, h5⟩ := hn.kids
  have hc := fun q => World.cell?_of_block (w := w) (w' := w.setCell ⟨b, o, none⟩ v) (a := ⟨g, q, none⟩) hg
  exact ⟨(hc _).trans hn.kind, (hc _).trans hn.value, ⟨A, c, (hc _).trans h1, h2.same' (fun k hk2 => hbl k (fun e => hk j (List.getElem?_eq_some_iff.1 hj).1 A _ c h1 (by rw [hk2, e]))), h3, h6, h4, h5⟩, hn.wfk, hn.wfv⟩
theorem Rd.kept {w w' : World} {rb : Nat} {A : Option Addr} {n c p : Nat} (h : Rd w rb A n c p) (hr : Below (rb + 1) w w') : Rd w' rb A n c p :=
  ⟨h.box.below hr (by omega), h.bytes.later (hr.mono (by omega)), h.few⟩
theorem Rd.put {w : World} {rb g j : Nat} {A : Option Addr} {n c p : Nat} (h : Rd w rb A n c p) (hg : rb < g) (v0 v1 v2 : Value) : Rd (put3 w g j v0 v1 v2) rb A n c p :=
  h.kept ⟨rfl, rfl, rfl, by rw [put3_size]; exact Nat.le_refl _, fun k hk => put3_block (by omega)⟩
end Go.Proofs.Ytmilbhhlbjcodab

namespace Go.Proofs.Ytmilbhhlbjcodab
open Go.RowKit
set_option linter.unusedVariables false
def GivesReach (w : World) (ns : List Nd) (i : Int) (e : Ending) (w' : World) : Prop :=
  ∃ A c out, e = .returned (.slice A out.length c) ∧ OwnI w' w.heap.size A c out ∧ Below w.heap.size w w' ∧ (∀ x, x ∈ out ↔ TReach ns i x) ∧ (∀ x ∈ out, 0 ≤ x ∧ x < ns.length) ∧ out.length ≤ ns.length
def KidsOk (ns : List Nd) : Prop := ns.length ≤ 12 ∧ ∀ n ∈ ns, n.kids.length ≤ 6 ∧ ∀ x ∈ n.kids, 0 ≤ x ∧ x < ns.length
theorem in64_of_range {ns : List Nd} {out : List Int} (h12 : ns.length ≤ 12) (h : ∀ x ∈ out, 0 ≤ x ∧ x < ns.length) : ∀ x ∈ out, In64 x := fun x hx => by
  have := h x hx
  constructor <;> omega
set_option maxRecDepth 100000 in
set_option maxHeartbeats 4000000 in
theorem tupleReach_any (A : Option Addr) (ns : List Nd) (c : Nat) (r : Int) (i : Nat) (w : World) (hr : NdsAt w w.heap.size A ns) (hko : KidsOk ns) (hi : i < ns.length) :
    Calls Try.prog 61 #[.agg #[.slice A ns.length c, .int .i64 r], .int .i64 (i : Int)] w (GivesReach w ns i) := by
  obtain ⟨h12, hkids0⟩ := hko
  have hkids := hide hkids0
  clear hkids0
  have hB : Below w.heap.size w ((w.alloc (.cells #[.slice A ns.length c, .int .i64 r] 53)).alloc (.cells #[] 3)) := ((Below.refl _ _).alloc (Nat.le_refl _) _).alloc (by simp) _
  have l1 := (Lies.new w #[.slice A ns.length c, .int .i64 r] 53).alloc (.cells #[] 3)
  have hr2 := hr.below hB
  have hbare := OwnI.bare (w.alloc (.cells #[.slice A ns.length c, .int .i64 r] 53))
  simp only [World.size_alloc] at hbare
  clear hr
  have hi1 : (0 : Int) ≤ (i : Int) := by omega
  have hi2 : (i : Int) < (ns.length : Int) := by omega
  obtain ⟨b, off, n, rfl, hbl, hat, hmem, hN⟩ := hr2.at_ hi
  obtain ⟨hn_k, hn_v, ⟨A1, c1, hn_s, hI1', hnil1⟩, _, _⟩ := hN
  have hI1 := hI1'.more hB.size
  clear hI1'
  obtain ⟨hkn, hkr0⟩ := hkids.out n hmem
  have hkr := hide hkr0
  have hki := hide (kidsOf_at hat)
  clear hat hmem hn_k hn_v hkr0
  go_enter Try.func61, Try.ntmps61
  go_wp2_with fail
  generalize hWd : (w.alloc (.cells #[.slice (some ⟨b, off, none⟩) ns.length c, .int .i64 r] 53)).alloc (.cells #[] 3) = W at hB l1 hr2 hbl hn_s hI1 hbare ⊢
  have hWs : w.heap.size + 2 = W.heap.size := by rw [← hWd]; simp
  have HWs := hide hWs
  clear hWd hWs
  refine (copyInts_any A1 n.kids c1 W hI1 hnil1 (by omega)).mono ?_
  rintro e w1 ⟨Al, cl, rfl, hlist, hb1⟩
  go_wp2_with fail
  go_loopw [5, 6, 7] (fun o l iv wr => ∃ (out list : List Int) (Ao Al : Option Addr) (co cl k : Nat), o = .slice Ao out.length co ∧ l = .slice Al list.length cl ∧ iv = .int .i64 k ∧ k ≤ list.length ∧
      OwnI wr (w.heap.size + 1) Ao co out ∧ OwnI wr (w.heap.size + 1) Al cl list ∧ Below (w.heap.size + 1) W wr ∧ (∀ g, blockOf Ao = some g → blockOf Al ≠ some g) ∧ TInv ns i out list k) (fun _ _ iv _ => 79 - (intOf iv).toNat)
  case atStart =>
    refine ⟨[], n.kids, _, Al, _, cl, 0, rfl, rfl, rfl, Nat.zero_le _, hbare.below hb1, hlist.mono (by have := HWs.out; omega), hb1.mono (by have := HWs.out; omega), ?_, ?_⟩
    · intro g hg hg2
      simp [blockOf] at hg
      have := hlist.blocks g hg2
      have := HWs.out
      omega
    · have := TInv.start (ns := ns) (i := i) (by rw [hki.out]; exact hkn) (by rw [hki.out]; exact hkr.out)
      rw [hki.out] at this
      exact this
  case round =>
    obtain ⟨out, list, Ao, Al', co, cl', k, rfl, rfl, rfl, hkl, hout, hli, hb, hap0, hinv⟩ := hrel
    clear hlist hbare hb1 hn_s hI1
    have hap := hide hap0
    clear hap0
    have hsz : w.heap.size + 2 ≤ wr.heap.size := by have := hb.size; have := HWs.out; omega
    have Hinv := hide hinv
    have hk78 := hinv.listLen h12
    have ho12 := hinv.outLen
    have wfo : ∀ x ∈ out, In64 x := in64_of_range h12 fun x hx => hinv.range x (hinv.sub x hx)
    have wfl : ∀ x ∈ list, In64 x := in64_of_range h12 hinv.range
    have hio := hout.ints wfo (by omega)
    have hil := hli.ints wfl (by omega)
    have Wfo := hide wfo
    have Wfl := hide wfl
    clear hinv wfo wfl
    have l1r := l1.below hb (by omega)
    have e0 := l1r.cell 0
    simp at e0
    by_cases hlt : k < list.length
    · obtain ⟨b2, off2, x, rfl, hbl2, hx, hxm, hcx⟩ := hil.at_ hlt
      obtain ⟨hx0, hx1⟩ := Hinv.out.range x hxm
      obtain ⟨y, rfl⟩ := Int.eq_ofNat_of_zero_le hx0
      have Hx := hide hx
      clear hx hxm
      have hk1 : (0 : Int) ≤ (k : Int) := by omega
      have hk2 : (k : Int) < (list.length : Int) := by omega
      go_wp2_with fail
      refine (placeIn_any Ao out co y wr hio).mono ?_
      rintro e w' ⟨rfl, rfl⟩
      by_cases hmem : (y : Int) ∈ out
      · have hp := place_lt hmem
        have hd : decide (place out y < 0) = false := by simp; omega
        generalize place out y = pl at hp hd ⊢
        have Hn := hide (Hinv.out.seen Hx.out hmem)
        clear hmem
        go_wp2
        go_roundw
        case rel => exact ⟨out, list, Ao, _, co, cl', k + 1, rfl, rfl, by go_num, by omega, hout, hli, hb, hap.out, Hn.out⟩
        case measure => simp [intOf]; omega
      · rw [place_neg hmem]
        have hIone := IntsAt.one wr y (by constructor <;> omega)
        go_wp2_with (at_builtin; refine append_ints rfl (.tmp 29) (.tmp 34) rfl (w.heap.size + 1) Ao co out rfl (hout.alloc _) (wr.heap.size + 1) _ 1 [(y : Int)] rfl (fun e => by cases e) hIone (by simp; omega) (by simp; omega) ?_; intro zs A' c' w2 hz hown2 hg2 hat2)
        have hb2 : Below (w.heap.size + 1) W w2 := below_grown (hb.alloc (by omega) _) hg2 (by simp; omega) (fun k hk => (hout.blocks k hk).1)
        have hli2 : OwnI w2 (w.heap.size + 1) (some ⟨b2, off2, none⟩) cl' list := (hli.alloc _).kept hg2 (.inr (fun e => hap.out b2 (by rw [← e]; simp [blockOf]) (by simp [blockOf])))
        have hap2 : Hid (∀ g, blockOf A' = some g → blockOf (some (⟨b2, off2, none⟩ : Addr)) ≠ some g) := by
          intro g hg e
          rcases hat2 with h | h
          · exact hap.out g (by rw [← h]; exact hg) e
          · simp only [World.size_alloc] at h
            have := hli.blocks b2 (by simp [blockOf])
            rw [hg] at h
            simp [blockOf] at e h
            omega
        clear hat2 hg2 hio hIone hap hout hli hil e0 l1r
        have hil2 := hli2.ints Wfl.out (by omega)
        have e0 := (l1.below hb2 (by omega)).cell 0
        simp at e0
        obtain ⟨_, _, _, he2, _, hx2, _, hcx2⟩ := hil2.at_ hlt
        simp only [Option.some.injEq, Addr.mk.injEq, and_true] at he2
        obtain ⟨rfl, rfl⟩ := he2
        obtain rfl := Option.some.inj (hx2.symm.trans Hx.out)
        obtain ⟨b3, off3, m, he3, hbl3, hat3, hmm, hM⟩ := (hr2.below (hb2.mono (by omega))).at_ (k := y) (by omega)
        simp only [Option.some.injEq, Addr.mk.injEq, and_true] at he3
        obtain ⟨rfl, rfl⟩ := he3
        obtain ⟨hm_k, hm_v, ⟨A2, c2, hm_s, hI2', hnil2⟩, _, _⟩ := hM
        have hI2 := hI2'.more (show w.heap.size ≤ w2.heap.size by have := hB.size; have := hb2.size; omega)
        clear hI2'
        obtain ⟨hkm, hkr0'⟩ := hkids.out m hmm
        have hkr2 := hide hkr0'
        have hkk := hide (kindOf_at hat3)
        have hkk2 := hide (kidsOf_at hat3)
        clear hx2 hat3 hmm hkr0' hm_v hcx
        have hy1 : (0 : Int) ≤ (y : Int) := by omega
        have hb3 : Below (w.heap.size + 1) W w2.drew := hb2.drew
        have hown3 := hown2.drew
        have hli3 := hli2.drew
        have hI3 : IntsAt w2.drew w2.drew.heap.size A2 m.kids := hI2.later (Below.refl _ _).drew (Nat.le_refl _)
        have f0 : w2.drew.cell? ⟨w.heap.size, 0, none⟩ = some (.slice (some ⟨b, off, none⟩) ns.length c) := e0
        have f1 : w2.drew.cell? ⟨b2, off2 + k, none⟩ = some (.int .i64 (y : Int)) := hcx2
        have f2 : w2.drew.cell? ⟨b, off + y * 3 + 2, none⟩ = some (.slice A2 m.kids.length c2) := hm_s
        have f3 : w2.drew.cell? ⟨b, off + y * 3, none⟩ = some (.int .i64 m.kind) := hm_k
        by_cases h2 : m.kind = 2
        · have t2 : (m.kind == 2) = true := by rw [beq_iff_eq]; exact h2
          have Hn := hide (Hinv.out.tuple Hx.out hmem (by rw [hkk.out]; exact h2) (by rw [hkk2.out]; exact hkm) (by rw [hkk2.out]; exact hkr2.out))
          clear hmem h2
          go_wp2_with fail
          go_still_tail 9, (by kernel_rfl)
          change wpList _ _ _ _ _ w2.drew
          generalize w2.drew = w3 at hb3 hown3 hli3 hI3 f0 f1 f2 f3 ⊢
          clear hb2 hown2 hli2 hI2 e0 hcx2 hm_s hm_k hil2
          have hb4 : Below (w.heap.size + 1) W w3.drew := hb3.drew
          have hown4 := hown3.drew
          have hli4 := hli3.drew
          have hI4 : IntsAt w3.drew w3.drew.heap.size A2 m.kids := hI3.later (Below.refl _ _).drew (Nat.le_refl _)
          go_wp2_with fail
          go_still_tail 10, (by kernel_rfl)
          change wpList _ _ _ _ _ w3.drew
          generalize w3.drew = w4 at hb4 hown4 hli4 hI4 ⊢
          clear hb3 hown3 hli3 hI3 f0 f1 f2 f3
          go_wp2_with (at_builtin; refine append_ints rfl (.tmp 46) (.tmp 55) rfl (w.heap.size + 1) _ cl' list rfl hli4 _ A2 c2 m.kids rfl hnil2 hI4 (by omega) (by have := hb4.size; have := HWs.out; omega) ?_; intro ls Al2 cl2 w5 hls hown5 hg5 hat5)
          go_roundw
          case rel =>
            refine ⟨zs, ls, A', Al2, c', cl2, k + 1, rfl, rfl, by go_num, ?_, ?_, hown5, ?_, ?_, ?_⟩
            · rw [hls.out]; simp; omega
            · exact hown4.kept hg5 (by
                cases hA : blockOf A' with
                | none => exact .inl rfl
                | some g => exact .inr (fun e => hap2.out g hA e.symm))
            · exact below_grown hb4 hg5 (by have := hb4.size; have := HWs.out; omega) (fun k hk => (hli4.blocks k hk).1)
            · intro g hg e
              rcases hat5 with h | h
              · exact hap2.out g hg (by rw [← h]; exact e)
              · rw [h] at e
                have := hown4.blocks g hg
                simp at e
                omega
            · rw [hz.out, hls.out, ← hkk2.out]
              exact Hn.out
          case measure => simp [intOf]; omega
        · have t2 : (m.kind == 2) = false := by rw [beq_eq_false_iff_ne]; exact h2
          have Hn := hide (Hinv.out.leaf Hx.out hmem (by rw [hkk.out]; exact h2))
          clear hmem h2
          go_wp2_with fail
          go_still_tail 9, (by kernel_rfl)
          change wpList _ _ _ _ _ w2.drew
          generalize w2.drew = w3 at hb3 hown3 hli3 ⊢
          clear hb2 hown2 hli2 hI2 e0 hcx2 hm_s hm_k hil2 f0 f1 f2 f3
          go_wp2
          go_roundw
          case rel => exact ⟨zs, list, A', _, c', cl', k + 1, rfl, rfl, by go_num, by omega, hown3, hli3, hb3, hap2.out, by rw [hz.out]; exact Hn.out⟩
          case measure => simp [intOf]; omega
    · obtain rfl : k = list.length := by omega
      have HF := hide Hinv.out.all
      have HR := hide (show ∀ x ∈ out, 0 ≤ x ∧ x < (ns.length : Int) from fun x hx => Hinv.out.range x (Hinv.out.sub x hx))
      clear hlt hil hio
      go_wp2
      go_ret
      exact ⟨Ao, co, out, rfl, hout.mono (by omega), hB.trans (hb.mono (by omega)), HF.out, HR.out, ho12⟩
end Go.Proofs.Ytmilbhhlbjcodab

namespace Go.Proofs.Ytmilbhhlbjcodab
open Go.RowKit
set_option linter.unusedVariables false
def marks (k : Int) (n : Nat) : List Int := (List.range n).map fun (i : Nat) => k + (i : Int)
structure Only (lo hi : Nat) (w w' : World) : Prop where
  os : w'.os = w.os
  tape : w'.tape = w.tape
  output : w'.output = w.output
  size : w'.heap.size = w.heap.size
  block : ∀ k, k < lo ∨ hi ≤ k → w'.heap[k]? = w.heap[k]?
theorem Only.refl (lo hi : Nat) (w : World) : Only lo hi w w := ⟨rfl, rfl, rfl, rfl, fun _ _ => rfl⟩
theorem Only.trans {lo hi : Nat} {a b c : World} (h : Only lo hi a b) (k : Only lo hi b c) : Only lo hi a c :=
  ⟨k.os.trans h.os, k.tape.trans h.tape, k.output.trans h.output, k.size.trans h.size, fun j hj => (k.block j hj).trans (h.block j hj)⟩
theorem Only.setCell {lo hi : Nat} {a w : World} (h : Only lo hi a w) {p : Addr} (h1 : lo ≤ p.block) (h2 : p.block < hi) (u : Value) : Only lo hi a (w.setCell p u) :=
  h.trans ⟨rfl, rfl, rfl, by simp, fun k hk => Below.heap_setCell _ _ _ _ (by omega)⟩
theorem Only.below {lo hi : Nat} {w w' : World} (h : Only lo hi w w') : Below lo w w' := ⟨h.os, h.tape, h.output, by rw [h.size]; exact Nat.le_refl _, fun k hk => h.block k (.inl hk)⟩
theorem Only.mono {lo hi lo' hi' : Nat} {w w' : World} (h : Only lo hi w w') (h1 : lo' ≤ lo) (h2 : hi ≤ hi') : Only lo' hi' w w' :=
  ⟨h.os, h.tape, h.output, h.size, fun k hk => h.block k (by omega)⟩
theorem OwnI.only {w w' : World} {base lo hi : Nat} {A : Option Addr} {c : Nat} {xs : List Int} (h : OwnI w base A c xs) (ho : Only lo hi w w') (hA : ∀ g, blockOf A = some g → g < lo ∨ hi ≤ g) : OwnI w' base A c xs := by
  refine ⟨h.own.1, ?_⟩
  rcases h.own.2 with h2 | ⟨g, cap, cur, hv, hg, hh, r⟩
  · exact .inl h2
  · refine .inr ⟨g, cap, cur, hv, hg, ?_, r⟩
    rw [ho.block g]
    · exact hh
    · apply hA g
      injection hv with hv
      rw [hv]
      rfl
structure Save (lo hi : Nat) (w w' : World) : Prop where
  os : w'.os = w.os
  tape : w'.tape = w.tape
  output : w'.output = w.output
  size : w.heap.size ≤ w'.heap.size
  block : ∀ k, k < w.heap.size → k < lo ∨ hi ≤ k → w'.heap[k]? = w.heap[k]?
theorem Save.of_below {lo hi : Nat} {w w' : World} (h : Below w.heap.size w w') : Save lo hi w w' := ⟨h.os, h.tape, h.output, h.size, fun k hk _ => h.block k hk⟩
theorem Save.trans {lo hi : Nat} {a b c : World} (h : Save lo hi a b) (k : Save lo hi b c) : Save lo hi a c :=
  ⟨k.os.trans h.os, k.tape.trans h.tape, k.output.trans h.output, Nat.le_trans h.size k.size, fun j hj hl => (k.block j (Nat.lt_of_lt_of_le hj h.size) hl).trans (h.block j hj hl)⟩
theorem Save.below {lo hi : Nat} {w w' : World} (h : Save lo hi w w') (hl : lo ≤ w.heap.size) : Below lo w w' := ⟨h.os, h.tape, h.output, h.size, fun k hk => h.block k (by omega) (.inl hk)⟩
theorem OwnI.save {w w' : World} {base lo hi : Nat} {A : Option Addr} {c : Nat} {xs : List Int} (h : OwnI w base A c xs) (ho : Save lo hi w w') (hA : ∀ g, blockOf A = some g → g < lo ∨ hi ≤ g) : OwnI w' base A c xs := by
  refine ⟨h.own.1, ?_⟩
  have hbl := h.blocks
  rcases h.own.2 with h2 | ⟨g, cap, cur, hv, hg, hh, r⟩
  · exact .inl h2
  · have hAg : blockOf A = some g := by
      injection hv with hv
      rw [hv]
      rfl
    refine .inr ⟨g, cap, cur, hv, hg, ?_, r⟩
    rw [ho.block g (hbl g hAg).2 (hA g hAg)]
    exact hh
end Go.Proofs.Ytmilbhhlbjcodab

namespace Go.Proofs.Ytmilbhhlbjcodab
theorem infoOp : (Try.prog.info? 56).map (fun i => (i.zero, i.size, i.bytes)) = some (some (.agg #[.int .i64 0, .int .i64 0]), 2, 16) := by kernel_rfl
end Go.Proofs.Ytmilbhhlbjcodab

namespace Go.Proofs.Ytmilbhhlbjcodab
open Go.RowKit
theorem IntsAt.upto {w : World} {B : Nat} {A : Option Addr} {xs : List Int} (h : IntsAt w B A xs) (n : Nat) : IntsAt w B A (xs.take n) := by
  refine ⟨fun hx => ?_, fun x hx => h.wf x (List.mem_of_mem_take hx), Nat.le_trans (by simp; omega) h.len⟩
  obtain ⟨b, off, e, hlt, hc⟩ := h.row (by intro e; subst e; simp at hx)
  refine ⟨b, off, e, hlt, fun j x hj => hc j x ?_⟩
  rw [List.getElem?_take] at hj
  split at hj
  · exact hj
  · cases hj
theorem IntsAt.behind {w : World} {B b off : Nat} {xs : List Int} (h : IntsAt w B (some ⟨b, off, none⟩) xs) (k : Nat) : IntsAt w B (some ⟨b, off + k, none⟩) (xs.drop k) := by
  refine ⟨fun hx => ?_, fun x hx => h.wf x (List.mem_of_mem_drop hx), Nat.le_trans (by simp) h.len⟩
  obtain ⟨b', off', e, hlt, hc⟩ := h.row (by intro e; subst e; simp at hx)
  injection e with e
  injection e with e1 e2
  subst e1 e2
  refine ⟨b, off + k, rfl, hlt, fun j x hj => ?_⟩
  rw [List.getElem?_drop] at hj
  have := hc (k + j) x hj
  rwa [← Nat.add_assoc] at this
theorem IntsAt.empt {w : World} {B : Nat} (A : Option Addr) : IntsAt w B A [] := ⟨fun h => absurd rfl h, fun _ h => (by cases h), by simp⟩
end Go.Proofs.Ytmilbhhlbjcodab

namespace Go.Proofs.Ytmilbhhlbjcodab
open Go.RowKit
theorem markShapes_any (p : ShPtr) (s : Shp) (c : Int) (base : Nat) (w : World) (h : ShOwn w base p s) (hbase : base ≤ w.heap.size) (hs : s.Small) (hc : IsMarkOp c) :
    Calls Try.prog 47 #[shVal p s, .int .i64 c] w (TriesSh w p base (markStep s c)) := by
  rcases hc with rfl | rfl | rfl | rfl
  · exact markShapes_3 p s base w h hbase hs
  · exact markShapes_9 p s base w h hbase hs
  · exact markShapes_12 p s base w h hbase hs
  · exact markShapes_18 p s base w h hbase hs
end Go.Proofs.Ytmilbhhlbjcodab

namespace Go.Proofs.Ytmilbhhlbjcodab
open Go.RowKit
set_option linter.unusedVariables false
set_option maxHeartbeats 1000000 in
theorem specValidOps_any (A : Option Addr) (os : List Od) (c : Nat) (w : World) (h : OpsAt w w.heap.size A os) :
    Calls Try.prog 26 #[.slice A os.length c] w fun e w' => e = .returned (.bool (tf (OpsOk os))) ∧ Below w.heap.size w w' := by
  have hl := h.len
  go_enter Try.func26, Try.ntmps26
  go_wp2_with fail
  go_loopw [3] (fun i wr => ∃ k : Nat, k ≤ os.length ∧ i = .int .i64 k ∧ Below w.heap.size w wr ∧ ∀ j x, j < k → os[j]? = some x → OdOk x) (fun i _ => os.length - (intOf i).toNat)
  case atStart => exact ⟨0, Nat.zero_le _, rfl, Below.refl _ _, fun j _ hj => absurd hj (by omega)⟩
  case round =>
    obtain ⟨k, hk, rfl, hb, he0⟩ := hrel
    have he := hide he0
    clear he0
    by_cases hlt : k < os.length
    · obtain ⟨b, off, x, rfl, hbl, hx, hmem, hc0, hc1⟩ := (h.below hb).at_ hlt
      have Hx := hide hx
      clear hx
      by_cases hin : OdOk x
      · have He : Hid (∀ j y, j < k + 1 → os[j]? = some y → OdOk y) := by
          intro j y hj hy
          by_cases e : j = k
          · subst e
            have := Hx.out.symm.trans hy
            injection this with this
            subst this
            exact hin
          · exact he.out j y (by omega) hy
        have ht := hide (show tf (OdOk x) = true from tf_true hin)
        clear he hmem hin
        go_wp2_with fail
        refine (validOp_any x _).mono ?_
        rintro e w' ⟨rfl, hb2⟩
        rw [ht.out]
        go_wp2
        go_roundw
        case rel => exact ⟨k + 1, by omega, by go_num, hb.trans (hb2.mono hb.size), He.out⟩
        case measure => simp [intOf]; omega
      · have HF := hide (show tf (OpsOk os) = false from tf_false fun hall => hin (hall.2 x hmem))
        have ht := hide (show tf (OdOk x) = false from tf_false hin)
        clear he hmem hin
        go_wp2_with fail
        refine (validOp_any x _).mono ?_
        rintro e w' ⟨rfl, hb2⟩
        rw [ht.out]
        go_wp2
        go_ret
        exact ⟨ret_bool HF.out.symm, hb.trans (hb2.mono hb.size)⟩
    · obtain rfl : k = os.length := by omega
      have hall : ∀ x ∈ os, OdOk x := fun x hx => by
        obtain ⟨j, hj, rfl⟩ := List.getElem_of_mem hx
        exact he.out j _ hj (List.getElem?_eq_getElem hj)
      by_cases h3 : os.length ≤ 300
      · have HF := hide (show tf (OpsOk os) = true from tf_true ⟨h3, hall⟩)
        have d : decide ((os.length : Int) ≤ 300) = true := by simp; omega
        clear hlt hall
        go_wp2
        go_ret
        exact ⟨ret_bool HF.out.symm, hb⟩
      · have HF := hide (show tf (OpsOk os) = false from tf_false fun hh => h3 hh.1)
        have d : decide ((os.length : Int) ≤ 300) = false := by simp; omega
        clear hlt hall
        go_wp2
        go_ret
        exact ⟨ret_bool HF.out.symm, hb⟩
end Go.Proofs.Ytmilbhhlbjcodab

namespace Go.Proofs.Ytmilbhhlbjcodab
theorem eq_of_prefix {α : Type} [DecidableEq α] {xs ys : List α} (h : xs.length = ys.length) {k : Nat} (hk : k = xs.length) (he : ∀ j, j < k → xs[j]? = ys[j]?) : xs = ys := by
  apply List.ext_getElem?
  intro j
  by_cases hj : j < k
  · exact he j hj
  · rw [List.getElem?_eq_none (by omega), List.getElem?_eq_none (by omega)]
end Go.Proofs.Ytmilbhhlbjcodab

namespace Go.Proofs.Ytmilbhhlbjcodab
open Go.RowKit
set_option maxHeartbeats 1000000 in
theorem equalInts_any (A A' : Option Addr) (xs ys : List Int) (c c' : Nat) (w : World) (h : IntsAt w w.heap.size A xs) (h' : IntsAt w w.heap.size A' ys) :
    Calls Try.prog 7 #[.slice A xs.length c, .slice A' ys.length c'] w fun e w' => e = .returned (.bool (decide (xs = ys))) ∧ Below w.heap.size w w' := by
  have hl := h.len
  by_cases hne : xs.length = ys.length
  · have hb0 : ((xs.length : Int) != (ys.length : Int)) = false := by simp [hne]
    go_enter Try.func7, Try.ntmps7
    go_wp2_with fail
    go_loopw [5] (fun i wr => ∃ k : Nat, k ≤ xs.length ∧ i = .int .i64 k ∧ Below w.heap.size w wr ∧ ∀ j, j < k → xs[j]? = ys[j]?) (fun i _ => xs.length - (intOf i).toNat)
    case atStart => exact ⟨0, Nat.zero_le _, rfl, Below.refl _ _, fun j hj => absurd hj (by omega)⟩
    case round =>
      obtain ⟨k, hk, rfl, hb, he0⟩ := hrel
      have he := hide he0
      clear he0
      by_cases hlt : k < xs.length
      · obtain ⟨b, off, x, rfl, hbl, hx, _, hcx⟩ := (h.below hb).at_ hlt
        obtain ⟨b', off', y, rfl, hbl', hy, _, hcy⟩ := (h'.below hb).at_ (k := k) (by omega)
        have Hx := hide hx
        have Hy := hide hy
        clear hx hy
        have hk1 : (0 : Int) ≤ (k : Int) := by omega
        have hk2 : (k : Int) < (xs.length : Int) := by omega
        have hk3 : (k : Int) < (ys.length : Int) := by omega
        by_cases hxy : x = y
        · subst hxy
          go_wp2_with fail
          go_quiet (fail)
          go_wp2
          go_roundw
          case rel => exact ⟨k + 1, by omega, by go_num, below_drewN hb _, fun j hj => by
            by_cases e : j = k
            · subst e; rw [Hx.out, Hy.out]
            · exact he.out j (by omega)⟩
          case measure => simp [intOf]; omega
        · have hn1 : (x != y) = true := by simpa using hxy
          have hF : decide (xs = ys) = false := by
            simp only [decide_eq_false_iff_not]
            intro e
            subst e
            have := Hx.out.symm.trans Hy.out
            injection this with this
            exact hxy this
          have HF := hide hF
          clear hF
          go_wp2_with fail
          go_quiet (fail)
          go_wp2
          go_ret
          exact ⟨ret_bool HF.out.symm, below_drewN hb _⟩
      · obtain rfl : k = xs.length := by omega
        have hF : decide (xs = ys) = true := by
          simp only [decide_eq_true_eq]
          exact eq_of_prefix hne rfl he.out
        have HF := hide hF
        clear hF hlt
        go_wp2
        go_ret
        exact ⟨ret_bool HF.out.symm, hb⟩
  · have hb1 : ((xs.length : Int) != (ys.length : Int)) = true := by simp; omega
    have hF : decide (xs = ys) = false := by
      simp only [decide_eq_false_iff_not]
      intro e
      exact hne (by rw [e])
    have HF := hide hF
    clear hF
    go_enter Try.func7, Try.ntmps7
    go_wp2
    go_ret
    exact ⟨ret_bool HF.out.symm, Below.refl _ _⟩
end Go.Proofs.Ytmilbhhlbjcodab
