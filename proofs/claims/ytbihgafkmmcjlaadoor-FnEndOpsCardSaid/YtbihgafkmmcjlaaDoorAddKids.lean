import Derived.Test.YtbihgafkmmcjlaaDoorPjAh
import Derived.Test.YtbihgafkmmcjlaaDoorPjAl
import Derived.Deep.RegionLaw
namespace Go.Proofs.YtbihgafkmmcjlaaDoor
open Go.RowKit
set_option linter.unusedVariables false
theorem OwnI.one (w : World) (base : Nat) (x : Int) (hb : base ≤ w.heap.size) : OwnI (w.alloc (.cells #[.int .i64 x] 3)) base (some ⟨w.heap.size, 0, none⟩) 1 [x] :=
  ⟨⟨by simp, .inr ⟨w.heap.size, 1, #[.int .i64 x], rfl, hb, heap_alloc_new _ _, by simp, by unfold maxLen; omega, by simp, by simp⟩⟩⟩
theorem set_same {α : Type} {l : List α} {i : Nat} {x : α} (h : l[i]? = some x) : l.set i x = l := by
  apply List.ext_getElem?
  intro j
  rw [List.getElem?_set]
  split
  · rename_i e
    subst e
    obtain ⟨hl, hx⟩ := List.getElem?_eq_some_iff.1 h
    rw [if_pos hl, h]
  · rfl
theorem tf_yes {p : Prop} (h : tf p = true) : p := by
  by_cases hp : p
  · exact hp
  · rw [tf_false hp] at h; cases h
def Kidded (rb : Nat) (A : Option Addr) (nb cb p g cap at_ : Nat) (r : Int) (ns : List Nd) (w : World) (e : Ending) (w' : World) : Prop :=
  ∃ (n' : Nd) (p' : Nat), e = .returned (.agg #[.slice (some ⟨g, 0, none⟩) ns.length cap, .int .i64 r]) ∧ p' ≤ p + 9 ∧ Rd w' rb A nb cb p' ∧ GenG w' g rb cap (ns.set at_ n') ∧ 0 ≤ n'.kind ∧ n'.kind ≤ 5 ∧ (ns.set at_ n' = ns ∨ ValidG (ns.set at_ n') r) ∧ Grew2 rb g w w' ∧ (∀ q, q < at_ * 3 ∨ at_ * 3 + 2 < q → w'.cell? ⟨g, q, none⟩ = w.cell? ⟨g, q, none⟩) ∧
    ∀ (B2 : Option Addr) (k d : Nat), w'.cell? ⟨g, at_ * 3 + 2, none⟩ = some (.slice B2 k d) → ∀ b, blockOf B2 = some b → w.heap.size ≤ b
structure AddS (w wr : World) (rb B b4 b6 b7 g cap nb cb len : Nat) (A : Option Addr) (r kd vd : Int) (P : Nat) (K : List Int) (An : Option Addr) (cn : Nat) : Prop where
  rd : ∃ p1, p1 ≤ P ∧ Rd wr rb A nb cb p1
  grew : Grew rb w wr
  l4 : Lies wr b4 #[.slice (some ⟨g, 0, none⟩) len cap, .int .i64 r] 49
  l6 : Lies wr b6 #[.slice none 0 0, .int .i64 0] 49
  l7 : Lies wr b7 #[.int .i64 kd, .int .i64 vd, .slice An K.length cn] 73
  own : OwnI wr B An cn K
  inn : ∀ z ∈ K, 0 ≤ z ∧ z < (len : Int)
  size : B ≤ wr.heap.size
  n1 : w.heap.size ≤ b4
  n2 : b4 < b6
  n3 : b6 < b7
  n4 : b7 < B
  nr : rb < w.heap.size
section
variable {w wr : World} {rb B b4 b6 b7 g cap nb cb len : Nat} {A : Option Addr} {r kd vd : Int} {P : Nat} {K : List Int} {An : Option Addr} {cn : Nat}
theorem AddS.turn (h : AddS w wr rb B b4 b6 b7 g cap nb cb len A r kd vd P K An cn) {w5 : World} {p5 P' : Nat} (ht : Turn rb wr w5) (hr : Rd w5 rb A nb cb p5) (hp : p5 ≤ P') : AddS w w5 rb B b4 b6 b7 g cap nb cb len A r kd vd P' K An cn := by
  have := h.n1
  have := h.n2
  have := h.n3
  have := h.n4
  have := h.nr
  have hG := Grew.of_turn ht
  exact ⟨⟨p5, hp, hr⟩, h.grew.trans hG, h.l4.grew hG (by omega), h.l6.grew hG (by omega), h.l7.grew hG (by omega), h.own.same' (fun k hk => ht.block k (by have := (h.own.blocks k hk).1; omega)), h.inn, by rw [ht.size]; exact h.size, h.n1, h.n2, h.n3, h.n4, h.nr⟩
theorem AddS.later (h : AddS w wr rb B b4 b6 b7 g cap nb cb len A r kd vd P K An cn) {w5 : World} (hb : Below wr.heap.size wr w5) : AddS w w5 rb B b4 b6 b7 g cap nb cb len A r kd vd P K An cn := by
  have := h.n1
  have := h.n2
  have := h.n3
  have := h.n4
  have := h.size
  obtain ⟨p1, h1, h2⟩ := h.rd
  exact ⟨⟨p1, h1, h2.below hb⟩, h.grew.trans (Grew.of_below hb), h.l4.below hb (by omega), h.l6.below hb (by omega), h.l7.below hb (by omega), h.own.below hb, h.inn, Nat.le_trans h.size hb.size, h.n1, h.n2, h.n3, h.n4, h.nr⟩
theorem AddS.more (h : AddS w wr rb B b4 b6 b7 g cap nb cb len A r kd vd P K An cn) {P' : Nat} (hP : P ≤ P') : AddS w wr rb B b4 b6 b7 g cap nb cb len A r kd vd P' K An cn := by
  obtain ⟨p1, h1, h2⟩ := h.rd
  exact ⟨⟨p1, by omega, h2⟩, h.grew, h.l4, h.l6, h.l7, h.own, h.inn, h.size, h.n1, h.n2, h.n3, h.n4, h.nr⟩
theorem AddS.app (h : AddS w wr rb B b4 b6 b7 g cap nb cb len A r kd vd P K An cn) {w1 : World} {zs : List Int} {A' : Option Addr} {c' : Nat} (hg : wr.grownBy w1 (blockOf An)) (hown : OwnI w1 B A' c' zs) (hin : ∀ z ∈ zs, 0 ≤ z ∧ z < (len : Int)) :
    AddS w (w1.setCell ⟨b7, 2, none⟩ (.slice A' zs.length c')) rb B b4 b6 b7 g cap nb cb len A r kd vd P zs A' c' := by
  have n1 := h.n1
  have n2 := h.n2
  have n3 := h.n3
  have n4 := h.n4
  have nr := h.nr
  have hs := h.size
  have hsz := hg.size
  have hgs := h.grew.size
  have hne : ∀ k, k < B → some k ≠ blockOf An := fun k hk e => by have := (h.own.blocks k e.symm).1; omega
  have hold : ∀ k, k < B → w1.heap[k]? = wr.heap[k]? := fun k hk => hg.block k (by omega) (hne k hk)
  have hbl : Below b7 wr (w1.setCell ⟨b7, 2, none⟩ (.slice A' zs.length c')) := ⟨hg.os, hg.tape, hg.output, by simpa using hsz, fun k hk => by
    rw [Below.heap_setCell _ _ _ _ (by show k ≠ b7; omega)]
    exact hold k (by omega)⟩
  obtain ⟨p1, h1, h2⟩ := h.rd
  have l7 : Lies w1 b7 #[.int .i64 kd, .int .i64 vd, .slice An K.length cn] 73 := (hold b7 n4).trans h.l7
  have l7' := l7.set 2 (.slice A' zs.length c')
  refine ⟨⟨p1, h1, h2.kept (hbl.mono (by omega))⟩, ⟨hg.os.trans h.grew.os, hg.tape.trans h.grew.tape, hg.output.trans h.grew.output, by have := h.grew.size; simp; omega, fun k hk hr => ?_⟩, h.l4.below hbl (by omega), h.l6.below hbl (by omega), by simpa using l7', ⟨ownsRow_setCell_below hown.own (a := ⟨b7, 2, none⟩) (by show b7 < B; omega) _⟩, hin, by simp; omega, n1, n2, n3, n4, nr⟩
  rw [Below.heap_setCell _ _ _ _ (by show k ≠ b7; omega), hold k (by omega)]
  exact h.grew.block k hk hr
end
structure KX (w X : World) (rb B g cap at_ nb cb : Nat) (A : Option Addr) (P : Nat) (K : List Int) (An : Option Addr) (cn : Nat) : Prop where
  rd : ∃ p1, p1 ≤ P ∧ Rd X rb A nb cb p1
  os : X.os = w.os
  tape : X.tape = w.tape
  output : X.output = w.output
  size : B ≤ X.heap.size
  le : w.heap.size ≤ B
  block : ∀ k, k < w.heap.size → k ≠ rb → k ≠ g → X.heap[k]? = w.heap[k]?
  far : ∀ q, q < at_ * 3 ∨ at_ * 3 + 2 < q → X.cell? ⟨g, q, none⟩ = w.cell? ⟨g, q, none⟩
  row : ∃ f, X.rowIs g 73 (cap * 3) f
  own : OwnI X B An cn K
  nr : rb < g
  gl : g < w.heap.size
section
variable {w X : World} {rb B g cap at_ nb cb : Nat} {A : Option Addr} {P : Nat} {K : List Int} {An : Option Addr} {cn : Nat}
theorem KX.later (h : KX w X rb B g cap at_ nb cb A P K An cn) {Y : World} (hb : Below X.heap.size X Y) : KX w Y rb B g cap at_ nb cb A P K An cn := by
  have h1 := h.size
  have h2 := h.le
  have h3 := h.gl
  have hg : Y.heap[g]? = X.heap[g]? := hb.block g (by omega)
  obtain ⟨p1, hp, hr⟩ := h.rd
  obtain ⟨f, hf⟩ := h.row
  exact ⟨⟨p1, hp, hr.below hb⟩, hb.os.trans h.os, hb.tape.trans h.tape, hb.output.trans h.output, Nat.le_trans h.size hb.size, h.le, fun k hk a b => (hb.block k (by omega)).trans (h.block k hk a b), fun q hq => (World.cell?_of_block (w := X) hg).trans (h.far q hq), ⟨f, hf.of_block hg⟩, h.own.below hb, h.nr, h.gl⟩
theorem KX.put (h : KX w X rb B g cap at_ nb cb A P K An cn) (v0 v1 v2 : Value) : KX w (put3 X g at_ v0 v1 v2) rb B g cap at_ nb cb A P K An cn := by
  have h1 := h.size
  have h2 := h.le
  have h3 := h.gl
  obtain ⟨p1, hp, hr⟩ := h.rd
  obtain ⟨f, hf⟩ := h.row
  exact ⟨⟨p1, hp, hr.put h.nr _ _ _⟩, h.os, h.tape, h.output, by rw [put3_size]; exact h.size, h.le, fun k hk a b => (put3_block b).trans (h.block k hk a b), fun q hq => (put3_far hq).trans (h.far q hq), put3_row hf _ _ _, h.own.same' (fun k hk => put3_block (by have := (h.own.blocks k hk).1; omega)), h.nr, h.gl⟩
theorem KX.cell (h : KX w X rb B g cap at_ nb cb A P K An cn) {b o : Nat} (hb1 : w.heap.size ≤ b) (hb2 : b < B) (v : Value) : KX w (X.setCell ⟨b, o, none⟩ v) rb B g cap at_ nb cb A P K An cn := by
  have h1 := h.size
  have h2 := h.le
  have h3 := h.gl
  have h4 := h.nr
  have hbl : ∀ k, k ≠ b → (X.setCell ⟨b, o, none⟩ v).heap[k]? = X.heap[k]? := fun k hk => Below.heap_setCell _ _ _ _ hk
  obtain ⟨p1, hp, hr⟩ := h.rd
  obtain ⟨f, hf⟩ := h.row
  exact ⟨⟨p1, hp, hr.kept ⟨rfl, rfl, rfl, by simp, fun k hk => hbl k (by omega)⟩⟩, h.os, h.tape, h.output, by simpa using h.size, h.le, fun k hk a c => (hbl k (by omega)).trans (h.block k hk a c), fun q hq => (World.cell?_of_block (w := X) (hbl g (by omega))).trans (h.far q hq), ⟨f, hf.of_block (hbl g (by omega))⟩, h.own.same' (fun k hk => hbl k (by have := (h.own.blocks k hk).1; omega)), h.nr, h.gl⟩
theorem KX.gen (h : KX w X rb B g cap at_ nb cb A P K An cn) {ns : List Nd} (hg : GenG w g rb cap ns) (hj : at_ < ns.length) (n : Nd) (A2 : Option Addr) (c2 : Nat) (hk : In64 n.kind) (hv : In64 n.value) (hI : OwnI X 0 A2 c2 n.kids) (h64 : ∀ x ∈ n.kids, In64 x) (hl : n.kids.length ≤ 1000) (hA : ∀ b, blockOf A2 = some b → w.heap.size ≤ b)
    (c0 : X.cell? ⟨g, at_ * 3, none⟩ = some (.int .i64 n.kind)) (c1 : X.cell? ⟨g, at_ * 3 + 1, none⟩ = some (.int .i64 n.value)) (c2' : X.cell? ⟨g, at_ * 3 + 2, none⟩ = some (.slice A2 n.kids.length c2)) : GenG X g rb cap (ns.set at_ n) := by
  have h3 := h.gl
  have h4 := h.nr
  refine ⟨h.row, by rw [List.length_set]; exact hg.le, by rw [List.length_set]; exact hg.few, fun i m hi => ?_, hg.ne, ?_⟩
  · rw [List.getElem?_set] at hi
    by_cases e : at_ = i
    · subst e
      rw [if_pos rfl, if_pos hj] at hi
      injection hi with hi
      subst hi
      exact ⟨c0, c1, ⟨A2, c2, c2', hI, h64, hl, fun e => by have := hA g e; omega, fun e => by have := hA rb e; omega⟩, hk, hv⟩
    · rw [if_neg e] at hi
      exact (hg.nd i m hi).kept (fun o ho => h.far _ (by omega)) (fun k hk a b => h.block k hk a b)
  · intro i j B1 B2 k1 k2 d1 d2 hij hi hj2 h1 h2 b hb
    rw [List.length_set] at hi hj2
    have old : ∀ q, q < ns.length → q ≠ at_ → ∀ (Bq : Option Addr) (kq dq : Nat), X.cell? ⟨g, q * 3 + 2, none⟩ = some (.slice Bq kq dq) → w.cell? ⟨g, q * 3 + 2, none⟩ = some (.slice Bq kq dq) ∧ ∀ b, blockOf Bq = some b → b < w.heap.size := by
      intro q hq hne Bq kq dq hc
      rw [h.far _ (by omega)] at hc
      refine ⟨hc, fun b hb => ?_⟩
      obtain ⟨Aq, cq, e1, e2, _⟩ := (hg.nd q _ (List.getElem?_eq_getElem hq)).kids
      rw [hc] at e1
      injection e1 with e1
      injection e1 with e1 _ _
      rw [e1] at hb
      exact (e2.blocks b hb).2
    by_cases ei : i = at_
    · subst ei
      have e := c2'.symm.trans h1
      injection e with e
      injection e with e _ _
      have hge := hA b (by rw [e]; exact hb)
      have := (old j hj2 (fun e => hij e.symm) B2 k2 d2 h2).2
      intro e2
      have := this b e2
      omega
    · have o1 := old i hi ei B1 k1 d1 h1
      by_cases ej : j = at_
      · subst ej
        have e := c2'.symm.trans h2
        injection e with e
        injection e with e _ _
        intro e2
        have := hA b (by rw [e]; exact e2)
        have := o1.2 b hb
        omega
      · exact hg.dis i j B1 B2 k1 k2 d1 d2 hij hi hj2 o1.1 (old j hj2 ej B2 k2 d2 h2).1 b hb
end
theorem KX.done {w X : World} {rb B g cap at_ nb cb p b6 : Nat} {A : Option Addr} {r : Int} {K : List Int} {An : Option Addr} {cn : Nat} {ns : List Nd} (h : KX w X rb B g cap at_ nb cb A (p + 9) K An cn) (hg : GenG w g rb cap ns) (hj : at_ < ns.length) (hb1 : w.heap.size ≤ b6) (hb2 : b6 < B)
    (n : Nd) (A2 : Option Addr) (c2 : Nat) (hk0 : 0 ≤ n.kind) (hk5 : n.kind ≤ 5) (hsv : ns.set at_ n = ns ∨ ValidG (ns.set at_ n) r) (hv : In64 n.value) (hI : OwnI X 0 A2 c2 n.kids) (h64 : ∀ x ∈ n.kids, In64 x) (hl : n.kids.length ≤ 1000) (hA : ∀ b, blockOf A2 = some b → B ≤ b)
    (c0 : X.cell? ⟨g, at_ * 3, none⟩ = some (.int .i64 n.kind)) (c1 : X.cell? ⟨g, at_ * 3 + 1, none⟩ = some (.int .i64 n.value)) (c2' : X.cell? ⟨g, at_ * 3 + 2, none⟩ = some (.slice A2 n.kids.length c2)) (u0 u1 : Value) :
    Kidded rb A nb cb p g cap at_ r ns w (.returned (.agg #[.slice (some ⟨g, 0, none⟩) ns.length cap, .int .i64 r])) ((X.setCell ⟨b6, 0, none⟩ u0).setCell ⟨b6, 1, none⟩ u1) := by
  have hF := (h.cell (o := 0) hb1 hb2 u0).cell (o := 1) hb1 hb2 u1
  have hbl : ∀ k, k ≠ b6 → ((X.setCell ⟨b6, 0, none⟩ u0).setCell ⟨b6, 1, none⟩ u1).heap[k]? = X.heap[k]? := fun k hk => (Below.heap_setCell _ _ _ _ hk).trans (Below.heap_setCell _ _ _ _ hk)
  have hgb := h.gl
  have hgc : ∀ q, ((X.setCell ⟨b6, 0, none⟩ u0).setCell ⟨b6, 1, none⟩ u1).cell? ⟨g, q, none⟩ = X.cell? ⟨g, q, none⟩ := fun q => World.cell?_of_block (w := X) (hbl g (by omega))
  obtain ⟨p1, hp1, hr1⟩ := hF.rd
  refine ⟨n, p1, rfl, hp1, hr1, hF.gen hg hj n A2 c2 (by constructor <;> omega) hv (hI.same' (fun k hk => hbl k (by have := hA k hk; omega))) h64 hl (fun k hk => by have := hA k hk; have := h.le; omega) ((hgc _).trans c0) ((hgc _).trans c1) ((hgc _).trans c2'), hk0, hk5, hsv, ⟨hF.os, hF.tape, hF.output, Nat.le_trans hF.le hF.size, hF.block⟩, hF.far, fun B2 k d hc b hb => ?_⟩
  have e := ((hgc _).trans c2').symm.trans hc
  injection e with e
  injection e with e _ _
  have := hA b (by rw [e]; exact hb)
  have := h.le
  omega
theorem AddS.kx {w wr : World} {rb B b4 b6 b7 g cap nb cb len at_ : Nat} {A : Option Addr} {r kd vd : Int} {P : Nat} {K : List Int} {An : Option Addr} {cn : Nat} {ns : List Nd} (h : AddS w wr rb B b4 b6 b7 g cap nb cb len A r kd vd P K An cn) (hg : GenG w g rb cap ns) (hrg : rb < g) : KX w wr rb B g cap at_ nb cb A P K An cn := by
  have hgl := hg.lt
  have hb := h.grew.block g hgl (by omega)
  have n1 := h.n1
  have n2 := h.n2
  have n3 := h.n3
  have n4 := h.n4
  obtain ⟨f, hf⟩ := hg.row
  exact ⟨h.rd, h.grew.os, h.grew.tape, h.grew.output, h.size, by omega, fun k hk a _ => h.grew.block k hk a, fun q _ => World.cell?_of_block (w := w) hb, ⟨f, hf.of_block hb⟩, h.own, hrg, hgl⟩
set_option maxRecDepth 100000 in
set_option maxHeartbeats 4000000 in
theorem addKids_any (rb : Nat) (A : Option Addr) (nb cb p g cap at_ : Nat) (r kd vd : Int) (ns : List Nd) (w : World) (h : Rd w rb A nb cb p) (hp : p < 800000) (hg : GenG w g rb cap ns) (hrg : rb < g) (hat : ns[at_]? = some ⟨kd, vd, []⟩) (hkd0 : 0 ≤ kd) (hkd5 : kd ≤ 5)
    (hnil : w.cell? ⟨g, at_ * 3 + 2, none⟩ = some (.slice none 0 0)) :
    Calls Tryd.prog 40 #[.pointer (some ⟨rb, 0, none⟩), .agg #[.slice (some ⟨g, 0, none⟩) ns.length cap, .int .i64 r], .int .i64 (at_ : Int)] w (Kidded rb A nb cb p g cap at_ r ns w) := by
  have hrlt := h.box.lt
  have hglt := hg.lt
  have hfew := hg.few
  have hatl : at_ < ns.length := (List.getElem?_eq_some_iff.1 hat).1
  have hat1 : (0 : Int) ≤ (at_ : Int) := by omega
  have hat2 : (at_ : Int) < (ns.length : Int) := by omega
  have hnd := hg.nd at_ _ hat
  have n0 := hnd.kind
  have n1 := hnd.value
  have Hat := hide hat
  have Hnd := hide hnd
  have H := hide h
  have Hg := hide hg
  clear h hg hat hnd
  go_enter Tryd.func40, Tryd.ntmps40
  go_wp2_with fail
  have hB : Below w.heap.size w ((((w.alloc (.cells #[.slice (some ⟨g, 0, none⟩) ns.length cap, .int .i64 r] 49)).alloc (.cells #[.slice none 0 0, .int .i64 0] 49)).alloc (.cells #[.int .i64 kd, .int .i64 vd, .slice none 0 0] 73)).alloc
    (.cells #[.int .i64 2, .int .i64 1, .int .i64 3, .int .i64 0, .int .i64 4] 3)) := ((((Below.refl _ w).alloc (Nat.le_refl _) _).alloc (by simp) _).alloc (by simp; omega) _).alloc (by simp; omega) _
  have l4 := (((Lies.new w #[.slice (some ⟨g, 0, none⟩) ns.length cap, .int .i64 r] 49).alloc (.cells #[.slice none 0 0, .int .i64 0] 49)).alloc (.cells #[.int .i64 kd, .int .i64 vd, .slice none 0 0] 73)).alloc (.cells #[.int .i64 2, .int .i64 1, .int .i64 3, .int .i64 0, .int .i64 4] 3)
  have l6 := ((Lies.new (w.alloc (.cells #[.slice (some ⟨g, 0, none⟩) ns.length cap, .int .i64 r] 49)) #[.slice none 0 0, .int .i64 0] 49).alloc (.cells #[.int .i64 kd, .int .i64 vd, .slice none 0 0] 73)).alloc (.cells #[.int .i64 2, .int .i64 1, .int .i64 3, .int .i64 0, .int .i64 4] 3)
  have l7 := (Lies.new ((w.alloc (.cells #[.slice (some ⟨g, 0, none⟩) ns.length cap, .int .i64 r] 49)).alloc (.cells #[.slice none 0 0, .int .i64 0] 49)) #[.int .i64 kd, .int .i64 vd, .slice none 0 0] 73).alloc (.cells #[.int .i64 2, .int .i64 1, .int .i64 3, .int .i64 0, .int .i64 4] 3)
  have lA := Lies.new (((w.alloc (.cells #[.slice (some ⟨g, 0, none⟩) ns.length cap, .int .i64 r] 49)).alloc (.cells #[.slice none 0 0, .int .i64 0] 49)).alloc (.cells #[.int .i64 kd, .int .i64 vd, .slice none 0 0] 73)) #[.int .i64 2, .int .i64 1, .int .i64 3, .int .i64 0, .int .i64 4] 3
  simp only [World.size_alloc] at l6 l7 lA
  generalize hWd : (((w.alloc (.cells #[.slice (some ⟨g, 0, none⟩) ns.length cap, .int .i64 r] 49)).alloc (.cells #[.slice none 0 0, .int .i64 0] 49)).alloc (.cells #[.int .i64 kd, .int .i64 vd, .slice none 0 0] 73)).alloc
    (.cells #[.int .i64 2, .int .i64 1, .int .i64 3, .int .i64 0, .int .i64 4] 3) = W at hB l4 l6 l7 lA ⊢
  have hWs : Hid (W.heap.size = w.heap.size + 1 + 1 + 1 + 1) := by show _ = _; rw [← hWd]; simp
  have Hnil := hide hnil
  have Hnil := hide hnil
  have Hnil := hide hnil
  clear hWd n0 n1 hnil
  have hrW := H.out.below hB
  refine (one_any rb A nb cb p (w.heap.size + 1 + 1 + 1) 5 5 [2, 1, 3, 0, 4] W hrW (by omega) rfl (by omega) (by omega) (by omega) (fun k z hz => by
    have := lA.cell k
    rw [this]
    match k, hz with
    | 0, hz => simpa using hz
    | 1, hz => simpa using hz
    | 2, hz => simpa using hz
    | 3, hz => simpa using hz
    | 4, hz => simpa using hz
    | k + 5, hz => simp at hz)).mono ?_
  rintro e w1 ⟨⟨x, hx, rfl⟩, hr1, ht1⟩
  obtain ⟨xn, rfl, hxn⟩ : ∃ xn : Nat, x = (xn : Int) ∧ xn ≤ 4 := by
    simp at hx
    rcases hx with rfl | rfl | rfl | rfl | rfl
    · exact ⟨2, rfl, by omega⟩
    · exact ⟨1, rfl, by omega⟩
    · exact ⟨3, rfl, by omega⟩
    · exact ⟨0, rfl, by omega⟩
    · exact ⟨4, rfl, by omega⟩
  have hS0 : AddS w W rb W.heap.size w.heap.size (w.heap.size + 1) (w.heap.size + 1 + 1) g cap nb cb ns.length A r kd vd p [] none 0 :=
    ⟨⟨p, Nat.le_refl _, hrW⟩, Grew.of_below hB, l4, l6, l7, OwnI.empty _ _, (fun z hz => by cases hz), Nat.le_refl _, Nat.le_refl _, by omega, by omega, by have := hWs.out; omega, hrlt⟩
  have HS1 := hide (hS0.turn ht1 hr1 (show p + 1 ≤ p + 9 - 2 * xn by omega))
  clear hS0 ht1 hr1 hrW l4 l6 l7 lA hx hB
  generalize hBd : W.heap.size = B at HS1
  have hBs : Hid (B = w.heap.size + 1 + 1 + 1 + 1) := by show _ = _; rw [← hBd]; exact hWs.out
  clear hBd hWs
  go_wp2_with fail
  go_loopw [8] (fun kv wr => ∃ (k : Nat) (K : List Int) (An : Option Addr) (cn : Nat), k ≤ 4 ∧ K.length + 2 * k ≤ 8 ∧ kv = .int .i64 k ∧ AddS w wr rb B w.heap.size (w.heap.size + 1) (w.heap.size + 1 + 1) g cap nb cb ns.length A r kd vd (p + 9 - 2 * k) K An cn) (fun kv _ => (intOf kv).toNat)
  case atStart => exact ⟨xn, [], none, 0, hxn, by simp; omega, rfl, HS1.out⟩
  case round =>
    clear HS1
    obtain ⟨k, K, An, cn, hk4, hKl, rfl, hS⟩ := hrel
    have e0 := hS.l4.cell 0
    have e1 := hS.l4.cell 1
    have m0 := hS.l7.cell 0
    have m1 := hS.l7.cell 1
    have m2 := hS.l7.cell 2
    simp at e0 e1 m0 m1 m2
    have HS := hide hS
    by_cases hk0 : k = 0
    · subst hk0
      have hgw := Hg.out.grew hS.grew
      have hndr := hgw.nd at_ _ Hat.out
      have hgl : g < wr.heap.size := hgw.lt
      have hbg := hS.grew.block g hglt (by omega)
      have q0 := hndr.kind
      have q1 := hndr.value
      have q2 : wr.cell? ⟨g, at_ * 3 + 2, none⟩ = some (.slice none 0 0) := (World.cell?_of_block (w := w) hbg).trans Hnil.out
      obtain ⟨fw, hfw⟩ := hgw.row
      have hcap := hgw.le
      have g0 := World.rowIs.frozen hfw (at_ * 3)
      have g1 := World.rowIs.frozen hfw (at_ * 3 + 1)
      have g2 := World.rowIs.frozen hfw (at_ * 3 + 2)
      have hinn := hide hS.inn
      have hn1 := hS.n1
      have hn2 := hS.n2
      have hn3 := hS.n3
      have hn4 := hS.n4
      have hsB := hS.size
      have hvIn := hide Hnd.out.wfv
      have hlt4 : w.heap.size < wr.heap.size := by omega
      have hlt6 : w.heap.size + 1 < wr.heap.size := by omega
      have hlt7 : w.heap.size + 1 + 1 < wr.heap.size := by omega
      have l4p : Lies (put3 wr g at_ (.int .i64 kd) (.int .i64 vd) (.slice An K.length cn)) w.heap.size _ _ := (put3_block (by omega)).trans hS.l4
      have l6p : Lies (put3 wr g at_ (.int .i64 kd) (.int .i64 vd) (.slice An K.length cn)) (w.heap.size + 1) _ _ := (put3_block (by omega)).trans hS.l6
      have hKp := (hS.kx (at_ := at_) Hg.out hrg).put (.int .i64 kd) (.int .i64 vd) (.slice An K.length cn)
      have hcp := put3_at (j := at_) hfw (by omega) (.int .i64 kd) (.int .i64 vd) (.slice An K.length cn)
      have hbA : Below (put3 wr g at_ (.int .i64 kd) (.int .i64 vd) (.slice An K.length cn)).heap.size (put3 wr g at_ (.int .i64 kd) (.int .i64 vd) (.slice An K.length cn)) ((((wr.setCell ⟨g, at_ * 3, none⟩ (.int .i64 kd)).setCell ⟨g, at_ * 3 + 1, none⟩ (.int .i64 vd)).setCell ⟨g, at_ * 3 + 2, none⟩ (.slice An K.length cn)).alloc (.cells #[.int .i64 kd, .int .i64 vd, .slice none 0 0] 73)) := (Below.refl _ _).alloc (Nat.le_refl _) _
      have hgp : g < (put3 wr g at_ (.int .i64 kd) (.int .i64 vd) (.slice An K.length cn)).heap.size := by rw [put3_size]; exact hgl
      have l4x : Lies ((((wr.setCell ⟨g, at_ * 3, none⟩ (.int .i64 kd)).setCell ⟨g, at_ * 3 + 1, none⟩ (.int .i64 vd)).setCell ⟨g, at_ * 3 + 2, none⟩ (.slice An K.length cn)).alloc (.cells #[.int .i64 kd, .int .i64 vd, .slice none 0 0] 73)) w.heap.size _ _ := l4p.below hbA l4p.lt
      have l6x : Lies ((((wr.setCell ⟨g, at_ * 3, none⟩ (.int .i64 kd)).setCell ⟨g, at_ * 3 + 1, none⟩ (.int .i64 vd)).setCell ⟨g, at_ * 3 + 2, none⟩ (.slice An K.length cn)).alloc (.cells #[.int .i64 kd, .int .i64 vd, .slice none 0 0] 73)) (w.heap.size + 1) _ _ := l6p.below hbA l6p.lt
      have lox : Lies ((((wr.setCell ⟨g, at_ * 3, none⟩ (.int .i64 kd)).setCell ⟨g, at_ * 3 + 1, none⟩ (.int .i64 vd)).setCell ⟨g, at_ * 3 + 2, none⟩ (.slice An K.length cn)).alloc (.cells #[.int .i64 kd, .int .i64 vd, .slice none 0 0] 73)) wr.heap.size #[.int .i64 kd, .int .i64 vd, .slice none 0 0] 73 := by
        have := Lies.new (put3 wr g at_ (.int .i64 kd) (.int .i64 vd) (.slice An K.length cn)) #[.int .i64 kd, .int .i64 vd, .slice none 0 0] 73
        rw [put3_size] at this
        exact this
      have hKx : KX w ((((wr.setCell ⟨g, at_ * 3, none⟩ (.int .i64 kd)).setCell ⟨g, at_ * 3 + 1, none⟩ (.int .i64 vd)).setCell ⟨g, at_ * 3 + 2, none⟩ (.slice An K.length cn)).alloc (.cells #[.int .i64 kd, .int .i64 vd, .slice none 0 0] 73)) rb B g cap at_ nb cb A (p + 9) K An cn := hKp.later hbA
      have x0 : ((((wr.setCell ⟨g, at_ * 3, none⟩ (.int .i64 kd)).setCell ⟨g, at_ * 3 + 1, none⟩ (.int .i64 vd)).setCell ⟨g, at_ * 3 + 2, none⟩ (.slice An K.length cn)).alloc (.cells #[.int .i64 kd, .int .i64 vd, .slice none 0 0] 73)).cell? ⟨g, at_ * 3, none⟩ = some (.int .i64 kd) := (hbA.cell hgp).trans hcp.1
      have x1 : ((((wr.setCell ⟨g, at_ * 3, none⟩ (.int .i64 kd)).setCell ⟨g, at_ * 3 + 1, none⟩ (.int .i64 vd)).setCell ⟨g, at_ * 3 + 2, none⟩ (.slice An K.length cn)).alloc (.cells #[.int .i64 kd, .int .i64 vd, .slice none 0 0] 73)).cell? ⟨g, at_ * 3 + 1, none⟩ = some (.int .i64 vd) := (hbA.cell hgp).trans hcp.2.1
      have x2 : ((((wr.setCell ⟨g, at_ * 3, none⟩ (.int .i64 kd)).setCell ⟨g, at_ * 3 + 1, none⟩ (.int .i64 vd)).setCell ⟨g, at_ * 3 + 2, none⟩ (.slice An K.length cn)).alloc (.cells #[.int .i64 kd, .int .i64 vd, .slice none 0 0] 73)).cell? ⟨g, at_ * 3 + 2, none⟩ = some (.slice An K.length cn) := (hbA.cell hgp).trans hcp.2.2
      have z0 := l4x.cell 0
      have z1 := l4x.cell 1
      simp only [jD, jE, jF] at z0 z1
      have HKx := hide hKx
      clear hKx hbA hKp hcp l4p l6p HS hgw hndr hbg hfw
      go_wp2_with fail
      generalize ((((wr.setCell ⟨g, at_ * 3, none⟩ (.int .i64 kd)).setCell ⟨g, at_ * 3 + 1, none⟩ (.int .i64 vd)).setCell ⟨g, at_ * 3 + 2, none⟩ (.slice An K.length cn)).alloc (.cells #[.int .i64 kd, .int .i64 vd, .slice none 0 0] 73)) = X at HKx l4x l6x lox x0 x1 x2 ⊢
      have hn1' := HKx.out.gl
      have hn2' := HKx.out.le
      have hn3' := HKx.out.size
      have hgX : g < X.heap.size := by omega
      have hBlk : Hid (∀ q, blockOf An = some q → B ≤ q) := fun q hq => (HKx.out.own.blocks q hq).1
      have hI : OwnI X 0 An cn K := HKx.out.own.mono (Nat.zero_le _)
      have H64 : Hid (∀ z ∈ K, In64 z) := fun z hz => by have := hinn.out z hz; constructor <;> omega
      have hkIn : In64 kd := by constructor <;> omega
      have hgen := HKx.out.gen Hg.out hatl ⟨kd, vd, K⟩ An cn hkIn hvIn.out hI H64.out (by show K.length ≤ 1000; omega) (fun k hk => by have := hBlk.out k hk; omega) x0 x1 x2
      have hcall := specValidGraph_any (some ⟨g, 0, none⟩) (ns.set at_ ⟨kd, vd, K⟩) cap r X hgen.nds
      rw [List.length_set] at hcall
      have HkIn := hide hkIn
      clear hgen q0 q1 q2 g0 g1 g2 z0 z1 m0 m1 m2 e0 e1 hkIn
      refine hcall.mono ?_
      rintro e w7 ⟨rfl, hb7⟩
      clear hcall
      generalize hVd : tf (ValidG (ns.set at_ ⟨kd, vd, K⟩) r) = V
      have HVd := hide hVd
      clear hVd
      have hK7 := HKx.out.later hb7
      have l4y := l4x.below hb7 l4x.lt
      have l6y := l6x.below hb7 l6x.lt
      have loy := lox.below hb7 lox.lt
      have y0 := (hb7.cell (p := ⟨g, at_ * 3, none⟩) hgX).trans x0
      have y1 := (hb7.cell (p := ⟨g, at_ * 3 + 1, none⟩) hgX).trans x1
      have y2 := (hb7.cell (p := ⟨g, at_ * 3 + 2, none⟩) hgX).trans x2
      have hI7 := hI.below hb7
      have hsz7 := hb7.size
      obtain ⟨fy, hfy⟩ := hK7.row
      have a0 := l4y.cell 0
      have a1 := l4y.cell 1
      have b0 := l6y.cell 0
      have b1 := l6y.cell 1
      have c0 := l6y.frozen 0
      have c1 := l6y.frozen 1
      simp at a0 a1 b0 b1
      have HK7 := hide hK7
      have HI7 := hide hI7
      clear l4x l6x lox x0 x1 x2 hI HKx hb7 hK7 hI7
      cases V
      · have hpat := put3_at (j := at_) hfy (by omega) (.int .i64 kd) (.int .i64 vd) (.slice none 0 0)
        have d0 := loy.cell 0
        have d1 := loy.cell 1
        have d2 := loy.cell 2
        simp at d0 d1 d2
        have g0 := World.rowIs.frozen hfy (at_ * 3)
        have g1 := World.rowIs.frozen hfy (at_ * 3 + 1)
        have g2 := World.rowIs.frozen hfy (at_ * 3 + 2)
        have l4z : Lies (((w7.setCell ⟨g, at_ * 3, none⟩ (.int .i64 kd)).setCell ⟨g, at_ * 3 + 1, none⟩ (.int .i64 vd)).setCell ⟨g, at_ * 3 + 2, none⟩ (.slice none 0 0)) w.heap.size _ _ := (put3_block (by omega)).trans l4y
        have l6z : Lies (((w7.setCell ⟨g, at_ * 3, none⟩ (.int .i64 kd)).setCell ⟨g, at_ * 3 + 1, none⟩ (.int .i64 vd)).setCell ⟨g, at_ * 3 + 2, none⟩ (.slice none 0 0)) (w.heap.size + 1) _ _ := (put3_block (by omega)).trans l6y
        have t0 := l4z.cell 0
        have t1 := l4z.cell 1
        have u0 := l6z.cell 0
        have u1 := l6z.cell 1
        have v0 := l6z.frozen 0
        have v1 := l6z.frozen 1
        simp only [jD, jE, jF] at t0 t1 u0 u1
        have l6f := (l6z.set 0 (.slice (some ⟨g, 0, none⟩) ns.length cap)).set 1 (.int .i64 r)
        simp only [jA, jC, jB] at l6f
        have s0 := l6f.cell 0
        have s1 := l6f.cell 1
        simp only [jD, jE, jF] at s0 s1
        have hfin : Hid (Kidded rb A nb cb p g cap at_ r ns w (.returned (.agg #[.slice (some ⟨g, 0, none⟩) ns.length cap, .int .i64 r])) (((((w7.setCell ⟨g, at_ * 3, none⟩ (.int .i64 kd)).setCell ⟨g, at_ * 3 + 1, none⟩ (.int .i64 vd)).setCell ⟨g, at_ * 3 + 2, none⟩ (.slice none 0 0)).setCell ⟨w.heap.size + 1, 0, none⟩ (.slice (some ⟨g, 0, none⟩) ns.length cap)).setCell ⟨w.heap.size + 1, 1, none⟩ (.int .i64 r))) :=
          (HK7.out.put (.int .i64 kd) (.int .i64 vd) (.slice none 0 0)).done Hg.out hatl (by omega) (by omega) ⟨kd, vd, []⟩ none 0 hkd0 hkd5 (Or.inl (set_same Hat.out)) hvIn.out (OwnI.empty _ _) (fun x hx => by cases hx) (by show (0 : Nat) ≤ _; omega) (fun k hk => by cases hk) hpat.1 hpat.2.1 hpat.2.2 _ _
        clear hpat HK7 HI7 hfy l4z l6z l6f l4y l6y loy
        go_wp2
        refine bodyPost_ret (v := .agg #[.slice (some ⟨g, 0, none⟩) ns.length cap, .int .i64 r]) (by simp [results, Tryd.results40, go_sem, s0, s1]) rfl ?_
        exact hfin.out
      · have l6f := (l6y.set 0 (.slice (some ⟨g, 0, none⟩) ns.length cap)).set 1 (.int .i64 r)
        simp only [jA, jC, jB] at l6f
        have s0 := l6f.cell 0
        have s1 := l6f.cell 1
        simp only [jD, jE, jF] at s0 s1
        have hfin : Hid (Kidded rb A nb cb p g cap at_ r ns w (.returned (.agg #[.slice (some ⟨g, 0, none⟩) ns.length cap, .int .i64 r])) ((w7.setCell ⟨w.heap.size + 1, 0, none⟩ (.slice (some ⟨g, 0, none⟩) ns.length cap)).setCell ⟨w.heap.size + 1, 1, none⟩ (.int .i64 r))) :=
          HK7.out.done Hg.out hatl (by omega) (by omega) ⟨kd, vd, K⟩ An cn hkd0 hkd5 (Or.inr (tf_yes HVd.out)) hvIn.out HI7.out H64.out (by show K.length ≤ 1000; omega) hBlk.out y0 y1 y2 _ _
        clear HK7 HI7 hfy l6f l4y l6y loy
        go_wp2
        refine bodyPost_ret (v := .agg #[.slice (some ⟨g, 0, none⟩) ns.length cap, .int .i64 r]) (by simp [results, Tryd.results40, go_sem, s0, s1]) rfl ?_
        exact hfin.out
    · have hkp : (0 : Int) < (k : Int) := by omega
      obtain ⟨p1, hp1, hr1⟩ := hS.rd
      clear hS
      go_wp2_with fail
      refine (pick_any rb A nb cb p1 (ns.length : Int) wr hr1 (by omega) (by omega)).mono ?_
      rintro e w5 ⟨⟨y, rfl, hy, _⟩, hr5, ht5⟩
      have hyl : (y : Int) < (ns.length : Int) := hy (by omega)
      have hy0 : (0 : Int) ≤ (y : Int) := by omega
      have hyIn : In64 (y : Int) := by constructor <;> omega
      have hS5 := HS.out.turn (P' := p + 10 - 2 * k) ht5 hr5 (by omega)
      have e0 := hS5.l4.cell 0
      have e1 := hS5.l4.cell 1
      have m0 := hS5.l7.cell 0
      have m1 := hS5.l7.cell 1
      have m2 := hS5.l7.cell 2
      have f2 := hS5.l7.frozen 2
      simp at e0 e1 m0 m1 m2
      have HS5 := hide hS5
      clear hS5 HS ht5 hr5 hr1 hy
      by_cases h23 : kd = 2 ∨ kd = 3
      · rcases h23 with rfl | rfl
        · skip
          have hI := IntsAt.one w5 (y : Int) hyIn
          have hS6 := hide (HS5.out.later (w5 := w5.alloc (.cells #[.int .i64 (y : Int)] 3)) ((Below.refl w5.heap.size w5).alloc (Nat.le_refl _) _))
          have hown := HS5.out.own
          have hb7 : w.heap.size + 1 + 1 < w5.heap.size := HS5.out.l7.lt
          have hb7B := HS5.out.n4
          have hB5 := HS5.out.size
          have HbA : Hid (∀ g, blockOf An = some g → B ≤ g ∧ g < w5.heap.size) := HS5.out.own.blocks
          have s2a := hS6.out.l7.cell 2
          have s2f := hS6.out.l7.frozen 2
          simp only [jD, jE, jF] at s2a
          have Hyl := hide hyl
          have HI := hide hI
          clear hI
          go_wp2_with (at_builtin; refine append_ints rfl (.tmp 34) (.tmp 36) rfl B An cn K rfl (hown.alloc _) _ _ 1 [(y : Int)] rfl (fun e => by cases e) HI.out (by simp; omega) (by simp; omega) ?_; intro zs A' c' w6 hz hown6 hg6 hat6; have s1 : w6.cell? ⟨w.heap.size + 1 + 1, 2, none⟩ = some (.slice An K.length cn) := (hg6.cell_far _ (by simp; omega) (fun e => by have : B ≤ w.heap.size + 1 + 1 := (HbA.out _ e.symm).1; omega)).trans s2a; have s2 : w6.frozen? ⟨w.heap.size + 1 + 1, 2, none⟩ = false := (hg6.frozen_far _ (by simp; omega) (fun e => by have : B ≤ w.heap.size + 1 + 1 := (HbA.out _ e.symm).1; omega)).trans s2f)
          have hfin := hide ((hS6.out.app hg6 hown6 (fun z hzm => by
            rw [hz.out] at hzm
            rcases List.mem_append.1 hzm with h | h
            · exact HS5.out.inn z h
            · simp at h; subst h; exact ⟨hy0, Hyl.out⟩)).more (P' := p + 9 - 2 * (k - 1)) (by omega))
          have hzl : zs.length = K.length + 1 := by rw [hz.out]; simp
          clear s1 s2 hown6 hg6 hat6 s2a s2f hown
          go_wp2
          go_roundw
          case rel => exact ⟨k - 1, zs, A', c', by omega, by omega, by go_num, hfin.out⟩
          case measure => simp [intOf]; omega
        · skip
          have hI := IntsAt.one w5 (y : Int) hyIn
          have hS6 := hide (HS5.out.later (w5 := w5.alloc (.cells #[.int .i64 (y : Int)] 3)) ((Below.refl w5.heap.size w5).alloc (Nat.le_refl _) _))
          have hown := HS5.out.own
          have hb7 : w.heap.size + 1 + 1 < w5.heap.size := HS5.out.l7.lt
          have hb7B := HS5.out.n4
          have hB5 := HS5.out.size
          have HbA : Hid (∀ g, blockOf An = some g → B ≤ g ∧ g < w5.heap.size) := HS5.out.own.blocks
          have s2a := hS6.out.l7.cell 2
          have s2f := hS6.out.l7.frozen 2
          simp only [jD, jE, jF] at s2a
          have Hyl := hide hyl
          have HI := hide hI
          clear hI
          go_wp2_with (at_builtin; refine append_ints rfl (.tmp 34) (.tmp 36) rfl B An cn K rfl (hown.alloc _) _ _ 1 [(y : Int)] rfl (fun e => by cases e) HI.out (by simp; omega) (by simp; omega) ?_; intro zs A' c' w6 hz hown6 hg6 hat6; have s1 : w6.cell? ⟨w.heap.size + 1 + 1, 2, none⟩ = some (.slice An K.length cn) := (hg6.cell_far _ (by simp; omega) (fun e => by have : B ≤ w.heap.size + 1 + 1 := (HbA.out _ e.symm).1; omega)).trans s2a; have s2 : w6.frozen? ⟨w.heap.size + 1 + 1, 2, none⟩ = false := (hg6.frozen_far _ (by simp; omega) (fun e => by have : B ≤ w.heap.size + 1 + 1 := (HbA.out _ e.symm).1; omega)).trans s2f)
          have hfin := hide ((hS6.out.app hg6 hown6 (fun z hzm => by
            rw [hz.out] at hzm
            rcases List.mem_append.1 hzm with h | h
            · exact HS5.out.inn z h
            · simp at h; subst h; exact ⟨hy0, Hyl.out⟩)).more (P' := p + 9 - 2 * (k - 1)) (by omega))
          have hzl : zs.length = K.length + 1 := by rw [hz.out]; simp
          clear s1 s2 hown6 hg6 hat6 s2a s2f hown
          go_wp2
          go_roundw
          case rel => exact ⟨k - 1, zs, A', c', by omega, by omega, by go_num, hfin.out⟩
          case measure => simp [intOf]; omega
      · by_cases h5 : kd = 5
        · subst h5
          have hI := IntsAt.one w5 (y : Int) hyIn
          have hS6 := hide (HS5.out.later (w5 := w5.alloc (.cells #[.int .i64 (y : Int)] 3)) ((Below.refl w5.heap.size w5).alloc (Nat.le_refl _) _))
          have hown := HS5.out.own
          have hb7 : w.heap.size + 1 + 1 < w5.heap.size := HS5.out.l7.lt
          have hb7B := HS5.out.n4
          have hB5 := HS5.out.size
          have HbA : Hid (∀ g, blockOf An = some g → B ≤ g ∧ g < w5.heap.size) := HS5.out.own.blocks
          have s2a := hS6.out.l7.cell 2
          have s2f := hS6.out.l7.frozen 2
          simp only [jD, jE, jF] at s2a
          have Hyl := hide hyl
          have hfin0 := (hS6.out.app (World.grownBy.refl _ _) (OwnI.one w5 B (y : Int) hB5) (fun z hzm => by
            simp at hzm; subst hzm; exact ⟨hy0, Hyl.out⟩)).more (P' := p + 9 - 2 * (k - 1)) (by omega)
          rw [World.setCell_alloc_past _ _ _ _ hb7] at hfin0
          have hfin := hide hfin0
          clear hfin0
          clear hI hown HbA
          go_wp2
          go_roundw
          case rel => exact ⟨k - 1, [(y : Int)], _, _, by omega, by simp; omega, by go_num, hfin.out⟩
          case measure => simp [intOf]; omega
        · by_cases h4 : kd = 4
          · subst h4
            have hg5 := Hg.out.grew HS5.out.grew
            obtain ⟨m, hmy⟩ : ∃ m, ns[y]? = some m := ⟨_, List.getElem?_eq_getElem (by omega)⟩
            have hnm := hg5.nd y m hmy
            obtain ⟨Am, cm, k2, _, _, _, _, _⟩ := hnm.kids
            have k0 := hnm.kind
            have k1 := hnm.value
            clear hg5 hnm hmy
            by_cases hK6 : K.length < 6
            · have hK6' : (K.length : Int) < 6 := by omega
              go_wp2_with fail
              refine (isKey_any (.slice Am m.kids.length cm) m w5).mono ?_
              rintro e w6 ⟨rfl, hb6⟩
              have hS6 := HS5.out.later hb6
              clear k0 k1 k2 e0 e1 m0 m1 m2 f2 hb6
              have e0 := hS6.l4.cell 0
              have e1 := hS6.l4.cell 1
              have m0 := hS6.l7.cell 0
              have m1 := hS6.l7.cell 1
              have m2 := hS6.l7.cell 2
              simp at e0 e1 m0 m1 m2
              have HS6 := hide hS6
              by_cases hkey : IsKey m
              · rw [tf_true hkey]
                obtain ⟨p2, hp2, hr2⟩ := hS6.rd
                have hr2d := hr2.drew
                have HS6d : Hid (AddS w w6.drew rb B w.heap.size (w.heap.size + 1) (w.heap.size + 1 + 1) g cap nb cb ns.length A r 4 vd (p + 10 - 2 * k) K An cn) := HS6.out.later (Below.refl _ _).drew
                have hpk := hide (fun X : World => fun h : Rd X rb A nb cb p2 => pick_any rb A nb cb p2 (ns.length : Int) X h (by omega) (by omega))
                have hn4 := HS6.out.n4
                have hsB := HS6.out.size
                have HyI := hide hyIn
                clear hS6 hkey hr2 hyIn
                go_wp2_with fail
                go_region_law (first
                  | (go_simp; go_at_call 19; refine (hpk.out _ hr2d).mono ?_; rintro e w7 ⟨⟨y2, rfl, hy2, _⟩, hr7, ht7⟩; dsimp only
                     have S7 := HS6d.out.turn (P' := p + 11 - 2 * k) ht7 hr7 (by omega)
                     have z0 := S7.l4.cell 0; have z1 := S7.l4.cell 1; have j0 := S7.l7.cell 0; have j1 := S7.l7.cell 1; have j2 := S7.l7.cell 2
                     have hl7 := S7.l7.lt; have hl4 := S7.l4.lt; have hs7 := S7.size
                     simp at z0 z1 j0 j1 j2
                     have HS7 := hide S7
                     have Hy2 := hide hy2
                     clear S7 hy2 ht7 hr7)
                  | (refine step_append_ints (by rfl) _ _ (by rfl) B An cn K (by rfl) (HS7.out.own.alloc _) ⟨w7.heap.size, 0, none⟩ 2 [(y : Int), (y2 : Int)] (by simp) (by rfl) (by simpa using IntsAt.lit w7 [(y : Int), (y2 : Int)] (by intro z hz; simp at hz; rcases hz with rfl | rfl; exact HyI.out; (have := Hy2.out (by omega)); constructor <;> omega) (by simp)) (by simp; omega) (by simp; omega) ?_; intro zs A' c' w8 hz hown8 hg8 hat8
                     have s1 : w8.cell? ⟨w.heap.size + 1 + 1, 2, none⟩ = some (.slice An K.length cn) := (hg8.cell_far _ (by simp; omega) (fun e => by have : B ≤ w.heap.size + 1 + 1 := (HS7.out.own.blocks _ e.symm).1; omega)).trans (((HS7.out.l7.alloc _).cell 2).trans (by simp))
                     have s2 : w8.frozen? ⟨w.heap.size + 1 + 1, 2, none⟩ = false := (hg8.frozen_far _ (by simp; omega) (fun e => by have : B ≤ w.heap.size + 1 + 1 := (HS7.out.own.blocks _ e.symm).1; omega)).trans ((HS7.out.l7.alloc _).frozen 2)))
                all_goals
                  have hzl : Hid (zs.length = K.length + 2) := by show _ = _; rw [hz.out]; simp
                  have hfin := hide (((HS7.out.later ((Below.refl w7.heap.size w7).alloc (Nat.le_refl _) (.cells #[.int .i64 (y : Int), .int .i64 (y2 : Int)] 3))).app hg8 hown8 (fun z hzm => by
                    rw [hz.out] at hzm
                    rcases List.mem_append.1 hzm with h | h
                    · exact HS7.out.inn z h
                    · have := Hy2.out (by omega)
                      simp at h
                      rcases h with rfl | rfl <;> omega)).more (P' := p + 9 - 2 * (k - 1)) (by omega))
                  clear s1 s2 hown8 hg8 hat8 z0 z1 j0 j1 j2 e0 e1 m0 m1 m2
                  go_wp2
                  go_roundw
                  case rel => exact ⟨k - 1, zs, A', c', by omega, by have := hzl.out; omega, by go_num, hfin.out⟩
                  case measure => simp [intOf]; omega
              · rw [tf_false hkey]
                clear hS6 hkey
                go_wp2
                go_roundw
                case rel => exact ⟨k - 1, K, An, cn, by omega, by omega, by go_num, HS6.out.more (by omega)⟩
                case measure => simp [intOf]; omega
            · have hK6' : ¬ (K.length : Int) < 6 := by omega
              clear k0 k1 k2
              go_wp2
              go_roundw
              case rel => exact ⟨k - 1, K, An, cn, by omega, by omega, by go_num, HS5.out.more (by omega)⟩
              case measure => simp [intOf]; omega
          · have t2 : (kd == 2) = false := by simp; omega
            have t3 : (kd == 3) = false := by simp; omega
            have t4 : (kd == 4) = false := by simp; omega
            have t5 : (kd == 5) = false := by simp; omega
            go_wp2
            go_roundw
            case rel => exact ⟨k - 1, K, An, cn, by omega, by omega, by go_num, HS5.out.more (by omega)⟩
            case measure => simp [intOf]; omega
end Go.Proofs.YtbihgafkmmcjlaaDoor
