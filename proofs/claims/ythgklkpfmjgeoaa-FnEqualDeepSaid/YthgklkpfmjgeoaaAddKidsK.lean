/-
  The generator's addKids, at any node of a graph whose rows are all apart.
-/
import Derived.Test.YthgklkpfmjgeoaaAddKids
import Derived.Test.YthgklkpfmjgeoaaPjAg
namespace Go.Proofs.Ythgklkpfmjgeoaa
open Go.RowKit
set_option linter.unusedVariables false

/-- old memory is as it was, but for the reader and the row of the old kids -/
structure GrewK (rb : Nat) (A0 : Option Addr) (w w' : World) : Prop where
  os : w'.os = w.os
  tape : w'.tape = w.tape
  output : w'.output = w.output
  size : w.heap.size ≤ w'.heap.size
  block : ∀ k, k < w.heap.size → k ≠ rb → blockOf A0 ≠ some k → w'.heap[k]? = w.heap[k]?

theorem GrewK.of_below {rb : Nat} {A0 : Option Addr} {w w' : World} (h : Below w.heap.size w w') : GrewK rb A0 w w' := ⟨h.os, h.tape, h.output, h.size, fun k hk _ _ => h.block k hk⟩
theorem GrewK.of_turn {rb : Nat} {A0 : Option Addr} {w w' : World} (h : Turn rb w w') : GrewK rb A0 w w' := by
  have hg := Grew.of_turn h
  exact ⟨hg.os, hg.tape, hg.output, hg.size, fun k hk a _ => hg.block k hk a⟩
theorem GrewK.trans {rb : Nat} {A0 : Option Addr} {a b c : World} (h : GrewK rb A0 a b) (k : GrewK rb A0 b c) : GrewK rb A0 a c :=
  ⟨k.os.trans h.os, k.tape.trans h.tape, k.output.trans h.output, Nat.le_trans h.size k.size, fun j hj h1 h2 => (k.block j (Nat.lt_of_lt_of_le hj h.size) h1 h2).trans (h.block j hj h1 h2)⟩

/-- what addKids gives: the graph with kids at one node -/
def KiddedK (rb : Nat) (A : Option Addr) (nb cb p g cap at_ : Nat) (r : Int) (ns : List Nd) (A0 : Option Addr) (w : World) (e : Ending) (w' : World) : Prop :=
  ∃ (n' : Nd) (p' : Nat), e = .returned (.agg #[.slice (some ⟨g, 0, none⟩) ns.length cap, .int .i64 r]) ∧ p' ≤ p + 9 ∧ Rd w' rb A nb cb p' ∧ GenG w' g rb cap (ns.set at_ n') ∧ 0 ≤ n'.kind ∧ n'.kind ≤ 5 ∧ (ns.set at_ n' = ns ∨ ValidG (ns.set at_ n') r) ∧
    w'.os = w.os ∧ w'.tape = w.tape ∧ w'.output = w.output ∧ w.heap.size ≤ w'.heap.size ∧ (∀ k, k < w.heap.size → k ≠ rb → k ≠ g → blockOf A0 ≠ some k → w'.heap[k]? = w.heap[k]?) ∧
    ∀ j, j < ns.length → ∀ (Aq : Option Addr) (kq cq : Nat), w'.cell? ⟨g, j * 3 + 2, none⟩ = some (.slice Aq kq cq) → ∀ b, blockOf Aq = some b → w.heap.size ≤ b ∨ ∃ (i : Nat) (A3 : Option Addr) (k3 c3 : Nat), i < ns.length ∧ w.cell? ⟨g, i * 3 + 2, none⟩ = some (.slice A3 k3 c3) ∧ blockOf A3 = some b

/-- the state of addKids in its loop -/
structure AddK (w wr : World) (rb B b4 b6 b7 g cap nb cb len : Nat) (A : Option Addr) (r kd vd : Int) (P : Nat) (A0 : Option Addr) (c0 : Nat) (K0 : List Int) (K : List Int) (An : Option Addr) (cn : Nat) : Prop where
  rd : ∃ p1, p1 ≤ P ∧ Rd wr rb A nb cb p1
  grew : GrewK rb A0 w wr
  l4 : Lies wr b4 #[.slice (some ⟨g, 0, none⟩) len cap, .int .i64 r] 25
  l6 : Lies wr b6 #[.slice none 0 0, .int .i64 0] 25
  l7 : Lies wr b7 #[.int .i64 kd, .int .i64 vd, .slice An K.length cn] 43
  own : OwnI wr 0 An cn K
  old : OwnI wr 0 A0 c0 K0
  how : (An = A0 ∧ cn = c0 ∧ K0 <+: K) ∨ (∀ b, blockOf An = some b → B ≤ b)
  inn : ∀ z ∈ K, 0 ≤ z ∧ z < (len : Int)
  size : B ≤ wr.heap.size
  n1 : w.heap.size ≤ b4
  n2 : b4 < b6
  n3 : b6 < b7
  n4 : b7 < B
  nr : rb < w.heap.size
  na : ∀ b, blockOf A0 = some b → rb < b ∧ b < w.heap.size

section
variable {w wr : World} {rb B b4 b6 b7 g cap nb cb len : Nat} {A : Option Addr} {r kd vd : Int} {P : Nat} {A0 : Option Addr} {c0 : Nat} {K0 K : List Int} {An : Option Addr} {cn : Nat}

theorem AddK.where_ (h : AddK w wr rb B b4 b6 b7 g cap nb cb len A r kd vd P A0 c0 K0 K An cn) : ∀ b, blockOf An = some b → blockOf A0 = some b ∨ B ≤ b := by
  intro b hb
  rcases h.how with ⟨e, _, _⟩ | h2
  · exact .inl (by rw [← e]; exact hb)
  · exact .inr (h2 b hb)

theorem AddK.ne7 (h : AddK w wr rb B b4 b6 b7 g cap nb cb len A r kd vd P A0 c0 K0 K An cn) : some b7 ≠ blockOf An := by
  intro e
  have n1 := h.n1
  have n2 := h.n2
  have n3 := h.n3
  have n4 := h.n4
  rcases h.where_ b7 e.symm with h2 | h2
  · have := (h.na b7 h2).2
    omega
  · omega

theorem AddK.move (h : AddK w wr rb B b4 b6 b7 g cap nb cb len A r kd vd P A0 c0 K0 K An cn) {w5 : World} {p5 P' : Nat} (hG : GrewK rb A0 wr w5) (hb : ∀ k, k < wr.heap.size → k ≠ rb → w5.heap[k]? = wr.heap[k]?) (hr : Rd w5 rb A nb cb p5) (hp : p5 ≤ P') : AddK w w5 rb B b4 b6 b7 g cap nb cb len A r kd vd P' A0 c0 K0 K An cn := by
  have n1 := h.n1
  have n2 := h.n2
  have n3 := h.n3
  have n4 := h.n4
  have nr := h.nr
  have hs := h.size
  refine ⟨⟨p5, hp, hr⟩, h.grew.trans hG, (hb b4 (by omega) (by omega)).trans h.l4, (hb b6 (by omega) (by omega)).trans h.l6, (hb b7 (by omega) (by omega)).trans h.l7, h.own.same' (fun k hk => hb k (h.own.blocks k hk).2 ?_), h.old.same' (fun k hk => hb k (h.old.blocks k hk).2 ?_), h.how, h.inn, Nat.le_trans hs hG.size, h.n1, h.n2, h.n3, h.n4, h.nr, h.na⟩
  · rcases h.where_ k hk with h2 | h2
    · have := (h.na k h2).1
      omega
    · omega
  · have := (h.na k hk).1
    omega

theorem AddK.turn (h : AddK w wr rb B b4 b6 b7 g cap nb cb len A r kd vd P A0 c0 K0 K An cn) {w5 : World} {p5 P' : Nat} (ht : Turn rb wr w5) (hr : Rd w5 rb A nb cb p5) (hp : p5 ≤ P') : AddK w w5 rb B b4 b6 b7 g cap nb cb len A r kd vd P' A0 c0 K0 K An cn :=
  h.move (GrewK.of_turn ht) (fun k hk a => (Grew.of_turn ht).block k hk a) hr hp

theorem AddK.later (h : AddK w wr rb B b4 b6 b7 g cap nb cb len A r kd vd P A0 c0 K0 K An cn) {w5 : World} (hb : Below wr.heap.size wr w5) : AddK w w5 rb B b4 b6 b7 g cap nb cb len A r kd vd P A0 c0 K0 K An cn := by
  obtain ⟨p1, h1, h2⟩ := h.rd
  exact h.move (GrewK.of_below hb) (fun k hk _ => hb.block k hk) (h2.below hb) h1

theorem AddK.more (h : AddK w wr rb B b4 b6 b7 g cap nb cb len A r kd vd P A0 c0 K0 K An cn) {P' : Nat} (hP : P ≤ P') : AddK w wr rb B b4 b6 b7 g cap nb cb len A r kd vd P' A0 c0 K0 K An cn := by
  obtain ⟨p1, h1, h2⟩ := h.rd
  exact ⟨⟨p1, by omega, h2⟩, h.grew, h.l4, h.l6, h.l7, h.own, h.old, h.how, h.inn, h.size, h.n1, h.n2, h.n3, h.n4, h.nr, h.na⟩

theorem AddK.put (h : AddK w wr rb B b4 b6 b7 g cap nb cb len A r kd vd P A0 c0 K0 K An cn) {w1 : World} {zs : List Int} {A' : Option Addr} {c' : Nat} (h1 : w1.os = wr.os) (h2 : w1.tape = wr.tape) (h3 : w1.output = wr.output) (h4 : wr.heap.size ≤ w1.heap.size) (hold : ∀ k, k < B → blockOf A0 ≠ some k → w1.heap[k]? = wr.heap[k]?)
    (hown : OwnI w1 0 A' c' zs) (hO : OwnI w1 0 A0 c0 K0) (hhow : (A' = A0 ∧ c' = c0 ∧ K0 <+: zs) ∨ (∀ b, blockOf A' = some b → B ≤ b)) (hin : ∀ z ∈ zs, 0 ≤ z ∧ z < (len : Int)) :
    AddK w (w1.setCell ⟨b7, 2, none⟩ (.slice A' zs.length c')) rb B b4 b6 b7 g cap nb cb len A r kd vd P A0 c0 K0 zs A' c' := by
  have n1 := h.n1
  have n2 := h.n2
  have n3 := h.n3
  have n4 := h.n4
  have nr := h.nr
  have hs := h.size
  have hgs := h.grew.size
  have hset : ∀ k, k ≠ b7 → (w1.setCell ⟨b7, 2, none⟩ (.slice A' zs.length c')).heap[k]? = w1.heap[k]? := fun k hk => Below.heap_setCell _ _ _ _ hk
  have hna7 : ∀ b, w.heap.size ≤ b → blockOf A0 ≠ some b := fun b hb e => by have := (h.na b e).2; omega
  have hw7 : ∀ b, blockOf A' = some b → b ≠ b7 := by
    intro b hb e
    rcases hhow with ⟨e1, _, _⟩ | h5
    · rw [e1] at hb
      exact hna7 b (by omega) hb
    · have := h5 b hb
      omega
  obtain ⟨p1, hp1, hr⟩ := h.rd
  have l7 : Lies w1 b7 #[.int .i64 kd, .int .i64 vd, .slice An K.length cn] 43 := (hold b7 n4 (hna7 _ (by omega))).trans h.l7
  have l7' := l7.set 2 (.slice A' zs.length c')
  have hrd : Rd (w1.setCell ⟨b7, 2, none⟩ (.slice A' zs.length c')) rb A nb cb p1 := by
    refine hr.kept ⟨h1, h2, h3, by simpa using h4, fun k hk => ?_⟩
    rw [hset k (by omega), hold k (by omega) (fun e => by have := (h.na k e).1; omega)]
  refine ⟨⟨p1, hp1, hrd⟩, ⟨h1.trans h.grew.os, h2.trans h.grew.tape, h3.trans h.grew.output, by simp; omega, fun k hk hk2 hk3 => ?_⟩, (hset b4 (by omega)).trans ((hold b4 (by omega) (hna7 _ (by omega))).trans h.l4), (hset b6 (by omega)).trans ((hold b6 (by omega) (hna7 _ (by omega))).trans h.l6), by simpa using l7', hown.same' (fun k hk => hset k (hw7 k hk)), hO.same' (fun k hk => hset k (fun e => hna7 k (by omega) hk)), hhow, hin, by simp; omega, n1, n2, n3, n4, nr, h.na⟩
  rw [hset k (by omega), hold k (by omega) hk3]
  exact h.grew.block k hk hk2 hk3

theorem AddK.app (h : AddK w wr rb B b4 b6 b7 g cap nb cb len A r kd vd P A0 c0 K0 K An cn) {w1 : World} {ys zs : List Int} {A' : Option Addr} {c' : Nat} (hk : AppK wr w1 0 An A' cn c' K ys zs) (hin : ∀ z ∈ zs, 0 ≤ z ∧ z < (len : Int)) :
    AddK w (w1.setCell ⟨b7, 2, none⟩ (.slice A' zs.length c')) rb B b4 b6 b7 g cap nb cb len A r kd vd P A0 c0 K0 zs A' c' := by
  have hs := h.size
  have hg := hk.grown
  have n1 := h.n1
  have n2 := h.n2
  have n3 := h.n3
  have n4 := h.n4
  have hold : ∀ k, k < B → blockOf A0 ≠ some k → w1.heap[k]? = wr.heap[k]? := fun k hkB hkA => hg.block k (by omega) (fun e => by
    rcases h.where_ k e.symm with h2 | h2
    · exact hkA h2
    · omega)
  refine h.put hg.os hg.tape hg.output hg.size hold hk.own ?_ ?_ hin
  · rcases h.how with ⟨e1, e2, hp⟩ | h2
    · have := hk.old.short hp
      rw [e1, e2] at this
      exact this
    · exact h.old.same' (fun b hb => hg.block b (h.old.blocks b hb).2 (fun e => by
        have := h2 b e.symm
        have := (h.na b hb).2
        omega))
  · rcases hk.how with ⟨e1, e2, _⟩ | ⟨h2, _⟩
    · rcases h.how with ⟨e3, e4, hp⟩ | h3
      · refine .inl ⟨e1.trans e3, e2.trans e4, hp.trans ?_⟩
        rw [hk.eq]
        exact List.prefix_append _ _
      · exact .inr (by rw [e1]; exact h3)
    · exact .inr (fun b hb => by
        rw [h2] at hb
        injection hb with hb
        omega)

theorem AddK.fresh (h : AddK w wr rb B b4 b6 b7 g cap nb cb len A r kd vd P A0 c0 K0 K An cn) {zs : List Int} {A' : Option Addr} {c' : Nat} (hown : OwnI wr 0 A' c' zs) (hB : ∀ b, blockOf A' = some b → B ≤ b) (hin : ∀ z ∈ zs, 0 ≤ z ∧ z < (len : Int)) :
    AddK w (wr.setCell ⟨b7, 2, none⟩ (.slice A' zs.length c')) rb B b4 b6 b7 g cap nb cb len A r kd vd P A0 c0 K0 zs A' c' :=
  h.put rfl rfl rfl (Nat.le_refl _) (fun _ _ _ => rfl) hown h.old (.inr hB) hin
end

/-- what has become of memory when addKids comes to its end -/
structure KY (w X : World) (rb B g cap at_ nb cb : Nat) (A : Option Addr) (P : Nat) (A0 : Option Addr) (c0 : Nat) (K0 : List Int) (K : List Int) (An : Option Addr) (cn : Nat) : Prop where
  rd : ∃ p1, p1 ≤ P ∧ Rd X rb A nb cb p1
  os : X.os = w.os
  tape : X.tape = w.tape
  output : X.output = w.output
  size : B ≤ X.heap.size
  le : w.heap.size ≤ B
  block : ∀ k, k < w.heap.size → k ≠ rb → k ≠ g → blockOf A0 ≠ some k → X.heap[k]? = w.heap[k]?
  far : ∀ q, q < at_ * 3 ∨ at_ * 3 + 2 < q → X.cell? ⟨g, q, none⟩ = w.cell? ⟨g, q, none⟩
  row : ∃ f, X.rowIs g 43 (cap * 3) f
  own : OwnI X 0 An cn K
  old : OwnI X 0 A0 c0 K0
  wh : ∀ b, blockOf An = some b → blockOf A0 = some b ∨ B ≤ b
  nr : rb < g
  gl : g < w.heap.size
  na : ∀ b, blockOf A0 = some b → rb < b ∧ b < w.heap.size ∧ b ≠ g

section
variable {w X : World} {rb B g cap at_ nb cb : Nat} {A : Option Addr} {P : Nat} {A0 : Option Addr} {c0 : Nat} {K0 K : List Int} {An : Option Addr} {cn : Nat}

theorem KY.neg (h : KY w X rb B g cap at_ nb cb A P A0 c0 K0 K An cn) : ∀ b, blockOf An = some b → b ≠ g := by
  intro b hb e
  have h2 := h.le
  have h3 := h.gl
  rcases h.wh b hb with h4 | h4
  · exact (h.na b h4).2.2 e
  · omega

theorem KY.later (h : KY w X rb B g cap at_ nb cb A P A0 c0 K0 K An cn) {Y : World} (hb : Below X.heap.size X Y) : KY w Y rb B g cap at_ nb cb A P A0 c0 K0 K An cn := by
  have h1 := h.size
  have h2 := h.le
  have h3 := h.gl
  have hg : Y.heap[g]? = X.heap[g]? := hb.block g (by omega)
  obtain ⟨p1, hp, hr⟩ := h.rd
  obtain ⟨f, hf⟩ := h.row
  exact ⟨⟨p1, hp, hr.below hb⟩, hb.os.trans h.os, hb.tape.trans h.tape, hb.output.trans h.output, Nat.le_trans h.size hb.size, h.le, fun k hk a b c => (hb.block k (by omega)).trans (h.block k hk a b c), fun q hq => (World.cell?_of_block (w := X) hg).trans (h.far q hq), ⟨f, hf.of_block hg⟩, h.own.below hb, h.old.below hb, h.wh, h.nr, h.gl, h.na⟩

theorem KY.put (h : KY w X rb B g cap at_ nb cb A P A0 c0 K0 K An cn) (v0 v1 v2 : Value) : KY w (put3 X g at_ v0 v1 v2) rb B g cap at_ nb cb A P A0 c0 K0 K An cn := by
  have h1 := h.size
  have h2 := h.le
  have h3 := h.gl
  obtain ⟨p1, hp, hr⟩ := h.rd
  obtain ⟨f, hf⟩ := h.row
  exact ⟨⟨p1, hp, hr.put h.nr _ _ _⟩, h.os, h.tape, h.output, by rw [put3_size]; exact h.size, h.le, fun k hk a b c => (put3_block b).trans (h.block k hk a b c), fun q hq => (put3_far hq).trans (h.far q hq), put3_row hf _ _ _, h.own.same' (fun k hk => put3_block (h.neg k hk)), h.old.same' (fun k hk => put3_block (h.na k hk).2.2), h.wh, h.nr, h.gl, h.na⟩

theorem KY.cell (h : KY w X rb B g cap at_ nb cb A P A0 c0 K0 K An cn) {b o : Nat} (hb1 : w.heap.size ≤ b) (hb2 : b < B) (v : Value) : KY w (X.setCell ⟨b, o, none⟩ v) rb B g cap at_ nb cb A P A0 c0 K0 K An cn := by
  have h1 := h.size
  have h2 := h.le
  have h3 := h.gl
  have h4 := h.nr
  have hbl : ∀ k, k ≠ b → (X.setCell ⟨b, o, none⟩ v).heap[k]? = X.heap[k]? := fun k hk => Below.heap_setCell _ _ _ _ hk
  obtain ⟨p1, hp, hr⟩ := h.rd
  obtain ⟨f, hf⟩ := h.row
  exact ⟨⟨p1, hp, hr.kept ⟨rfl, rfl, rfl, by simp, fun k hk => hbl k (by omega)⟩⟩, h.os, h.tape, h.output, by simpa using h.size, h.le, fun k hk a c d => (hbl k (by omega)).trans (h.block k hk a c d), fun q hq => (World.cell?_of_block (w := X) (hbl g (by omega))).trans (h.far q hq), ⟨f, hf.of_block (hbl g (by omega))⟩, h.own.same' (fun k hk => hbl k (by
    rcases h.wh k hk with h5 | h5
    · have := (h.na k h5).2.1
      omega
    · omega)), h.old.same' (fun k hk => hbl k (by have := (h.na k hk).2.1; omega)), h.wh, h.nr, h.gl, h.na⟩

/-- the graph, read at the end -/
theorem KY.gen (h : KY w X rb B g cap at_ nb cb A P A0 c0 K0 K An cn) {ns : List Nd} (hg : GenG w g rb cap ns) (hj : at_ < ns.length) {k0 : Nat} (h0 : w.cell? ⟨g, at_ * 3 + 2, none⟩ = some (.slice A0 k0 c0)) (n : Nd) (A2 : Option Addr) (c2 : Nat) (hk : In64 n.kind) (hv : In64 n.value) (hI : OwnI X 0 A2 c2 n.kids) (h64 : ∀ x ∈ n.kids, In64 x) (hl : n.kids.length ≤ 1000) (hA : ∀ b, blockOf A2 = some b → blockOf A0 = some b ∨ B ≤ b)
    (d0 : X.cell? ⟨g, at_ * 3, none⟩ = some (.int .i64 n.kind)) (d1 : X.cell? ⟨g, at_ * 3 + 1, none⟩ = some (.int .i64 n.value)) (d2 : X.cell? ⟨g, at_ * 3 + 2, none⟩ = some (.slice A2 n.kids.length c2)) : GenG X g rb cap (ns.set at_ n) := by
  have h2 := h.le
  have h3 := h.gl
  have h4 := h.nr
  have far : ∀ q, q < ns.length → q ≠ at_ → ∀ (Aq : Option Addr) (kq cq : Nat), w.cell? ⟨g, q * 3 + 2, none⟩ = some (.slice Aq kq cq) → ∀ b, blockOf Aq = some b → blockOf A0 ≠ some b := fun q hq hne Aq kq cq hc b hb e => hg.dis q at_ Aq A0 kq k0 cq c0 hne hq hj hc h0 b hb e
  refine ⟨h.row, by rw [List.length_set]; exact hg.le, by rw [List.length_set]; exact hg.few, fun i m hi => ?_, hg.ne, ?_⟩
  · rw [List.getElem?_set] at hi
    by_cases e : at_ = i
    · subst e
      rw [if_pos rfl, if_pos hj] at hi
      injection hi with hi
      subst hi
      refine ⟨d0, d1, ⟨A2, c2, d2, hI, h64, hl, fun e => ?_, fun e => ?_⟩, hk, hv⟩
      · rcases hA g e with h5 | h5
        · exact (h.na g h5).2.2 rfl
        · omega
      · rcases hA rb e with h5 | h5
        · have := (h.na rb h5).1
          omega
        · omega
    · rw [if_neg e] at hi
      have hil := (List.getElem?_eq_some_iff.1 hi).1
      have hn := hg.nd i m hi
      obtain ⟨Ai, ci, e1, e2, e3, e6, e4, e5⟩ := hn.kids
      have hc := fun q (hq : q < at_ * 3 ∨ at_ * 3 + 2 < q) => h.far q hq
      exact ⟨(hc _ (by omega)).trans hn.kind, (hc _ (by omega)).trans hn.value, ⟨Ai, ci, (hc _ (by omega)).trans e1, e2.same' (fun k hk => h.block k (e2.blocks k hk).2 (fun e => e5 (by rw [hk, e])) (fun e => e4 (by rw [hk, e])) (far i hil (fun e' => e e'.symm) Ai _ ci e1 k hk)), e3, e6, e4, e5⟩, hn.wfk, hn.wfv⟩
  · intro i j B1 B2 k1 k2 c1 c2' hij hi hj2 h1' h2' b hb
    rw [List.length_set] at hi hj2
    have old : ∀ q, q < ns.length → q ≠ at_ → ∀ (Bq : Option Addr) (kq dq : Nat), X.cell? ⟨g, q * 3 + 2, none⟩ = some (.slice Bq kq dq) → w.cell? ⟨g, q * 3 + 2, none⟩ = some (.slice Bq kq dq) ∧ ∀ b, blockOf Bq = some b → b < w.heap.size ∧ blockOf A0 ≠ some b := by
      intro q hq hne Bq kq dq hc
      rw [h.far _ (by omega)] at hc
      refine ⟨hc, fun b hb => ⟨?_, far q hq hne Bq kq dq hc b hb⟩⟩
      obtain ⟨Aq, cq, e1, e2, _⟩ := (hg.nd q _ (List.getElem?_eq_getElem hq)).kids
      rw [hc] at e1
      injection e1 with e1
      injection e1 with e1 _ _
      rw [e1] at hb
      exact (e2.blocks b hb).2
    by_cases ei : i = at_
    · subst ei
      have e := d2.symm.trans h1'
      injection e with e
      injection e with e _ _
      have hge := hA b (by rw [e]; exact hb)
      have ho := (old j hj2 (fun e => hij e.symm) B2 k2 c2' h2').2
      intro e2
      have ho2 := ho b e2
      rcases hge with h5 | h5
      · exact ho2.2 h5
      · omega
    · have o1 := old i hi ei B1 k1 c1 h1'
      by_cases ej : j = at_
      · subst ej
        have e := d2.symm.trans h2'
        injection e with e
        injection e with e _ _
        intro e2
        have ho2 := o1.2 b hb
        rcases hA b (by rw [e]; exact e2) with h5 | h5
        · exact ho2.2 h5
        · omega
      · exact hg.dis i j B1 B2 k1 k2 c1 c2' hij hi hj2 o1.1 (old j hj2 ej B2 k2 c2' h2').1 b hb
end

theorem KY.done {w X : World} {rb B g cap at_ nb cb p b6 : Nat} {A : Option Addr} {r : Int} {A0 : Option Addr} {c0 : Nat} {K0 K : List Int} {An : Option Addr} {cn : Nat} {ns : List Nd} (h : KY w X rb B g cap at_ nb cb A (p + 9) A0 c0 K0 K An cn) (hg : GenG w g rb cap ns) (hj : at_ < ns.length) {k0 : Nat} (h0 : w.cell? ⟨g, at_ * 3 + 2, none⟩ = some (.slice A0 k0 c0)) (hb1 : w.heap.size ≤ b6) (hb2 : b6 < B)
    (n : Nd) (A2 : Option Addr) (c2 : Nat) (hk0 : 0 ≤ n.kind) (hk5 : n.kind ≤ 5) (hsv : ns.set at_ n = ns ∨ ValidG (ns.set at_ n) r) (hv : In64 n.value) (hI : OwnI X 0 A2 c2 n.kids) (h64 : ∀ x ∈ n.kids, In64 x) (hl : n.kids.length ≤ 1000) (hA : ∀ b, blockOf A2 = some b → blockOf A0 = some b ∨ B ≤ b)
    (d0 : X.cell? ⟨g, at_ * 3, none⟩ = some (.int .i64 n.kind)) (d1 : X.cell? ⟨g, at_ * 3 + 1, none⟩ = some (.int .i64 n.value)) (d2 : X.cell? ⟨g, at_ * 3 + 2, none⟩ = some (.slice A2 n.kids.length c2)) (u0 u1 : Value) :
    KiddedK rb A nb cb p g cap at_ r ns A0 w (.returned (.agg #[.slice (some ⟨g, 0, none⟩) ns.length cap, .int .i64 r])) ((X.setCell ⟨b6, 0, none⟩ u0).setCell ⟨b6, 1, none⟩ u1) := by
  have hF := (h.cell (o := 0) hb1 hb2 u0).cell (o := 1) hb1 hb2 u1
  have hbl : ∀ k, k ≠ b6 → ((X.setCell ⟨b6, 0, none⟩ u0).setCell ⟨b6, 1, none⟩ u1).heap[k]? = X.heap[k]? := fun k hk => (Below.heap_setCell _ _ _ _ hk).trans (Below.heap_setCell _ _ _ _ hk)
  have hgb := h.gl
  have hgc : ∀ q, ((X.setCell ⟨b6, 0, none⟩ u0).setCell ⟨b6, 1, none⟩ u1).cell? ⟨g, q, none⟩ = X.cell? ⟨g, q, none⟩ := fun q => World.cell?_of_block (w := X) (hbl g (by omega))
  obtain ⟨p1, hp1, hr1⟩ := hF.rd
  refine ⟨n, p1, rfl, hp1, hr1, hF.gen hg hj h0 n A2 c2 (by constructor <;> omega) hv (hI.same' (fun k hk => hbl k (by
    rcases hA k hk with h5 | h5
    · have := (h.na k h5).2.1
      omega
    · omega))) h64 hl hA ((hgc _).trans d0) ((hgc _).trans d1) ((hgc _).trans d2), hk0, hk5, hsv, hF.os, hF.tape, hF.output, Nat.le_trans hF.le hF.size, hF.block, fun j hjl Aq kq cq hc b hb => ?_⟩
  have hle := h.le
  by_cases e : j = at_
  · subst e
    have e2 := ((hgc _).trans d2).symm.trans hc
    injection e2 with e2
    injection e2 with e2 _ _
    rcases hA b (by rw [e2]; exact hb) with h5 | h5
    · exact .inr ⟨j, A0, k0, c0, hj, h0, h5⟩
    · exact .inl (by omega)
  · rw [hF.far _ (by omega)] at hc
    exact .inr ⟨j, Aq, kq, cq, hjl, hc, hb⟩

theorem AddK.ky {w wr : World} {rb B b4 b6 b7 g cap nb cb len at_ : Nat} {A : Option Addr} {r kd vd : Int} {P : Nat} {A0 : Option Addr} {c0 : Nat} {K0 K : List Int} {An : Option Addr} {cn : Nat} {ns : List Nd} (h : AddK w wr rb B b4 b6 b7 g cap nb cb len A r kd vd P A0 c0 K0 K An cn) (hg : GenG w g rb cap ns) (hrg : rb < g) (hn : blockOf A0 ≠ some g) : KY w wr rb B g cap at_ nb cb A P A0 c0 K0 K An cn := by
  have hgl := hg.lt
  have hb := h.grew.block g hgl (by omega) hn
  have n1 := h.n1
  have n2 := h.n2
  have n3 := h.n3
  have n4 := h.n4
  obtain ⟨f, hf⟩ := hg.row
  exact ⟨h.rd, h.grew.os, h.grew.tape, h.grew.output, h.size, by omega, fun k hk a _ c => h.grew.block k hk a c, fun q _ => World.cell?_of_block (w := w) hb, ⟨f, hf.of_block hb⟩, h.own, h.old, h.where_, hrg, hgl, fun b hb => ⟨(h.na b hb).1, (h.na b hb).2, fun e => hn (by rw [hb, e])⟩⟩

set_option maxRecDepth 100000 in
set_option maxHeartbeats 4000000 in
theorem addKidsK_any (rb : Nat) (A : Option Addr) (nb cb p g cap at_ : Nat) (r kd vd : Int) (ns : List Nd) (A0 : Option Addr) (c0 : Nat) (K0 : List Int) (w : World) (h : Rd w rb A nb cb p) (hp : p < 800000) (hg : GenG w g rb cap ns) (hrg : rb < g) (hat : ns[at_]? = some ⟨kd, vd, K0⟩) (hkd0 : 0 ≤ kd) (hkd5 : kd ≤ 5)
    (hnil : w.cell? ⟨g, at_ * 3 + 2, none⟩ = some (.slice A0 K0.length c0)) (hA0 : OwnI w 0 A0 c0 K0) (hin0 : ∀ z ∈ K0, 0 ≤ z ∧ z < (ns.length : Int)) (hK0 : K0.length ≤ 6) (hna0 : ∀ b, blockOf A0 = some b → rb < b ∧ b ≠ g) :
    Calls Try.prog 33 #[.pointer (some ⟨rb, 0, none⟩), .agg #[.slice (some ⟨g, 0, none⟩) ns.length cap, .int .i64 r], .int .i64 (at_ : Int)] w (KiddedK rb A nb cb p g cap at_ r ns A0 w) := by
  have hrlt := h.box.lt
  have hglt := hg.lt
  have hfew := hg.few
  have hatl : at_ < ns.length := (List.getElem?_eq_some_iff.1 hat).1
  have hat1 : (0 : Int) ≤ (at_ : Int) := by omega
  have hat2 : (at_ : Int) < (ns.length : Int) := by omega
  have hnd := hg.nd at_ _ hat
  have n0 := hnd.kind
  have n1 := hnd.value
  have Hat := hide hat
  have Hnd := hide hnd
  have H := hide h
  have Hg := hide hg
  clear h hg hat hnd
  go_enter Try.func33, Try.ntmps33
  go_wp2_with fail
  have hB : Below w.heap.size w ((((w.alloc (.cells #[.slice (some ⟨g, 0, none⟩) ns.length cap, .int .i64 r] 25)).alloc (.cells #[.slice none 0 0, .int .i64 0] 25)).alloc (.cells #[.int .i64 kd, .int .i64 vd, .slice A0 K0.length c0] 43)).alloc
    (.cells #[.int .i64 2, .int .i64 1, .int .i64 3, .int .i64 0, .int .i64 4] 3)) := ((((Below.refl _ w).alloc (Nat.le_refl _) _).alloc (by simp) _).alloc (by simp; omega) _).alloc (by simp; omega) _
  have l4 := (((Lies.new w #[.slice (some ⟨g, 0, none⟩) ns.length cap, .int .i64 r] 25).alloc (.cells #[.slice none 0 0, .int .i64 0] 25)).alloc (.cells #[.int .i64 kd, .int .i64 vd, .slice A0 K0.length c0] 43)).alloc (.cells #[.int .i64 2, .int .i64 1, .int .i64 3, .int .i64 0, .int .i64 4] 3)
  have l6 := ((Lies.new (w.alloc (.cells #[.slice (some ⟨g, 0, none⟩) ns.length cap, .int .i64 r] 25)) #[.slice none 0 0, .int .i64 0] 25).alloc (.cells #[.int .i64 kd, .int .i64 vd, .slice A0 K0.length c0] 43)).alloc (.cells #[.int .i64 2, .int .i64 1, .int .i64 3, .int .i64 0, .int .i64 4] 3)
  have l7 := (Lies.new ((w.alloc (.cells #[.slice (some ⟨g, 0, none⟩) ns.length cap, .int .i64 r] 25)).alloc (.cells #[.slice none 0 0, .int .i64 0] 25)) #[.int .i64 kd, .int .i64 vd, .slice A0 K0.length c0] 43).alloc (.cells #[.int .i64 2, .int .i64 1, .int .i64 3, .int .i64 0, .int .i64 4] 3)
  have lA := Lies.new (((w.alloc (.cells #[.slice (some ⟨g, 0, none⟩) ns.length cap, .int .i64 r] 25)).alloc (.cells #[.slice none 0 0, .int .i64 0] 25)).alloc (.cells #[.int .i64 kd, .int .i64 vd, .slice A0 K0.length c0] 43)) #[.int .i64 2, .int .i64 1, .int .i64 3, .int .i64 0, .int .i64 4] 3
  simp only [World.size_alloc] at l6 l7 lA
  generalize hWd : (((w.alloc (.cells #[.slice (some ⟨g, 0, none⟩) ns.length cap, .int .i64 r] 25)).alloc (.cells #[.slice none 0 0, .int .i64 0] 25)).alloc (.cells #[.int .i64 kd, .int .i64 vd, .slice A0 K0.length c0] 43)).alloc
    (.cells #[.int .i64 2, .int .i64 1, .int .i64 3, .int .i64 0, .int .i64 4] 3) = W at hB l4 l6 l7 lA ⊢
  have hWs : Hid (W.heap.size = w.heap.size + 1 + 1 + 1 + 1) := by show _ = _; rw [← hWd]; simp
  have Hnil := hide hnil
  have HA0 := hide hA0
  have Hin0 := hide hin0
  have Hna0 := hide hna0
  clear hWd n0 n1 hnil hA0 hin0 hna0
  have hrW := H.out.below hB
  refine (one_any rb A nb cb p (w.heap.size + 1 + 1 + 1) 5 5 [2, 1, 3, 0, 4] W hrW (by omega) rfl (by omega) (by omega) (by omega) (fun k z hz => by
    have := lA.cell k
    rw [this]
    match k, hz with
    | 0, hz => simpa using hz
    | 1, hz => simpa using hz
    | 2, hz => simpa using hz
    | 3, hz => simpa using hz
    | 4, hz => simpa using hz
    | k + 5, hz => simp at hz)).mono ?_
  rintro e w1 ⟨⟨x, hx, rfl⟩, hr1, ht1⟩
  obtain ⟨xn, rfl, hxn⟩ : ∃ xn : Nat, x = (xn : Int) ∧ xn ≤ 4 := by
    simp at hx
    rcases hx with rfl | rfl | rfl | rfl | rfl
    · exact ⟨2, rfl, by omega⟩
    · exact ⟨1, rfl, by omega⟩
    · exact ⟨3, rfl, by omega⟩
    · exact ⟨0, rfl, by omega⟩
    · exact ⟨4, rfl, by omega⟩
  have hS0 : AddK w W rb W.heap.size w.heap.size (w.heap.size + 1) (w.heap.size + 1 + 1) g cap nb cb ns.length A r kd vd p A0 c0 K0 K0 A0 c0 :=
    ⟨⟨p, Nat.le_refl _, hrW⟩, GrewK.of_below hB, l4, l6, l7, HA0.out.below hB, HA0.out.below hB, .inl ⟨rfl, rfl, List.prefix_refl _⟩, Hin0.out, Nat.le_refl _, Nat.le_refl _, by omega, by omega, by have := hWs.out; omega, hrlt, fun b hb => ⟨(Hna0.out b hb).1, (HA0.out.blocks b hb).2⟩⟩
  have HS1 := hide (hS0.turn ht1 hr1 (show p + 1 ≤ p + 9 - 2 * xn by omega))
  clear hS0 ht1 hr1 hrW l4 l6 l7 lA hx hB
  generalize hBd : W.heap.size = B at HS1
  have hBs : Hid (B = w.heap.size + 1 + 1 + 1 + 1) := by show _ = _; rw [← hBd]; exact hWs.out
  clear hBd hWs
  go_wp2_with fail
  go_loopw [8] (fun kv wr => ∃ (k : Nat) (K : List Int) (An : Option Addr) (cn : Nat), k ≤ 4 ∧ K.length + 2 * k ≤ 14 ∧ kv = .int .i64 k ∧ AddK w wr rb B w.heap.size (w.heap.size + 1) (w.heap.size + 1 + 1) g cap nb cb ns.length A r kd vd (p + 9 - 2 * k) A0 c0 K0 K An cn) (fun kv _ => (intOf kv).toNat)
  case atStart => exact ⟨xn, K0, A0, c0, hxn, by omega, rfl, HS1.out⟩
  case round =>
    clear HS1
    obtain ⟨k, K, An, cn, hk4, hKl, rfl, hS⟩ := hrel
    have e0 := hS.l4.cell 0
    have e1 := hS.l4.cell 1
    have m0 := hS.l7.cell 0
    have m1 := hS.l7.cell 1
    have m2 := hS.l7.cell 2
    simp at e0 e1 m0 m1 m2
    have HS := hide hS
    by_cases hk0 : k = 0
    · subst hk0
      have hgl : g < wr.heap.size := by have := hS.grew.size; omega
      have hbg := hS.grew.block g hglt (by omega) (fun e => (Hna0.out g e).2 rfl)
      have q0 := (World.cell?_of_block (a := ⟨g, at_ * 3, none⟩) (w := w) hbg).trans Hnd.out.kind
      have q1 := (World.cell?_of_block (a := ⟨g, at_ * 3 + 1, none⟩) (w := w) hbg).trans Hnd.out.value
      have q2 : wr.cell? ⟨g, at_ * 3 + 2, none⟩ = some (.slice A0 K0.length c0) := (World.cell?_of_block (w := w) hbg).trans Hnil.out
      obtain ⟨fw0, hfw0⟩ := Hg.out.row
      obtain ⟨fw, hfw⟩ : ∃ f, wr.rowIs g 43 (cap * 3) f := ⟨fw0, hfw0.of_block hbg⟩
      clear hfw0
      have hcap := Hg.out.le
      have g0 := World.rowIs.frozen hfw (at_ * 3)
      have g1 := World.rowIs.frozen hfw (at_ * 3 + 1)
      have g2 := World.rowIs.frozen hfw (at_ * 3 + 2)
      have hinn := hide hS.inn
      have hn1 := hS.n1
      have hn2 := hS.n2
      have hn3 := hS.n3
      have hn4 := hS.n4
      have hsB := hS.size
      have hvIn := hide Hnd.out.wfv
      have hlt4 : w.heap.size < wr.heap.size := by omega
      have hlt6 : w.heap.size + 1 < wr.heap.size := by omega
      have hlt7 : w.heap.size + 1 + 1 < wr.heap.size := by omega
      have l4p : Lies (put3 wr g at_ (.int .i64 kd) (.int .i64 vd) (.slice An K.length cn)) w.heap.size _ _ := (put3_block (by omega)).trans hS.l4
      have l6p : Lies (put3 wr g at_ (.int .i64 kd) (.int .i64 vd) (.slice An K.length cn)) (w.heap.size + 1) _ _ := (put3_block (by omega)).trans hS.l6
      have hKp := (hS.ky (at_ := at_) Hg.out hrg (fun e => (Hna0.out g e).2 rfl)).put (.int .i64 kd) (.int .i64 vd) (.slice An K.length cn)
      have hcp := put3_at (j := at_) hfw (by omega) (.int .i64 kd) (.int .i64 vd) (.slice An K.length cn)
      have hbA : Below (put3 wr g at_ (.int .i64 kd) (.int .i64 vd) (.slice An K.length cn)).heap.size (put3 wr g at_ (.int .i64 kd) (.int .i64 vd) (.slice An K.length cn)) ((((wr.setCell ⟨g, at_ * 3, none⟩ (.int .i64 kd)).setCell ⟨g, at_ * 3 + 1, none⟩ (.int .i64 vd)).setCell ⟨g, at_ * 3 + 2, none⟩ (.slice An K.length cn)).alloc (.cells #[.int .i64 kd, .int .i64 vd, .slice A0 K0.length c0] 43)) := (Below.refl _ _).alloc (Nat.le_refl _) _
      have hgp : g < (put3 wr g at_ (.int .i64 kd) (.int .i64 vd) (.slice An K.length cn)).heap.size := by rw [put3_size]; exact hgl
      have l4x : Lies ((((wr.setCell ⟨g, at_ * 3, none⟩ (.int .i64 kd)).setCell ⟨g, at_ * 3 + 1, none⟩ (.int .i64 vd)).setCell ⟨g, at_ * 3 + 2, none⟩ (.slice An K.length cn)).alloc (.cells #[.int .i64 kd, .int .i64 vd, .slice A0 K0.length c0] 43)) w.heap.size _ _ := l4p.below hbA l4p.lt
      have l6x : Lies ((((wr.setCell ⟨g, at_ * 3, none⟩ (.int .i64 kd)).setCell ⟨g, at_ * 3 + 1, none⟩ (.int .i64 vd)).setCell ⟨g, at_ * 3 + 2, none⟩ (.slice An K.length cn)).alloc (.cells #[.int .i64 kd, .int .i64 vd, .slice A0 K0.length c0] 43)) (w.heap.size + 1) _ _ := l6p.below hbA l6p.lt
      have lox : Lies ((((wr.setCell ⟨g, at_ * 3, none⟩ (.int .i64 kd)).setCell ⟨g, at_ * 3 + 1, none⟩ (.int .i64 vd)).setCell ⟨g, at_ * 3 + 2, none⟩ (.slice An K.length cn)).alloc (.cells #[.int .i64 kd, .int .i64 vd, .slice A0 K0.length c0] 43)) wr.heap.size #[.int .i64 kd, .int .i64 vd, .slice A0 K0.length c0] 43 := by
        have := Lies.new (put3 wr g at_ (.int .i64 kd) (.int .i64 vd) (.slice An K.length cn)) #[.int .i64 kd, .int .i64 vd, .slice A0 K0.length c0] 43
        rw [put3_size] at this
        exact this
      have hKx : KY w ((((wr.setCell ⟨g, at_ * 3, none⟩ (.int .i64 kd)).setCell ⟨g, at_ * 3 + 1, none⟩ (.int .i64 vd)).setCell ⟨g, at_ * 3 + 2, none⟩ (.slice An K.length cn)).alloc (.cells #[.int .i64 kd, .int .i64 vd, .slice A0 K0.length c0] 43)) rb B g cap at_ nb cb A (p + 9) A0 c0 K0 K An cn := hKp.later hbA
      have x0 : ((((wr.setCell ⟨g, at_ * 3, none⟩ (.int .i64 kd)).setCell ⟨g, at_ * 3 + 1, none⟩ (.int .i64 vd)).setCell ⟨g, at_ * 3 + 2, none⟩ (.slice An K.length cn)).alloc (.cells #[.int .i64 kd, .int .i64 vd, .slice A0 K0.length c0] 43)).cell? ⟨g, at_ * 3, none⟩ = some (.int .i64 kd) := (hbA.cell hgp).trans hcp.1
      have x1 : ((((wr.setCell ⟨g, at_ * 3, none⟩ (.int .i64 kd)).setCell ⟨g, at_ * 3 + 1, none⟩ (.int .i64 vd)).setCell ⟨g, at_ * 3 + 2, none⟩ (.slice An K.length cn)).alloc (.cells #[.int .i64 kd, .int .i64 vd, .slice A0 K0.length c0] 43)).cell? ⟨g, at_ * 3 + 1, none⟩ = some (.int .i64 vd) := (hbA.cell hgp).trans hcp.2.1
      have x2 : ((((wr.setCell ⟨g, at_ * 3, none⟩ (.int .i64 kd)).setCell ⟨g, at_ * 3 + 1, none⟩ (.int .i64 vd)).setCell ⟨g, at_ * 3 + 2, none⟩ (.slice An K.length cn)).alloc (.cells #[.int .i64 kd, .int .i64 vd, .slice A0 K0.length c0] 43)).cell? ⟨g, at_ * 3 + 2, none⟩ = some (.slice An K.length cn) := (hbA.cell hgp).trans hcp.2.2
      have z0 := l4x.cell 0
      have z1 := l4x.cell 1
      simp only [List.getElem?_toArray, List.getElem?_cons_zero, List.getElem?_cons_succ] at z0 z1
      have HKx := hide hKx
      clear hKx hbA hKp hcp l4p l6p HS hbg hfw
      go_wp2_with fail
      generalize ((((wr.setCell ⟨g, at_ * 3, none⟩ (.int .i64 kd)).setCell ⟨g, at_ * 3 + 1, none⟩ (.int .i64 vd)).setCell ⟨g, at_ * 3 + 2, none⟩ (.slice An K.length cn)).alloc (.cells #[.int .i64 kd, .int .i64 vd, .slice A0 K0.length c0] 43)) = X at HKx l4x l6x lox x0 x1 x2 ⊢
      have hn1' := HKx.out.gl
      have hn2' := HKx.out.le
      have hn3' := HKx.out.size
      have hgX : g < X.heap.size := by omega
      have hBlk : Hid (∀ q, blockOf An = some q → blockOf A0 = some q ∨ B ≤ q) := HKx.out.wh
      have hI : OwnI X 0 An cn K := HKx.out.own
      have H64 : Hid (∀ z ∈ K, In64 z) := fun z hz => by have := hinn.out z hz; constructor <;> omega
      have hkIn : In64 kd := by constructor <;> omega
      have hgen := HKx.out.gen Hg.out hatl Hnil.out ⟨kd, vd, K⟩ An cn hkIn hvIn.out hI H64.out (by show K.length ≤ 1000; omega) hBlk.out x0 x1 x2
      have hcall := specValidGraph_any (some ⟨g, 0, none⟩) (ns.set at_ ⟨kd, vd, K⟩) cap r X hgen.nds
      rw [List.length_set] at hcall
      have HkIn := hide hkIn
      clear hgen q0 q1 q2 g0 g1 g2 z0 z1 m0 m1 m2 e0 e1 hkIn
      refine hcall.mono ?_
      rintro e w7 ⟨rfl, hb7⟩
      clear hcall
      generalize hVd : tf (ValidG (ns.set at_ ⟨kd, vd, K⟩) r) = V
      have HVd := hide hVd
      clear hVd
      have hK7 := HKx.out.later hb7
      have l4y := l4x.below hb7 l4x.lt
      have l6y := l6x.below hb7 l6x.lt
      have loy := lox.below hb7 lox.lt
      have y0 := (hb7.cell (p := ⟨g, at_ * 3, none⟩) hgX).trans x0
      have y1 := (hb7.cell (p := ⟨g, at_ * 3 + 1, none⟩) hgX).trans x1
      have y2 := (hb7.cell (p := ⟨g, at_ * 3 + 2, none⟩) hgX).trans x2
      have hI7 := hI.below hb7
      have hsz7 := hb7.size
      obtain ⟨fy, hfy⟩ := hK7.row
      have a0 := l4y.cell 0
      have a1 := l4y.cell 1
      have b0 := l6y.cell 0
      have b1 := l6y.cell 1
      have f60 := l6y.frozen 0
      have c1 := l6y.frozen 1
      simp at a0 a1 b0 b1
      have HK7 := hide hK7
      have HI7 := hide hI7
      clear l4x l6x lox x0 x1 x2 hI HKx hb7 hK7 hI7
      cases V
      · have hpat := put3_at (j := at_) hfy (by omega) (.int .i64 kd) (.int .i64 vd) (.slice A0 K0.length c0)
        have d0 := loy.cell 0
        have d1 := loy.cell 1
        have d2 := loy.cell 2
        simp at d0 d1 d2
        have g0 := World.rowIs.frozen hfy (at_ * 3)
        have g1 := World.rowIs.frozen hfy (at_ * 3 + 1)
        have g2 := World.rowIs.frozen hfy (at_ * 3 + 2)
        have l4z : Lies (((w7.setCell ⟨g, at_ * 3, none⟩ (.int .i64 kd)).setCell ⟨g, at_ * 3 + 1, none⟩ (.int .i64 vd)).setCell ⟨g, at_ * 3 + 2, none⟩ (.slice A0 K0.length c0)) w.heap.size _ _ := (put3_block (by omega)).trans l4y
        have l6z : Lies (((w7.setCell ⟨g, at_ * 3, none⟩ (.int .i64 kd)).setCell ⟨g, at_ * 3 + 1, none⟩ (.int .i64 vd)).setCell ⟨g, at_ * 3 + 2, none⟩ (.slice A0 K0.length c0)) (w.heap.size + 1) _ _ := (put3_block (by omega)).trans l6y
        have t0 := l4z.cell 0
        have t1 := l4z.cell 1
        have u0 := l6z.cell 0
        have u1 := l6z.cell 1
        have v0 := l6z.frozen 0
        have v1 := l6z.frozen 1
        simp only [List.getElem?_toArray, List.getElem?_cons_zero, List.getElem?_cons_succ] at t0 t1 u0 u1
        have l6f := (l6z.set 0 (.slice (some ⟨g, 0, none⟩) ns.length cap)).set 1 (.int .i64 r)
        simp only [List.setIfInBounds_toArray, List.set_cons_succ, List.set_cons_zero] at l6f
        have s0 := l6f.cell 0
        have s1 := l6f.cell 1
        simp only [List.getElem?_toArray, List.getElem?_cons_zero, List.getElem?_cons_succ] at s0 s1
        have hfin : Hid (KiddedK rb A nb cb p g cap at_ r ns A0 w (.returned (.agg #[.slice (some ⟨g, 0, none⟩) ns.length cap, .int .i64 r])) (((((w7.setCell ⟨g, at_ * 3, none⟩ (.int .i64 kd)).setCell ⟨g, at_ * 3 + 1, none⟩ (.int .i64 vd)).setCell ⟨g, at_ * 3 + 2, none⟩ (.slice A0 K0.length c0)).setCell ⟨w.heap.size + 1, 0, none⟩ (.slice (some ⟨g, 0, none⟩) ns.length cap)).setCell ⟨w.heap.size + 1, 1, none⟩ (.int .i64 r))) :=
          (HK7.out.put (.int .i64 kd) (.int .i64 vd) (.slice A0 K0.length c0)).done Hg.out hatl Hnil.out (by omega) (by omega) ⟨kd, vd, K0⟩ A0 c0 hkd0 hkd5 (Or.inl (set_same Hat.out)) hvIn.out (HK7.out.put (.int .i64 kd) (.int .i64 vd) (.slice A0 K0.length c0)).old (fun x hx => by have := Hin0.out x hx; constructor <;> omega) (by show K0.length ≤ 1000; omega) (fun k hk => .inl hk) hpat.1 hpat.2.1 hpat.2.2 _ _
        clear hpat HK7 HI7 hfy l4z l6z l6f l4y l6y loy
        go_wp2
        refine bodyPost_ret (v := .agg #[.slice (some ⟨g, 0, none⟩) ns.length cap, .int .i64 r]) (by simp [results, Try.results33, go_sem, s0, s1]) rfl ?_
        exact hfin.out
      · have l6f := (l6y.set 0 (.slice (some ⟨g, 0, none⟩) ns.length cap)).set 1 (.int .i64 r)
        simp only [List.setIfInBounds_toArray, List.set_cons_succ, List.set_cons_zero] at l6f
        have s0 := l6f.cell 0
        have s1 := l6f.cell 1
        simp only [List.getElem?_toArray, List.getElem?_cons_zero, List.getElem?_cons_succ] at s0 s1
        have hfin : Hid (KiddedK rb A nb cb p g cap at_ r ns A0 w (.returned (.agg #[.slice (some ⟨g, 0, none⟩) ns.length cap, .int .i64 r])) ((w7.setCell ⟨w.heap.size + 1, 0, none⟩ (.slice (some ⟨g, 0, none⟩) ns.length cap)).setCell ⟨w.heap.size + 1, 1, none⟩ (.int .i64 r))) :=
          HK7.out.done Hg.out hatl Hnil.out (by omega) (by omega) ⟨kd, vd, K⟩ An cn hkd0 hkd5 (Or.inr (tf_yes HVd.out)) hvIn.out HI7.out H64.out (by show K.length ≤ 1000; omega) hBlk.out y0 y1 y2 _ _
        clear HK7 HI7 hfy l6f l4y l6y loy
        go_wp2
        refine bodyPost_ret (v := .agg #[.slice (some ⟨g, 0, none⟩) ns.length cap, .int .i64 r]) (by simp [results, Try.results33, go_sem, s0, s1]) rfl ?_
        exact hfin.out
    · have hkp : (0 : Int) < (k : Int) := by omega
      obtain ⟨p1, hp1, hr1⟩ := hS.rd
      clear hS
      go_wp2_with fail
      refine (pick_any rb A nb cb p1 (ns.length : Int) wr hr1 (by omega) (by omega)).mono ?_
      rintro e w5 ⟨⟨y, rfl, hy, _⟩, hr5, ht5⟩
      have hyl : (y : Int) < (ns.length : Int) := hy (by omega)
      have hy0 : (0 : Int) ≤ (y : Int) := by omega
      have hyIn : In64 (y : Int) := by constructor <;> omega
      have hS5 := HS.out.turn (P' := p + 10 - 2 * k) ht5 hr5 (by omega)
      have e0 := hS5.l4.cell 0
      have e1 := hS5.l4.cell 1
      have m0 := hS5.l7.cell 0
      have m1 := hS5.l7.cell 1
      have m2 := hS5.l7.cell 2
      have f2 := hS5.l7.frozen 2
      simp at e0 e1 m0 m1 m2
      have HS5 := hide hS5
      clear hS5 HS ht5 hr5 hr1 hy
      by_cases h23 : kd = 2 ∨ kd = 3
      · rcases h23 with rfl | rfl
        · skip
          have hI := IntsAt.one w5 (y : Int) hyIn
          have hS6 := hide (HS5.out.later (w5 := w5.alloc (.cells #[.int .i64 (y : Int)] 3)) ((Below.refl w5.heap.size w5).alloc (Nat.le_refl _) _))
          have hown := HS5.out.own
          have hb7 : w.heap.size + 1 + 1 < w5.heap.size := HS5.out.l7.lt
          have hb7B := HS5.out.n4
          have hB5 := HS5.out.size
          have HbA : Hid (some (w.heap.size + 1 + 1) ≠ blockOf An) := HS5.out.ne7
          have s2a := hS6.out.l7.cell 2
          have s2f := hS6.out.l7.frozen 2
          simp only [List.getElem?_toArray, List.getElem?_cons_zero, List.getElem?_cons_succ] at s2a
          have Hyl := hide hyl
          have HI := hide hI
          clear hI
          go_wp2_with (at_builtin; refine append_intsK rfl (.tmp 34) (.tmp 36) rfl 0 An cn K rfl (hown.alloc _) _ _ 1 [(y : Int)] (by simp) rfl HI.out (by simp; omega) (by simp) ?_; intro zs A' c' w6 hz; have s1 : w6.cell? ⟨w.heap.size + 1 + 1, 2, none⟩ = some (.slice An K.length cn) := (hz.out.grown.cell_far _ (by simp; omega) HbA.out).trans s2a; have s2 : w6.frozen? ⟨w.heap.size + 1 + 1, 2, none⟩ = false := (hz.out.grown.frozen_far _ (by simp; omega) HbA.out).trans s2f)
          have hfin := hide ((hS6.out.app hz.out (fun z hzm => by
            rw [hz.out.eq] at hzm
            rcases List.mem_append.1 hzm with h | h
            · exact HS5.out.inn z h
            · simp at h; subst h; exact ⟨hy0, Hyl.out⟩)).more (P' := p + 9 - 2 * (k - 1)) (by omega))
          have hzl : zs.length = K.length + 1 := by rw [hz.out.eq]; simp
          clear s1 s2 s2a s2f hown
          go_wp2
          go_roundw
          case rel => exact ⟨k - 1, zs, A', c', by omega, by omega, by go_num, hfin.out⟩
          case measure => simp [intOf]; omega
        · skip
          have hI := IntsAt.one w5 (y : Int) hyIn
          have hS6 := hide (HS5.out.later (w5 := w5.alloc (.cells #[.int .i64 (y : Int)] 3)) ((Below.refl w5.heap.size w5).alloc (Nat.le_refl _) _))
          have hown := HS5.out.own
          have hb7 : w.heap.size + 1 + 1 < w5.heap.size := HS5.out.l7.lt
          have hb7B := HS5.out.n4
          have hB5 := HS5.out.size
          have HbA : Hid (some (w.heap.size + 1 + 1) ≠ blockOf An) := HS5.out.ne7
          have s2a := hS6.out.l7.cell 2
          have s2f := hS6.out.l7.frozen 2
          simp only [List.getElem?_toArray, List.getElem?_cons_zero, List.getElem?_cons_succ] at s2a
          have Hyl := hide hyl
          have HI := hide hI
          clear hI
          go_wp2_with (at_builtin; refine append_intsK rfl (.tmp 34) (.tmp 36) rfl 0 An cn K rfl (hown.alloc _) _ _ 1 [(y : Int)] (by simp) rfl HI.out (by simp; omega) (by simp) ?_; intro zs A' c' w6 hz; have s1 : w6.cell? ⟨w.heap.size + 1 + 1, 2, none⟩ = some (.slice An K.length cn) := (hz.out.grown.cell_far _ (by simp; omega) HbA.out).trans s2a; have s2 : w6.frozen? ⟨w.heap.size + 1 + 1, 2, none⟩ = false := (hz.out.grown.frozen_far _ (by simp; omega) HbA.out).trans s2f)
          have hfin := hide ((hS6.out.app hz.out (fun z hzm => by
            rw [hz.out.eq] at hzm
            rcases List.mem_append.1 hzm with h | h
            · exact HS5.out.inn z h
            · simp at h; subst h; exact ⟨hy0, Hyl.out⟩)).more (P' := p + 9 - 2 * (k - 1)) (by omega))
          have hzl : zs.length = K.length + 1 := by rw [hz.out.eq]; simp
          clear s1 s2 s2a s2f hown
          go_wp2
          go_roundw
          case rel => exact ⟨k - 1, zs, A', c', by omega, by omega, by go_num, hfin.out⟩
          case measure => simp [intOf]; omega
      · by_cases h5 : kd = 5
        · subst h5
          have hI := IntsAt.one w5 (y : Int) hyIn
          have hS6 := hide (HS5.out.later (w5 := w5.alloc (.cells #[.int .i64 (y : Int)] 3)) ((Below.refl w5.heap.size w5).alloc (Nat.le_refl _) _))
          have hown := HS5.out.own
          have hb7 : w.heap.size + 1 + 1 < w5.heap.size := HS5.out.l7.lt
          have hb7B := HS5.out.n4
          have hB5 := HS5.out.size
          have HbA : Hid (some (w.heap.size + 1 + 1) ≠ blockOf An) := HS5.out.ne7
          have s2a := hS6.out.l7.cell 2
          have s2f := hS6.out.l7.frozen 2
          simp only [List.getElem?_toArray, List.getElem?_cons_zero, List.getElem?_cons_succ] at s2a
          have Hyl := hide hyl
          have hfin0 := (hS6.out.fresh (OwnI.one w5 0 (y : Int) (Nat.zero_le _)) (fun b hb => by simp [blockOf] at hb; omega) (fun z hzm => by
            simp at hzm; subst hzm; exact ⟨hy0, Hyl.out⟩)).more (P' := p + 9 - 2 * (k - 1)) (by omega)
          rw [World.setCell_alloc_past _ _ _ _ hb7] at hfin0
          have hfin := hide hfin0
          clear hfin0
          clear hI hown HbA
          go_wp2
          go_roundw
          case rel => exact ⟨k - 1, [(y : Int)], _, _, by omega, by simp; omega, by go_num, hfin.out⟩
          case measure => simp [intOf]; omega
        · by_cases h4 : kd = 4
          · subst h4
            have hbg5 := HS5.out.grew.block g hglt (by omega) (fun e => (Hna0.out g e).2 rfl)
            obtain ⟨m, hmy⟩ : ∃ m, ns[y]? = some m := ⟨_, List.getElem?_eq_getElem (by omega)⟩
            have hnm := Hg.out.nd y m hmy
            obtain ⟨Am, cm, k2', _, _, _, _, _⟩ := hnm.kids
            have k0 := (World.cell?_of_block (a := ⟨g, y * 3, none⟩) (w := w) hbg5).trans hnm.kind
            have k1 := (World.cell?_of_block (a := ⟨g, y * 3 + 1, none⟩) (w := w) hbg5).trans hnm.value
            have k2 := (World.cell?_of_block (a := ⟨g, y * 3 + 2, none⟩) (w := w) hbg5).trans k2'
            clear hbg5 hnm hmy k2'
            by_cases hK6 : K.length < 6
            · have hK6' : (K.length : Int) < 6 := by omega
              go_wp2_with fail
              refine (isKey_any (.slice Am m.kids.length cm) m w5).mono ?_
              rintro e w6 ⟨rfl, hb6⟩
              have hS6 := HS5.out.later hb6
              clear k0 k1 k2 e0 e1 m0 m1 m2 f2 hb6
              have e0 := hS6.l4.cell 0
              have e1 := hS6.l4.cell 1
              have m0 := hS6.l7.cell 0
              have m1 := hS6.l7.cell 1
              have m2 := hS6.l7.cell 2
              simp at e0 e1 m0 m1 m2
              have HS6 := hide hS6
              by_cases hkey : IsKey m
              · rw [tf_true hkey]
                obtain ⟨p2, hp2, hr2⟩ := hS6.rd
                have hr2d := hr2.drew
                have HS6d : Hid (AddK w w6.drew rb B w.heap.size (w.heap.size + 1) (w.heap.size + 1 + 1) g cap nb cb ns.length A r 4 vd (p + 10 - 2 * k) A0 c0 K0 K An cn) := HS6.out.later (Below.refl _ _).drew
                have hpk := hide (fun X : World => fun h : Rd X rb A nb cb p2 => pick_any rb A nb cb p2 (ns.length : Int) X h (by omega) (by omega))
                have hn4 := HS6.out.n4
                have hsB := HS6.out.size
                have HyI := hide hyIn
                clear hS6 hkey hr2 hyIn
                go_wp2_with fail
                go_region_law (first
                  | (go_simp; go_at_call 29; refine (hpk.out _ hr2d).mono ?_; rintro e w7 ⟨⟨y2, rfl, hy2, _⟩, hr7, ht7⟩; dsimp only
                     have S7 := HS6d.out.turn (P' := p + 11 - 2 * k) ht7 hr7 (by omega)
                     have z0 := S7.l4.cell 0; have z1 := S7.l4.cell 1; have j0 := S7.l7.cell 0; have j1 := S7.l7.cell 1; have j2 := S7.l7.cell 2
                     have hl7 := S7.l7.lt; have hl4 := S7.l4.lt; have hs7 := S7.size
                     simp at z0 z1 j0 j1 j2
                     have HS7 := hide S7
                     have Hy2 := hide hy2
                     clear S7 hy2 ht7 hr7)
                  | (refine step_append_intsK (by rfl) _ _ (by rfl) 0 An cn K (by rfl) (HS7.out.own.alloc _) _ ⟨w7.heap.size, 0, none⟩ 2 [(y : Int), (y2 : Int)] (by simp) (by rfl) (by simpa using IntsAt.lit w7 [(y : Int), (y2 : Int)] (by intro z hz; simp at hz; rcases hz with rfl | rfl; exact HyI.out; (have := Hy2.out (by omega)); constructor <;> omega) (by simp)) (by simp; omega) (by simp) ?_; intro zs A' c' w8 hz
                     have s1 : w8.cell? ⟨w.heap.size + 1 + 1, 2, none⟩ = some (.slice An K.length cn) := (hz.out.grown.cell_far _ (by simp; omega) HS7.out.ne7).trans (((HS7.out.l7.alloc _).cell 2).trans (by simp))
                     have s2 : w8.frozen? ⟨w.heap.size + 1 + 1, 2, none⟩ = false := (hz.out.grown.frozen_far _ (by simp; omega) HS7.out.ne7).trans ((HS7.out.l7.alloc _).frozen 2)))
                all_goals
                  have hzl : Hid (zs.length = K.length + 2) := by show _ = _; rw [hz.out.eq]; simp
                  have hfin := hide (((HS7.out.later ((Below.refl w7.heap.size w7).alloc (Nat.le_refl _) (.cells #[.int .i64 (y : Int), .int .i64 (y2 : Int)] 3))).app hz.out (fun z hzm => by
                    rw [hz.out.eq] at hzm
                    rcases List.mem_append.1 hzm with h | h
                    · exact HS7.out.inn z h
                    · have := Hy2.out (by omega)
                      simp at h
                      rcases h with rfl | rfl <;> omega)).more (P' := p + 9 - 2 * (k - 1)) (by omega))
                  clear s1 s2 z0 z1 j0 j1 j2 e0 e1 m0 m1 m2
                  go_wp2
                  go_roundw
                  case rel => exact ⟨k - 1, zs, A', c', by omega, by have := hzl.out; omega, by go_num, hfin.out⟩
                  case measure => simp [intOf]; omega
              · rw [tf_false hkey]
                clear hS6 hkey
                go_wp2
                go_roundw
                case rel => exact ⟨k - 1, K, An, cn, by omega, by omega, by go_num, HS6.out.more (by omega)⟩
                case measure => simp [intOf]; omega
            · have hK6' : ¬ (K.length : Int) < 6 := by omega
              clear k0 k1 k2
              go_wp2
              go_roundw
              case rel => exact ⟨k - 1, K, An, cn, by omega, by omega, by go_num, HS5.out.more (by omega)⟩
              case measure => simp [intOf]; omega
          · have t2 : (kd == 2) = false := by simp; omega
            have t3 : (kd == 3) = false := by simp; omega
            have t4 : (kd == 4) = false := by simp; omega
            have t5 : (kd == 5) = false := by simp; omega
            go_wp2
            go_roundw
            case rel => exact ⟨k - 1, K, An, cn, by omega, by omega, by go_num, HS5.out.more (by omega)⟩
            case measure => simp [intOf]; omega

end Go.Proofs.Ythgklkpfmjgeoaa
