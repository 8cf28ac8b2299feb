/-
  Lemmas, several texts in one: Mem, OwnZ.
-/
import Derived.Test.YtbihgafkmmcjlaaDoorChecked
import Derived.WalkKit
import Derived.WalkLawsBesides
import Derived.WalkSpells
import Derived.Deep.OwnRows
import Derived.Maps.AppendAt
import Derived.Laws.AppendOwnNone
import Derived.Maps.RangeWalk
namespace Go.Proofs.YtbihgafkmmcjlaaDoor
theorem jA {α : Type _} (l : List α) (i : Nat) (a : α) : l.toArray.setIfInBounds i a = (l.set i a).toArray := List.setIfInBounds_toArray l i a
theorem jB {α : Type _} {x : α} {xs : List α} {a : α} : (x :: xs).set 0 a = a :: xs := rfl
theorem jC {α : Type _} {x : α} {xs : List α} {i : Nat} {a : α} : (x :: xs).set (i + 1) a = x :: xs.set i a := rfl
theorem jD {α : Type _} {xs : List α} {i : Nat} : xs.toArray[i]? = xs[i]? := List.getElem?_toArray
theorem jE {α : Type _} {a : α} {l : List α} : (a :: l)[0]? = some a := rfl
theorem jF {α : Type _} {a : α} {i : Nat} {l : List α} : (a :: l)[i + 1]? = l[i]? := rfl
open Go.RowKit
theorem ret_int {k : IntKind} {a b : Int} (h : a = b) : Ending.returned (.int k a) = .returned (.int k b) := by rw [h]
theorem ret_bool {a b : Bool} (h : a = b) : Ending.returned (.bool a) = .returned (.bool b) := by rw [h]
theorem hide {p : Prop} (h : p) : Hid p := h
theorem drop_at {α : Type} {l : List α} {k : Nat} {x : α} (h : l[k]? = some x) : l.drop k = x :: l.drop (k + 1) := by
  obtain ⟨hk, rfl⟩ := List.getElem?_eq_some_iff.1 h
  exact List.drop_eq_getElem_cons hk
noncomputable def tf (p : Prop) : Bool := @decide p (Classical.propDecidable p)
theorem tf_true {p : Prop} (h : p) : tf p = true := by unfold tf; simpa using h
theorem tf_false {p : Prop} (h : ¬ p) : tf p = false := by unfold tf; simpa using h
theorem tf_congr {p q : Prop} (h : p ↔ q) : tf p = tf q := by rw [propext h]
def place (xs : List Int) (n : Int) : Int := if n ∈ xs then (xs.idxOf n : Int) else -1
theorem place_neg {xs : List Int} {n : Int} (h : n ∉ xs) : place xs n = -1 := by unfold place; rw [if_neg h]
theorem place_pos {xs : List Int} {n : Int} (h : n ∈ xs) : place xs n = (xs.idxOf n : Int) := by unfold place; rw [if_pos h]
theorem place_lt {xs : List Int} {n : Int} (h : n ∈ xs) : 0 ≤ place xs n ∧ place xs n < xs.length := by
  rw [place_pos h]
  have := List.idxOf_lt_length_of_mem h
  omega
theorem place_at {xs : List Int} {n : Int} {k : Nat} (hk : xs[k]? = some n) (h : ∀ j, j < k → xs[j]? ≠ some n) : place xs n = k := by
  have hm : n ∈ xs := List.mem_of_getElem? hk
  rw [place_pos hm]
  obtain ⟨hlt, he⟩ := List.getElem?_eq_some_iff.1 hk
  have h1 := List.idxOf_lt_length_of_mem hm
  have h2 : xs[xs.idxOf n] = n := List.getElem_idxOf h1
  rcases Nat.lt_trichotomy (xs.idxOf n) k with h3 | h3 | h3
  · exact absurd (by rw [List.getElem?_eq_getElem h1, h2]) (h _ h3)
  · omega
  · have h4 := List.not_of_lt_findIdx (xs := xs) (p := (· == n)) (i := k) (by simpa [List.idxOf] using h3)
    simp [he] at h4
theorem place_none {xs : List Int} {n : Int} (h : ∀ j, j < xs.length → xs[j]? ≠ some n) : place xs n = -1 := by
  apply place_neg
  intro hm
  obtain ⟨j, hj, he⟩ := List.getElem_of_mem hm
  exact h j hj (by rw [List.getElem?_eq_getElem hj, he])
def In64 (x : Int) : Prop := -9223372036854775808 ≤ x ∧ x ≤ 9223372036854775807
structure IntsAt (w : World) (B : Nat) (A : Option Addr) (xs : List Int) : Prop where
  row : xs ≠ [] → ∃ b off, A = some ⟨b, off, none⟩ ∧ b < B ∧ ∀ j x, xs[j]? = some x → w.cell? ⟨b, off + j, none⟩ = some (.int .i64 x)
  wf : ∀ x ∈ xs, In64 x
  len : xs.length ≤ 9223372036854775807
theorem IntsAt.below {w w' : World} {B : Nat} {A : Option Addr} {xs : List Int} (h : IntsAt w B A xs) (hb : Below B w w') : IntsAt w' B A xs :=
  ⟨fun hx => by
    obtain ⟨b, off, e, hlt, hc⟩ := h.row hx
    exact ⟨b, off, e, hlt, fun j x hj => (hb.cell hlt).trans (hc j x hj)⟩, h.wf, h.len⟩
theorem IntsAt.more {w : World} {B B' : Nat} {A : Option Addr} {xs : List Int} (h : IntsAt w B A xs) (hB : B ≤ B') : IntsAt w B' A xs :=
  ⟨fun hx => by
    obtain ⟨b, off, e, hlt, hc⟩ := h.row hx
    exact ⟨b, off, e, Nat.lt_of_lt_of_le hlt hB, hc⟩, h.wf, h.len⟩
theorem IntsAt.later {w w' : World} {B : Nat} {A : Option Addr} {xs : List Int} (h : IntsAt w B A xs) (hb : Below B w w') (hB : B ≤ w.heap.size) : IntsAt w' w'.heap.size A xs :=
  (h.below hb).more (Nat.le_trans hB hb.size)
theorem IntsAt.at_ {w : World} {B : Nat} {A : Option Addr} {xs : List Int} (h : IntsAt w B A xs) {k : Nat} (hk : k < xs.length) :
    ∃ b off x, A = some ⟨b, off, none⟩ ∧ b < B ∧ xs[k]? = some x ∧ x ∈ xs ∧ w.cell? ⟨b, off + k, none⟩ = some (.int .i64 x) := by
  obtain ⟨b, off, e, hlt, hc⟩ := h.row (by intro e; subst e; simp at hk)
  have hat : xs[k]? = some xs[k] := List.getElem?_eq_getElem hk
  exact ⟨b, off, xs[k], e, hlt, hat, List.getElem_mem hk, hc k _ hat⟩
def intCell (xs : List Int) (i : Nat) : Value := .int .i64 (xs.getD i 0)
theorem intCell_at {xs : List Int} {k : Nat} {x : Int} (h : xs[k]? = some x) : intCell xs k = .int .i64 x := by
  unfold intCell
  rw [List.getD_eq_getElem?_getD, h]; rfl
theorem IntsAt.of_row {w : World} {B g : Nat} {t : TypeId} {xs : List Int} (h : w.rowIs g t xs.length (intCell xs)) (hg : g < B) (hwf : ∀ x ∈ xs, In64 x) (hl : xs.length ≤ 9223372036854775807) :
    IntsAt w B (some ⟨g, 0, none⟩) xs :=
  ⟨fun _ => ⟨g, 0, rfl, hg, fun j x hj => by
    rw [Nat.zero_add, ← intCell_at hj]
    exact h.cell (List.getElem?_eq_some_iff.1 hj).1⟩, hwf, hl⟩
theorem rowIs_below {w w' : World} {B g : Nat} {t : TypeId} {n : Nat} {f : Nat → Value} (h : w.rowIs g t n f) (hb : Below B w w') (hg : g < B) : w'.rowIs g t n f :=
  h.of_block (hb.block g hg)
structure Nd where
  kind : Int
  value : Int
  kids : List Int
  deriving DecidableEq
structure NdAt (w : World) (B : Nat) (b off : Nat) (n : Nd) : Prop where
  kind : w.cell? ⟨b, off, none⟩ = some (.int .i64 n.kind)
  value : w.cell? ⟨b, off + 1, none⟩ = some (.int .i64 n.value)
  kids : ∃ A c, w.cell? ⟨b, off + 2, none⟩ = some (.slice A n.kids.length c) ∧ IntsAt w B A n.kids ∧ (A = none → c = 0)
  wfk : In64 n.kind
  wfv : In64 n.value
structure NdsAt (w : World) (B : Nat) (A : Option Addr) (ns : List Nd) : Prop where
  row : ns ≠ [] → ∃ b off, A = some ⟨b, off, none⟩ ∧ b < B ∧ ∀ j n, ns[j]? = some n → NdAt w B b (off + j * 3) n
  len : ns.length ≤ 9223372036854775807
theorem NdAt.below {w w' : World} {B b off : Nat} {n : Nd} (h : NdAt w B b off n) (hlt : b < B) (hb : Below B w w') : NdAt w' B b off n := by
  obtain ⟨A, c, h1, h2, h3⟩ := h.kids
  exact ⟨(hb.cell hlt).trans h.kind, (hb.cell hlt).trans h.value, ⟨A, c, (hb.cell hlt).trans h1, h2.below hb, h3⟩, h.wfk, h.wfv⟩
theorem NdAt.more {w : World} {B B' b off : Nat} {n : Nd} (h : NdAt w B b off n) (hB : B ≤ B') : NdAt w B' b off n := by
  obtain ⟨A, c, h1, h2, h3⟩ := h.kids
  exact ⟨h.kind, h.value, ⟨A, c, h1, h2.more hB, h3⟩, h.wfk, h.wfv⟩
theorem NdsAt.below {w w' : World} {B : Nat} {A : Option Addr} {ns : List Nd} (h : NdsAt w B A ns) (hb : Below B w w') : NdsAt w' B A ns :=
  ⟨fun hx => by
    obtain ⟨b, off, e, hlt, hc⟩ := h.row hx
    exact ⟨b, off, e, hlt, fun j n hj => (hc j n hj).below hlt hb⟩, h.len⟩
theorem NdsAt.more {w : World} {B B' : Nat} {A : Option Addr} {ns : List Nd} (h : NdsAt w B A ns) (hB : B ≤ B') : NdsAt w B' A ns :=
  ⟨fun hx => by
    obtain ⟨b, off, e, hlt, hc⟩ := h.row hx
    exact ⟨b, off, e, Nat.lt_of_lt_of_le hlt hB, fun j n hj => (hc j n hj).more hB⟩, h.len⟩
theorem NdsAt.later {w w' : World} {B : Nat} {A : Option Addr} {ns : List Nd} (h : NdsAt w B A ns) (hb : Below B w w') (hB : B ≤ w.heap.size) : NdsAt w' w'.heap.size A ns :=
  (h.below hb).more (Nat.le_trans hB hb.size)
theorem NdsAt.at_ {w : World} {B : Nat} {A : Option Addr} {ns : List Nd} (h : NdsAt w B A ns) {k : Nat} (hk : k < ns.length) :
    ∃ b off n, A = some ⟨b, off, none⟩ ∧ b < B ∧ ns[k]? = some n ∧ n ∈ ns ∧ NdAt w B b (off + k * 3) n := by
  obtain ⟨b, off, e, hlt, hc⟩ := h.row (by intro e; subst e; simp at hk)
  have hat : ns[k]? = some ns[k] := List.getElem?_eq_getElem hk
  exact ⟨b, off, ns[k], e, hlt, hat, List.getElem_mem hk, hc k _ hat⟩
def Lies (w : World) (g : Nat) (cs : Array Value) (t : TypeId) : Prop := w.heap[g]? = some (.cells cs t (0, 0))
theorem Lies.cell {w : World} {g : Nat} {cs : Array Value} {t : TypeId} (h : Lies w g cs t) (i : Nat) : w.cell? ⟨g, i, none⟩ = cs[i]? := by
  unfold Lies at h
  simp [World.cell?, h]
theorem Lies.frozen {w : World} {g : Nat} {cs : Array Value} {t : TypeId} (h : Lies w g cs t) (i : Nat) : w.frozen? ⟨g, i, none⟩ = false := by
  unfold Lies at h
  simp [World.frozen?, h]
theorem Lies.lt {w : World} {g : Nat} {cs : Array Value} {t : TypeId} (h : Lies w g cs t) : g < w.heap.size := lt_of_block h
theorem Lies.below {w w' : World} {B g : Nat} {cs : Array Value} {t : TypeId} (h : Lies w g cs t) (hb : Below B w w') (hg : g < B) : Lies w' g cs t := (hb.block g hg).trans h
theorem Lies.new (w : World) (cs : Array Value) (t : TypeId) : Lies (w.alloc (.cells cs t)) w.heap.size cs t := heap_alloc_new w _
theorem Lies.alloc {w : World} {g : Nat} {cs : Array Value} {t : TypeId} (h : Lies w g cs t) (o : Obj) : Lies (w.alloc o) g cs t := (Below.heap_alloc w o g h.lt).trans h
theorem Lies.set {w : World} {g : Nat} {cs : Array Value} {t : TypeId} (h : Lies w g cs t) (i : Nat) (u : Value) : Lies (w.setCell ⟨g, i, none⟩ u) g (cs.setIfInBounds i u) t := by
  unfold Lies at h ⊢
  simp [World.setCell, Array.getElem?_modify, h]
theorem Lies.far {w : World} {g : Nat} {cs : Array Value} {t : TypeId} (h : Lies w g cs t) {p : Addr} (hp : g ≠ p.block) (u : Value) : Lies (w.setCell p u) g cs t := (Below.heap_setCell w p u g hp).trans h
theorem run_make_rows {P : Program} (t e : TypeId) (z : Value) (size bytes : Nat) (ht : P.underlying t = some (.slice e)) (hinfo : (P.info? e).map (fun i => (i.zero, i.size, i.bytes)) = some (some z, size, bytes))
    (kl kc : IntKind) (n : Nat) (hbytes : bytes * n ≤ 281474976710656) (h63 : n ≤ 9223372036854775807) (w : World) :
    (Instr.makeSlice t (.int kl (n : Int)) (.int kc (n : Int))).run P w = .ok (.slice (some ⟨w.heap.size, 0, none⟩) n n) (w.alloc (.cells (madeCells z.cells (n * size)) e)) := by
  obtain ⟨i, hi, hzz⟩ := Option.map_eq_some_iff.1 hinfo
  simp only [Prod.mk.injEq] at hzz
  obtain ⟨hz, hs, hb⟩ := hzz
  have hb' : (i.bytes : Int) * (n : Int) ≤ 281474976710656 := by
    have h : ((i.bytes * n : Nat) : Int) ≤ 281474976710656 := by rw [hb]; omega
    rwa [Int.natCast_mul] at h
  have hr := run_make (P := P) w t e i z ht hi hz kl kc n n (by omega) (Int.le_refl _) hb' (by omega)
  simp only [Int.toNat_natCast, hs] at hr
  exact hr
structure MadeNd (w : World) (g off lo : Nat) (t : TypeId) (n : Nd) : Prop where
  kind : w.cell? ⟨g, off, none⟩ = some (.int .i64 n.kind)
  value : w.cell? ⟨g, off + 1, none⟩ = some (.int .i64 n.value)
  kids : ∃ gk, lo ≤ gk ∧ w.cell? ⟨g, off + 2, none⟩ = some (.slice (some ⟨gk, 0, none⟩) n.kids.length n.kids.length) ∧ w.rowIs gk t n.kids.length (intCell n.kids)
theorem MadeNd.below {w w' : World} {B g off lo : Nat} {t : TypeId} {n : Nd} (h : MadeNd w g off lo t n) (hb : Below B w w') (hg : g < B) (hB : w.heap.size ≤ B) : MadeNd w' g off lo t n := by
  obtain ⟨gk, h1, h2, h3⟩ := h.kids
  exact ⟨(hb.cell hg).trans h.kind, (hb.cell hg).trans h.value, ⟨gk, h1, (hb.cell hg).trans h2, rowIs_below h3 hb (by have := h3.lt; omega)⟩⟩
theorem MadeNd.set {w : World} {g off lo p : Nat} {t : TypeId} {n : Nd} (h : MadeNd w g off lo t n) (hlo : g < lo) (hp : p < off ∨ off + 2 < p) (u : Value) : MadeNd (w.setCell ⟨g, p, none⟩ u) g off lo t n := by
  obtain ⟨gk, h1, h2, h3⟩ := h.kids
  refine ⟨?_, ?_, ⟨gk, h1, ?_, h3.setOther (by show gk ≠ g; omega) u⟩⟩
  · rw [World.cell?_setCell_other]
    · exact h.kind
    · intro e; injection e with _ e; omega
  · rw [World.cell?_setCell_other]
    · exact h.value
    · intro e; injection e with _ e; omega
  · rw [World.cell?_setCell_other]
    · exact h2
    · intro e; injection e with _ e; omega
theorem MadeNd.at_ {w : World} {B g off lo : Nat} {t : TypeId} {n : Nd} (h : MadeNd w g off lo t n) (hB : w.heap.size ≤ B) (hk : In64 n.kind) (hv : In64 n.value) (hwf : ∀ x ∈ n.kids, In64 x)
    (hl : n.kids.length ≤ 9223372036854775807) : NdAt w B g off n := by
  obtain ⟨gk, _, h2, h3⟩ := h.kids
  exact ⟨h.kind, h.value, ⟨_, _, h2, IntsAt.of_row h3 (Nat.lt_of_lt_of_le h3.lt hB) hwf hl, fun e => by cases e⟩, hk, hv⟩
def Wf (ns : List Nd) : Prop := ∀ n ∈ ns, In64 n.kind ∧ In64 n.value ∧ (∀ x ∈ n.kids, In64 x) ∧ n.kids.length ≤ 9223372036854775807
theorem NdsAt.wf {w : World} {B : Nat} {A : Option Addr} {ns : List Nd} (h : NdsAt w B A ns) : Wf ns := by
  intro n hn
  obtain ⟨k, hk, rfl⟩ := List.getElem_of_mem hn
  obtain ⟨b, off, m, _, _, hat, _, hm⟩ := h.at_ hk
  rw [List.getElem?_eq_getElem hk] at hat
  injection hat with hat
  subst hat
  obtain ⟨A', c', _, hI, _⟩ := hm.kids
  exact ⟨hm.wfk, hm.wfv, hI.wf, hI.len⟩
def set3 (w : World) (g p : Nat) (u0 u1 u2 : Value) : World := ((w.setCell ⟨g, p, none⟩ u0).setCell ⟨g, p + 1, none⟩ u1).setCell ⟨g, p + 2, none⟩ u2
theorem MadeNd.stored {w : World} {g off lo p : Nat} {t : TypeId} {n : Nd} (h : MadeNd w g off lo t n) (hlo : g < lo) (hp : p + 2 < off ∨ off + 2 < p) (u0 u1 u2 : Value) : MadeNd (set3 w g p u0 u1 u2) g off lo t n :=
  ((h.set hlo (by omega) u0).set hlo (by omega) u1).set hlo (by omega) u2
structure MadeNds (w : World) (g : Nat) (tn t : TypeId) (ns : List Nd) : Prop where
  row : ∃ f, w.rowIs g tn (ns.length * 3) f
  nodes : ∀ j n, ns[j]? = some n → MadeNd w g (j * 3) (g + 1) t n
theorem MadeNds.at_ {w : World} {g : Nat} {tn t : TypeId} {ns : List Nd} (h : MadeNds w g tn t ns) (hwf : Wf ns) (hl : ns.length ≤ 9223372036854775807) : NdsAt w w.heap.size (some ⟨g, 0, none⟩) ns := by
  refine ⟨fun _ => ⟨g, 0, rfl, ?_, fun j n hj => ?_⟩, hl⟩
  · obtain ⟨f, hf⟩ := h.row
    exact hf.lt
  · obtain ⟨h1, h2, h3, h4⟩ := hwf n (List.mem_of_getElem? hj)
    rw [Nat.zero_add]
    exact (h.nodes j n hj).at_ (Nat.le_refl _) h1 h2 h3 h4
theorem MadeNds.kept {w w' : World} {g : Nat} {tn t : TypeId} {ns : List Nd} (h : MadeNds w g tn t ns) (hk : ∀ k, g ≤ k → k < w.heap.size → w'.heap[k]? = w.heap[k]?) : MadeNds w' g tn t ns := by
  obtain ⟨f, hf⟩ := h.row
  have hg := hk g (Nat.le_refl _) hf.lt
  have hc : ∀ o, w'.cell? ⟨g, o, none⟩ = w.cell? ⟨g, o, none⟩ := fun o => World.cell?_of_block (w := w) hg
  refine ⟨⟨f, hf.of_block hg⟩, fun j n hj => ?_⟩
  have hn := h.nodes j n hj
  obtain ⟨gk, h1, h2, h3⟩ := hn.kids
  exact ⟨(hc _).trans hn.kind, (hc _).trans hn.value, ⟨gk, h1, (hc _).trans h2, h3.of_block (hk gk (by omega) h3.lt)⟩⟩
theorem MadeNds.below {w w' : World} {g : Nat} {tn t : TypeId} {ns : List Nd} (h : MadeNds w g tn t ns) (hb : Below w.heap.size w w') : MadeNds w' g tn t ns :=
  h.kept fun k _ hk => hb.block k hk
theorem MadeNds.far {w : World} {g : Nat} {tn t : TypeId} {ns : List Nd} (h : MadeNds w g tn t ns) {p : Addr} (hp : p.block < g) (u : Value) : MadeNds (w.setCell p u) g tn t ns :=
  h.kept fun k hk _ => Below.heap_setCell w p u k (by omega)
end Go.Proofs.YtbihgafkmmcjlaaDoor

namespace Go.Proofs.YtbihgafkmmcjlaaDoor
open Go.RowKit
theorem infoI : (Tryd.prog.info? 3).map (fun i => (i.zero, i.size, i.bytes)) = some (some (.int .i64 0), 1, 8) := by kernel_rfl
def blockOf (A : Option Addr) : Option Nat := A.map (·.block)
theorem ownBlock_slice (A : Option Addr) (n c : Nat) : (Value.slice A n c).ownBlock = blockOf A := by cases A <;> rfl
structure OwnI (w : World) (base : Nat) (A : Option Addr) (c : Nat) (xs : List Int) : Prop where
  own : w.ownsRow base 3 1 (.slice A xs.length c) xs.length (xs.map (Value.int .i64))
theorem OwnI.empty (w : World) (base : Nat) : OwnI w base none 0 [] := ⟨World.ownsRow_nil _ _ _ _⟩
theorem OwnI.form {w : World} {base : Nat} {A : Option Addr} {c : Nat} {xs : List Int} (h : OwnI w base A c xs) :
    (A = none ∧ c = 0 ∧ xs = []) ∨ ∃ g, A = some ⟨g, 0, none⟩ ∧ base ≤ g ∧ g < w.heap.size := by
  rcases h.own.2 with ⟨h1, h2⟩ | ⟨g, cap, cur, hv, hg, hh, _⟩
  · injection h1 with h1 _ h3
    exact .inl ⟨h1, h3, List.eq_nil_of_length_eq_zero h2⟩
  · injection hv with hv
    exact .inr ⟨g, hv, hg, lt_of_block hh⟩
theorem OwnI.nil {w : World} {base : Nat} {A : Option Addr} {c : Nat} {xs : List Int} (h : OwnI w base A c xs) : A = none → c = 0 := by
  intro e
  rcases h.form with ⟨_, h2, _⟩ | ⟨g, h2, _⟩
  · exact h2
  · rw [e] at h2; cases h2
theorem OwnI.ints {w : World} {base : Nat} {A : Option Addr} {c : Nat} {xs : List Int} (h : OwnI w base A c xs) (hwf : ∀ x ∈ xs, In64 x) (hl : xs.length ≤ 9223372036854775807) : IntsAt w w.heap.size A xs := by
  refine ⟨fun hx => ?_, hwf, hl⟩
  rcases h.form with ⟨_, _, h2⟩ | ⟨g, rfl, _, hlt⟩
  · exact absurd h2 hx
  · refine ⟨g, 0, rfl, hlt, fun j x hj => ?_⟩
    have hjl : j < xs.length := (List.getElem?_eq_some_iff.1 hj).1
    have := h.own.cellAt j (by omega)
    rw [Nat.zero_add, this, List.getElem?_map, hj]
    rfl
theorem OwnI.blocks {w : World} {base : Nat} {A : Option Addr} {c : Nat} {xs : List Int} (h : OwnI w base A c xs) : ∀ k, blockOf A = some k → base ≤ k ∧ k < w.heap.size := by
  intro k hk
  rcases h.form with ⟨rfl, _, _⟩ | ⟨g, rfl, h1, h2⟩
  · cases hk
  · simp [blockOf] at hk
    omega
theorem OwnI.alloc {w : World} {base : Nat} {A : Option Addr} {c : Nat} {xs : List Int} (h : OwnI w base A c xs) (o : Obj) : OwnI (w.alloc o) base A c xs := ⟨h.own.alloc o⟩
theorem OwnI.drew {w : World} {base : Nat} {A : Option Addr} {c : Nat} {xs : List Int} (h : OwnI w base A c xs) : OwnI w.drew base A c xs := ⟨h.own⟩
theorem OwnI.kept {w w' : World} {base : Nat} {A : Option Addr} {c : Nat} {xs : List Int} {row : Option Nat} (h : OwnI w base A c xs) (hg : w.grownBy w' row) (hne : blockOf A = none ∨ blockOf A ≠ row) : OwnI w' base A c xs :=
  ⟨h.own.kept hg (by rw [ownBlock_slice]; exact hne)⟩
theorem grownBy_of_below {w w' : World} (h : Below w.heap.size w w') : w.grownBy w' none :=
  ⟨h.os, h.tape, h.output, h.size, fun k hk _ => h.block k hk⟩
theorem OwnI.below {w w' : World} {base : Nat} {A : Option Addr} {c : Nat} {xs : List Int} (h : OwnI w base A c xs) (hb : Below w.heap.size w w') : OwnI w' base A c xs :=
  h.kept (grownBy_of_below hb) (by cases hA : blockOf A <;> simp)
theorem OwnI.mono {w : World} {base base' : Nat} {A : Option Addr} {c : Nat} {xs : List Int} (h : OwnI w base A c xs) (hb : base' ≤ base) : OwnI w base' A c xs := by
  refine ⟨h.own.1, ?_⟩
  rcases h.own.2 with h2 | ⟨g, cap, cur, hv, hg, r⟩
  · exact .inl h2
  · exact .inr ⟨g, cap, cur, hv, Nat.le_trans hb hg, r⟩
theorem below_grown {w0 w w' : World} {B : Nat} {A : Option Addr} (h : Below B w0 w) (hg : w.grownBy w' (blockOf A)) (hB : B ≤ w.heap.size) (hA : ∀ k, blockOf A = some k → B ≤ k) : Below B w0 w' :=
  h.grown hg hB hA
theorem ints_one (xs : List Int) : ∀ u ∈ xs.map (Value.int .i64), u.oneCell' = true := by
  intro u hu
  obtain ⟨x, _, rfl⟩ := List.mem_map.1 hu
  rfl
theorem IntsAt.one (w : World) (x : Int) (hx : In64 x) : IntsAt (w.alloc (.cells #[.int .i64 x] 3)) (w.heap.size + 1) (some ⟨w.heap.size, 0, none⟩) [x] := by
  refine ⟨fun _ => ⟨w.heap.size, 0, rfl, Nat.lt_succ_self _, fun j y hj => ?_⟩, fun y hy => by simp at hy; subst hy; exact hx, by simp⟩
  match j, hj with
  | 0, hj =>
    simp at hj
    subst hj
    simp
theorem OwnI.bare (w : World) : OwnI (w.alloc (.cells #[] 3)) w.heap.size (some ⟨w.heap.size, 0, none⟩) 0 [] :=
  ⟨World.ownsRow_lit w #[] 0 (Nat.le_refl _) (by unfold maxLen; omega) rfl⟩
def GivesInts (w : World) (xs : List Int) (e : Ending) (w' : World) : Prop := ∃ A c, e = .returned (.slice A xs.length c) ∧ OwnI w' w.heap.size A c xs ∧ Below w.heap.size w w'
end Go.Proofs.YtbihgafkmmcjlaaDoor
