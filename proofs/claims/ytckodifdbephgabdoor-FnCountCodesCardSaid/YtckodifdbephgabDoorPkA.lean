/-
  Lemmas, several texts in one: Arg, Mem, Forms, FormsL, Pick, NewR, Tup, Dfs, One, Own, OwnS, PlIn, SpecCp, InR, AllIn, SpecA, SpecB, SpecD, Od, Only, InfoO.
-/
import Derived.Test.YtckodifdbephgabDoorChecked
import Derived.WalkKit
import Derived.WalkLawsBesides
import Derived.WalkSpells
import Derived.Deep.OwnRows
import Derived.LaidMore
import Derived.Test.YtckodifdbephgabDoorRows
import Derived.ProofKit
import Derived.OpenShut
import Derived.ChangeVars
import Derived.Stop.Joined
import Derived.BigQuiet
import Derived.Laws.Bits64
import Derived.StillTailTactics
import Derived.Maps.AppendAt
import Derived.Laws.AppendOwnNone
import Derived.Maps.RangeWalk
import Derived.Deep.RegionLaw
import Derived.Deep.AppendLies
import Derived.Deep.QuietTactic
namespace Go.Proofs.YtckodifdbephgabDoor

/-- the greatest argument of a code, -1 if it has none -/
def argMost (c : Int) : Int := if c = 0 then 999 else if c = 1 then 9 else if c = 13 then 9 else if c = 15 then 19 else if c = 16 then 19 else -1

theorem argMost_range (c : Int) : -1 ≤ argMost c ∧ argMost c ≤ 999 := by
  unfold argMost
  repeat' split
  all_goals omega

/-- the greatest argument of a code, 0 if it has none -/
def argTop (c : Int) : Int := if argMost c < 0 then 0 else argMost c

theorem argTop_range (c : Int) : 0 ≤ argTop c ∧ argTop c ≤ 999 := by
  have := argMost_range c
  unfold argTop
  split <;> omega

end Go.Proofs.YtckodifdbephgabDoor

namespace Go.Proofs.YtckodifdbephgabDoor
open Go.RowKit

theorem ret_int {k : IntKind} {a b : Int} (h : a = b) : Ending.returned (.int k a) = .returned (.int k b) := by rw [h]
theorem ret_bool {a b : Bool} (h : a = b) : Ending.returned (.bool a) = .returned (.bool b) := by rw [h]
theorem hide {p : Prop} (h : p) : Hid p := h

theorem drop_at {α : Type} {l : List α} {k : Nat} {x : α} (h : l[k]? = some x) : l.drop k = x :: l.drop (k + 1) := by
  obtain ⟨hk, rfl⟩ := List.getElem?_eq_some_iff.1 h
  exact List.drop_eq_getElem_cons hk

/-- the truth value of a proposition -/
noncomputable def tf (p : Prop) : Bool := @decide p (Classical.propDecidable p)
theorem tf_true {p : Prop} (h : p) : tf p = true := by unfold tf; simpa using h
theorem tf_false {p : Prop} (h : ¬ p) : tf p = false := by unfold tf; simpa using h
theorem tf_congr {p q : Prop} (h : p ↔ q) : tf p = tf q := by rw [propext h]

/-- the first place of a number in a list, -1 where there is none -/
def place (xs : List Int) (n : Int) : Int := if n ∈ xs then (xs.idxOf n : Int) else -1

theorem place_neg {xs : List Int} {n : Int} (h : n ∉ xs) : place xs n = -1 := by unfold place; rw [if_neg h]
theorem place_pos {xs : List Int} {n : Int} (h : n ∈ xs) : place xs n = (xs.idxOf n : Int) := by unfold place; rw [if_pos h]
theorem place_lt {xs : List Int} {n : Int} (h : n ∈ xs) : 0 ≤ place xs n ∧ place xs n < xs.length := by
  rw [place_pos h]
  have := List.idxOf_lt_length_of_mem h
  omega

/-- a search that has come to k: no earlier place has the number -/
theorem place_at {xs : List Int} {n : Int} {k : Nat} (hk : xs[k]? = some n) (h : ∀ j, j < k → xs[j]? ≠ some n) : place xs n = k := by
  have hm : n ∈ xs := List.mem_of_getElem? hk
  rw [place_pos hm]
  obtain ⟨hlt, he⟩ := List.getElem?_eq_some_iff.1 hk
  have h1 := List.idxOf_lt_length_of_mem hm
  have h2 : xs[xs.idxOf n] = n := List.getElem_idxOf h1
  rcases Nat.lt_trichotomy (xs.idxOf n) k with h3 | h3 | h3
  · exact absurd (by rw [List.getElem?_eq_getElem h1, h2]) (h _ h3)
  · omega
  · have h4 := List.not_of_lt_findIdx (xs := xs) (p := (· == n)) (i := k) (by simpa [List.idxOf] using h3)
    simp [he] at h4

theorem place_none {xs : List Int} {n : Int} (h : ∀ j, j < xs.length → xs[j]? ≠ some n) : place xs n = -1 := by
  apply place_neg
  intro hm
  obtain ⟨j, hj, he⟩ := List.getElem_of_mem hm
  exact h j hj (by rw [List.getElem?_eq_getElem hj, he])

/-- a number that an int holds -/
def In64 (x : Int) : Prop := -9223372036854775808 ≤ x ∧ x ≤ 9223372036854775807

/-- a slice at A has the numbers xs for its elements, in a block below B -/
structure IntsAt (w : World) (B : Nat) (A : Option Addr) (xs : List Int) : Prop where
  row : xs ≠ [] → ∃ b off, A = some ⟨b, off, none⟩ ∧ b < B ∧ ∀ j x, xs[j]? = some x → w.cell? ⟨b, off + j, none⟩ = some (.int .i64 x)
  wf : ∀ x ∈ xs, In64 x
  len : xs.length ≤ 9223372036854775807

theorem IntsAt.below {w w' : World} {B : Nat} {A : Option Addr} {xs : List Int} (h : IntsAt w B A xs) (hb : Below B w w') : IntsAt w' B A xs :=
  ⟨fun hx => by
    obtain ⟨b, off, e, hlt, hc⟩ := h.row hx
    exact ⟨b, off, e, hlt, fun j x hj => (hb.cell hlt).trans (hc j x hj)⟩, h.wf, h.len⟩

theorem IntsAt.more {w : World} {B B' : Nat} {A : Option Addr} {xs : List Int} (h : IntsAt w B A xs) (hB : B ≤ B') : IntsAt w B' A xs :=
  ⟨fun hx => by
    obtain ⟨b, off, e, hlt, hc⟩ := h.row hx
    exact ⟨b, off, e, Nat.lt_of_lt_of_le hlt hB, hc⟩, h.wf, h.len⟩

/-- the reading in a later world, for a callee that is called there -/
theorem IntsAt.later {w w' : World} {B : Nat} {A : Option Addr} {xs : List Int} (h : IntsAt w B A xs) (hb : Below B w w') (hB : B ≤ w.heap.size) : IntsAt w' w'.heap.size A xs :=
  (h.below hb).more (Nat.le_trans hB hb.size)

theorem IntsAt.at_ {w : World} {B : Nat} {A : Option Addr} {xs : List Int} (h : IntsAt w B A xs) {k : Nat} (hk : k < xs.length) :
    ∃ b off x, A = some ⟨b, off, none⟩ ∧ b < B ∧ xs[k]? = some x ∧ x ∈ xs ∧ w.cell? ⟨b, off + k, none⟩ = some (.int .i64 x) := by
  obtain ⟨b, off, e, hlt, hc⟩ := h.row (by intro e; subst e; simp at hk)
  have hat : xs[k]? = some xs[k] := List.getElem?_eq_getElem hk
  exact ⟨b, off, xs[k], e, hlt, hat, List.getElem_mem hk, hc k _ hat⟩

/-- the cells of an int slice that the call made -/
def intCell (xs : List Int) (i : Nat) : Value := .int .i64 (xs.getD i 0)

theorem intCell_at {xs : List Int} {k : Nat} {x : Int} (h : xs[k]? = some x) : intCell xs k = .int .i64 x := by
  unfold intCell
  rw [List.getD_eq_getElem?_getD, h]; rfl

theorem IntsAt.of_row {w : World} {B g : Nat} {t : TypeId} {xs : List Int} (h : w.rowIs g t xs.length (intCell xs)) (hg : g < B) (hwf : ∀ x ∈ xs, In64 x) (hl : xs.length ≤ 9223372036854775807) :
    IntsAt w B (some ⟨g, 0, none⟩) xs :=
  ⟨fun _ => ⟨g, 0, rfl, hg, fun j x hj => by
    rw [Nat.zero_add, ← intCell_at hj]
    exact h.cell (List.getElem?_eq_some_iff.1 hj).1⟩, hwf, hl⟩

theorem rowIs_below {w w' : World} {B g : Nat} {t : TypeId} {n : Nat} {f : Nat → Value} (h : w.rowIs g t n f) (hb : Below B w w') (hg : g < B) : w'.rowIs g t n f :=
  h.of_block (hb.block g hg)

/-- a node as the program reads it: kind, value, kids -/
structure Nd where
  kind : Int
  value : Int
  kids : List Int
  deriving DecidableEq

/-- the three cells of a node, its kids' slice among them -/
structure NdAt (w : World) (B : Nat) (b off : Nat) (n : Nd) : Prop where
  kind : w.cell? ⟨b, off, none⟩ = some (.int .i64 n.kind)
  value : w.cell? ⟨b, off + 1, none⟩ = some (.int .i64 n.value)
  kids : ∃ A c, w.cell? ⟨b, off + 2, none⟩ = some (.slice A n.kids.length c) ∧ IntsAt w B A n.kids ∧ (A = none → c = 0)
  wfk : In64 n.kind
  wfv : In64 n.value

structure NdsAt (w : World) (B : Nat) (A : Option Addr) (ns : List Nd) : Prop where
  row : ns ≠ [] → ∃ b off, A = some ⟨b, off, none⟩ ∧ b < B ∧ ∀ j n, ns[j]? = some n → NdAt w B b (off + j * 3) n
  len : ns.length ≤ 9223372036854775807

theorem NdAt.below {w w' : World} {B b off : Nat} {n : Nd} (h : NdAt w B b off n) (hlt : b < B) (hb : Below B w w') : NdAt w' B b off n := by
  obtain ⟨A, c, h1, h2, h3⟩ := h.kids
  exact ⟨(hb.cell hlt).trans h.kind, (hb.cell hlt).trans h.value, ⟨A, c, (hb.cell hlt).trans h1, h2.below hb, h3⟩, h.wfk, h.wfv⟩

theorem NdAt.more {w : World} {B B' b off : Nat} {n : Nd} (h : NdAt w B b off n) (hB : B ≤ B') : NdAt w B' b off n := by
  obtain ⟨A, c, h1, h2, h3⟩ := h.kids
  exact ⟨h.kind, h.value, ⟨A, c, h1, h2.more hB, h3⟩, h.wfk, h.wfv⟩

theorem NdsAt.below {w w' : World} {B : Nat} {A : Option Addr} {ns : List Nd} (h : NdsAt w B A ns) (hb : Below B w w') : NdsAt w' B A ns :=
  ⟨fun hx => by
    obtain ⟨b, off, e, hlt, hc⟩ := h.row hx
    exact ⟨b, off, e, hlt, fun j n hj => (hc j n hj).below hlt hb⟩, h.len⟩

theorem NdsAt.more {w : World} {B B' : Nat} {A : Option Addr} {ns : List Nd} (h : NdsAt w B A ns) (hB : B ≤ B') : NdsAt w B' A ns :=
  ⟨fun hx => by
    obtain ⟨b, off, e, hlt, hc⟩ := h.row hx
    exact ⟨b, off, e, Nat.lt_of_lt_of_le hlt hB, fun j n hj => (hc j n hj).more hB⟩, h.len⟩

theorem NdsAt.later {w w' : World} {B : Nat} {A : Option Addr} {ns : List Nd} (h : NdsAt w B A ns) (hb : Below B w w') (hB : B ≤ w.heap.size) : NdsAt w' w'.heap.size A ns :=
  (h.below hb).more (Nat.le_trans hB hb.size)

theorem NdsAt.at_ {w : World} {B : Nat} {A : Option Addr} {ns : List Nd} (h : NdsAt w B A ns) {k : Nat} (hk : k < ns.length) :
    ∃ b off n, A = some ⟨b, off, none⟩ ∧ b < B ∧ ns[k]? = some n ∧ n ∈ ns ∧ NdAt w B b (off + k * 3) n := by
  obtain ⟨b, off, e, hlt, hc⟩ := h.row (by intro e; subst e; simp at hk)
  have hat : ns[k]? = some ns[k] := List.getElem?_eq_getElem hk
  exact ⟨b, off, ns[k], e, hlt, hat, List.getElem_mem hk, hc k _ hat⟩

/-! blocks that are known whole -/

def Lies (w : World) (g : Nat) (cs : Array Value) (t : TypeId) : Prop := w.heap[g]? = some (.cells cs t (0, 0))

theorem Lies.cell {w : World} {g : Nat} {cs : Array Value} {t : TypeId} (h : Lies w g cs t) (i : Nat) : w.cell? ⟨g, i, none⟩ = cs[i]? := by
  unfold Lies at h
  simp [World.cell?, h]

theorem Lies.frozen {w : World} {g : Nat} {cs : Array Value} {t : TypeId} (h : Lies w g cs t) (i : Nat) : w.frozen? ⟨g, i, none⟩ = false := by
  unfold Lies at h
  simp [World.frozen?, h]

theorem Lies.lt {w : World} {g : Nat} {cs : Array Value} {t : TypeId} (h : Lies w g cs t) : g < w.heap.size := lt_of_block h

theorem Lies.below {w w' : World} {B g : Nat} {cs : Array Value} {t : TypeId} (h : Lies w g cs t) (hb : Below B w w') (hg : g < B) : Lies w' g cs t := (hb.block g hg).trans h

theorem Lies.new (w : World) (cs : Array Value) (t : TypeId) : Lies (w.alloc (.cells cs t)) w.heap.size cs t := heap_alloc_new w _

theorem Lies.alloc {w : World} {g : Nat} {cs : Array Value} {t : TypeId} (h : Lies w g cs t) (o : Obj) : Lies (w.alloc o) g cs t := (Below.heap_alloc w o g h.lt).trans h

theorem Lies.set {w : World} {g : Nat} {cs : Array Value} {t : TypeId} (h : Lies w g cs t) (i : Nat) (u : Value) : Lies (w.setCell ⟨g, i, none⟩ u) g (cs.setIfInBounds i u) t := by
  unfold Lies at h ⊢
  simp [World.setCell, Array.getElem?_modify, h]

theorem Lies.far {w : World} {g : Nat} {cs : Array Value} {t : TypeId} (h : Lies w g cs t) {p : Addr} (hp : g ≠ p.block) (u : Value) : Lies (w.setCell p u) g cs t := (Below.heap_setCell w p u g hp).trans h

/-! rows whose elements take several cells -/

theorem run_make_rows {P : Program} (t e : TypeId) (z : Value) (size bytes : Nat) (ht : P.underlying t = some (.slice e)) (hinfo : (P.info? e).map (fun i => (i.zero, i.size, i.bytes)) = some (some z, size, bytes))
    (kl kc : IntKind) (n : Nat) (hbytes : bytes * n ≤ 281474976710656) (h63 : n ≤ 9223372036854775807) (w : World) :
    (Instr.makeSlice t (.int kl (n : Int)) (.int kc (n : Int))).run P w = .ok (.slice (some ⟨w.heap.size, 0, none⟩) n n) (w.alloc (.cells (madeCells z.cells (n * size)) e)) := by
  obtain ⟨i, hi, hzz⟩ := Option.map_eq_some_iff.1 hinfo
  simp only [Prod.mk.injEq] at hzz
  obtain ⟨hz, hs, hb⟩ := hzz
  have hb' : (i.bytes : Int) * (n : Int) ≤ 281474976710656 := by
    have h : ((i.bytes * n : Nat) : Int) ≤ 281474976710656 := by rw [hb]; omega
    rwa [Int.natCast_mul] at h
  have hr := run_make (P := P) w t e i z ht hi hz kl kc n n (by omega) (Int.le_refl _) hb' (by omega)
  simp only [Int.toNat_natCast, hs] at hr
  exact hr

theorem rowIs_made_any (w : World) (z : Array Value) (n : Nat) (t : TypeId) : ∃ f, (w.alloc (.cells (madeCells z n) t)).rowIs w.heap.size t n f :=
  ⟨fun i => ((madeCells z n)[i]?).getD undef, ⟨_, heap_alloc_new w _, size_madeCells _ _, fun i hi => by
    have hs : i < (madeCells z n).size := by rw [size_madeCells]; exact hi
    show _ = some (((madeCells z n)[i]?).getD undef)
    rw [Array.getElem?_eq_getElem hs]; rfl⟩⟩

theorem below_one {w w' : World} {g : Nat} (h : ∀ k, k ≠ g → w'.heap[k]? = w.heap[k]?) {b o : Nat} (hb : b ≠ g) : w'.cell? ⟨b, o, none⟩ = w.cell? ⟨b, o, none⟩ :=
  World.cell?_of_block (w := w) (h b hb)

/-- a node in a row that the call made: its kids lie in a row of their own from block lo on -/
structure MadeNd (w : World) (g off lo : Nat) (t : TypeId) (n : Nd) : Prop where
  kind : w.cell? ⟨g, off, none⟩ = some (.int .i64 n.kind)
  value : w.cell? ⟨g, off + 1, none⟩ = some (.int .i64 n.value)
  kids : ∃ gk, lo ≤ gk ∧ w.cell? ⟨g, off + 2, none⟩ = some (.slice (some ⟨gk, 0, none⟩) n.kids.length n.kids.length) ∧ w.rowIs gk t n.kids.length (intCell n.kids)

theorem MadeNd.below {w w' : World} {B g off lo : Nat} {t : TypeId} {n : Nd} (h : MadeNd w g off lo t n) (hb : Below B w w') (hg : g < B) (hB : w.heap.size ≤ B) : MadeNd w' g off lo t n := by
  obtain ⟨gk, h1, h2, h3⟩ := h.kids
  exact ⟨(hb.cell hg).trans h.kind, (hb.cell hg).trans h.value, ⟨gk, h1, (hb.cell hg).trans h2, rowIs_below h3 hb (by have := h3.lt; omega)⟩⟩

theorem MadeNd.set {w : World} {g off lo p : Nat} {t : TypeId} {n : Nd} (h : MadeNd w g off lo t n) (hlo : g < lo) (hp : p < off ∨ off + 2 < p) (u : Value) : MadeNd (w.setCell ⟨g, p, none⟩ u) g off lo t n := by
  obtain ⟨gk, h1, h2, h3⟩ := h.kids
  refine ⟨?_, ?_, ⟨gk, h1, ?_, h3.setOther (by show gk ≠ g; omega) u⟩⟩
  · rw [World.cell?_setCell_other]
    · exact h.kind
    · intro e; injection e with _ e; omega
  · rw [World.cell?_setCell_other]
    · exact h.value
    · intro e; injection e with _ e; omega
  · rw [World.cell?_setCell_other]
    · exact h2
    · intro e; injection e with _ e; omega

theorem MadeNd.at_ {w : World} {B g off lo : Nat} {t : TypeId} {n : Nd} (h : MadeNd w g off lo t n) (hB : w.heap.size ≤ B) (hk : In64 n.kind) (hv : In64 n.value) (hwf : ∀ x ∈ n.kids, In64 x)
    (hl : n.kids.length ≤ 9223372036854775807) : NdAt w B g off n := by
  obtain ⟨gk, _, h2, h3⟩ := h.kids
  exact ⟨h.kind, h.value, ⟨_, _, h2, IntsAt.of_row h3 (Nat.lt_of_lt_of_le h3.lt hB) hwf hl, fun e => by cases e⟩, hk, hv⟩

/-- all nodes of a list hold numbers that ints hold -/
def Wf (ns : List Nd) : Prop := ∀ n ∈ ns, In64 n.kind ∧ In64 n.value ∧ (∀ x ∈ n.kids, In64 x) ∧ n.kids.length ≤ 9223372036854775807

theorem NdsAt.wf {w : World} {B : Nat} {A : Option Addr} {ns : List Nd} (h : NdsAt w B A ns) : Wf ns := by
  intro n hn
  obtain ⟨k, hk, rfl⟩ := List.getElem_of_mem hn
  obtain ⟨b, off, m, _, _, hat, _, hm⟩ := h.at_ hk
  rw [List.getElem?_eq_getElem hk] at hat
  injection hat with hat
  subst hat
  obtain ⟨A', c', _, hI, _⟩ := hm.kids
  exact ⟨hm.wfk, hm.wfv, hI.wf, hI.len⟩

/-- the world behind a store of three cells -/
def set3 (w : World) (g p : Nat) (u0 u1 u2 : Value) : World := ((w.setCell ⟨g, p, none⟩ u0).setCell ⟨g, p + 1, none⟩ u1).setCell ⟨g, p + 2, none⟩ u2

theorem MadeNd.stored {w : World} {g off lo p : Nat} {t : TypeId} {n : Nd} (h : MadeNd w g off lo t n) (hlo : g < lo) (hp : p + 2 < off ∨ off + 2 < p) (u0 u1 u2 : Value) : MadeNd (set3 w g p u0 u1 u2) g off lo t n :=
  ((h.set hlo (by omega) u0).set hlo (by omega) u1).set hlo (by omega) u2

theorem rowIs_set3 {w : World} {g p n : Nat} {t : TypeId} {f : Nat → Value} (h : w.rowIs g t n f) (u0 u1 u2 : Value) : ∃ f', (set3 w g p u0 u1 u2).rowIs g t n f' :=
  ⟨_, ((h.set p u0).set (p + 1) u1).set (p + 2) u2⟩

theorem MadeNd.of_set3 {w : World} {g p lo gk m : Nat} {t tn : TypeId} {f : Nat → Value} {n : Nd} (h : w.rowIs g tn m f) (hm : p + 2 < m) (hlo : g < lo) (hgk : lo ≤ gk) (hk : w.rowIs gk t n.kids.length (intCell n.kids)) :
    MadeNd (set3 w g p (.int .i64 n.kind) (.int .i64 n.value) (.slice (some ⟨gk, 0, none⟩) n.kids.length n.kids.length)) g p lo t n := by
  have h3 := ((h.set p (.int .i64 n.kind)).set (p + 1) (.int .i64 n.value)).set (p + 2) (.slice (some ⟨gk, 0, none⟩) n.kids.length n.kids.length)
  refine ⟨?_, ?_, ⟨gk, hgk, ?_, ((hk.setOther (by show gk ≠ g; omega) _).setOther (by show gk ≠ g; omega) _).setOther (by show gk ≠ g; omega) _⟩⟩
  · have := h3.cell (i := p) (by omega)
    rw [if_neg (by omega), if_neg (by omega), if_pos rfl] at this
    exact this
  · have := h3.cell (i := p + 1) (by omega)
    rw [if_neg (by omega), if_pos rfl] at this
    exact this
  · have := h3.cell (i := p + 2) (by omega)
    rw [if_pos rfl] at this
    exact this

theorem below_set3 {w w' : World} {B g p : Nat} (h : Below B w w') (hg : B ≤ g) (u0 u1 u2 : Value) : Below B w (set3 w' g p u0 u1 u2) :=
  ((h.setCell hg u0).setCell hg u1).setCell hg u2

/-- a row of nodes that the call made, in block g; the kids' rows behind it -/
structure MadeNds (w : World) (g : Nat) (tn t : TypeId) (ns : List Nd) : Prop where
  row : ∃ f, w.rowIs g tn (ns.length * 3) f
  nodes : ∀ j n, ns[j]? = some n → MadeNd w g (j * 3) (g + 1) t n

theorem MadeNds.at_ {w : World} {g : Nat} {tn t : TypeId} {ns : List Nd} (h : MadeNds w g tn t ns) (hwf : Wf ns) (hl : ns.length ≤ 9223372036854775807) : NdsAt w w.heap.size (some ⟨g, 0, none⟩) ns := by
  refine ⟨fun _ => ⟨g, 0, rfl, ?_, fun j n hj => ?_⟩, hl⟩
  · obtain ⟨f, hf⟩ := h.row
    exact hf.lt
  · obtain ⟨h1, h2, h3, h4⟩ := hwf n (List.mem_of_getElem? hj)
    rw [Nat.zero_add]
    exact (h.nodes j n hj).at_ (Nat.le_refl _) h1 h2 h3 h4

theorem MadeNds.kept {w w' : World} {g : Nat} {tn t : TypeId} {ns : List Nd} (h : MadeNds w g tn t ns) (hk : ∀ k, g ≤ k → k < w.heap.size → w'.heap[k]? = w.heap[k]?) : MadeNds w' g tn t ns := by
  obtain ⟨f, hf⟩ := h.row
  have hg := hk g (Nat.le_refl _) hf.lt
  have hc : ∀ o, w'.cell? ⟨g, o, none⟩ = w.cell? ⟨g, o, none⟩ := fun o => World.cell?_of_block (w := w) hg
  refine ⟨⟨f, hf.of_block hg⟩, fun j n hj => ?_⟩
  have hn := h.nodes j n hj
  obtain ⟨gk, h1, h2, h3⟩ := hn.kids
  exact ⟨(hc _).trans hn.kind, (hc _).trans hn.value, ⟨gk, h1, (hc _).trans h2, h3.of_block (hk gk (by omega) h3.lt)⟩⟩

theorem MadeNds.below {w w' : World} {g : Nat} {tn t : TypeId} {ns : List Nd} (h : MadeNds w g tn t ns) (hb : Below w.heap.size w w') : MadeNds w' g tn t ns :=
  h.kept fun k _ hk => hb.block k hk

theorem MadeNds.far {w : World} {g : Nat} {tn t : TypeId} {ns : List Nd} (h : MadeNds w g tn t ns) {p : Addr} (hp : p.block < g) (u : Value) : MadeNds (w.setCell p u) g tn t ns :=
  h.kept fun k hk _ => Below.heap_setCell w p u k (by omega)

end Go.Proofs.YtckodifdbephgabDoor

namespace Go.Proofs.YtckodifdbephgabDoor
open Go.RowKit Go.ChangeShapes

/-- how many things an order of a code takes, -1 for all above a mark -/
def takesOf (c : Nat) : Int := [0, 0, 0, -1, 0, 1, 2, 0, 1, -1, 0, 2, -1, 0, 1, 0, 0, 1, -1, 0].getD c 0

/-- how many things an order of a code pushes -/
def pushesOf (c : Nat) : Int := [1, 1, 1, 1, 1, 1, 1, 1, 0, 0, 1, 0, 0, 1, 0, 0, 1, 0, 0, 0].getD c 0

/-- the cells of the table -/
structure FormsAt (w : World) (B : Nat) : Prop where
  lt : 0 < B
  takes : ∀ c : Nat, c < 20 → w.cell? ⟨0, c * 3, none⟩ = some (.int .i64 (takesOf c))
  pushes : ∀ c : Nat, c < 20 → w.cell? ⟨0, c * 3 + 1, none⟩ = some (.int .i64 (pushesOf c))
  arg : ∀ c : Nat, c < 20 → w.cell? ⟨0, c * 3 + 2, none⟩ = some (.int .i64 (argTop c))

theorem FormsAt.below {w w' : World} {B : Nat} (h : FormsAt w B) (hb : Below B w w') : FormsAt w' B :=
  ⟨h.lt, fun c hc => (hb.cell (p := ⟨0, c * 3, none⟩) h.lt).trans (h.takes c hc), fun c hc => (hb.cell (p := ⟨0, c * 3 + 1, none⟩) h.lt).trans (h.pushes c hc), fun c hc => (hb.cell (p := ⟨0, c * 3 + 2, none⟩) h.lt).trans (h.arg c hc)⟩

theorem FormsAt.more {w : World} {B B' : Nat} (h : FormsAt w B) (hB : B ≤ B') : FormsAt w B' := ⟨Nat.lt_of_lt_of_le h.lt hB, h.takes, h.pushes, h.arg⟩

theorem FormsAt.later {w w' : World} {B : Nat} (h : FormsAt w B) (hb : Below B w w') (hB : B ≤ w.heap.size) : FormsAt w' w'.heap.size :=
  (h.below hb).more (Nat.le_trans hB hb.size)

end Go.Proofs.YtckodifdbephgabDoor

namespace Go.Proofs.YtckodifdbephgabDoor
open Go.ChangeShapes Go.WideShapes Go.ChangeAt Go.WideElems Go.RowKit
set_option linter.unusedVariables false

theorem gForms : Tryd.prog.globalNamed "loop.example/graphcode/impl.forms" = some 0 := by kernel_rfl
theorem tForms : (Tryd.prog.globals[0]?).map (·.type) = some 49 := by kernel_rfl
theorem cForm : Tryd.prog.cellsOf 48 = 3 := by kernel_rfl
theorem cForms : Tryd.prog.cellsOf 49 = 60 := by kernel_rfl
theorem cFormI : Tryd.prog.cellsOf 3 = 1 := by kernel_rfl

/-- what the table reads as -/
def formsD {H : Type} : DataW H := .agg ((List.range 20).map fun (c : Nat) => .agg [.lit (.int .i64 (takesOf c)), .lit (.int .i64 (pushesOf c)), .lit (.int .i64 (argTop c))])

theorem formsD_laid {H : Type} : (Rows.laid_loop_example_graphcode_impl_forms : DataW H) = formsD := rfl

theorem list3f {α : Type} (l : List α) (h : l.length = 3) : ∃ a b c, l = [a, b, c] := by
  match l, h with
  | [a, b, c], _ => exact ⟨a, b, c, rfl⟩

theorem formCells {H : Type} {enc : TypeId × Value → H} {W : World} {base : Nat} {spare : Nat → Bool} {held : Bool} {fuel : Nat} {cs : List Value} {y : DataW H × List MemPlace} (h : DataW.trod enc Tryd.prog W base spare held fuel 49 cs = some y) (hy : y.1 = formsD) :
    ∀ c : Nat, c < 20 → cs[c * 3]? = some (.int .i64 (takesOf c)) ∧ cs[c * 3 + 1]? = some (.int .i64 (pushesOf c)) ∧ cs[c * 3 + 2]? = some (.int .i64 (argTop c)) := by
  intro c hc
  obtain ⟨xs, m1, rfl, rfl, hlen, hn, hel⟩ := DataW.trod_array Tryd.underlying49 h
  rw [cForms] at hlen
  have h1 := hel c hc
  rw [cForm] at h1
  have hxs : ∃ x, xs[c]? = some x := ⟨_, List.getElem?_eq_getElem (by omega)⟩
  obtain ⟨x, hx⟩ := hxs
  rw [hx] at h1
  have hd : x.1 = .agg [.lit (.int .i64 (takesOf c)), .lit (.int .i64 (pushesOf c)), .lit (.int .i64 (argTop c))] := by
    simp only [formsD, DataW.agg.injEq] at hy
    have := congrArg (fun l => l[c]?) hy
    simp [hx, hc] at this
    exact this
  obtain ⟨ys, m2, _, rfl, hcl, hyl, hf⟩ := DataW.trod_struct Tryd.underlying48 h1
  obtain ⟨v0, v1, v2, hv⟩ := list3f _ (hcl.trans cForm)
  rw [hv] at hf
  have h0 : DataW.trod enc Tryd.prog W base spare held m2 3 (([v0, v1, v2].drop 0).take (Tryd.prog.cellsOf 3)) = ys[0]? := hf 0 _ rfl
  have h2 : DataW.trod enc Tryd.prog W base spare held m2 3 (([v0, v1, v2].drop 1).take (Tryd.prog.cellsOf 3)) = ys[1]? := hf 1 _ rfl
  have h3 : DataW.trod enc Tryd.prog W base spare held m2 3 (([v0, v1, v2].drop 2).take (Tryd.prog.cellsOf 3)) = ys[2]? := hf 2 _ rfl
  rw [cFormI] at h0 h2 h3
  simp only [List.drop_zero, List.drop_succ_cons, List.take_succ_cons, List.take_zero] at h0 h2 h3
  obtain ⟨z0, z1, z2, rfl⟩ := list3f ys hyl
  obtain ⟨a, ha, ha2, _⟩ := DataW.trod_int Tryd.underlying3 (show DataW.trod enc Tryd.prog W base spare held m2 3 [v0] = some z0 from h0)
  obtain ⟨b, hb, hb2, _⟩ := DataW.trod_int Tryd.underlying3 (show DataW.trod enc Tryd.prog W base spare held m2 3 [v1] = some z1 from h2)
  obtain ⟨d, hd3, hd2, _⟩ := DataW.trod_int Tryd.underlying3 (show DataW.trod enc Tryd.prog W base spare held m2 3 [v2] = some z2 from h3)
  simp at ha hb hd3
  subst ha
  subst hb
  subst hd3
  simp [ha2, hb2, hd2] at hd
  obtain ⟨rfl, rfl, rfl⟩ := hd
  have g0 : ((cs.drop (c * 3)).take 3)[0]? = some (.int .i64 (takesOf c)) := by rw [hv]; rfl
  have g1 : ((cs.drop (c * 3)).take 3)[1]? = some (.int .i64 (pushesOf c)) := by rw [hv]; rfl
  have g2 : ((cs.drop (c * 3)).take 3)[2]? = some (.int .i64 (argTop c)) := by rw [hv]; rfl
  rw [List.getElem?_take_of_lt (by omega), List.getElem?_drop] at g0 g1 g2
  exact ⟨g0, g1, g2⟩

theorem forms_of_var {W : World} {cs : Array Value} (hvar : W.var? Tryd.prog "loop.example/graphcode/impl.forms" = some cs) (h : ∀ c : Nat, c < 20 → cs.toList[c * 3]? = some (.int .i64 (takesOf c)) ∧ cs.toList[c * 3 + 1]? = some (.int .i64 (pushesOf c)) ∧ cs.toList[c * 3 + 2]? = some (.int .i64 (argTop c))) :
    FormsAt W W.heap.size := by
  have hc : ∀ i, W.cell? ⟨0, i, none⟩ = cs[i]? := World.var?_cell gForms hvar
  have h0 := (h 0 (by omega)).1
  refine ⟨World.block_lt_of_cell? (u := .int .i64 (takesOf 0)) W ⟨0, 0, none⟩ ?_, fun c hcl => ?_, fun c hcl => ?_, fun c hcl => ?_⟩
  · rw [hc, ← Array.getElem?_toList]; exact h0
  · rw [hc, ← Array.getElem?_toList]; exact (h c hcl).1
  · rw [hc, ← Array.getElem?_toList]; exact (h c hcl).2.1
  · rw [hc, ← Array.getElem?_toList]; exact (h c hcl).2.2

theorem forms_of_laid {W : World} (h : laidMetH Tryd.prog [("loop.example/graphcode/impl.forms", Rows.laid_loop_example_graphcode_impl_forms)] W) : FormsAt W W.heap.size := by
  rw [MakeChecks.laidMetH_plain _ _ _ (by kernel_rfl)] at h
  obtain ⟨ps, ⟨g0, t0, cs0, f0, p0, q0, hg0, ht0, hv0, hd0, _⟩, _⟩ := h
  obtain rfl := Option.some.inj (gForms.symm.trans hg0)
  obtain rfl := Option.some.inj (tForms.symm.trans ht0)
  exact forms_of_var hv0 (formCells hd0 formsD_laid)

end Go.Proofs.YtckodifdbephgabDoor

namespace Go.Proofs.YtckodifdbephgabDoor
open Go.RowKit
set_option linter.unusedVariables false

/-- the numbers of bytes in memory -/
def BytesAt (w : World) (B : Nat) (A : Option Addr) (n : Nat) : Prop := ∀ k, k < n → ∃ b off x : Nat, A = some ⟨b, off, none⟩ ∧ b < B ∧ w.cell? ⟨b, off + k, none⟩ = some (.int .u8 (x : Int)) ∧ x < 256

/-- a reader in memory: it has given p numbers -/
structure Rd (w : World) (rb : Nat) (A : Option Addr) (n c p : Nat) : Prop where
  box : Lies w rb #[.slice A n c, .int .i64 (p : Int)] 45
  bytes : BytesAt w rb A n
  few : n ≤ 2000

/-- nothing but one block has turned -/
structure Turn (g : Nat) (w w' : World) : Prop where
  os : w'.os = w.os
  tape : w'.tape = w.tape
  output : w'.output = w.output
  size : w'.heap.size = w.heap.size
  block : ∀ k, k ≠ g → w'.heap[k]? = w.heap[k]?

theorem xor_i64 (a b : Nat) (ha : a < 4611686018427387904) (hb : b < 4611686018427387904) : bits .xor .i64 (a : Int) (b : Int) = ((a ^^^ b : Nat) : Int) := by
  have hx : a ^^^ b < 2 ^ 62 := Nat.xor_lt_two_pow (by omega) (by omega)
  have h1 : (BitVec.ofInt 64 (a : Int)).toNat = a := by
    rw [BitVec.ofInt_natCast, BitVec.toNat_ofNat]; exact Nat.mod_eq_of_lt (by omega)
  have h2 : (BitVec.ofInt 64 (b : Int)).toNat = b := by
    rw [BitVec.ofInt_natCast, BitVec.toNat_ofNat]; exact Nat.mod_eq_of_lt (by omega)
  show IntKind.i64.wrap ((BitVec.ofInt 64 (a : Int) ^^^ BitVec.ofInt 64 (b : Int)).toNat : Int) = _
  rw [BitVec.toNat_xor, h1, h2, IntKind.wrap_i64]
  omega

theorem Rd.next {w : World} {rb : Nat} {A : Option Addr} {n c p : Nat} (h : Rd w rb A n c p) : Rd (w.setCell ⟨rb, 1, none⟩ (.int .i64 ((p : Int) + 1))) rb A n c (p + 1) ∧ Turn rb w (w.setCell ⟨rb, 1, none⟩ (.int .i64 ((p : Int) + 1))) := by
  have hb := h.box.set 1 (.int .i64 ((p : Int) + 1))
  simp only [List.setIfInBounds_toArray, List.set_cons_succ, List.set_cons_zero] at hb
  refine ⟨⟨by simpa using hb, fun k hk => ?_, h.few⟩, ⟨rfl, rfl, rfl, by simp, fun k hk => Below.heap_setCell _ _ _ _ hk⟩⟩
  obtain ⟨b, off, x, h1, h2, h3, h4⟩ := h.bytes k hk
  refine ⟨b, off, x, h1, h2, ?_, h4⟩
  rw [World.cell?_setCell_other]
  · exact h3
  · intro e
    injection e with e _
    omega

/-- what a pick gives -/
def Picked (rb : Nat) (A : Option Addr) (n c p : Nat) (m : Int) (w : World) (e : Ending) (w' : World) : Prop :=
  (∃ x : Nat, e = .returned (.int .i64 (x : Int)) ∧ (1 ≤ m → (x : Int) < m) ∧ (m < 1 → x = 0)) ∧ Rd w' rb A n c (p + 1) ∧ Turn rb w w'

theorem Turn.drew {g : Nat} {w w' : World} (h : Turn g w w') : Turn g w w'.drew := ⟨h.os, h.tape, h.output, h.size, h.block⟩
theorem BytesAt.later {w w' : World} {B : Nat} {A : Option Addr} {n : Nat} (h : BytesAt w B A n) (hb : Below B w w') : BytesAt w' B A n := fun k hk => by
  obtain ⟨b, off, x, h1, h2, h3, h4⟩ := h k hk
  exact ⟨b, off, x, h1, h2, (hb.cell (p := ⟨b, off + k, none⟩) h2).trans h3, h4⟩
theorem Rd.drew {w : World} {rb : Nat} {A : Option Addr} {n c p : Nat} (h : Rd w rb A n c p) : Rd w.drew rb A n c p := ⟨h.box, h.bytes, h.few⟩

set_option maxRecDepth 100000 in
set_option maxHeartbeats 4000000 in
theorem pick_any (rb : Nat) (A : Option Addr) (n c p : Nat) (m : Int) (w : World) (h : Rd w rb A n c p) (hp : p < 1000000) (hm : m ≤ 1000000) :
    Calls Tryd.prog 14 #[.pointer (some ⟨rb, 0, none⟩), .int .i64 m] w (Picked rb A n c p m w) := by
  have e0 := h.box.cell 0
  have e1 := h.box.cell 1
  have f1 := h.box.frozen 1
  simp at e0 e1
  have hn := h.few
  have hx := h.next
  have HX := hide hx
  have z0 := hx.1.box.cell 0
  have z1 := hx.1.box.cell 1
  have hby := hx.1.bytes
  simp at z0 z1
  have HB := hide hby
  clear h hx hby
  by_cases hm1 : m < 1
  · have hfin : Hid (Picked rb A n c p m w (.returned (.int .i64 0)) (w.setCell ⟨rb, 1, none⟩ (.int .i64 ((p : Int) + 1)))) := ⟨⟨0, rfl, fun h => by omega, fun _ => rfl⟩, HX.out⟩
    have t1 : decide (m < 1) = true := by simpa using hm1
    go_enter Tryd.func14, Tryd.ntmps14
    go_wp2
    go_ret
    exact hfin.out
  · have t1 : decide (m < 1) = false := by simpa using hm1
    by_cases hn0 : n = 0
    · subst hn0
      have hfin : Hid (Picked rb A 0 c p m w (.returned (.int .i64 0)) (w.setCell ⟨rb, 1, none⟩ (.int .i64 ((p : Int) + 1)))) := ⟨⟨0, rfl, fun h => by show (0 : Int) < m; omega, fun _ => rfl⟩, HX.out⟩
      go_enter Tryd.func14, Tryd.ntmps14
      go_wp2
      go_ret
      exact hfin.out
    · have hne : ((n : Int) == 0) = false := by simpa using hn0
      have hpn0 : (0 : Int) ≤ (p : Int) := by omega
      by_cases hpn : p < n
      · obtain ⟨b, off, x, rfl, hb, hc, hx⟩ := HB.out p hpn
        have hpn2 : (p : Int) < (n : Int) := by omega
        go_enter Tryd.func14, Tryd.ntmps14
        have hfin : Hid (Picked rb (some ⟨b, off, none⟩) n c p m w (.returned (.int .i64 ((x : Int) % m))) (w.setCell ⟨rb, 1, none⟩ (.int .i64 ((p : Int) + 1)))) := by
          have h1 := Int.emod_nonneg (x : Int) (show m ≠ 0 by omega)
          have h2 := Int.emod_lt_of_pos (x : Int) (show 0 < m by omega)
          obtain ⟨y, hy⟩ := Int.eq_ofNat_of_zero_le h1
          rw [hy] at h2 ⊢
          exact ⟨⟨y, rfl, fun _ => h2, fun h => by omega⟩, HX.out⟩
        go_wp2
        go_ret
        exact hfin.out
      · obtain ⟨j1, hj1, hj1n⟩ : ∃ j : Nat, (p : Int) % (n : Int) = (j : Int) ∧ j < n := ⟨p % n, by simp, Nat.mod_lt _ (by omega)⟩
        obtain ⟨j2, hj2, hj2n⟩ : ∃ j : Nat, ((p : Int) * 7 + 3) % (n : Int) = (j : Int) ∧ j < n := ⟨(p * 7 + 3) % n, by simp, Nat.mod_lt _ (by omega)⟩
        obtain ⟨q, hq, hqp⟩ : ∃ q : Nat, (p : Int) / (n : Int) = (q : Int) ∧ q ≤ p := ⟨p / n, by simp, Nat.div_le_self _ _⟩
        obtain ⟨b, off, x1, rfl, hb, hc1, hx1⟩ := HB.out j1 hj1n
        obtain ⟨b', off', x2, he', _, hc2, hx2⟩ := HB.out j2 hj2n
        simp only [Option.some.injEq, Addr.mk.injEq, and_true] at he'
        obtain ⟨rfl, rfl⟩ := he'
        have hpn2 : (n : Int) ≤ (p : Int) := by omega
        have a1 : (0 : Int) ≤ (j1 : Int) := by omega
        have a2 : (j1 : Int) < (n : Int) := by omega
        have a3 : (0 : Int) ≤ (j2 : Int) := by omega
        have a4 : (j2 : Int) < (n : Int) := by omega
        go_enter Tryd.func14, Tryd.ntmps14
        go_wp2_with fail
        go_quiet (fail)
        obtain ⟨V, hV, hVl⟩ : ∃ V : Nat, (x1 : Int) * 131 + (x2 : Int) * 1117 + (p : Int) * 29 + (q : Int) * 53 = (V : Int) ∧ V < 4611686018427387904 := ⟨x1 * 131 + x2 * 1117 + p * 29 + q * 53, by simp, by omega⟩
        rw [hV]
        obtain ⟨D, hD, hDl⟩ : ∃ D : Nat, (V : Int) / 64 = (D : Int) ∧ D < 4611686018427387904 := ⟨V / 64, by simp, by omega⟩
        obtain ⟨Y, hY⟩ : ∃ Y : Nat, bits .xor .i64 (V : Int) (D : Int) = (Y : Int) := ⟨_, xor_i64 V D hVl hDl⟩
        have hfin : Hid (Picked rb (some ⟨b, off, none⟩) n c p m w (.returned (.int .i64 ((Y : Int) % m))) ((w.setCell ⟨rb, 1, none⟩ (.int .i64 ((p : Int) + 1))).drewN nq)) := by
          have h1 := Int.emod_nonneg (Y : Int) (show m ≠ 0 by omega)
          have h2 := Int.emod_lt_of_pos (Y : Int) (show 0 < m by omega)
          obtain ⟨y, hy⟩ := Int.eq_ofNat_of_zero_le h1
          rw [hy] at h2 ⊢
          exact ⟨⟨y, rfl, fun _ => h2, fun h => by omega⟩, ⟨HX.out.1.box, HX.out.1.bytes, HX.out.1.few⟩, ⟨HX.out.2.os, HX.out.2.tape, HX.out.2.output, HX.out.2.size, HX.out.2.block⟩⟩
        have hY0 : (0 : Int) ≤ (Y : Int) := by omega
        generalize (w.setCell ⟨rb, 1, none⟩ (.int .i64 ((p : Int) + 1))).drewN nq = X at hfin ⊢
        go_wp2
        go_ret
        exact hfin.out

end Go.Proofs.YtckodifdbephgabDoor

namespace Go.Proofs.YtckodifdbephgabDoor
open Go.RowKit
set_option linter.unusedVariables false

theorem BytesAt.less {w : World} {B : Nat} {A : Option Addr} {n m : Nat} (h : BytesAt w B A n) (hm : m ≤ n) : BytesAt w B A m := fun k hk => h k (by omega)
theorem BytesAt.more {w : World} {B B' : Nat} {A : Option Addr} {n : Nat} (h : BytesAt w B A n) (hB : B ≤ B') : BytesAt w B' A n := fun k hk => by
  obtain ⟨b, off, x, h1, h2, h3⟩ := h k hk
  exact ⟨b, off, x, h1, by omega, h3⟩

set_option maxHeartbeats 1000000 in
theorem newReader_any (A : Option Addr) (n c : Nat) (w : World) (h : BytesAt w w.heap.size A n) (hc : n ≤ c) (hn : n ≤ 9223372036854775807) :
    Calls Tryd.prog 11 #[.slice A n c] w fun e w' => e = .returned (.pointer (some ⟨w.heap.size, 0, none⟩)) ∧ (∃ n' c', Rd w' w.heap.size A n' c' 0) ∧ Below w.heap.size w w' := by
  by_cases h2 : n ≤ 2000
  · have d : decide ((2000 : Int) < (n : Int)) = false := by simp; omega
    have hB : Below w.heap.size w (w.alloc (.cells #[.slice A n c, .int .i64 0] 45)) := (Below.refl _ _).alloc (Nat.le_refl _) _
    have HR : Hid (Rd (w.alloc (.cells #[.slice A n c, .int .i64 0] 45)) w.heap.size A n c 0) := hide ⟨Lies.new w _ _, h.later hB, h2⟩
    clear h
    go_enter Tryd.func11, Tryd.ntmps11
    go_wp2
    go_ret
    exact ⟨rfl, ⟨n, c, HR.out⟩, hB⟩
  · have d : decide ((2000 : Int) < (n : Int)) = true := by simp; omega
    obtain ⟨b, off, _, rfl, _⟩ := h 0 (by omega)
    have hcap : ¬ ((c : Int) < 2000) := by omega
    have hB : Below w.heap.size w (w.alloc (.cells #[.slice (some ⟨b, off, none⟩) 2000 c, .int .i64 0] 45)) := (Below.refl _ _).alloc (Nat.le_refl _) _
    have HR : Hid (Rd (w.alloc (.cells #[.slice (some ⟨b, off, none⟩) 2000 c, .int .i64 0] 45)) w.heap.size (some ⟨b, off, none⟩) 2000 c 0) := hide ⟨Lies.new w _ _, (h.less (by omega)).later hB, Nat.le_refl _⟩
    clear h
    go_enter Tryd.func11, Tryd.ntmps11
    go_wp2
    go_ret
    exact ⟨rfl, ⟨2000, c, HR.out⟩, hB⟩

end Go.Proofs.YtckodifdbephgabDoor

namespace Go.Proofs.YtckodifdbephgabDoor

/-- a nodup list of numbers below N is no longer than N -/
theorem nodup_le : ∀ (N : Nat) (l : List Int), l.Nodup → (∀ x ∈ l, 0 ≤ x ∧ x < N) → l.length ≤ N
  | 0, l, _, h => by
    cases l with
    | nil => simp
    | cons x l => have := h x (by simp); omega
  | N + 1, l, hd, h => by
    have h1 : (l.erase (N : Int)).length ≤ N := nodup_le N _ (hd.erase _) (fun x hx => by
      have hx2 := (List.Nodup.mem_erase_iff hd).1 hx
      have := h x hx2.2
      have hne := hx2.1
      omega)
    have h2 := List.length_erase (a := (N : Int)) (l := l)
    split at h2 <;> omega

def kidsOf (ns : List Nd) (x : Int) : List Int := ((ns[x.toNat]?).map Nd.kids).getD []
def kindOf (ns : List Nd) (x : Int) : Int := ((ns[x.toNat]?).map Nd.kind).getD (-1)

theorem kidsOf_at {ns : List Nd} {k : Nat} {n : Nd} (h : ns[k]? = some n) : kidsOf ns (k : Int) = n.kids := by
  unfold kidsOf
  rw [Int.toNat_natCast, h]; rfl
theorem kindOf_at {ns : List Nd} {k : Nat} {n : Nd} (h : ns[k]? = some n) : kindOf ns (k : Int) = n.kind := by
  unfold kindOf
  rw [Int.toNat_natCast, h]; rfl

/-- ways from the node i over tuples -/
inductive TReach (ns : List Nd) (i : Int) : Int → Prop
  | kid (x : Int) : x ∈ kidsOf ns i → TReach ns i x
  | step (y x : Int) : TReach ns i y → kindOf ns y = 2 → x ∈ kidsOf ns y → TReach ns i x

/-- what the search has found when it has come to place k of its list -/
structure TInv (ns : List Nd) (i : Int) (out list : List Int) (k : Nat) : Prop where
  sound : ∀ x ∈ list, TReach ns i x
  range : ∀ x ∈ list, 0 ≤ x ∧ x < ns.length
  sub : ∀ x ∈ out, x ∈ list
  done : ∀ j x, j < k → list[j]? = some x → x ∈ out
  nodup : out.Nodup
  kids : ∀ x ∈ kidsOf ns i, x ∈ list
  closed : ∀ y ∈ out, kindOf ns y = 2 → ∀ x ∈ kidsOf ns y, x ∈ list
  len : list.length ≤ 6 * (1 + out.length)

theorem TInv.start {ns : List Nd} {i : Int} (h6 : (kidsOf ns i).length ≤ 6) (hr : ∀ x ∈ kidsOf ns i, 0 ≤ x ∧ x < ns.length) : TInv ns i [] (kidsOf ns i) 0 :=
  ⟨fun x hx => .kid x hx, hr, fun x hx => (by cases hx), fun j x hj => absurd hj (by omega), List.nodup_nil, fun x hx => hx, fun y hy => (by cases hy), by simp; omega⟩

theorem TInv.seen {ns : List Nd} {i : Int} {out list : List Int} {k : Nat} {x : Int} (h : TInv ns i out list k) (hx : list[k]? = some x) (hm : x ∈ out) : TInv ns i out list (k + 1) :=
  ⟨h.sound, h.range, h.sub, fun j y hj hy => by
    by_cases e : j = k
    · subst e; rw [hx] at hy; injection hy with hy; subst hy; exact hm
    · exact h.done j y (by omega) hy, h.nodup, h.kids, h.closed, h.len⟩

theorem TInv.outLen {ns : List Nd} {i : Int} {out list : List Int} {k : Nat} (h : TInv ns i out list k) : out.length ≤ ns.length :=
  nodup_le ns.length out h.nodup fun x hx => h.range x (h.sub x hx)

theorem TInv.listLen {ns : List Nd} {i : Int} {out list : List Int} {k : Nat} (h : TInv ns i out list k) (h12 : ns.length ≤ 12) : list.length ≤ 78 := by
  have := h.outLen
  have := h.len
  omega

theorem TInv.leaf {ns : List Nd} {i : Int} {out list : List Int} {k : Nat} {x : Int} (h : TInv ns i out list k) (hx : list[k]? = some x) (hm : x ∉ out) (hk : kindOf ns x ≠ 2) : TInv ns i (out ++ [x]) list (k + 1) := by
  have hmem : x ∈ list := List.mem_of_getElem? hx
  refine ⟨h.sound, h.range, fun y hy => ?_, fun j y hj hy => ?_, ?_, h.kids, fun y hy h2 z hz => ?_, ?_⟩
  · rcases List.mem_append.1 hy with hy | hy
    · exact h.sub y hy
    · simp at hy; subst hy; exact hmem
  · by_cases e : j = k
    · subst e; rw [hx] at hy; injection hy with hy; subst hy; simp
    · exact List.mem_append_left _ (h.done j y (by omega) hy)
  · rw [List.nodup_append]
    exact ⟨h.nodup, by simp, fun a ha b hb => by simp at hb; subst hb; intro e; subst e; exact hm ha⟩
  · rcases List.mem_append.1 hy with hy | hy
    · exact h.closed y hy h2 z hz
    · simp at hy; subst hy; exact absurd h2 hk
  · have := h.len
    simp only [List.length_append, List.length_singleton]
    omega

theorem TInv.tuple {ns : List Nd} {i : Int} {out list : List Int} {k : Nat} {x : Int} (h : TInv ns i out list k) (hx : list[k]? = some x) (hm : x ∉ out) (hk : kindOf ns x = 2) (h6 : (kidsOf ns x).length ≤ 6)
    (hr : ∀ z ∈ kidsOf ns x, 0 ≤ z ∧ z < ns.length) : TInv ns i (out ++ [x]) (list ++ kidsOf ns x) (k + 1) := by
  have hmem : x ∈ list := List.mem_of_getElem? hx
  have hkl : k < list.length := (List.getElem?_eq_some_iff.1 hx).1
  refine ⟨fun y hy => ?_, fun y hy => ?_, fun y hy => ?_, fun j y hj hy => ?_, ?_, fun y hy => List.mem_append_left _ (h.kids y hy), fun y hy h2 z hz => ?_, ?_⟩
  · rcases List.mem_append.1 hy with hy | hy
    · exact h.sound y hy
    · exact .step x y (h.sound x hmem) hk hy
  · rcases List.mem_append.1 hy with hy | hy
    · exact h.range y hy
    · exact hr y hy
  · rcases List.mem_append.1 hy with hy | hy
    · exact List.mem_append_left _ (h.sub y hy)
    · simp at hy; subst hy; exact List.mem_append_left _ hmem
  · rw [List.getElem?_append_left (by omega)] at hy
    by_cases e : j = k
    · subst e; rw [hx] at hy; injection hy with hy; subst hy; simp
    · exact List.mem_append_left _ (h.done j y (by omega) hy)
  · rw [List.nodup_append]
    exact ⟨h.nodup, by simp, fun a ha b hb => by simp at hb; subst hb; intro e; subst e; exact hm ha⟩
  · rcases List.mem_append.1 hy with hy | hy
    · exact List.mem_append_left _ (h.closed y hy h2 z hz)
    · simp at hy; subst hy; exact List.mem_append_right _ hz
  · have := h.len
    simp only [List.length_append, List.length_singleton]
    omega

theorem TInv.all {ns : List Nd} {i : Int} {out list : List Int} (h : TInv ns i out list list.length) (x : Int) : x ∈ out ↔ TReach ns i x := by
  have hall : ∀ y ∈ list, y ∈ out := fun y hy => by
    obtain ⟨j, hj, rfl⟩ := List.getElem_of_mem hy
    exact h.done j _ hj (List.getElem?_eq_getElem hj)
  constructor
  · exact fun hx => h.sound x (h.sub x hx)
  · intro hx
    induction hx with
    | kid x hx => exact hall x (h.kids x hx)
    | step y x _ h2 hx ih => exact hall x (h.closed y ih h2 x hx)

end Go.Proofs.YtckodifdbephgabDoor

namespace Go.Proofs.YtckodifdbephgabDoor

/-- the walk from x, where the nodes of L have been met; only nodes that may be entered are met -/
def dfs (ns : List Nd) (ent : Int → Bool) : Nat → Int → List Int → List Int
  | 0, _, L => L
  | f + 1, x, L => if ent x = false ∨ x ∈ L then L else (kidsOf ns x).foldl (fun M k => dfs ns ent f k M) (L ++ [x])

def dfsL (ns : List Nd) (ent : Int → Bool) (f : Nat) (xs : List Int) (L : List Int) : List Int := xs.foldl (fun M k => dfs ns ent f k M) L

theorem dfs_stop {ns : List Nd} {ent : Int → Bool} {f : Nat} {x : Int} {L : List Int} (h : ent x = false ∨ x ∈ L) : dfs ns ent (f + 1) x L = L := by
  rw [dfs, if_pos h]

theorem dfs_go {ns : List Nd} {ent : Int → Bool} {f : Nat} {x : Int} {L : List Int} (h1 : ent x = true) (h2 : x ∉ L) : dfs ns ent (f + 1) x L = dfsL ns ent f (kidsOf ns x) (L ++ [x]) := by
  rw [dfs, if_neg (by simp [h1, h2])]
  rfl

theorem dfsL_nil (ns : List Nd) (ent : Int → Bool) (f : Nat) (L : List Int) : dfsL ns ent f [] L = L := rfl
theorem dfsL_cons (ns : List Nd) (ent : Int → Bool) (f : Nat) (x : Int) (xs L : List Int) : dfsL ns ent f (x :: xs) L = dfsL ns ent f xs (dfs ns ent f x L) := rfl
theorem dfsL_snoc (ns : List Nd) (ent : Int → Bool) (f : Nat) (xs : List Int) (x : Int) (L : List Int) : dfsL ns ent f (xs ++ [x]) L = dfs ns ent f x (dfsL ns ent f xs L) := by
  simp [dfsL]

/-- the kids of each node are nodes -/
def KidsIn (ns : List Nd) : Prop := ∀ n ∈ ns, ∀ x ∈ n.kids, 0 ≤ x ∧ x < ns.length

theorem KidsIn.of {ns : List Nd} (h : KidsIn ns) (x : Int) : ∀ k ∈ kidsOf ns x, 0 ≤ k ∧ k < ns.length := by
  intro k hk
  unfold kidsOf at hk
  cases hn : ns[x.toNat]? with
  | none => rw [hn] at hk; simp at hk
  | some n =>
    rw [hn] at hk
    exact h n (List.mem_of_getElem? hn) k (by simpa using hk)

/-- what has been met: different nodes -/
structure Met (ns : List Nd) (L : List Int) : Prop where
  nodup : L.Nodup
  range : ∀ x ∈ L, 0 ≤ x ∧ x < ns.length

theorem Met.nil (ns : List Nd) : Met ns [] := ⟨List.nodup_nil, fun x hx => by cases hx⟩
theorem Met.len {ns : List Nd} {L : List Int} (h : Met ns L) : L.length ≤ ns.length := nodup_le _ _ h.nodup h.range
theorem Met.snoc {ns : List Nd} {L : List Int} {x : Int} (h : Met ns L) (hx : 0 ≤ x ∧ x < ns.length) (hno : x ∉ L) : Met ns (L ++ [x]) := by
  refine ⟨?_, fun y hy => ?_⟩
  · rw [List.nodup_append]
    exact ⟨h.nodup, by simp, fun a ha b hb => by simp at hb; subst hb; intro e; subst e; exact hno ha⟩
  · rcases List.mem_append.1 hy with hy | hy
    · exact h.range y hy
    · simp at hy; subst hy; exact hx

/-- all that the walk gives -/
structure Walked (ns : List Nd) (ent : Int → Bool) (xs : List Int) (L R : List Int) : Prop where
  met : Met ns R
  sub : ∀ y ∈ L, y ∈ R
  len : L.length ≤ R.length
  starts : ∀ x ∈ xs, ent x = true → x ∈ R
  closed : ∀ y ∈ R, y ∉ L → ∀ k ∈ kidsOf ns y, ent k = true → k ∈ R
  from_ : ∀ y ∈ R, y ∈ L ∨ (ent y = true ∧ (y ∈ xs ∨ ∃ z ∈ R, z ∉ L ∧ y ∈ kidsOf ns z))

theorem walkedL (ns : List Nd) (ent : Int → Bool) (f : Nat)
    (ih : ∀ (x : Int) (L : List Int), Met ns L → 0 ≤ x → x < ns.length → ns.length < f + L.length → Walked ns ent [x] L (dfs ns ent f x L)) :
    ∀ (xs : List Int) (L : List Int), Met ns L → (∀ x ∈ xs, 0 ≤ x ∧ x < ns.length) → ns.length < f + L.length → Walked ns ent xs L (dfsL ns ent f xs L)
  | [], L, hL, _, _ => ⟨hL, fun y hy => hy, Nat.le_refl _, fun x hx => (by cases hx), fun y hy hno => absurd hy hno, fun y hy => .inl hy⟩
  | x :: xs, L, hL, hx, hf => by
    have h1 := ih x L hL (hx x (by simp)).1 (hx x (by simp)).2 hf
    have h2 := walkedL ns ent f ih xs (dfs ns ent f x L) h1.met (fun y hy => hx y (by simp [hy])) (by have := h1.len; omega)
    rw [dfsL_cons]
    refine ⟨h2.met, fun y hy => h2.sub y (h1.sub y hy), Nat.le_trans h1.len h2.len, fun y hy he => ?_, fun y hy hno k hk he => ?_, fun y hy => ?_⟩
    · rcases List.mem_cons.1 hy with rfl | hy
      · exact h2.sub _ (h1.starts _ (by simp) he)
      · exact h2.starts y hy he
    · by_cases hm : y ∈ dfs ns ent f x L
      · exact h2.sub _ (h1.closed y hm hno k hk he)
      · exact h2.closed y hy hm k hk he
    · rcases h2.from_ y hy with h | ⟨he, h | ⟨z, hz, hzn, hk⟩⟩
      · rcases h1.from_ y h with h | ⟨he, h | ⟨z, hz, hzn, hk⟩⟩
        · exact .inl h
        · exact .inr ⟨he, .inl (by simp at h; simp [h])⟩
        · exact .inr ⟨he, .inr ⟨z, h2.sub z hz, hzn, hk⟩⟩
      · exact .inr ⟨he, .inl (by simp [h])⟩
      · exact .inr ⟨he, .inr ⟨z, hz, fun h => hzn (h1.sub z h), hk⟩⟩

theorem walked (ns : List Nd) (ent : Int → Bool) (hk : KidsIn ns) : ∀ (f : Nat) (x : Int) (L : List Int), Met ns L → 0 ≤ x → x < ns.length → ns.length < f + L.length → Walked ns ent [x] L (dfs ns ent f x L)
  | 0, x, L, hL, _, _, hf => by have := hL.len; omega
  | f + 1, x, L, hL, h0, h1, hf => by
    by_cases hs : ent x = false ∨ x ∈ L
    · rw [dfs_stop hs]
      exact ⟨hL, fun y hy => hy, Nat.le_refl _, fun y hy he => by
        simp at hy
        subst hy
        rcases hs with h | h
        · rw [h] at he; cases he
        · exact h, fun y hy hno => absurd hy hno, fun y hy => .inl hy⟩
    · have he : ent x = true := by
        cases h : ent x
        · exact absurd (.inl h) hs
        · rfl
      have hno : x ∉ L := fun h => hs (.inr h)
      rw [dfs_go he hno]
      have h := walkedL ns ent f (walked ns ent hk f) (kidsOf ns x) (L ++ [x]) (hL.snoc ⟨h0, h1⟩ hno) (hk.of x) (by simp; omega)
      refine ⟨h.met, fun y hy => h.sub y (List.mem_append_left _ hy), by have := h.len; simp at this; omega, fun y hy _ => ?_, fun y hy hyn k hkk hek => ?_, fun y hy => ?_⟩
      · simp at hy
        subst hy
        exact h.sub y (by simp)
      · by_cases hyx : y = x
        · subst hyx
          exact h.starts k hkk hek
        · exact h.closed y hy (by simp [hyn, hyx]) k hkk hek
      · by_cases hyL : y ∈ L
        · exact .inl hyL
        · refine .inr ?_
          by_cases hyx : y = x
          · subst hyx
            exact ⟨he, .inl (by simp)⟩
          · rcases h.from_ y hy with hm | ⟨hey, hm | ⟨z, hz, hzn, hm⟩⟩
            · exact absurd hm (by simp [hyL, hyx])
            · exact ⟨hey, .inr ⟨x, h.sub x (by simp), hno, hm⟩⟩
            · exact ⟨hey, .inr ⟨z, hz, fun hzL => hzn (List.mem_append_left _ hzL), hm⟩⟩

/-- a walk over all of a list of starts -/
theorem walkedAll (ns : List Nd) (ent : Int → Bool) (hk : KidsIn ns) (xs L : List Int) (f : Nat) (hL : Met ns L) (hx : ∀ x ∈ xs, 0 ≤ x ∧ x < ns.length) (hf : ns.length < f + L.length) : Walked ns ent xs L (dfsL ns ent f xs L) :=
  walkedL ns ent f (walked ns ent hk f) xs L hL hx hf

theorem dfs_met (ns : List Nd) (ent : Int → Bool) (hk : KidsIn ns) : ∀ (f : Nat) (x : Int) (L : List Int), Met ns L → (0 ≤ x ∧ x < ns.length) → Met ns (dfs ns ent f x L)
  | 0, x, L, hL, _ => hL
  | f + 1, x, L, hL, hx => by
    by_cases hs : ent x = false ∨ x ∈ L
    · rw [dfs_stop hs]; exact hL
    · have he : ent x = true := by
        cases h : ent x
        · exact absurd (.inl h) hs
        · rfl
      have hno : x ∉ L := fun h => hs (.inr h)
      rw [dfs_go he hno]
      have hl : ∀ (xs M : List Int), Met ns M → (∀ y ∈ xs, 0 ≤ y ∧ y < ns.length) → Met ns (dfsL ns ent f xs M) := by
        intro xs
        induction xs with
        | nil => intro M hM _; exact hM
        | cons a xs ih => intro M hM hr; rw [dfsL_cons]; exact ih _ (dfs_met ns ent hk f a M hM (hr a (by simp))) (fun y hy => hr y (by simp [hy]))
      exact hl _ _ (hL.snoc hx hno) (hk.of x)

/-- the nodes that are tuples -/
def isTup (ns : List Nd) (x : Int) : Bool := kindOf ns x == 2

/-- a walk over tuples from a tuple's kids comes back to it just if a way over tuples does -/
theorem tuple_back (ns : List Nd) (hk : KidsIn ns) (i : Int) (h2 : kindOf ns i = 2) (f : Nat) (hf : ns.length < f) : i ∈ dfsL ns (isTup ns) f (kidsOf ns i) [] ↔ TReach ns i i := by
  have h := walkedAll ns (isTup ns) hk (kidsOf ns i) [] f (Met.nil ns) (hk.of i) (by simpa using hf)
  have hall : ∀ x, TReach ns i x → isTup ns x = true → x ∈ dfsL ns (isTup ns) f (kidsOf ns i) [] := by
    intro x hx
    induction hx with
    | kid x hx => exact fun he => h.starts x hx he
    | step y x _ hy2 hx ih => exact fun he => h.closed y (ih (by simp [isTup, hy2])) (by simp) x hx he
  constructor
  · intro hi
    have hs : ∀ (g : Nat) (xs L : List Int), Met ns L → (∀ x ∈ xs, 0 ≤ x ∧ x < ns.length) → (∀ x ∈ xs, TReach ns i x) → (∀ x ∈ L, TReach ns i x) → ∀ x ∈ dfsL ns (isTup ns) g xs L, TReach ns i x := by
      intro g
      induction g with
      | zero =>
        intro xs
        induction xs with
        | nil => intro L _ _ _ hL x hx; exact hL x hx
        | cons a xs ihx => intro L hM hr hxs hL x hx; exact ihx L hM (fun y hy => hr y (by simp [hy])) (fun y hy => hxs y (by simp [hy])) hL x hx
      | succ g ihg =>
        intro xs
        induction xs with
        | nil => intro L _ _ _ hL x hx; exact hL x hx
        | cons a xs ihx =>
          intro L hM hr hxs hL x hx
          rw [dfsL_cons] at hx
          by_cases hst : isTup ns a = false ∨ a ∈ L
          · rw [dfs_stop hst] at hx
            exact ihx L hM (fun y hy => hr y (by simp [hy])) (fun y hy => hxs y (by simp [hy])) hL x hx
          · have hea : isTup ns a = true := by
              cases hq : isTup ns a
              · exact absurd (.inl hq) hst
              · rfl
            have hna : a ∉ L := fun hq => hst (.inr hq)
            have hMa := hM.snoc (hr a (by simp)) hna
            have hsub : ∀ y ∈ dfs ns (isTup ns) (g + 1) a L, TReach ns i y := by
              rw [dfs_go hea hna]
              refine ihg (kidsOf ns a) (L ++ [a]) hMa (hk.of a) (fun y hy => .step a y (hxs a (by simp)) (by simpa [isTup] using hea) hy) (fun y hy => ?_)
              rcases List.mem_append.1 hy with hy | hy
              · exact hL y hy
              · simp at hy; subst hy; exact hxs y (by simp)
            by_cases hlen : ns.length < (g + 1) + L.length
            · have hw := walked ns (isTup ns) hk (g + 1) a L hM (hr a (by simp)).1 (hr a (by simp)).2 hlen
              exact ihx _ hw.met (fun y hy => hr y (by simp [hy])) (fun y hy => hxs y (by simp [hy])) hsub x hx
            · exact ihx _ (dfs_met ns (isTup ns) hk (g + 1) a L hM (hr a (by simp))) (fun y hy => hr y (by simp [hy])) (fun y hy => hxs y (by simp [hy])) hsub x hx
    exact hs f (kidsOf ns i) [] (Met.nil ns) (hk.of i) (fun x hx => .kid x hx) (fun x hx => by cases hx) i hi
  · intro ht
    exact hall i ht (by simp [isTup, h2])

end Go.Proofs.YtckodifdbephgabDoor

namespace Go.Proofs.YtckodifdbephgabDoor
open Go.RowKit
set_option linter.unusedVariables false

/-- old memory is as it was, but for one block -/
structure Grew (g : Nat) (w w' : World) : Prop where
  os : w'.os = w.os
  tape : w'.tape = w.tape
  output : w'.output = w.output
  size : w.heap.size ≤ w'.heap.size
  block : ∀ k, k < w.heap.size → k ≠ g → w'.heap[k]? = w.heap[k]?

theorem Grew.refl (g : Nat) (w : World) : Grew g w w := ⟨rfl, rfl, rfl, Nat.le_refl _, fun _ _ _ => rfl⟩
theorem Grew.trans {g : Nat} {a b c : World} (h : Grew g a b) (k : Grew g b c) : Grew g a c :=
  ⟨k.os.trans h.os, k.tape.trans h.tape, k.output.trans h.output, Nat.le_trans h.size k.size, fun j hj hn => (k.block j (Nat.lt_of_lt_of_le hj h.size) hn).trans (h.block j hj hn)⟩
theorem Grew.of_turn {g : Nat} {w w' : World} (h : Turn g w w') : Grew g w w' := ⟨h.os, h.tape, h.output, by rw [h.size]; exact Nat.le_refl _, fun k _ hk => h.block k hk⟩
theorem Grew.of_below {g : Nat} {w w' : World} (h : Below w.heap.size w w') : Grew g w w' := ⟨h.os, h.tape, h.output, h.size, fun k hk _ => h.block k hk⟩
theorem Grew.below {g B : Nat} {w0 w w' : World} (h : Grew g w w') (hb : Below B w0 w) (hg : B ≤ g) (hB : B ≤ w.heap.size) : Below B w0 w' :=
  hb.trans ⟨h.os, h.tape, h.output, h.size, fun k hk => h.block k (by omega) (by omega)⟩
theorem Rd.below {w w' : World} {rb : Nat} {A : Option Addr} {n c p : Nat} (h : Rd w rb A n c p) (hb : Below w.heap.size w w') : Rd w' rb A n c p :=
  ⟨h.box.below hb h.box.lt, h.bytes.later (hb.mono (Nat.le_of_lt h.box.lt)), h.few⟩
theorem Grew.cell {g : Nat} {w w' : World} (h : Grew g w w') {b o : Nat} (h1 : b < w.heap.size) (h2 : b ≠ g) : w'.cell? ⟨b, o, none⟩ = w.cell? ⟨b, o, none⟩ := World.cell?_of_block (w := w) (h.block b h1 h2)
theorem Lies.grew {g b : Nat} {w w' : World} {cs : Array Value} {t : TypeId} (h : Lies w b cs t) (hg : Grew g w w') (h2 : b ≠ g) : Lies w' b cs t := (hg.block b h.lt h2).trans h

/-- a pick of one number of a list -/
def Chosen (rb : Nat) (A : Option Addr) (n c p : Nat) (xs : List Int) (w : World) (e : Ending) (w' : World) : Prop :=
  (∃ x ∈ xs, e = .returned (.int .i64 x)) ∧ Rd w' rb A n c (p + 1) ∧ Turn rb w w'

set_option maxHeartbeats 1000000 in
theorem one_any (rb : Nat) (A : Option Addr) (n c p g l c2 : Nat) (xs : List Int) (w : World) (h : Rd w rb A n c p) (hp : p < 1000000) (hl : xs.length = l) (h1 : 1 ≤ l) (h2 : l ≤ 100) (hg : g ≠ rb) (hc : ∀ k x, xs[k]? = some x → w.cell? ⟨g, k, none⟩ = some (.int .i64 x)) :
    Calls Tryd.prog 19 #[.pointer (some ⟨rb, 0, none⟩), .slice (some ⟨g, 0, none⟩) l c2] w (Chosen rb A n c p xs w) := by
  have HC := hide hc
  have Hl := hide hl
  clear hc hl
  go_enter Tryd.func19, Tryd.ntmps19
  go_wp2_with fail
  refine (pick_any rb A n c p (l : Int) w h hp (by omega)).mono ?_
  rintro e w' ⟨⟨x, rfl, hx, _⟩, hr, ht⟩
  have hxl : (x : Int) < (l : Int) := hx (by omega)
  have hx0 : (0 : Int) ≤ (x : Int) := by omega
  obtain ⟨y, hy⟩ : ∃ y, xs[x]? = some y := ⟨_, List.getElem?_eq_getElem (by have := Hl.out; omega)⟩
  have hcell : w'.cell? ⟨g, x, none⟩ = some (.int .i64 y) := (World.cell?_of_block (w := w) (ht.block g hg)).trans (HC.out x y hy)
  have hfin : Hid (Chosen rb A n c p xs w (.returned (.int .i64 y)) w') := ⟨⟨y, List.mem_of_getElem? hy, rfl⟩, hr, ht⟩
  clear hr ht hx hy
  go_wp2
  go_ret
  exact hfin.out

end Go.Proofs.YtckodifdbephgabDoor

namespace Go.Proofs.YtckodifdbephgabDoor
open Go.RowKit

theorem infoI : (Tryd.prog.info? 3).map (fun i => (i.zero, i.size, i.bytes)) = some (some (.int .i64 0), 1, 8) := by kernel_rfl

def blockOf (A : Option Addr) : Option Nat := A.map (·.block)

theorem ownBlock_slice (A : Option Addr) (n c : Nat) : (Value.slice A n c).ownBlock = blockOf A := by cases A <;> rfl

/-- the slice value (A, length of xs, c) owns the numbers xs in a row from block base on -/
structure OwnI (w : World) (base : Nat) (A : Option Addr) (c : Nat) (xs : List Int) : Prop where
  own : w.ownsRow base 3 1 (.slice A xs.length c) xs.length (xs.map (Value.int .i64))

theorem OwnI.empty (w : World) (base : Nat) : OwnI w base none 0 [] := ⟨World.ownsRow_nil _ _ _ _⟩

theorem OwnI.form {w : World} {base : Nat} {A : Option Addr} {c : Nat} {xs : List Int} (h : OwnI w base A c xs) :
    (A = none ∧ c = 0 ∧ xs = []) ∨ ∃ g, A = some ⟨g, 0, none⟩ ∧ base ≤ g ∧ g < w.heap.size := by
  rcases h.own.2 with ⟨h1, h2⟩ | ⟨g, cap, cur, hv, hg, hh, _⟩
  · injection h1 with h1 _ h3
    exact .inl ⟨h1, h3, List.eq_nil_of_length_eq_zero h2⟩
  · injection hv with hv
    exact .inr ⟨g, hv, hg, lt_of_block hh⟩

theorem OwnI.nil {w : World} {base : Nat} {A : Option Addr} {c : Nat} {xs : List Int} (h : OwnI w base A c xs) : A = none → c = 0 := by
  intro e
  rcases h.form with ⟨_, h2, _⟩ | ⟨g, h2, _⟩
  · exact h2
  · rw [e] at h2; cases h2

theorem OwnI.ints {w : World} {base : Nat} {A : Option Addr} {c : Nat} {xs : List Int} (h : OwnI w base A c xs) (hwf : ∀ x ∈ xs, In64 x) (hl : xs.length ≤ 9223372036854775807) : IntsAt w w.heap.size A xs := by
  refine ⟨fun hx => ?_, hwf, hl⟩
  rcases h.form with ⟨_, _, h2⟩ | ⟨g, rfl, _, hlt⟩
  · exact absurd h2 hx
  · refine ⟨g, 0, rfl, hlt, fun j x hj => ?_⟩
    have hjl : j < xs.length := (List.getElem?_eq_some_iff.1 hj).1
    have := h.own.cellAt j (by omega)
    rw [Nat.zero_add, this, List.getElem?_map, hj]
    rfl

theorem OwnI.blocks {w : World} {base : Nat} {A : Option Addr} {c : Nat} {xs : List Int} (h : OwnI w base A c xs) : ∀ k, blockOf A = some k → base ≤ k ∧ k < w.heap.size := by
  intro k hk
  rcases h.form with ⟨rfl, _, _⟩ | ⟨g, rfl, h1, h2⟩
  · cases hk
  · simp [blockOf] at hk
    omega

theorem OwnI.alloc {w : World} {base : Nat} {A : Option Addr} {c : Nat} {xs : List Int} (h : OwnI w base A c xs) (o : Obj) : OwnI (w.alloc o) base A c xs := ⟨h.own.alloc o⟩

theorem OwnI.drew {w : World} {base : Nat} {A : Option Addr} {c : Nat} {xs : List Int} (h : OwnI w base A c xs) : OwnI w.drew base A c xs := ⟨h.own⟩

theorem OwnI.kept {w w' : World} {base : Nat} {A : Option Addr} {c : Nat} {xs : List Int} {row : Option Nat} (h : OwnI w base A c xs) (hg : w.grownBy w' row) (hne : blockOf A = none ∨ blockOf A ≠ row) : OwnI w' base A c xs :=
  ⟨h.own.kept hg (by rw [ownBlock_slice]; exact hne)⟩

theorem grownBy_of_below {w w' : World} (h : Below w.heap.size w w') : w.grownBy w' none :=
  ⟨h.os, h.tape, h.output, h.size, fun k hk _ => h.block k hk⟩

theorem OwnI.below {w w' : World} {base : Nat} {A : Option Addr} {c : Nat} {xs : List Int} (h : OwnI w base A c xs) (hb : Below w.heap.size w w') : OwnI w' base A c xs :=
  h.kept (grownBy_of_below hb) (by cases hA : blockOf A <;> simp)

theorem OwnI.mono {w : World} {base base' : Nat} {A : Option Addr} {c : Nat} {xs : List Int} (h : OwnI w base A c xs) (hb : base' ≤ base) : OwnI w base' A c xs := by
  refine ⟨h.own.1, ?_⟩
  rcases h.own.2 with h2 | ⟨g, cap, cur, hv, hg, r⟩
  · exact .inl h2
  · exact .inr ⟨g, cap, cur, hv, Nat.le_trans hb hg, r⟩

theorem below_grown {w0 w w' : World} {B : Nat} {A : Option Addr} (h : Below B w0 w) (hg : w.grownBy w' (blockOf A)) (hB : B ≤ w.heap.size) (hA : ∀ k, blockOf A = some k → B ≤ k) : Below B w0 w' :=
  h.grown hg hB hA

theorem ints_one (xs : List Int) : ∀ u ∈ xs.map (Value.int .i64), u.oneCell' = true := by
  intro u hu
  obtain ⟨x, _, rfl⟩ := List.mem_map.1 hu
  rfl

/-- append(s, t...) where s is the call's own and t is any int slice that reads as ys -/
theorem append_ints {w : World} {ops : Array Oper} {rest : List Oper} {o : Oper} {a : Act} {Q : Exit → Act → World → Prop} (hgd : o.guard = none) (s x : Operand)
    (ho : o.op = .call { callee := .builtin .append, args := #[s, x], argTypes := #[25, 25] })
    (base : Nat) (A : Option Addr) (c : Nat) (xs : List Int) (hs : a.eval s = .slice A xs.length c) (hown : OwnI w base A c xs)
    (B : Nat) (A2 : Option Addr) (c2 : Nat) (ys : List Int) (hx : a.eval x = .slice A2 ys.length c2) (hnil : A2 = none → c2 = 0) (hr : IntsAt w B A2 ys)
    (hsum : xs.length + ys.length ≤ 16777216) (hbase : base ≤ w.heap.size)
    (h : ∀ (zs : List Int) (A' : Option Addr) (c' : Nat) (w' : World), Hid (zs = xs ++ ys) → OwnI w' base A' c' zs → w.grownBy w' (blockOf A) → (blockOf A' = blockOf A ∨ blockOf A' = some w.heap.size) →
      wpList Tryd.prog ops Q rest (a.put o.dst (.slice A' zs.length c')) w') : wpList Tryd.prog ops Q (o :: rest) a w := by
  obtain ⟨i0, hi, hz0, hz1, hz2⟩ := info_parts infoI
  have hempty : A2 = none → ys = [] := by
    intro e
    cases ys with
    | nil => rfl
    | cons y ys =>
      obtain ⟨b, off, e2, _⟩ := hr.row (by simp)
      rw [e] at e2; cases e2
  rcases A2 with _ | ad
  · obtain rfl := hnil rfl
    obtain rfl := hempty rfl
    exact wpList_append_own_none hgd s x 25 ho base 3 i0 1 Tryd.underlying25 hi _ _ _ hs hown.own hx
      (h xs A c w (by simp [Hid]) hown (World.grownBy.refl w _) (.inl rfl))
  · have hcells : ∀ j u, (ys.map (Value.int .i64))[j]? = some u → w.cell? (ad.add j) = some u := by
      intro j u hu
      rw [List.getElem?_map] at hu
      cases hy : ys[j]? with
      | none => rw [hy] at hu; cases hu
      | some y =>
        rw [hy] at hu
        simp at hu
        subst hu
        obtain ⟨b, off, e2, _, hc⟩ := hr.row (by intro e; subst e; simp at hy)
        obtain rfl : ad = ⟨b, off, none⟩ := Option.some.inj e2
        have hadd : (⟨b, off, none⟩ : Addr).add j = ⟨b, off + j, none⟩ := by
          unfold Addr.add
          split
          · rename_i h0; subst h0; rfl
          · rfl
        rw [hadd]
        exact hc j y hy
    refine wpList_append_own_at w hgd s x 25 ho base 3 i0 _ 1 8 Tryd.underlying25 hi hz0 hz1 hz2 rfl (by omega) _ _ _ hs hown.own ad ys.length c2 (ys.map (Value.int .i64)) hx (by simp) hcells (ints_one ys)
      (by unfold maxLen; omega) (by omega) hbase ?_
    intro v' w' h2 h3 _ h5
    have hlen : xs.length + ys.length = (xs ++ ys).length := by simp
    rw [ownBlock_slice] at h3 h5
    rw [← List.map_append, hlen] at h2
    rcases h2.2 with ⟨rfl, h6⟩ | ⟨g, cap, cur, rfl, _⟩
    · have hzs : xs ++ ys = [] := List.eq_nil_of_length_eq_zero h6
      have := h (xs ++ ys) none 0 w' (by simp [Hid]) ⟨by rw [h6] at h2 ⊢; exact h2⟩ h3 (by simpa [blockOf, Value.ownBlock] using h5)
      rw [h6] at this
      exact this
    · exact h (xs ++ ys) _ _ w' (by simp [Hid]) ⟨h2⟩ h3 (by simpa [ownBlock_slice] using h5)

/-- the one-element slice that the translation lays for append(s, x) -/
theorem IntsAt.one (w : World) (x : Int) (hx : In64 x) : IntsAt (w.alloc (.cells #[.int .i64 x] 3)) (w.heap.size + 1) (some ⟨w.heap.size, 0, none⟩) [x] := by
  refine ⟨fun _ => ⟨w.heap.size, 0, rfl, Nat.lt_succ_self _, fun j y hj => ?_⟩, fun y hy => by simp at hy; subst hy; exact hx, by simp⟩
  match j, hj with
  | 0, hj =>
    simp at hj
    subst hj
    simp

theorem OwnI.bare (w : World) : OwnI (w.alloc (.cells #[] 3)) w.heap.size (some ⟨w.heap.size, 0, none⟩) 0 [] :=
  ⟨World.ownsRow_lit w #[] 0 (Nat.le_refl _) (by unfold maxLen; omega) rfl⟩

/-- a call that hands back an int slice of its own with the numbers xs, and leaves old memory as it was -/
def GivesInts (w : World) (xs : List Int) (e : Ending) (w' : World) : Prop := ∃ A c, e = .returned (.slice A xs.length c) ∧ OwnI w' w.heap.size A c xs ∧ Below w.heap.size w w'

end Go.Proofs.YtckodifdbephgabDoor

namespace Go.Proofs.YtckodifdbephgabDoor
open Go.RowKit

theorem IntsAt.lit (w : World) (xs : List Int) (hx : ∀ x ∈ xs, In64 x) (hl : xs.length ≤ 1048576) : IntsAt (w.alloc (.cells (xs.map (Value.int .i64)).toArray 3)) (w.heap.size + 1) (some ⟨w.heap.size, 0, none⟩) xs := by
  refine ⟨fun _ => ⟨w.heap.size, 0, rfl, Nat.lt_succ_self _, fun j y hj => ?_⟩, hx, by omega⟩
  rw [(Lies.new w (xs.map (Value.int .i64)).toArray 3).cell]
  simp [hj]

theorem IntsAt.hold {w : World} {b : Nat} {cs : Array Value} {t : TypeId} (h : Lies w b cs t) (xs : List Int) (hc : cs = (xs.map (Value.int .i64)).toArray) (hx : ∀ x ∈ xs, In64 x) (hl : xs.length ≤ 1048576) : IntsAt w w.heap.size (some ⟨b, 0, none⟩) xs := by
  subst hc
  refine ⟨fun _ => ⟨b, 0, rfl, h.lt, fun j y hj => ?_⟩, hx, by omega⟩
  rw [h.cell]
  simp [hj]

/-- append(s, t...) in a statement that draws its order, where s is the call's own and t is an int slice that is not empty -/
theorem step_append_ints {w : World} {ops : Array Oper} {o : Oper} {a : Act} {K : Act → World → Prop} {Q : Exit → Act → World → Prop} {E : Prop} (hgd : o.guard = none) (s x : Operand)
    (ho : o.op = .call { callee := .builtin .append, args := #[s, x], argTypes := #[25, 25] })
    (base : Nat) (A : Option Addr) (c : Nat) (xs : List Int) (hs : a.eval s = .slice A xs.length c) (hown : OwnI w base A c xs)
    (ad : Addr) (c2 : Nat) (ys : List Int) (hne : ys ≠ []) (hx : a.eval x = .slice (some ad) ys.length c2) (hr : IntsAt w w.heap.size (some ad) ys)
    (hsum : xs.length + ys.length ≤ 16777216) (hbase : base ≤ w.heap.size)
    (h : ∀ (zs : List Int) (A' : Option Addr) (c' : Nat) (w' : World), Hid (zs = xs ++ ys) → OwnI w' base A' c' zs → w.grownBy w' (blockOf A) → (blockOf A' = blockOf A ∨ blockOf A' = some w.heap.size) →
      K (a.put o.dst (.slice A' zs.length c')) w') :
    if Region.wanted o (yielded ops a.tmps) = true then Oper.wp Tryd.prog o a w K Q else E := by
  obtain ⟨i0, hi, hz0, hz1, hz2⟩ := info_parts infoI
  have hcells : ∀ j u, (ys.map (Value.int .i64))[j]? = some u → w.cell? (ad.add j) = some u := by
    intro j u hu
    rw [List.getElem?_map] at hu
    cases hy : ys[j]? with
    | none => rw [hy] at hu; cases hu
    | some y =>
      rw [hy] at hu
      simp at hu
      subst hu
      obtain ⟨b, off, e2, _, hc⟩ := hr.row hne
      obtain rfl : ad = ⟨b, off, none⟩ := Option.some.inj e2
      have hadd : (⟨b, off, none⟩ : Addr).add j = ⟨b, off + j, none⟩ := by
        unfold Addr.add
        split
        · rename_i h0; subst h0; rfl
        · rfl
      rw [hadd]
      exact hc j y hy
  refine step_append_lies w hgd s x 25 ho base 3 i0 _ 1 8 Tryd.underlying25 hi hz0 hz1 hz2 rfl (by omega) _ _ _ hs hown.own ad ys.length c2 (ys.map (Value.int .i64)) hx (by simp) hcells (ints_one ys)
    (List.length_pos_iff.2 hne) (by unfold maxLen; omega) (by omega) hbase w.heap.size rfl ?_
  intro g cap w' h2 h3 h4 _
  have hlen : xs.length + ys.length = (xs ++ ys).length := by simp
  rw [ownBlock_slice] at h3 h4
  rw [← List.map_append, hlen] at h2
  rw [hlen]
  refine h (xs ++ ys) (some ⟨g, 0, none⟩) cap w' (by simp [Hid]) ⟨h2⟩ h3 ?_
  rcases h4 with h4 | h4
  · exact .inl (by rw [h4]; rfl)
  · exact .inr (by rw [h4]; rfl)

end Go.Proofs.YtckodifdbephgabDoor

namespace Go.Proofs.YtckodifdbephgabDoor
open Go.RowKit

set_option maxHeartbeats 1000000 in
theorem placeIn_any (A : Option Addr) (xs : List Int) (c : Nat) (n : Int) (w : World) (h : IntsAt w w.heap.size A xs) :
    Calls Tryd.prog 49 #[.slice A xs.length c, .int .i64 n] w fun e w' => e = .returned (.int .i64 (place xs n)) ∧ w = w' := by
  have hl := h.len
  go_enter Tryd.func49, Tryd.ntmps49
  go_wp2_with fail
  go_loop [5] (fun i => ∃ k : Nat, k ≤ xs.length ∧ i = .int .i64 k ∧ ∀ j, j < k → xs[j]? ≠ some n) (fun i => xs.length - (intOf i).toNat)
  case atStart => exact ⟨0, Nat.zero_le _, rfl, fun j hj => absurd hj (by omega)⟩
  case round =>
    obtain ⟨k, hk, rfl, he0⟩ := hrel
    have he := hide he0
    clear he0
    by_cases hlt : k < xs.length
    · obtain ⟨b, off, x, rfl, hbl, hx, _, hc⟩ := h.at_ hlt
      have Hx := hide hx
      clear hx
      by_cases hxn : x = n
      · subst hxn
        have HF := hide (place_at Hx.out he.out)
        go_wp2
        go_ret
        exact ⟨ret_int HF.out.symm, rfl⟩
      · have t : (x == n) = false := by simpa using hxn
        have he2 : ∀ j, j < k + 1 → xs[j]? ≠ some n := by
          intro j hj
          by_cases e : j = k
          · subst e; rw [Hx.out]; intro e; injection e with e; exact hxn e
          · exact he.out j (by omega)
        have He := hide he2
        clear he2 he hxn
        go_wp2
        go_round
        case rel => exact ⟨k + 1, by omega, by go_num, He.out⟩
        case measure => simp [intOf]; omega
    · obtain rfl : k = xs.length := by omega
      have HF := hide (place_none he.out)
      clear hlt
      go_wp2
      go_ret
      exact ⟨ret_int HF.out.symm, rfl⟩

end Go.Proofs.YtckodifdbephgabDoor

namespace Go.Proofs.YtckodifdbephgabDoor
open Go.RowKit

set_option maxHeartbeats 400000 in
theorem copyInts_any (A : Option Addr) (xs : List Int) (c : Nat) (w : World) (h : IntsAt w w.heap.size A xs) (hnil : A = none → c = 0) (hs : xs.length ≤ 16777000) :
    Calls Tryd.prog 38 #[.slice A xs.length c] w (GivesInts w xs) := by
  go_enter Tryd.func38, Tryd.ntmps38
  go_wp2_with (at_builtin; refine append_ints rfl (.tmp 3) (.tmp 4) rfl w.heap.size _ 0 [] rfl (OwnI.bare w) w.heap.size A c xs rfl hnil (h.below ((Below.refl _ _).alloc (Nat.le_refl _) _)) (by simp; omega) (by simp) ?_; intro zs A' c' w' hz hown hg hat)
  go_ret
  obtain rfl : zs = xs := by simpa [Hid] using hz
  exact ⟨A', c', rfl, hown, below_grown ((Below.refl _ _).alloc (Nat.le_refl _) _) hg (by simp) (by simp [blockOf])⟩

end Go.Proofs.YtckodifdbephgabDoor

namespace Go.Proofs.YtckodifdbephgabDoor
open Go.RowKit

theorem inRange_yes (n lo hi : Int) (w : World) (h1 : lo ≤ n) (h2 : n ≤ hi) :
    Calls Tryd.prog 33 #[.int .i64 n, .int .i64 lo, .int .i64 hi] w fun e w' => e = .returned (.bool true) ∧ w = w' := by
  have d1 : decide (lo ≤ n) = true := by simpa using h1
  have d2 : decide (n ≤ hi) = true := by simpa using h2
  go_enter Tryd.func33, Tryd.ntmps33
  go_wp2
  go_ret
  exact ⟨rfl, rfl⟩

theorem inRange_no (n lo hi : Int) (w : World) (h : n < lo ∨ hi < n) :
    Calls Tryd.prog 33 #[.int .i64 n, .int .i64 lo, .int .i64 hi] w fun e w' => e = .returned (.bool false) ∧ w = w' := by
  by_cases h1 : lo ≤ n
  · have h2 : ¬ n ≤ hi := by omega
    have d1 : decide (lo ≤ n) = true := by simpa using h1
    have d2 : decide (n ≤ hi) = false := by simpa using h2
    clear h
    go_enter Tryd.func33, Tryd.ntmps33
    go_wp2
    go_ret
    exact ⟨rfl, rfl⟩
  · have d1 : decide (lo ≤ n) = false := by simpa using h1
    clear h
    go_enter Tryd.func33, Tryd.ntmps33
    go_wp2
    go_ret
    exact ⟨rfl, rfl⟩

end Go.Proofs.YtckodifdbephgabDoor

namespace Go.Proofs.YtckodifdbephgabDoor
open Go.RowKit

/-- all numbers lie in a range -/
def AllIn (xs : List Int) (lo hi : Int) : Prop := ∀ x ∈ xs, lo ≤ x ∧ x ≤ hi

set_option maxHeartbeats 1000000 in
theorem allIn_any (A : Option Addr) (xs : List Int) (c : Nat) (lo hi : Int) (w : World) (h : IntsAt w w.heap.size A xs) :
    Calls Tryd.prog 51 #[.slice A xs.length c, .int .i64 lo, .int .i64 hi] w fun e w' => e = .returned (.bool (tf (AllIn xs lo hi))) ∧ w = w' := by
  have hl := h.len
  go_enter Tryd.func51, Tryd.ntmps51
  go_wp2_with fail
  go_loop [7] (fun i => ∃ k : Nat, k ≤ xs.length ∧ i = .int .i64 k ∧ ∀ j x, j < k → xs[j]? = some x → lo ≤ x ∧ x ≤ hi) (fun i => xs.length - (intOf i).toNat)
  case atStart => exact ⟨0, Nat.zero_le _, rfl, fun j _ hj => absurd hj (by omega)⟩
  case round =>
    obtain ⟨k, hk, rfl, he0⟩ := hrel
    have he := hide he0
    clear he0
    by_cases hlt : k < xs.length
    · obtain ⟨b, off, x, rfl, hbl, hx, hmem, hc⟩ := h.at_ hlt
      have Hx := hide hx
      clear hx
      by_cases hin : lo ≤ x ∧ x ≤ hi
      · have He : Hid (∀ j y, j < k + 1 → xs[j]? = some y → lo ≤ y ∧ y ≤ hi) := by
          intro j y hj hy
          by_cases e : j = k
          · subst e
            have := Hx.out.symm.trans hy
            injection this with this
            subst this
            exact hin
          · exact he.out j y (by omega) hy
        obtain ⟨h1, h2⟩ := hin
        clear he hmem
        go_wp2_with fail
        refine (inRange_yes x lo hi w h1 h2).mono ?_
        rintro e w' ⟨rfl, rfl⟩
        go_wp2
        go_round
        case rel => exact ⟨k + 1, by omega, by go_num, He.out⟩
        case measure => simp [intOf]; omega
      · have HF := hide (show tf (AllIn xs lo hi) = false from tf_false fun hall => hin (hall x hmem))
        have hno : x < lo ∨ hi < x := by omega
        clear he hmem
        go_wp2_with fail
        refine (inRange_no x lo hi w hno).mono ?_
        rintro e w' ⟨rfl, rfl⟩
        clear hno hin
        go_wp2
        go_ret
        exact ⟨ret_bool HF.out.symm, rfl⟩
    · obtain rfl : k = xs.length := by omega
      have HF := hide (show tf (AllIn xs lo hi) = true from tf_true fun x hx => by
        obtain ⟨j, hj, rfl⟩ := List.getElem_of_mem hx
        exact he.out j _ hj (List.getElem?_eq_getElem hj))
      clear hlt
      go_wp2
      go_ret
      exact ⟨ret_bool HF.out.symm, rfl⟩

end Go.Proofs.YtckodifdbephgabDoor

namespace Go.Proofs.YtckodifdbephgabDoor
open Go.RowKit

/-- a node that can be a key -/
def IsKey (n : Nd) : Prop := n.kind = 0 ∨ n.kind = 1

set_option maxHeartbeats 400000 in
theorem isKey_any (v : Value) (n : Nd) (w : World) :
    Calls Tryd.prog 44 #[.agg #[.int .i64 n.kind, .int .i64 n.value, v]] w fun e w' => e = .returned (.bool (tf (IsKey n))) ∧ Below w.heap.size w w' := by
  by_cases h0 : n.kind = 0
  · have HF := hide (show tf (IsKey n) = true from tf_true (.inl h0))
    have t : (n.kind == 0) = true := by simpa using h0
    clear h0
    go_enter Tryd.func44, Tryd.ntmps44
    go_wp2
    go_ret
    exact ⟨ret_bool HF.out.symm, (Below.refl _ _).alloc (Nat.le_refl _) _⟩
  · by_cases h1 : n.kind = 1
    · have HF := hide (show tf (IsKey n) = true from tf_true (.inr h1))
      have t : (n.kind == 0) = false := by simpa using h0
      have t1 : (n.kind == 1) = true := by simpa using h1
      clear h0 h1
      go_enter Tryd.func44, Tryd.ntmps44
      go_wp2
      go_ret
      exact ⟨ret_bool HF.out.symm, (Below.refl _ _).alloc (Nat.le_refl _) _⟩
    · have HF := hide (show tf (IsKey n) = false from tf_false (fun h => h.elim h0 h1))
      have t : (n.kind == 0) = false := by simpa using h0
      have t1 : (n.kind == 1) = false := by simpa using h1
      clear h0 h1
      go_enter Tryd.func44, Tryd.ntmps44
      go_wp2
      go_ret
      exact ⟨ret_bool HF.out.symm, (Below.refl _ _).alloc (Nat.le_refl _) _⟩

/-- equal keys -/
def SameKey (m n : Nd) : Prop := m.kind = n.kind ∧ m.value = n.value

set_option maxHeartbeats 400000 in
theorem sameKey_any (v v' : Value) (m n : Nd) (w : World) :
    Calls Tryd.prog 53 #[.agg #[.int .i64 m.kind, .int .i64 m.value, v], .agg #[.int .i64 n.kind, .int .i64 n.value, v']] w fun e w' => e = .returned (.bool (tf (SameKey m n))) ∧ Below w.heap.size w w' := by
  by_cases h0 : m.kind = n.kind
  · by_cases h1 : m.value = n.value
    · have HF := hide (show tf (SameKey m n) = true from tf_true ⟨h0, h1⟩)
      have t : (m.kind == n.kind) = true := by simpa using h0
      have t1 : (m.value == n.value) = true := by simpa using h1
      clear h0 h1
      go_enter Tryd.func53, Tryd.ntmps53
      go_wp2
      go_ret
      exact ⟨ret_bool HF.out.symm, ((Below.refl _ _).alloc (Nat.le_refl _) _).alloc (by simp) _⟩
    · have HF := hide (show tf (SameKey m n) = false from tf_false (fun h => h1 h.2))
      have t : (m.kind == n.kind) = true := by simpa using h0
      have t1 : (m.value == n.value) = false := by simpa using h1
      clear h0 h1
      go_enter Tryd.func53, Tryd.ntmps53
      go_wp2
      go_ret
      exact ⟨ret_bool HF.out.symm, ((Below.refl _ _).alloc (Nat.le_refl _) _).alloc (by simp) _⟩
  · have HF := hide (show tf (SameKey m n) = false from tf_false (fun h => h0 h.1))
    have t : (m.kind == n.kind) = false := by simpa using h0
    clear h0
    go_enter Tryd.func53, Tryd.ntmps53
    go_wp2
    go_ret
    exact ⟨ret_bool HF.out.symm, ((Below.refl _ _).alloc (Nat.le_refl _) _).alloc (by simp) _⟩

end Go.Proofs.YtckodifdbephgabDoor

namespace Go.Proofs.YtckodifdbephgabDoor
open Go.RowKit

/-- all kids are nodes -/
def InG (ns : List Nd) (kids : List Int) : Prop := ∀ x ∈ kids, 0 ≤ x ∧ x < ns.length

/-- the node that is the kid at place p -/
def KidNd (ns : List Nd) (kids : List Int) (p : Nat) (n : Nd) : Prop := ∃ k : Nat, kids[p]? = some (k : Int) ∧ ns[k]? = some n

/-- keys and values by turns, keys that can be keys, no two of them equal -/
structure DictOk (ns : List Nd) (kids : List Int) : Prop where
  even : kids.length % 2 = 0
  key : ∀ p n, p % 2 = 0 → KidNd ns kids p n → IsKey n
  diff : ∀ p q m n, p % 2 = 0 → q % 2 = 0 → q < p → KidNd ns kids p m → KidNd ns kids q n → ¬ SameKey m n

theorem KidNd.eq {ns : List Nd} {kids : List Int} {p : Nat} {m n : Nd} (h : KidNd ns kids p m) (h' : KidNd ns kids p n) : m = n := by
  obtain ⟨k, h1, h2⟩ := h
  obtain ⟨k', h3, h4⟩ := h'
  rw [h1] at h3
  have : k = k' := by injection h3 with h3; omega
  subst this
  rw [h2] at h4
  injection h4

theorem KidNd.lt {ns : List Nd} {kids : List Int} {p : Nat} {n : Nd} (h : KidNd ns kids p n) : p < kids.length := by
  obtain ⟨k, h1, _⟩ := h
  exact (List.getElem?_eq_some_iff.1 h1).1

/-- reading the kid at place p and its node -/
theorem kid_at {w : World} {B B' : Nat} {A A' : Option Addr} {ns : List Nd} {kids : List Int} (hr : NdsAt w B A ns) (hk : IntsAt w B' A' kids) (hin : InG ns kids) {p : Nat} (hp : p < kids.length) :
    ∃ (b off b' off' k : Nat) (n : Nd), A = some ⟨b, off, none⟩ ∧ b < B ∧ A' = some ⟨b', off', none⟩ ∧ b' < B' ∧ k < ns.length ∧ w.cell? ⟨b', off' + p, none⟩ = some (.int .i64 (k : Int)) ∧ NdAt w B b (off + k * 3) n ∧
      KidNd ns kids p n ∧ n ∈ ns := by
  obtain ⟨b', off', x, rfl, hb', hx, hmem, hc⟩ := hk.at_ hp
  obtain ⟨h0, h1⟩ := hin x hmem
  obtain ⟨k, rfl⟩ := Int.eq_ofNat_of_zero_le h0
  obtain ⟨b, off, n, rfl, hb, hat, hn, hN⟩ := hr.at_ (k := k) (by omega)
  exact ⟨b, off, b', off', k, n, rfl, hb, rfl, hb', by omega, hc, hN, ⟨k, hx, hat⟩, hn⟩

set_option maxRecDepth 100000 in
set_option maxHeartbeats 4000000 in
theorem validDict_any (A : Option Addr) (ns : List Nd) (c : Nat) (r : Int) (A' : Option Addr) (n : Nd) (c' : Nat) (w : World) (hr : NdsAt w w.heap.size A ns) (hk : IntsAt w w.heap.size A' n.kids) (hin : InG ns n.kids) (hsm : n.kids.length ≤ 1048576) :
    Calls Tryd.prog 52 #[.agg #[.slice A ns.length c, .int .i64 r], .agg #[.int .i64 n.kind, .int .i64 n.value, .slice A' n.kids.length c']] w fun e w' =>
      e = .returned (.bool (tf (DictOk ns n.kids))) ∧ Below w.heap.size w w' := by
  have hnl := hr.len
  have hB : Below w.heap.size w ((w.alloc (.cells #[.slice A ns.length c, .int .i64 r] 41)).alloc (.cells #[.int .i64 n.kind, .int .i64 n.value, .slice A' n.kids.length c'] 66)) :=
    ((Below.refl _ _).alloc (Nat.le_refl _) _).alloc (by simp) _
  have l1 := (Lies.new w #[.slice A ns.length c, .int .i64 r] 41).alloc (.cells #[.int .i64 n.kind, .int .i64 n.value, .slice A' n.kids.length c'] 66)
  have l2 := Lies.new (w.alloc (.cells #[.slice A ns.length c, .int .i64 r] 41)) #[.int .i64 n.kind, .int .i64 n.value, .slice A' n.kids.length c'] 66
  have hr2 := hr.later hB (Nat.le_refl _)
  have hk2 := hk.later hB (Nat.le_refl _)
  simp only [World.size_alloc] at l2
  clear hr hk
  go_enter Tryd.func52, Tryd.ntmps52
  go_wp2_with fail
  generalize (w.alloc (.cells #[.slice A ns.length c, .int .i64 r] 41)).alloc (.cells #[.int .i64 n.kind, .int .i64 n.value, .slice A' n.kids.length c'] 66) = W at hB l1 l2 hr2 hk2 ⊢
  have hW1 := l1.lt
  have hW2 := l2.lt
  go_loopw [5] (fun i wr => ∃ k : Nat, k % 2 = 0 ∧ k ≤ n.kids.length + 1 ∧ i = .int .i64 k ∧ Below W.heap.size W wr ∧ (∀ p m, p < k → p % 2 = 0 → KidNd ns n.kids p m → IsKey m) ∧
      (∀ p q m m', p < k → p % 2 = 0 → q % 2 = 0 → q < p → KidNd ns n.kids p m → KidNd ns n.kids q m' → ¬ SameKey m m')) (fun i _ => n.kids.length + 2 - (intOf i).toNat)
  case atStart => exact ⟨0, rfl, Nat.zero_le _, rfl, Below.refl _ _, fun p m hp => absurd hp (by omega), fun p q m m' hp => absurd hp (by omega)⟩
  case round =>
    obtain ⟨k, hk2', hkl, rfl, hb, hkey0, hdiff0⟩ := hrel
    have hkey := hide hkey0
    have hdiff := hide hdiff0
    have hev := hide hk2'
    clear hkey0 hdiff0 hk2'
    have e0 := (l1.below hb hW1).cell 0
    have e2 := (l2.below hb hW2).cell 2
    simp at e0 e2
    by_cases hlt : k < n.kids.length
    · obtain ⟨b, off, b', off', x, m, rfl, hbl, rfl, hbl', hxl, hcx, hM, hkn, _⟩ := kid_at (hr2.below hb) (hk2.below hb) hin hlt
      obtain ⟨hm_k, hm_v, ⟨A1, c1, hm_s, hI1, _⟩, _, _⟩ := hM
      have hk1 : (0 : Int) ≤ (k : Int) := by omega
      have hk3 : (k : Int) < (n.kids.length : Int) := by omega
      have hx1 : (0 : Int) ≤ (x : Int) := by omega
      have hx3 : (x : Int) < (ns.length : Int) := by omega
      have hbd : Below W.heap.size W wr.drew := hb.drew
      go_wp2_with fail
      go_still_tail 9, (by kernel_rfl)
      change wpList _ _ _ _ _ wr.drew
      generalize wr.drew = w2 at hbd ⊢
      clear hb hcx hm_k hm_v hm_s hI1 e0 e2
      go_wp2_with fail
      refine (isKey_any _ m w2).mono ?_
      rintro e w' ⟨rfl, hb3⟩
      have hb4 := hbd.trans (hb3.mono hbd.size)
      clear hbd hb3
      by_cases hik : IsKey m
      · have t := tf_true hik
        rw [t]
        clear t
        go_wp2_with fail
        go_loopw [6] (fun i wr => ∃ j : Nat, j % 2 = 0 ∧ j ≤ k ∧ i = .int .i64 j ∧ Below W.heap.size W wr ∧ (∀ q m', q < j → q % 2 = 0 → KidNd ns n.kids q m' → ¬ SameKey m m')) (fun i _ => k + 2 - (intOf i).toNat)
        case atStart => exact ⟨0, rfl, Nat.zero_le _, rfl, hb4, fun q m' hq => absurd hq (by omega)⟩
        case round =>
          obtain ⟨j, hj2, hjk, rfl, hb5, hne0⟩ := hrel
          have hne := hide hne0
          have hjv := hide hj2
          clear hne0 hj2 hb4
          have e0 := (l1.below hb5 hW1).cell 0
          have e2 := (l2.below hb5 hW2).cell 2
          simp at e0 e2
          by_cases hjlt : j < k
          · obtain ⟨_, _, _, _, x1, _, he1, _, he2, _, hxl1, hcx1, hM1, hkn1, _⟩ := kid_at (hr2.below hb5) (hk2.below hb5) hin hlt
            obtain ⟨_, _, _, _, y, m2, he3, _, he4, _, hyl, hcy, hM2, hkn2, _⟩ := kid_at (hr2.below hb5) (hk2.below hb5) hin (p := j) (by omega)
            simp only [Option.some.injEq, Addr.mk.injEq, and_true] at he1 he2 he3 he4
            obtain ⟨rfl, rfl⟩ := he1
            obtain ⟨rfl, rfl⟩ := he2
            obtain ⟨rfl, rfl⟩ := he3
            obtain ⟨rfl, rfl⟩ := he4
            obtain rfl := hkn.eq hkn1
            obtain ⟨hm_k, hm_v, ⟨A1, c1, hm_s, hI1, _⟩, _, _⟩ := hM1
            obtain ⟨hn_k, hn_v, ⟨A2, c2, hn_s, hI2, _⟩, _, _⟩ := hM2
            have hj1 : (0 : Int) ≤ (j : Int) := by omega
            have hj3 : (j : Int) < (n.kids.length : Int) := by omega
            have hxx1 : (0 : Int) ≤ (x1 : Int) := by omega
            have hxx3 : (x1 : Int) < (ns.length : Int) := by omega
            have hy1 : (0 : Int) ≤ (y : Int) := by omega
            have hy3 : (y : Int) < (ns.length : Int) := by omega
            have hbd : Below W.heap.size W wr.drew := hb5.drew
            go_wp2_with fail
            go_still_tail 18, (by kernel_rfl)
            change wpList _ _ _ _ _ wr.drew
            generalize wr.drew = w3 at hbd ⊢
            clear hb5 hcx1 hcy hm_k hm_v hm_s hI1 hn_k hn_v hn_s hI2 e0 e2
            go_wp2_with fail
            refine (sameKey_any _ _ m m2 w3).mono ?_
            rintro e w' ⟨rfl, hb3⟩
            have hb4 := hbd.trans (hb3.mono hbd.size)
            clear hbd hb3
            by_cases hsk : SameKey m m2
            · have t := tf_true hsk
              rw [t]
              clear t
              have HF := hide (show tf (DictOk ns n.kids) = false from tf_false fun h => h.diff k j m m2 hev.out hjv.out hjlt hkn hkn2 hsk)
              go_wp2
              go_ret
              exact ⟨ret_bool HF.out.symm, hB.trans (hb4.mono hB.size)⟩
            · have t := tf_false hsk
              rw [t]
              clear t
              have hne2 : ∀ q m', q < j + 2 → q % 2 = 0 → KidNd ns n.kids q m' → ¬ SameKey m m' := by
                intro q m' hq hq2 hqn
                by_cases e : q = j
                · subst e
                  obtain rfl := hkn2.eq hqn
                  exact hsk
                · exact hne.out q m' (by have := hjv.out; omega) hq2 hqn
              have Hne := hide hne2
              have hj5 : j + 2 ≤ k := by have := hjv.out; have := hev.out; omega
              clear hne2 hne
              go_wp2
              go_roundw
              case rel => exact ⟨j + 2, by have := hjv.out; omega, hj5, by go_num, hb4, Hne.out⟩
              case measure => simp [intOf]; omega
          · obtain rfl : j = k := by omega
            clear hjlt e0 e2
            go_wp2
            go_roundw
            case rel => exact ⟨j + 2, by have := hev.out; omega, by omega, by go_num, hb5, fun p m' hp hp2 hpn => by
                by_cases e : p = j
                · subst e
                  obtain rfl := hkn.eq hpn
                  exact hik
                · exact hkey.out p m' (by have := hjv.out; omega) hp2 hpn, fun p q m1 m2 hp hp2 hq2 hqp h1 h2 => by
                by_cases e : p = j
                · subst e
                  obtain rfl := hkn.eq h1
                  exact hne.out q m2 hqp hq2 h2
                · exact hdiff.out p q m1 m2 (by have := hjv.out; omega) hp2 hq2 hqp h1 h2⟩
            case measure => simp [intOf]; omega
      · have t := tf_false hik
        rw [t]
        clear t
        have HF := hide (show tf (DictOk ns n.kids) = false from tf_false fun h => hik (h.key k m hev.out hkn))
        go_wp2
        go_ret
        exact ⟨ret_bool HF.out.symm, hB.trans (hb4.mono hB.size)⟩
    · by_cases hmod : n.kids.length % 2 = 0
      · have HF := hide (show tf (DictOk ns n.kids) = true from tf_true ⟨hmod, fun p m hp hn => hkey.out p m (by have := hn.lt; omega) hp hn, fun p q m m' hp hq hqp h1 h2 => hdiff.out p q m m' (by have := h1.lt; omega) hp hq hqp h1 h2⟩)
        have t : ((n.kids.length : Int) % 2 == 0) = true := by rw [beq_iff_eq]; omega
        clear hmod
        go_wp2
        go_ret
        exact ⟨ret_bool HF.out.symm, hB.trans (hb.mono hB.size)⟩
      · have HF := hide (show tf (DictOk ns n.kids) = false from tf_false fun h => hmod h.even)
        have t : ((n.kids.length : Int) % 2 == 0) = false := by rw [beq_eq_false_iff_ne]; omega
        clear hmod
        go_wp2
        go_ret
        exact ⟨ret_bool HF.out.symm, hB.trans (hb.mono hB.size)⟩

end Go.Proofs.YtckodifdbephgabDoor

namespace Go.Proofs.YtckodifdbephgabDoor
open Go.RowKit
set_option linter.unusedVariables false

/-- what tupleReach hands back -/
def GivesReach (w : World) (ns : List Nd) (i : Int) (e : Ending) (w' : World) : Prop :=
  ∃ A c out, e = .returned (.slice A out.length c) ∧ OwnI w' w.heap.size A c out ∧ Below w.heap.size w w' ∧ (∀ x, x ∈ out ↔ TReach ns i x) ∧ (∀ x ∈ out, 0 ≤ x ∧ x < ns.length) ∧ out.length ≤ ns.length

/-- every node's kids are few and are nodes -/
def KidsOk (ns : List Nd) : Prop := ns.length ≤ 12 ∧ ∀ n ∈ ns, n.kids.length ≤ 6 ∧ ∀ x ∈ n.kids, 0 ≤ x ∧ x < ns.length

theorem in64_of_range {ns : List Nd} {out : List Int} (h12 : ns.length ≤ 12) (h : ∀ x ∈ out, 0 ≤ x ∧ x < ns.length) : ∀ x ∈ out, In64 x := fun x hx => by
  have := h x hx
  constructor <;> omega

set_option maxRecDepth 100000 in
set_option maxHeartbeats 4000000 in
theorem tupleReach_any (A : Option Addr) (ns : List Nd) (c : Nat) (r : Int) (i : Nat) (w : World) (hr : NdsAt w w.heap.size A ns) (hko : KidsOk ns) (hi : i < ns.length) :
    Calls Tryd.prog 50 #[.agg #[.slice A ns.length c, .int .i64 r], .int .i64 (i : Int)] w (GivesReach w ns i) := by
  obtain ⟨h12, hkids0⟩ := hko
  have hkids := hide hkids0
  clear hkids0
  have hB : Below w.heap.size w ((w.alloc (.cells #[.slice A ns.length c, .int .i64 r] 41)).alloc (.cells #[] 3)) := ((Below.refl _ _).alloc (Nat.le_refl _) _).alloc (by simp) _
  have l1 := (Lies.new w #[.slice A ns.length c, .int .i64 r] 41).alloc (.cells #[] 3)
  have hr2 := hr.below hB
  have hbare := OwnI.bare (w.alloc (.cells #[.slice A ns.length c, .int .i64 r] 41))
  simp only [World.size_alloc] at hbare
  clear hr
  have hi1 : (0 : Int) ≤ (i : Int) := by omega
  have hi2 : (i : Int) < (ns.length : Int) := by omega
  obtain ⟨b, off, n, rfl, hbl, hat, hmem, hN⟩ := hr2.at_ hi
  obtain ⟨hn_k, hn_v, ⟨A1, c1, hn_s, hI1', hnil1⟩, _, _⟩ := hN
  have hI1 := hI1'.more hB.size
  clear hI1'
  obtain ⟨hkn, hkr0⟩ := hkids.out n hmem
  have hkr := hide hkr0
  have hki := hide (kidsOf_at hat)
  clear hat hmem hn_k hn_v hkr0
  go_enter Tryd.func50, Tryd.ntmps50
  go_wp2_with fail
  generalize hWd : (w.alloc (.cells #[.slice (some ⟨b, off, none⟩) ns.length c, .int .i64 r] 41)).alloc (.cells #[] 3) = W at hB l1 hr2 hbl hn_s hI1 hbare ⊢
  have hWs : w.heap.size + 2 = W.heap.size := by rw [← hWd]; simp
  have HWs := hide hWs
  clear hWd hWs
  refine (copyInts_any A1 n.kids c1 W hI1 hnil1 (by omega)).mono ?_
  rintro e w1 ⟨Al, cl, rfl, hlist, hb1⟩
  go_wp2_with fail
  go_loopw [5, 6, 7] (fun o l iv wr => ∃ (out list : List Int) (Ao Al : Option Addr) (co cl k : Nat), o = .slice Ao out.length co ∧ l = .slice Al list.length cl ∧ iv = .int .i64 k ∧ k ≤ list.length ∧
      OwnI wr (w.heap.size + 1) Ao co out ∧ OwnI wr (w.heap.size + 1) Al cl list ∧ Below (w.heap.size + 1) W wr ∧ (∀ g, blockOf Ao = some g → blockOf Al ≠ some g) ∧ TInv ns i out list k) (fun _ _ iv _ => 79 - (intOf iv).toNat)
  case atStart =>
    refine ⟨[], n.kids, _, Al, _, cl, 0, rfl, rfl, rfl, Nat.zero_le _, hbare.below hb1, hlist.mono (by have := HWs.out; omega), hb1.mono (by have := HWs.out; omega), ?_, ?_⟩
    · intro g hg hg2
      simp [blockOf] at hg
      have := hlist.blocks g hg2
      have := HWs.out
      omega
    · have := TInv.start (ns := ns) (i := i) (by rw [hki.out]; exact hkn) (by rw [hki.out]; exact hkr.out)
      rw [hki.out] at this
      exact this
  case round =>
    obtain ⟨out, list, Ao, Al', co, cl', k, rfl, rfl, rfl, hkl, hout, hli, hb, hap0, hinv⟩ := hrel
    clear hlist hbare hb1 hn_s hI1
    have hap := hide hap0
    clear hap0
    have hsz : w.heap.size + 2 ≤ wr.heap.size := by have := hb.size; have := HWs.out; omega
    have Hinv := hide hinv
    have hk78 := hinv.listLen h12
    have ho12 := hinv.outLen
    have wfo : ∀ x ∈ out, In64 x := in64_of_range h12 fun x hx => hinv.range x (hinv.sub x hx)
    have wfl : ∀ x ∈ list, In64 x := in64_of_range h12 hinv.range
    have hio := hout.ints wfo (by omega)
    have hil := hli.ints wfl (by omega)
    have Wfo := hide wfo
    have Wfl := hide wfl
    clear hinv wfo wfl
    have l1r := l1.below hb (by omega)
    have e0 := l1r.cell 0
    simp at e0
    by_cases hlt : k < list.length
    · obtain ⟨b2, off2, x, rfl, hbl2, hx, hxm, hcx⟩ := hil.at_ hlt
      obtain ⟨hx0, hx1⟩ := Hinv.out.range x hxm
      obtain ⟨y, rfl⟩ := Int.eq_ofNat_of_zero_le hx0
      have Hx := hide hx
      clear hx hxm
      have hk1 : (0 : Int) ≤ (k : Int) := by omega
      have hk2 : (k : Int) < (list.length : Int) := by omega
      go_wp2_with fail
      refine (placeIn_any Ao out co y wr hio).mono ?_
      rintro e w' ⟨rfl, rfl⟩
      by_cases hmem : (y : Int) ∈ out
      · have hp := place_lt hmem
        have hd : decide (place out y < 0) = false := by simp; omega
        generalize place out y = pl at hp hd ⊢
        have Hn := hide (Hinv.out.seen Hx.out hmem)
        clear hmem
        go_wp2
        go_roundw
        case rel => exact ⟨out, list, Ao, _, co, cl', k + 1, rfl, rfl, by go_num, by omega, hout, hli, hb, hap.out, Hn.out⟩
        case measure => simp [intOf]; omega
      · rw [place_neg hmem]
        have hIone := IntsAt.one wr y (by constructor <;> omega)
        go_wp2_with (at_builtin; refine append_ints rfl (.tmp 29) (.tmp 34) rfl (w.heap.size + 1) Ao co out rfl (hout.alloc _) (wr.heap.size + 1) _ 1 [(y : Int)] rfl (fun e => by cases e) hIone (by simp; omega) (by simp; omega) ?_; intro zs A' c' w2 hz hown2 hg2 hat2)
        have hb2 : Below (w.heap.size + 1) W w2 := below_grown (hb.alloc (by omega) _) hg2 (by simp; omega) (fun k hk => (hout.blocks k hk).1)
        have hli2 : OwnI w2 (w.heap.size + 1) (some ⟨b2, off2, none⟩) cl' list := (hli.alloc _).kept hg2 (.inr (fun e => hap.out b2 (by rw [← e]; simp [blockOf]) (by simp [blockOf])))
        have hap2 : Hid (∀ g, blockOf A' = some g → blockOf (some (⟨b2, off2, none⟩ : Addr)) ≠ some g) := by
          intro g hg e
          rcases hat2 with h | h
          · exact hap.out g (by rw [← h]; exact hg) e
          · simp only [World.size_alloc] at h
            have := hli.blocks b2 (by simp [blockOf])
            rw [hg] at h
            simp [blockOf] at e h
            omega
        clear hat2 hg2 hio hIone hap hout hli hil e0 l1r
        have hil2 := hli2.ints Wfl.out (by omega)
        have e0 := (l1.below hb2 (by omega)).cell 0
        simp at e0
        obtain ⟨_, _, _, he2, _, hx2, _, hcx2⟩ := hil2.at_ hlt
        simp only [Option.some.injEq, Addr.mk.injEq, and_true] at he2
        obtain ⟨rfl, rfl⟩ := he2
        obtain rfl := Option.some.inj (hx2.symm.trans Hx.out)
        obtain ⟨b3, off3, m, he3, hbl3, hat3, hmm, hM⟩ := (hr2.below (hb2.mono (by omega))).at_ (k := y) (by omega)
        simp only [Option.some.injEq, Addr.mk.injEq, and_true] at he3
        obtain ⟨rfl, rfl⟩ := he3
        obtain ⟨hm_k, hm_v, ⟨A2, c2, hm_s, hI2', hnil2⟩, _, _⟩ := hM
        have hI2 := hI2'.more (show w.heap.size ≤ w2.heap.size by have := hB.size; have := hb2.size; omega)
        clear hI2'
        obtain ⟨hkm, hkr0'⟩ := hkids.out m hmm
        have hkr2 := hide hkr0'
        have hkk := hide (kindOf_at hat3)
        have hkk2 := hide (kidsOf_at hat3)
        clear hx2 hat3 hmm hkr0' hm_v hcx
        have hy1 : (0 : Int) ≤ (y : Int) := by omega
        have hb3 : Below (w.heap.size + 1) W w2.drew := hb2.drew
        have hown3 := hown2.drew
        have hli3 := hli2.drew
        have hI3 : IntsAt w2.drew w2.drew.heap.size A2 m.kids := hI2.later (Below.refl _ _).drew (Nat.le_refl _)
        have f0 : w2.drew.cell? ⟨w.heap.size, 0, none⟩ = some (.slice (some ⟨b, off, none⟩) ns.length c) := e0
        have f1 : w2.drew.cell? ⟨b2, off2 + k, none⟩ = some (.int .i64 (y : Int)) := hcx2
        have f2 : w2.drew.cell? ⟨b, off + y * 3 + 2, none⟩ = some (.slice A2 m.kids.length c2) := hm_s
        have f3 : w2.drew.cell? ⟨b, off + y * 3, none⟩ = some (.int .i64 m.kind) := hm_k
        by_cases h2 : m.kind = 2
        · have t2 : (m.kind == 2) = true := by rw [beq_iff_eq]; exact h2
          have Hn := hide (Hinv.out.tuple Hx.out hmem (by rw [hkk.out]; exact h2) (by rw [hkk2.out]; exact hkm) (by rw [hkk2.out]; exact hkr2.out))
          clear hmem h2
          go_wp2_with fail
          go_still_tail 9, (by kernel_rfl)
          change wpList _ _ _ _ _ w2.drew
          generalize w2.drew = w3 at hb3 hown3 hli3 hI3 f0 f1 f2 f3 ⊢
          clear hb2 hown2 hli2 hI2 e0 hcx2 hm_s hm_k hil2
          have hb4 : Below (w.heap.size + 1) W w3.drew := hb3.drew
          have hown4 := hown3.drew
          have hli4 := hli3.drew
          have hI4 : IntsAt w3.drew w3.drew.heap.size A2 m.kids := hI3.later (Below.refl _ _).drew (Nat.le_refl _)
          go_wp2_with fail
          go_still_tail 10, (by kernel_rfl)
          change wpList _ _ _ _ _ w3.drew
          generalize w3.drew = w4 at hb4 hown4 hli4 hI4 ⊢
          clear hb3 hown3 hli3 hI3 f0 f1 f2 f3
          go_wp2_with (at_builtin; refine append_ints rfl (.tmp 46) (.tmp 55) rfl (w.heap.size + 1) _ cl' list rfl hli4 _ A2 c2 m.kids rfl hnil2 hI4 (by omega) (by have := hb4.size; have := HWs.out; omega) ?_; intro ls Al2 cl2 w5 hls hown5 hg5 hat5)
          go_roundw
          case rel =>
            refine ⟨zs, ls, A', Al2, c', cl2, k + 1, rfl, rfl, by go_num, ?_, ?_, hown5, ?_, ?_, ?_⟩
            · rw [hls.out]; simp; omega
            · exact hown4.kept hg5 (by
                cases hA : blockOf A' with
                | none => exact .inl rfl
                | some g => exact .inr (fun e => hap2.out g hA e.symm))
            · exact below_grown hb4 hg5 (by have := hb4.size; have := HWs.out; omega) (fun k hk => (hli4.blocks k hk).1)
            · intro g hg e
              rcases hat5 with h | h
              · exact hap2.out g hg (by rw [← h]; exact e)
              · rw [h] at e
                have := hown4.blocks g hg
                simp at e
                omega
            · rw [hz.out, hls.out, ← hkk2.out]
              exact Hn.out
          case measure => simp [intOf]; omega
        · have t2 : (m.kind == 2) = false := by rw [beq_eq_false_iff_ne]; exact h2
          have Hn := hide (Hinv.out.leaf Hx.out hmem (by rw [hkk.out]; exact h2))
          clear hmem h2
          go_wp2_with fail
          go_still_tail 9, (by kernel_rfl)
          change wpList _ _ _ _ _ w2.drew
          generalize w2.drew = w3 at hb3 hown3 hli3 ⊢
          clear hb2 hown2 hli2 hI2 e0 hcx2 hm_s hm_k hil2 f0 f1 f2 f3
          go_wp2
          go_roundw
          case rel => exact ⟨zs, list, A', _, c', cl', k + 1, rfl, rfl, by go_num, by omega, hown3, hli3, hb3, hap2.out, by rw [hz.out]; exact Hn.out⟩
          case measure => simp [intOf]; omega
    · obtain rfl : k = list.length := by omega
      have HF := hide Hinv.out.all
      have HR := hide (show ∀ x ∈ out, 0 ≤ x ∧ x < (ns.length : Int) from fun x hx => Hinv.out.range x (Hinv.out.sub x hx))
      clear hlt hil hio
      go_wp2
      go_ret
      exact ⟨Ao, co, out, rfl, hout.mono (by omega), hB.trans (hb.mono (by omega)), HF.out, HR.out, ho12⟩

end Go.Proofs.YtckodifdbephgabDoor

namespace Go.Proofs.YtckodifdbephgabDoor
open Go.RowKit
set_option linter.unusedVariables false

/-- an order as the program reads it: its code and its argument -/
structure Od where
  code : Int
  arg : Int
  deriving DecidableEq

/-- a slice at A has the orders os for its elements, in a block below B -/
structure OpsAt (w : World) (B : Nat) (A : Option Addr) (os : List Od) : Prop where
  row : os ≠ [] → ∃ b off, A = some ⟨b, off, none⟩ ∧ b < B ∧ ∀ j o, os[j]? = some o → w.cell? ⟨b, off + j * 2, none⟩ = some (.int .i64 o.code) ∧ w.cell? ⟨b, off + j * 2 + 1, none⟩ = some (.int .i64 o.arg)
  wf : ∀ o ∈ os, In64 o.code ∧ In64 o.arg
  len : os.length ≤ 9223372036854775807

theorem OpsAt.below {w w' : World} {B : Nat} {A : Option Addr} {os : List Od} (h : OpsAt w B A os) (hb : Below B w w') : OpsAt w' B A os :=
  ⟨fun hx => by
    obtain ⟨b, off, e, hlt, hc⟩ := h.row hx
    exact ⟨b, off, e, hlt, fun j x hj => ⟨(hb.cell hlt).trans (hc j x hj).1, (hb.cell hlt).trans (hc j x hj).2⟩⟩, h.wf, h.len⟩

theorem OpsAt.more {w : World} {B B' : Nat} {A : Option Addr} {os : List Od} (h : OpsAt w B A os) (hB : B ≤ B') : OpsAt w B' A os :=
  ⟨fun hx => by
    obtain ⟨b, off, e, hlt, hc⟩ := h.row hx
    exact ⟨b, off, e, Nat.lt_of_lt_of_le hlt hB, hc⟩, h.wf, h.len⟩

theorem OpsAt.later {w w' : World} {B : Nat} {A : Option Addr} {os : List Od} (h : OpsAt w B A os) (hb : Below B w w') (hB : B ≤ w.heap.size) : OpsAt w' w'.heap.size A os :=
  (h.below hb).more (Nat.le_trans hB hb.size)

theorem OpsAt.at_ {w : World} {B : Nat} {A : Option Addr} {os : List Od} (h : OpsAt w B A os) {k : Nat} (hk : k < os.length) :
    ∃ b off o, A = some ⟨b, off, none⟩ ∧ b < B ∧ os[k]? = some o ∧ o ∈ os ∧ w.cell? ⟨b, off + k * 2, none⟩ = some (.int .i64 o.code) ∧ w.cell? ⟨b, off + k * 2 + 1, none⟩ = some (.int .i64 o.arg) := by
  obtain ⟨b, off, e, hlt, hc⟩ := h.row (by intro e; subst e; simp at hk)
  have hat : os[k]? = some os[k] := List.getElem?_eq_getElem hk
  exact ⟨b, off, os[k], e, hlt, hat, List.getElem_mem hk, (hc k _ hat).1, (hc k _ hat).2⟩

/-- the cells of a slice of orders that the call made -/
def opCell (os : List Od) (i : Nat) : Value := if i % 2 = 0 then .int .i64 (os.getD (i / 2) ⟨0, 0⟩).code else .int .i64 (os.getD (i / 2) ⟨0, 0⟩).arg

theorem opCell_code {os : List Od} {k : Nat} {o : Od} (h : os[k]? = some o) : opCell os (k * 2) = .int .i64 o.code := by
  unfold opCell
  rw [if_pos (by omega), show k * 2 / 2 = k from by omega, List.getD_eq_getElem?_getD, h]; rfl

theorem opCell_arg {os : List Od} {k : Nat} {o : Od} (h : os[k]? = some o) : opCell os (k * 2 + 1) = .int .i64 o.arg := by
  unfold opCell
  rw [if_neg (by omega), show (k * 2 + 1) / 2 = k from by omega, List.getD_eq_getElem?_getD, h]; rfl

theorem OpsAt.of_row {w : World} {B g : Nat} {t : TypeId} {os : List Od} (h : w.rowIs g t (os.length * 2) (opCell os)) (hg : g < B) (hwf : ∀ o ∈ os, In64 o.code ∧ In64 o.arg) (hl : os.length ≤ 9223372036854775807) :
    OpsAt w B (some ⟨g, 0, none⟩) os :=
  ⟨fun _ => ⟨g, 0, rfl, hg, fun j o hj => by
    have hjl := (List.getElem?_eq_some_iff.1 hj).1
    rw [Nat.zero_add, ← opCell_code hj, ← opCell_arg hj]
    exact ⟨h.cell (by omega), h.cell (by omega)⟩⟩, hwf, hl⟩

/-- the world behind a store of two cells -/
def set2 (w : World) (g p : Nat) (u0 u1 : Value) : World := (w.setCell ⟨g, p, none⟩ u0).setCell ⟨g, p + 1, none⟩ u1

theorem below_set2 {w w' : World} {B g p : Nat} (h : Below B w w') (hg : B ≤ g) (u0 u1 : Value) : Below B w (set2 w' g p u0 u1) :=
  (h.setCell hg u0).setCell hg u1

/-- a row of orders of which k are stored -/
theorem opRow_next {w : World} {g k : Nat} {t : TypeId} {os : List Od} {o : Od} {f : Nat → Value} (h : w.rowIs g t (os.length * 2) f) (hf : ∀ j, j < 2 * k → f j = opCell os j) (ho : os[k]? = some o) :
    ∃ f', (set2 w g (k * 2) (.int .i64 o.code) (.int .i64 o.arg)).rowIs g t (os.length * 2) f' ∧ ∀ j, j < 2 * (k + 1) → f' j = opCell os j := by
  refine ⟨_, ((h.set (k * 2) (.int .i64 o.code)).set (k * 2 + 1) (.int .i64 o.arg)), fun j hj => ?_⟩
  by_cases e1 : j = k * 2 + 1
  · subst e1; simp [opCell_arg ho]
  · by_cases e2 : j = k * 2
    · subst e2; simp [opCell_code ho]
    · simp [e1, e2, hf j (by omega)]

end Go.Proofs.YtckodifdbephgabDoor

namespace Go.Proofs.YtckodifdbephgabDoor
open Go.RowKit
set_option linter.unusedVariables false

/-- n numbers from k on -/
def marks (k : Int) (n : Nat) : List Int := (List.range n).map fun (i : Nat) => k + (i : Int)

theorem marks_len (k : Int) (n : Nat) : (marks k n).length = n := by simp [marks]
theorem marks_at {k : Int} {n j : Nat} (h : j < n) : (marks k n)[j]? = some (k + (j : Int)) := by
  simp [marks, h]

/-- but for blocks from lo on and below hi nothing has turned -/
structure Only (lo hi : Nat) (w w' : World) : Prop where
  os : w'.os = w.os
  tape : w'.tape = w.tape
  output : w'.output = w.output
  size : w'.heap.size = w.heap.size
  block : ∀ k, k < lo ∨ hi ≤ k → w'.heap[k]? = w.heap[k]?

theorem Only.refl (lo hi : Nat) (w : World) : Only lo hi w w := ⟨rfl, rfl, rfl, rfl, fun _ _ => rfl⟩
theorem Only.trans {lo hi : Nat} {a b c : World} (h : Only lo hi a b) (k : Only lo hi b c) : Only lo hi a c :=
  ⟨k.os.trans h.os, k.tape.trans h.tape, k.output.trans h.output, k.size.trans h.size, fun j hj => (k.block j hj).trans (h.block j hj)⟩
theorem Only.setCell {lo hi : Nat} {a w : World} (h : Only lo hi a w) {p : Addr} (h1 : lo ≤ p.block) (h2 : p.block < hi) (u : Value) : Only lo hi a (w.setCell p u) :=
  h.trans ⟨rfl, rfl, rfl, by simp, fun k hk => Below.heap_setCell _ _ _ _ (by omega)⟩
theorem Only.below {lo hi : Nat} {w w' : World} (h : Only lo hi w w') : Below lo w w' := ⟨h.os, h.tape, h.output, by rw [h.size]; exact Nat.le_refl _, fun k hk => h.block k (.inl hk)⟩
theorem Only.mono {lo hi lo' hi' : Nat} {w w' : World} (h : Only lo hi w w') (h1 : lo' ≤ lo) (h2 : hi ≤ hi') : Only lo' hi' w w' :=
  ⟨h.os, h.tape, h.output, h.size, fun k hk => h.block k (by omega)⟩

/-- an int slice in a row of the call's own keeps its numbers where the row is left alone -/
theorem OwnI.only {w w' : World} {base lo hi : Nat} {A : Option Addr} {c : Nat} {xs : List Int} (h : OwnI w base A c xs) (ho : Only lo hi w w') (hA : ∀ g, blockOf A = some g → g < lo ∨ hi ≤ g) : OwnI w' base A c xs := by
  refine ⟨h.own.1, ?_⟩
  rcases h.own.2 with h2 | ⟨g, cap, cur, hv, hg, hh, r⟩
  · exact .inl h2
  · refine .inr ⟨g, cap, cur, hv, hg, ?_, r⟩
    rw [ho.block g]
    · exact hh
    · apply hA g
      injection hv with hv
      rw [hv]
      rfl

/-- but for blocks from lo on and below hi, old memory is as it was -/
structure Save (lo hi : Nat) (w w' : World) : Prop where
  os : w'.os = w.os
  tape : w'.tape = w.tape
  output : w'.output = w.output
  size : w.heap.size ≤ w'.heap.size
  block : ∀ k, k < w.heap.size → k < lo ∨ hi ≤ k → w'.heap[k]? = w.heap[k]?

theorem Save.of_below {lo hi : Nat} {w w' : World} (h : Below w.heap.size w w') : Save lo hi w w' := ⟨h.os, h.tape, h.output, h.size, fun k hk _ => h.block k hk⟩
theorem Save.of_only {lo hi : Nat} {w w' : World} (h : Only lo hi w w') : Save lo hi w w' := ⟨h.os, h.tape, h.output, by rw [h.size]; exact Nat.le_refl _, fun k _ hk => h.block k hk⟩
theorem Save.trans {lo hi : Nat} {a b c : World} (h : Save lo hi a b) (k : Save lo hi b c) : Save lo hi a c :=
  ⟨k.os.trans h.os, k.tape.trans h.tape, k.output.trans h.output, Nat.le_trans h.size k.size, fun j hj hl => (k.block j (Nat.lt_of_lt_of_le hj h.size) hl).trans (h.block j hj hl)⟩
theorem Save.below {lo hi : Nat} {w w' : World} (h : Save lo hi w w') (hl : lo ≤ w.heap.size) : Below lo w w' := ⟨h.os, h.tape, h.output, h.size, fun k hk => h.block k (by omega) (.inl hk)⟩

theorem OwnI.save {w w' : World} {base lo hi : Nat} {A : Option Addr} {c : Nat} {xs : List Int} (h : OwnI w base A c xs) (ho : Save lo hi w w') (hA : ∀ g, blockOf A = some g → g < lo ∨ hi ≤ g) : OwnI w' base A c xs := by
  refine ⟨h.own.1, ?_⟩
  have hbl := h.blocks
  rcases h.own.2 with h2 | ⟨g, cap, cur, hv, hg, hh, r⟩
  · exact .inl h2
  · have hAg : blockOf A = some g := by
      injection hv with hv
      rw [hv]
      rfl
    refine .inr ⟨g, cap, cur, hv, hg, ?_, r⟩
    rw [ho.block g (hbl g hAg).2 (hA g hAg)]
    exact hh

end Go.Proofs.YtckodifdbephgabDoor

namespace Go.Proofs.YtckodifdbephgabDoor

theorem infoOp : (Tryd.prog.info? 36).map (fun i => (i.zero, i.size, i.bytes)) = some (some (.agg #[.int .i64 0, .int .i64 0]), 2, 16) := by kernel_rfl

end Go.Proofs.YtckodifdbephgabDoor
