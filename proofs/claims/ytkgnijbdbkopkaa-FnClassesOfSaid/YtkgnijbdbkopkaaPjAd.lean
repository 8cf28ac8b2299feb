/-
  Lemmas, several texts in one: One, InfoI, EqI, SigM, JoiM, GivNd.
-/
import Derived.Test.YtkgnijbdbkopkaaPjAb
import Derived.StillTailTactics
import Derived.Test.YtkgnijbdbkopkaaMem
import Derived.Test.YtkgnijbdbkopkaaEqvM
import Derived.Test.YtkgnijbdbkopkaaOwnN
import Derived.Test.YtkgnijbdbkopkaaOwnNB
import Derived.Test.YtkgnijbdbkopkaaPjAa
namespace Go.Proofs.Ytkgnijbdbkopkaa
open Go.RowKit
set_option linter.unusedVariables false

/-- old memory is as it was, but for one block -/
structure Grew (g : Nat) (w w' : World) : Prop where
  os : w'.os = w.os
  tape : w'.tape = w.tape
  output : w'.output = w.output
  size : w.heap.size ≤ w'.heap.size
  block : ∀ k, k < w.heap.size → k ≠ g → w'.heap[k]? = w.heap[k]?

theorem Grew.refl (g : Nat) (w : World) : Grew g w w := ⟨rfl, rfl, rfl, Nat.le_refl _, fun _ _ _ => rfl⟩
theorem Grew.trans {g : Nat} {a b c : World} (h : Grew g a b) (k : Grew g b c) : Grew g a c :=
  ⟨k.os.trans h.os, k.tape.trans h.tape, k.output.trans h.output, Nat.le_trans h.size k.size, fun j hj hn => (k.block j (Nat.lt_of_lt_of_le hj h.size) hn).trans (h.block j hj hn)⟩
theorem Grew.of_turn {g : Nat} {w w' : World} (h : Turn g w w') : Grew g w w' := ⟨h.os, h.tape, h.output, by rw [h.size]; exact Nat.le_refl _, fun k _ hk => h.block k hk⟩
theorem Grew.of_below {g : Nat} {w w' : World} (h : Below w.heap.size w w') : Grew g w w' := ⟨h.os, h.tape, h.output, h.size, fun k hk _ => h.block k hk⟩
theorem Grew.below {g B : Nat} {w0 w w' : World} (h : Grew g w w') (hb : Below B w0 w) (hg : B ≤ g) (hB : B ≤ w.heap.size) : Below B w0 w' :=
  hb.trans ⟨h.os, h.tape, h.output, h.size, fun k hk => h.block k (by omega) (by omega)⟩
theorem Rd.below {w w' : World} {rb : Nat} {A : Option Addr} {n c p : Nat} (h : Rd w rb A n c p) (hb : Below w.heap.size w w') : Rd w' rb A n c p :=
  ⟨h.box.below hb h.box.lt, h.bytes.later (hb.mono (Nat.le_of_lt h.box.lt)), h.few⟩
theorem Grew.cell {g : Nat} {w w' : World} (h : Grew g w w') {b o : Nat} (h1 : b < w.heap.size) (h2 : b ≠ g) : w'.cell? ⟨b, o, none⟩ = w.cell? ⟨b, o, none⟩ := World.cell?_of_block (w := w) (h.block b h1 h2)
theorem Lies.grew {g b : Nat} {w w' : World} {cs : Array Value} {t : TypeId} (h : Lies w b cs t) (hg : Grew g w w') (h2 : b ≠ g) : Lies w' b cs t := (hg.block b h.lt h2).trans h

/-- a pick of one number of a list -/
def Chosen (rb : Nat) (A : Option Addr) (n c p : Nat) (xs : List Int) (w : World) (e : Ending) (w' : World) : Prop :=
  (∃ x ∈ xs, e = .returned (.int .i64 x)) ∧ Rd w' rb A n c (p + 1) ∧ Turn rb w w'

set_option maxHeartbeats 1000000 in
theorem one_any (rb : Nat) (A : Option Addr) (n c p g l c2 : Nat) (xs : List Int) (w : World) (h : Rd w rb A n c p) (hp : p < 1000000) (hl : xs.length = l) (h1 : 1 ≤ l) (h2 : l ≤ 100) (hg : g ≠ rb) (hc : ∀ k x, xs[k]? = some x → w.cell? ⟨g, k, none⟩ = some (.int .i64 x)) :
    Calls Try.prog 19 #[.pointer (some ⟨rb, 0, none⟩), .slice (some ⟨g, 0, none⟩) l c2] w (Chosen rb A n c p xs w) := by
  have HC := hide hc
  have Hl := hide hl
  clear hc hl
  go_enter Try.func19, Try.ntmps19
  go_wp2_with fail
  refine (pick_any rb A n c p (l : Int) w h hp (by omega)).mono ?_
  rintro e w' ⟨⟨x, rfl, hx, _⟩, hr, ht⟩
  have hxl : (x : Int) < (l : Int) := hx (by omega)
  have hx0 : (0 : Int) ≤ (x : Int) := by omega
  obtain ⟨y, hy⟩ : ∃ y, xs[x]? = some y := ⟨_, List.getElem?_eq_getElem (by have := Hl.out; omega)⟩
  have hcell : w'.cell? ⟨g, x, none⟩ = some (.int .i64 y) := (World.cell?_of_block (w := w) (ht.block g hg)).trans (HC.out x y hy)
  have hfin : Hid (Chosen rb A n c p xs w (.returned (.int .i64 y)) w') := ⟨⟨y, List.mem_of_getElem? hy, rfl⟩, hr, ht⟩
  clear hr ht hx hy
  go_wp2
  go_ret
  exact hfin.out

end Go.Proofs.Ytkgnijbdbkopkaa

namespace Go.Proofs.Ytkgnijbdbkopkaa

theorem infoInt : (Try.prog.info? 3).map (fun i => (i.zero, i.size, i.bytes)) = some (some (.int .i64 0), 1, 8) := by kernel_rfl

end Go.Proofs.Ytkgnijbdbkopkaa

namespace Go.Proofs.Ytkgnijbdbkopkaa

theorem eq_of_prefix {α : Type} [DecidableEq α] {xs ys : List α} (h : xs.length = ys.length) {k : Nat} (hk : k = xs.length) (he : ∀ j, j < k → xs[j]? = ys[j]?) : xs = ys := by
  apply List.ext_getElem?
  intro j
  by_cases hj : j < k
  · exact he j hj
  · rw [List.getElem?_eq_none (by omega), List.getElem?_eq_none (by omega)]

end Go.Proofs.Ytkgnijbdbkopkaa

namespace Go.Proofs.Ytkgnijbdbkopkaa
open Go.RowKit
set_option linter.unusedVariables false

/-- nodes that look alike without their kids -/
def Alike (m n : Nd) : Prop := m.kind = n.kind ∧ m.value = n.value ∧ m.kids.length = n.kids.length

theorem sig_alike {cl : List Int} {n m : Nd} (ha : Alike n m) (h : ∀ (j : Nat) (x y : Int), n.kids[j]? = some x → m.kids[j]? = some y → look cl x = look cl y) : sigOf cl n = sigOf cl m := by
  unfold sigOf
  rw [ha.1, ha.2.1]
  congr 2
  apply List.ext_getElem?
  intro j
  rw [List.getElem?_map, List.getElem?_map]
  have hlen := ha.2.2
  by_cases hj : j < n.kids.length
  · have hx : n.kids[j]? = some n.kids[j] := List.getElem?_eq_getElem hj
    have hy : m.kids[j]? = some m.kids[j] := List.getElem?_eq_getElem (by have := ha.2.2; omega)
    rw [hx, hy]
    simp only [Option.map_some]
    rw [h j _ _ hx hy]
  · rw [List.getElem?_eq_none (by omega), List.getElem?_eq_none (by have := ha.2.2; omega)]

theorem alike_sig {cl : List Int} {n m : Nd} (h : sigOf cl n = sigOf cl m) : Alike n m ∧ ∀ (j : Nat) (x y : Int), n.kids[j]? = some x → m.kids[j]? = some y → look cl x = look cl y := by
  unfold sigOf at h
  simp only [Prod.mk.injEq] at h
  obtain ⟨h1, h2, h3⟩ := h
  refine ⟨⟨h1, h2, by have := congrArg List.length h3; simpa using this⟩, fun j x y hx hy => ?_⟩
  have := congrArg (fun l => l[j]?) h3
  simp only [List.getElem?_map, hx, hy, Option.map_some] at this
  injection this

theorem look_in {cl : List Int} {x : Int} (h0 : 0 ≤ x) (h1 : x < cl.length) : cl[x.toNat]? = some (look cl x) := by
  obtain ⟨i, rfl⟩ := Int.eq_ofNat_of_zero_le h0
  have : cl[i]? = some cl[i] := List.getElem?_eq_getElem (by omega)
  rw [look_at this, Int.toNat_natCast, this]

end Go.Proofs.Ytkgnijbdbkopkaa

namespace Go.Proofs.Ytkgnijbdbkopkaa
open Go.RowKit

/-- a node whose kids are counted from m on -/
def shiftNd (m : Nat) (n : Nd) : Nd := ⟨n.kind, n.value, n.kids.map (fun k => (m : Int) + k)⟩
def joinNs (ns ms : List Nd) : List Nd := ns ++ ms.map (shiftNd ns.length)

theorem joinNs_len (ns ms : List Nd) : (joinNs ns ms).length = ns.length + ms.length := by simp [joinNs]

end Go.Proofs.Ytkgnijbdbkopkaa

namespace Go.Proofs.Ytkgnijbdbkopkaa
open Go.RowKit
set_option linter.unusedVariables false

/-- a node, its kids in memory of the call's own -/
def GivesNd (w : World) (k v : Int) (ks : List Int) (e : Ending) (w' : World) : Prop := ∃ A c, e = .returned (.agg #[.int .i64 k, .int .i64 v, .slice A ks.length c]) ∧ OwnI w' w.heap.size A c ks ∧ Below w.heap.size w w'

end Go.Proofs.Ytkgnijbdbkopkaa
