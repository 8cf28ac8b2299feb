/-
  Lemmas, several texts in one: Tup, One, PlIn, AllIn, Only, InfoO, OwnO, OwnOO, Emit, Sub, ShpW, CutM, VOp, NumO.
-/
import Derived.Test.YthckkpbjpgfdcaaDoorMem
import Derived.Test.YthckkpbjpgfdcaaDoorPjAa
import Derived.StillTailTactics
import Derived.Test.YthckkpbjpgfdcaaDoorOwn
import Derived.Deep.QuietTactic
import Derived.BigQuiet
import Derived.Test.YthckkpbjpgfdcaaDoorPjAb
import Derived.Deep.RegionLaw
import Derived.Deep.AppendLies
import Derived.Maps.AppendAt
import Derived.Laws.AppendOwnNone
import Derived.Test.YthckkpbjpgfdcaaDoorShpR
import Derived.Deep.RegionHeld
namespace Go.Proofs.YthckkpbjpgfdcaaDoor
theorem nodup_le : ∀ (N : Nat) (l : List Int), l.Nodup → (∀ x ∈ l, 0 ≤ x ∧ x < N) → l.length ≤ N
  | 0, l, _, h => by
    cases l with
    | nil => simp
    | cons x l => have := h x (by simp); omega
  | N + 1, l, hd, h => by
    have h1 : (l.erase (N : Int)).length ≤ N := nodup_le N _ (hd.erase _) (fun x hx => by
      have hx2 := (List.Nodup.mem_erase_iff hd).1 hx
      have := h x hx2.2
      have hne := hx2.1
      omega)
    have h2 := List.length_erase (a := (N : Int)) (l := l)
    split at h2 <;> omega
def kidsOf (ns : List Nd) (x : Int) : List Int := ((ns[x.toNat]?).map Nd.kids).getD []
def kindOf (ns : List Nd) (x : Int) : Int := ((ns[x.toNat]?).map Nd.kind).getD (-1)
theorem kidsOf_at {ns : List Nd} {k : Nat} {n : Nd} (h : ns[k]? = some n) : kidsOf ns (k : Int) = n.kids := by
  unfold kidsOf
  rw [Int.toNat_natCast, h]; rfl
theorem kindOf_at {ns : List Nd} {k : Nat} {n : Nd} (h : ns[k]? = some n) : kindOf ns (k : Int) = n.kind := by
  unfold kindOf
  rw [Int.toNat_natCast, h]; rfl
inductive TReach (ns : List Nd) (i : Int) : Int → Prop
  | kid (x : Int) : x ∈ kidsOf ns i → TReach ns i x
  | step (y x : Int) : TReach ns i y → kindOf ns y = 2 → x ∈ kidsOf ns y → TReach ns i x
structure TInv (ns : List Nd) (i : Int) (out list : List Int) (k : Nat) : Prop where
  sound : ∀ x ∈ list, TReach ns i x
  range : ∀ x ∈ list, 0 ≤ x ∧ x < ns.length
  sub : ∀ x ∈ out, x ∈ list
  done : ∀ j x, j < k → list[j]? = some x → x ∈ out
  nodup : out.Nodup
  kids : ∀ x ∈ kidsOf ns i, x ∈ list
  closed : ∀ y ∈ out, kindOf ns y = 2 → ∀ x ∈ kidsOf ns y, x ∈ list
  len : list.length ≤ 6 * (1 + out.length)
theorem TInv.start {ns : List Nd} {i : Int} (h6 : (kidsOf ns i).length ≤ 6) (hr : ∀ x ∈ kidsOf ns i, 0 ≤ x ∧ x < ns.length) : TInv ns i [] (kidsOf ns i) 0 :=
  ⟨fun x hx => .kid x hx, hr, fun x hx => (by cases hx), fun j x hj => absurd hj (by omega), List.nodup_nil, fun x hx => hx, fun y hy => (by cases hy), by simp; omega⟩
theorem TInv.seen {ns : List Nd} {i : Int} {out list : List Int} {k : Nat} {x : Int} (h : TInv ns i out list k) (hx : list[k]? = some x) (hm : x ∈ out) : TInv ns i out list (k + 1) :=
  ⟨h.sound, h.range, h.sub, fun j y hj hy => by
    by_cases e : j = k
    · subst e; rw [hx] at hy; injection hy with hy; subst hy; exact hm
    · exact h.done j y (by omega) hy, h.nodup, h.kids, h.closed, h.len⟩
theorem TInv.outLen {ns : List Nd} {i : Int} {out list : List Int} {k : Nat} (h : TInv ns i out list k) : out.length ≤ ns.length :=
  nodup_le ns.length out h.nodup fun x hx => h.range x (h.sub x hx)
theorem TInv.listLen {ns : List Nd} {i : Int} {out list : List Int} {k : Nat} (h : TInv ns i out list k) (h12 : ns.length ≤ 12) : list.length ≤ 78 := by
  have := h.outLen
  have := h.len
  omega
theorem TInv.leaf {ns : List Nd} {i : Int} {out list : List Int} {k : Nat} {x : Int} (h : TInv ns i out list k) (hx : list[k]? = some x) (hm : x ∉ out) (hk : kindOf ns x ≠ 2) : TInv ns i (out ++ [x]) list (k + 1) := by
  have hmem : x ∈ list := List.mem_of_getElem? hx
  refine ⟨h.sound, h.range, fun y hy => ?_, fun j y hj hy => ?_, ?_, h.kids, fun y hy h2 z hz => ?_, ?_⟩
  · rcases List.mem_append.1 hy with hy | hy
    · exact h.sub y hy
    · simp at hy; subst hy; exact hmem
  · by_cases e : j = k
    · subst e; rw [hx] at hy; injection hy with hy; subst hy; simp
    · exact List.mem_append_left _ (h.done j y (by omega) hy)
  · rw [List.nodup_append]
    exact ⟨h.nodup, by simp, fun a ha b hb => by simp at hb; subst hb; intro e; subst e; exact hm ha⟩
  · rcases List.mem_append.1 hy with hy | hy
    · exact h.closed y hy h2 z hz
    · simp at hy; subst hy; exact absurd h2 hk
  · have := h.len
    simp only [List.length_append, List.length_singleton]
    omega
theorem TInv.tuple {ns : List Nd} {i : Int} {out list : List Int} {k : Nat} {x : Int} (h : TInv ns i out list k) (hx : list[k]? = some x) (hm : x ∉ out) (hk : kindOf ns x = 2) (h6 : (kidsOf ns x).length ≤ 6)
    (hr : ∀ z ∈ kidsOf ns x, 0 ≤ z ∧ z < ns.length) : TInv ns i (out ++ [x]) (list ++ kidsOf ns x) (k + 1) := by
  have hmem : x ∈ list := List.mem_of_getElem? hx
  have hkl : k < list.length := (List.getElem?_eq_some_iff.1 hx).1
  refine ⟨fun y hy => ?_, fun y hy => ?_, fun y hy => ?_, fun j y hj hy => ?_, ?_, fun y hy => List.mem_append_left _ (h.kids y hy), fun y hy h2 z hz => ?_, ?_⟩
  · rcases List.mem_append.1 hy with hy | hy
    · exact h.sound y hy
    · exact .step x y (h.sound x hmem) hk hy
  · rcases List.mem_append.1 hy with hy | hy
    · exact h.range y hy
    · exact hr y hy
  · rcases List.mem_append.1 hy with hy | hy
    · exact List.mem_append_left _ (h.sub y hy)
    · simp at hy; subst hy; exact List.mem_append_left _ hmem
  · rw [List.getElem?_append_left (by omega)] at hy
    by_cases e : j = k
    · subst e; rw [hx] at hy; injection hy with hy; subst hy; simp
    · exact List.mem_append_left _ (h.done j y (by omega) hy)
  · rw [List.nodup_append]
    exact ⟨h.nodup, by simp, fun a ha b hb => by simp at hb; subst hb; intro e; subst e; exact hm ha⟩
  · rcases List.mem_append.1 hy with hy | hy
    · exact List.mem_append_left _ (h.closed y hy h2 z hz)
    · simp at hy; subst hy; exact List.mem_append_right _ hz
  · have := h.len
    simp only [List.length_append, List.length_singleton]
    omega
theorem TInv.all {ns : List Nd} {i : Int} {out list : List Int} (h : TInv ns i out list list.length) (x : Int) : x ∈ out ↔ TReach ns i x := by
  have hall : ∀ y ∈ list, y ∈ out := fun y hy => by
    obtain ⟨j, hj, rfl⟩ := List.getElem_of_mem hy
    exact h.done j _ hj (List.getElem?_eq_getElem hj)
  constructor
  · exact fun hx => h.sound x (h.sub x hx)
  · intro hx
    induction hx with
    | kid x hx => exact hall x (h.kids x hx)
    | step y x _ h2 hx ih => exact hall x (h.closed y ih h2 x hx)
end Go.Proofs.YthckkpbjpgfdcaaDoor

namespace Go.Proofs.YthckkpbjpgfdcaaDoor
open Go.RowKit
set_option linter.unusedVariables false
structure Grew (g : Nat) (w w' : World) : Prop where
  os : w'.os = w.os
  tape : w'.tape = w.tape
  output : w'.output = w.output
  size : w.heap.size ≤ w'.heap.size
  block : ∀ k, k < w.heap.size → k ≠ g → w'.heap[k]? = w.heap[k]?
theorem Grew.refl (g : Nat) (w : World) : Grew g w w := ⟨rfl, rfl, rfl, Nat.le_refl _, fun _ _ _ => rfl⟩
theorem Grew.trans {g : Nat} {a b c : World} (h : Grew g a b) (k : Grew g b c) : Grew g a c :=
  ⟨k.os.trans h.os, k.tape.trans h.tape, k.output.trans h.output, Nat.le_trans h.size k.size, fun j hj hn => (k.block j (Nat.lt_of_lt_of_le hj h.size) hn).trans (h.block j hj hn)⟩
theorem Grew.of_turn {g : Nat} {w w' : World} (h : Turn g w w') : Grew g w w' := ⟨h.os, h.tape, h.output, by rw [h.size]; exact Nat.le_refl _, fun k _ hk => h.block k hk⟩
theorem Grew.of_below {g : Nat} {w w' : World} (h : Below w.heap.size w w') : Grew g w w' := ⟨h.os, h.tape, h.output, h.size, fun k hk _ => h.block k hk⟩
theorem Grew.below {g B : Nat} {w0 w w' : World} (h : Grew g w w') (hb : Below B w0 w) (hg : B ≤ g) (hB : B ≤ w.heap.size) : Below B w0 w' :=
  hb.trans ⟨h.os, h.tape, h.output, h.size, fun k hk => h.block k (by omega) (by omega)⟩
theorem Rd.below {w w' : World} {rb : Nat} {A : Option Addr} {n c p : Nat} (h : Rd w rb A n c p) (hb : Below w.heap.size w w') : Rd w' rb A n c p :=
  ⟨h.box.below hb h.box.lt, h.bytes.later (hb.mono (Nat.le_of_lt h.box.lt)), h.few⟩
theorem Grew.cell {g : Nat} {w w' : World} (h : Grew g w w') {b o : Nat} (h1 : b < w.heap.size) (h2 : b ≠ g) : w'.cell? ⟨b, o, none⟩ = w.cell? ⟨b, o, none⟩ := World.cell?_of_block (w := w) (h.block b h1 h2)
theorem Lies.grew {g b : Nat} {w w' : World} {cs : Array Value} {t : TypeId} (h : Lies w b cs t) (hg : Grew g w w') (h2 : b ≠ g) : Lies w' b cs t := (hg.block b h.lt h2).trans h
def Chosen (rb : Nat) (A : Option Addr) (n c p : Nat) (xs : List Int) (w : World) (e : Ending) (w' : World) : Prop :=
  (∃ x ∈ xs, e = .returned (.int .i64 x)) ∧ Rd w' rb A n c (p + 1) ∧ Turn rb w w'
set_option maxHeartbeats 1000000 in
theorem one_any (rb : Nat) (A : Option Addr) (n c p g l c2 : Nat) (xs : List Int) (w : World) (h : Rd w rb A n c p) (hp : p < 1000000) (hl : xs.length = l) (h1 : 1 ≤ l) (h2 : l ≤ 100) (hg : g ≠ rb) (hc : ∀ k x, xs[k]? = some x → w.cell? ⟨g, k, none⟩ = some (.int .i64 x)) :
    Calls Tryd.prog 23 #[.pointer (some ⟨rb, 0, none⟩), .slice (some ⟨g, 0, none⟩) l c2] w (Chosen rb A n c p xs w) := by
  have HC := hide hc
  have Hl := hide hl
  clear hc hl
  go_enter Tryd.func23, Tryd.ntmps23
  go_wp2_with fail
  refine (pick_any rb A n c p (l : Int) w h hp (by omega)).mono ?_
  rintro e w' ⟨⟨x, rfl, hx, _⟩, hr, ht⟩
  have hxl : (x : Int) < (l : Int) := hx (by omega)
  have hx0 : (0 : Int) ≤ (x : Int) := by omega
  obtain ⟨y, hy⟩ : ∃ y, xs[x]? = some y := ⟨_, List.getElem?_eq_getElem (by have := Hl.out; omega)⟩
  have hcell : w'.cell? ⟨g, x, none⟩ = some (.int .i64 y) := (World.cell?_of_block (w := w) (ht.block g hg)).trans (HC.out x y hy)
  have hfin : Hid (Chosen rb A n c p xs w (.returned (.int .i64 y)) w') := ⟨⟨y, List.mem_of_getElem? hy, rfl⟩, hr, ht⟩
  clear hr ht hx hy
  go_wp2
  go_ret
  exact hfin.out
end Go.Proofs.YthckkpbjpgfdcaaDoor

namespace Go.Proofs.YthckkpbjpgfdcaaDoor
open Go.RowKit
set_option maxHeartbeats 1000000 in
theorem placeIn_any (A : Option Addr) (xs : List Int) (c : Nat) (n : Int) (w : World) (h : IntsAt w w.heap.size A xs) :
    Calls Tryd.prog 14 #[.slice A xs.length c, .int .i64 n] w fun e w' => e = .returned (.int .i64 (place xs n)) ∧ w = w' := by
  have hl := h.len
  go_enter Tryd.func14, Tryd.ntmps14
  go_wp2_with fail
  go_loop [5] (fun i => ∃ k : Nat, k ≤ xs.length ∧ i = .int .i64 k ∧ ∀ j, j < k → xs[j]? ≠ some n) (fun i => xs.length - (intOf i).toNat)
  case atStart => exact ⟨0, Nat.zero_le _, rfl, fun j hj => absurd hj (by omega)⟩
  case round =>
    obtain ⟨k, hk, rfl, he0⟩ := hrel
    have he := hide he0
    clear he0
    by_cases hlt : k < xs.length
    · obtain ⟨b, off, x, rfl, hbl, hx, _, hc⟩ := h.at_ hlt
      have Hx := hide hx
      clear hx
      by_cases hxn : x = n
      · subst hxn
        have HF := hide (place_at Hx.out he.out)
        go_wp2
        go_ret
        exact ⟨ret_int HF.out.symm, rfl⟩
      · have t : (x == n) = false := by simpa using hxn
        have he2 : ∀ j, j < k + 1 → xs[j]? ≠ some n := by
          intro j hj
          by_cases e : j = k
          · subst e; rw [Hx.out]; intro e; injection e with e; exact hxn e
          · exact he.out j (by omega)
        have He := hide he2
        clear he2 he hxn
        go_wp2
        go_round
        case rel => exact ⟨k + 1, by omega, by go_num, He.out⟩
        case measure => simp [intOf]; omega
    · obtain rfl : k = xs.length := by omega
      have HF := hide (place_none he.out)
      clear hlt
      go_wp2
      go_ret
      exact ⟨ret_int HF.out.symm, rfl⟩
end Go.Proofs.YthckkpbjpgfdcaaDoor

namespace Go.Proofs.YthckkpbjpgfdcaaDoor
open Go.RowKit
def AllIn (xs : List Int) (lo hi : Int) : Prop := ∀ x ∈ xs, lo ≤ x ∧ x ≤ hi
set_option maxHeartbeats 1000000 in
theorem allIn_any (A : Option Addr) (xs : List Int) (c : Nat) (lo hi : Int) (w : World) (h : IntsAt w w.heap.size A xs) :
    Calls Tryd.prog 54 #[.slice A xs.length c, .int .i64 lo, .int .i64 hi] w fun e w' => e = .returned (.bool (tf (AllIn xs lo hi))) ∧ w = w' := by
  have hl := h.len
  go_enter Tryd.func54, Tryd.ntmps54
  go_wp2_with fail
  go_loop [7] (fun i => ∃ k : Nat, k ≤ xs.length ∧ i = .int .i64 k ∧ ∀ j x, j < k → xs[j]? = some x → lo ≤ x ∧ x ≤ hi) (fun i => xs.length - (intOf i).toNat)
  case atStart => exact ⟨0, Nat.zero_le _, rfl, fun j _ hj => absurd hj (by omega)⟩
  case round =>
    obtain ⟨k, hk, rfl, he0⟩ := hrel
    have he := hide he0
    clear he0
    by_cases hlt : k < xs.length
    · obtain ⟨b, off, x, rfl, hbl, hx, hmem, hc⟩ := h.at_ hlt
      have Hx := hide hx
      clear hx
      by_cases hin : lo ≤ x ∧ x ≤ hi
      · have He : Hid (∀ j y, j < k + 1 → xs[j]? = some y → lo ≤ y ∧ y ≤ hi) := by
          intro j y hj hy
          by_cases e : j = k
          · subst e
            have := Hx.out.symm.trans hy
            injection this with this
            subst this
            exact hin
          · exact he.out j y (by omega) hy
        obtain ⟨h1, h2⟩ := hin
        clear he hmem
        go_wp2_with fail
        refine (inRange_yes x lo hi w h1 h2).mono ?_
        rintro e w' ⟨rfl, rfl⟩
        go_wp2
        go_round
        case rel => exact ⟨k + 1, by omega, by go_num, He.out⟩
        case measure => simp [intOf]; omega
      · have HF := hide (show tf (AllIn xs lo hi) = false from tf_false fun hall => hin (hall x hmem))
        have hno : x < lo ∨ hi < x := by omega
        clear he hmem
        go_wp2_with fail
        refine (inRange_no x lo hi w hno).mono ?_
        rintro e w' ⟨rfl, rfl⟩
        clear hno hin
        go_wp2
        go_ret
        exact ⟨ret_bool HF.out.symm, rfl⟩
    · obtain rfl : k = xs.length := by omega
      have HF := hide (show tf (AllIn xs lo hi) = true from tf_true fun x hx => by
        obtain ⟨j, hj, rfl⟩ := List.getElem_of_mem hx
        exact he.out j _ hj (List.getElem?_eq_getElem hj))
      clear hlt
      go_wp2
      go_ret
      exact ⟨ret_bool HF.out.symm, rfl⟩
end Go.Proofs.YthckkpbjpgfdcaaDoor

namespace Go.Proofs.YthckkpbjpgfdcaaDoor
open Go.RowKit
set_option linter.unusedVariables false
def marks (k : Int) (n : Nat) : List Int := (List.range n).map fun (i : Nat) => k + (i : Int)
structure Only (lo hi : Nat) (w w' : World) : Prop where
  os : w'.os = w.os
  tape : w'.tape = w.tape
  output : w'.output = w.output
  size : w'.heap.size = w.heap.size
  block : ∀ k, k < lo ∨ hi ≤ k → w'.heap[k]? = w.heap[k]?
theorem Only.refl (lo hi : Nat) (w : World) : Only lo hi w w := ⟨rfl, rfl, rfl, rfl, fun _ _ => rfl⟩
theorem Only.trans {lo hi : Nat} {a b c : World} (h : Only lo hi a b) (k : Only lo hi b c) : Only lo hi a c :=
  ⟨k.os.trans h.os, k.tape.trans h.tape, k.output.trans h.output, k.size.trans h.size, fun j hj => (k.block j hj).trans (h.block j hj)⟩
theorem Only.setCell {lo hi : Nat} {a w : World} (h : Only lo hi a w) {p : Addr} (h1 : lo ≤ p.block) (h2 : p.block < hi) (u : Value) : Only lo hi a (w.setCell p u) :=
  h.trans ⟨rfl, rfl, rfl, by simp, fun k hk => Below.heap_setCell _ _ _ _ (by omega)⟩
theorem Only.below {lo hi : Nat} {w w' : World} (h : Only lo hi w w') : Below lo w w' := ⟨h.os, h.tape, h.output, by rw [h.size]; exact Nat.le_refl _, fun k hk => h.block k (.inl hk)⟩
theorem Only.mono {lo hi lo' hi' : Nat} {w w' : World} (h : Only lo hi w w') (h1 : lo' ≤ lo) (h2 : hi ≤ hi') : Only lo' hi' w w' :=
  ⟨h.os, h.tape, h.output, h.size, fun k hk => h.block k (by omega)⟩
theorem OwnI.only {w w' : World} {base lo hi : Nat} {A : Option Addr} {c : Nat} {xs : List Int} (h : OwnI w base A c xs) (ho : Only lo hi w w') (hA : ∀ g, blockOf A = some g → g < lo ∨ hi ≤ g) : OwnI w' base A c xs := by
  refine ⟨h.own.1, ?_⟩
  rcases h.own.2 with h2 | ⟨g, cap, cur, hv, hg, hh, r⟩
  · exact .inl h2
  · refine .inr ⟨g, cap, cur, hv, hg, ?_, r⟩
    rw [ho.block g]
    · exact hh
    · apply hA g
      injection hv with hv
      rw [hv]
      rfl
structure Save (lo hi : Nat) (w w' : World) : Prop where
  os : w'.os = w.os
  tape : w'.tape = w.tape
  output : w'.output = w.output
  size : w.heap.size ≤ w'.heap.size
  block : ∀ k, k < w.heap.size → k < lo ∨ hi ≤ k → w'.heap[k]? = w.heap[k]?
theorem Save.of_below {lo hi : Nat} {w w' : World} (h : Below w.heap.size w w') : Save lo hi w w' := ⟨h.os, h.tape, h.output, h.size, fun k hk _ => h.block k hk⟩
theorem Save.trans {lo hi : Nat} {a b c : World} (h : Save lo hi a b) (k : Save lo hi b c) : Save lo hi a c :=
  ⟨k.os.trans h.os, k.tape.trans h.tape, k.output.trans h.output, Nat.le_trans h.size k.size, fun j hj hl => (k.block j (Nat.lt_of_lt_of_le hj h.size) hl).trans (h.block j hj hl)⟩
theorem Save.below {lo hi : Nat} {w w' : World} (h : Save lo hi w w') (hl : lo ≤ w.heap.size) : Below lo w w' := ⟨h.os, h.tape, h.output, h.size, fun k hk => h.block k (by omega) (.inl hk)⟩
theorem OwnI.save {w w' : World} {base lo hi : Nat} {A : Option Addr} {c : Nat} {xs : List Int} (h : OwnI w base A c xs) (ho : Save lo hi w w') (hA : ∀ g, blockOf A = some g → g < lo ∨ hi ≤ g) : OwnI w' base A c xs := by
  refine ⟨h.own.1, ?_⟩
  have hbl := h.blocks
  rcases h.own.2 with h2 | ⟨g, cap, cur, hv, hg, hh, r⟩
  · exact .inl h2
  · have hAg : blockOf A = some g := by
      injection hv with hv
      rw [hv]
      rfl
    refine .inr ⟨g, cap, cur, hv, hg, ?_, r⟩
    rw [ho.block g (hbl g hAg).2 (hA g hAg)]
    exact hh
end Go.Proofs.YthckkpbjpgfdcaaDoor

namespace Go.Proofs.YthckkpbjpgfdcaaDoor
theorem infoOp : (Tryd.prog.info? 38).map (fun i => (i.zero, i.size, i.bytes)) = some (some (.agg #[.int .i64 0, .int .i64 0]), 2, 16) := by kernel_rfl
end Go.Proofs.YthckkpbjpgfdcaaDoor

namespace Go.Proofs.YthckkpbjpgfdcaaDoor
open Go.RowKit
set_option linter.unusedVariables false
def opVals (os : List Od) : List Value := os.flatMap fun o => [.int .i64 o.code, .int .i64 o.arg]
theorem opVals_cons (o : Od) (os : List Od) : opVals (o :: os) = .int .i64 o.code :: .int .i64 o.arg :: opVals os := by simp [opVals]
theorem opVals_snoc (os : List Od) (o : Od) : opVals (os ++ [o]) = opVals os ++ [.int .i64 o.code, .int .i64 o.arg] := by simp [opVals]
theorem opVals_len (os : List Od) : (opVals os).length = os.length * 2 := by
  induction os with
  | nil => rfl
  | cons o os ih => rw [opVals_cons]; simp [ih]; omega
theorem opVals_code {os : List Od} {k : Nat} {o : Od} (h : os[k]? = some o) : (opVals os)[k * 2]? = some (.int .i64 o.code) := by
  induction os generalizing k with
  | nil => simp at h
  | cons p os ih =>
    rw [opVals_cons]
    cases k with
    | zero => simp at h; subst h; rfl
    | succ k =>
      rw [show (k + 1) * 2 = k * 2 + 1 + 1 by omega, List.getElem?_cons_succ, List.getElem?_cons_succ]
      exact ih (by simpa using h)
theorem opVals_arg {os : List Od} {k : Nat} {o : Od} (h : os[k]? = some o) : (opVals os)[k * 2 + 1]? = some (.int .i64 o.arg) := by
  induction os generalizing k with
  | nil => simp at h
  | cons p os ih =>
    rw [opVals_cons]
    cases k with
    | zero => simp at h; subst h; rfl
    | succ k =>
      rw [show (k + 1) * 2 + 1 = k * 2 + 1 + 1 + 1 by omega, List.getElem?_cons_succ, List.getElem?_cons_succ]
      exact ih (by simpa using h)
structure OwnO (w : World) (base : Nat) (A : Option Addr) (c : Nat) (os : List Od) : Prop where
  own : w.ownsRow base 38 2 (.slice A os.length c) os.length (opVals os)
theorem OwnO.empty (w : World) (base : Nat) : OwnO w base none 0 [] := ⟨World.ownsRow_nil _ _ _ _⟩
theorem OwnO.bare (w : World) : OwnO (w.alloc (.cells #[] 38)) w.heap.size (some ⟨w.heap.size, 0, none⟩) 0 [] :=
  ⟨World.ownsRow_lit w #[] 0 (Nat.le_refl _) (by unfold maxLen; omega) rfl⟩
theorem OwnO.form {w : World} {base : Nat} {A : Option Addr} {c : Nat} {os : List Od} (h : OwnO w base A c os) :
    (A = none ∧ c = 0 ∧ os = []) ∨ ∃ g, A = some ⟨g, 0, none⟩ ∧ base ≤ g ∧ g < w.heap.size := by
  rcases h.own.2 with ⟨h1, h2⟩ | ⟨g, cap, cur, hv, hg, hh, _⟩
  · injection h1 with h1 _ h3
    exact .inl ⟨h1, h3, List.eq_nil_of_length_eq_zero h2⟩
  · injection hv with hv
    exact .inr ⟨g, hv, hg, lt_of_block hh⟩
theorem OwnO.ops {w : World} {base : Nat} {A : Option Addr} {c : Nat} {os : List Od} (h : OwnO w base A c os) (hwf : ∀ o ∈ os, In64 o.code ∧ In64 o.arg) (hl : os.length ≤ 9223372036854775807) : OpsAt w w.heap.size A os := by
  refine ⟨fun hx => ?_, hwf, hl⟩
  rcases h.form with ⟨_, _, h2⟩ | ⟨g, rfl, _, hlt⟩
  · exact absurd h2 hx
  · refine ⟨g, 0, rfl, hlt, fun j o hj => ?_⟩
    have hjl : j < os.length := (List.getElem?_eq_some_iff.1 hj).1
    rw [Nat.zero_add, h.own.cellAt (j * 2) (by omega), h.own.cellAt (j * 2 + 1) (by omega)]
    exact ⟨opVals_code hj, opVals_arg hj⟩
theorem OwnO.blocks {w : World} {base : Nat} {A : Option Addr} {c : Nat} {os : List Od} (h : OwnO w base A c os) : ∀ k, blockOf A = some k → base ≤ k ∧ k < w.heap.size := by
  intro k hk
  rcases h.form with ⟨rfl, _, _⟩ | ⟨g, rfl, h1, h2⟩
  · cases hk
  · simp [blockOf] at hk
    omega
theorem OwnO.alloc {w : World} {base : Nat} {A : Option Addr} {c : Nat} {os : List Od} (h : OwnO w base A c os) (o : Obj) : OwnO (w.alloc o) base A c os := ⟨h.own.alloc o⟩
theorem OwnO.drew {w : World} {base : Nat} {A : Option Addr} {c : Nat} {os : List Od} (h : OwnO w base A c os) : OwnO w.drew base A c os := ⟨h.own⟩
theorem OwnO.kept {w w' : World} {base : Nat} {A : Option Addr} {c : Nat} {os : List Od} {row : Option Nat} (h : OwnO w base A c os) (hg : w.grownBy w' row) (hne : blockOf A = none ∨ blockOf A ≠ row) : OwnO w' base A c os :=
  ⟨h.own.kept hg (by rw [ownBlock_slice]; exact hne)⟩
theorem OwnO.below {w w' : World} {base : Nat} {A : Option Addr} {c : Nat} {os : List Od} (h : OwnO w base A c os) (hb : Below w.heap.size w w') : OwnO w' base A c os :=
  h.kept (grownBy_of_below hb) (by cases hA : blockOf A <;> simp)
theorem OwnO.mono {w : World} {base base' : Nat} {A : Option Addr} {c : Nat} {os : List Od} (h : OwnO w base A c os) (hb : base' ≤ base) : OwnO w base' A c os := by
  refine ⟨h.own.1, ?_⟩
  rcases h.own.2 with h2 | ⟨g, cap, cur, hv, hg, r⟩
  · exact .inl h2
  · exact .inr ⟨g, cap, cur, hv, Nat.le_trans hb hg, r⟩
theorem OwnO.only {w w' : World} {base lo hi : Nat} {A : Option Addr} {c : Nat} {os : List Od} (h : OwnO w base A c os) (ho : Only lo hi w w') (hA : ∀ g, blockOf A = some g → g < lo ∨ hi ≤ g) : OwnO w' base A c os := by
  refine ⟨h.own.1, ?_⟩
  rcases h.own.2 with h2 | ⟨g, cap, cur, hv, hg, hh, r⟩
  · exact .inl h2
  · refine .inr ⟨g, cap, cur, hv, hg, ?_, r⟩
    rw [ho.block g]
    · exact hh
    · apply hA g
      injection hv with hv
      rw [hv]
      rfl
theorem OwnO.of_block {w w' : World} {base : Nat} {A : Option Addr} {c : Nat} {os : List Od} (h : OwnO w base A c os) (hA : ∀ g, blockOf A = some g → w'.heap[g]? = w.heap[g]?) : OwnO w' base A c os := by
  refine ⟨h.own.1, ?_⟩
  rcases h.own.2 with h2 | ⟨g, cap, cur, hv, hg, hh, r⟩
  · exact .inl h2
  · refine .inr ⟨g, cap, cur, hv, hg, ?_, r⟩
    rw [hA g (by injection hv with hv; rw [hv]; rfl)]
    exact hh
theorem OwnI.of_block {w w' : World} {base : Nat} {A : Option Addr} {c : Nat} {xs : List Int} (h : OwnI w base A c xs) (hA : ∀ g, blockOf A = some g → w'.heap[g]? = w.heap[g]?) : OwnI w' base A c xs := by
  refine ⟨h.own.1, ?_⟩
  rcases h.own.2 with h2 | ⟨g, cap, cur, hv, hg, hh, r⟩
  · exact .inl h2
  · refine .inr ⟨g, cap, cur, hv, hg, ?_, r⟩
    rw [hA g (by injection hv with hv; rw [hv]; rfl)]
    exact hh
theorem OwnI.set {w : World} {base g : Nat} {c : Nat} {xs : List Int} (h : OwnI w base (some ⟨g, 0, none⟩) c xs) (j : Nat) (x : Int) :
    OwnI (w.setCell ⟨g, j, none⟩ (.int .i64 x)) base (some ⟨g, 0, none⟩) c (xs.set j x) := by
  have := (h.own.stored j (.int .i64 x)).1
  refine ⟨?_⟩
  rw [List.length_set, List.map_set]
  exact this
theorem OwnI.cellAt {w : World} {base g : Nat} {c : Nat} {xs : List Int} (h : OwnI w base (some ⟨g, 0, none⟩) c xs) {j : Nat} {x : Int} (hj : xs[j]? = some x) : w.cell? ⟨g, j, none⟩ = some (.int .i64 x) := by
  rw [h.own.cellAt j (by have := (List.getElem?_eq_some_iff.1 hj).1; omega), List.getElem?_map, hj]
  rfl
theorem OwnO.row {w : World} {base g : Nat} {c : Nat} {os : List Od} (h : OwnO w base (some ⟨g, 0, none⟩) c os) :
    ∃ (cap : Nat) (f : Nat → Value), w.rowIs g 38 (cap * 2) f ∧ os.length ≤ cap ∧ cap ≤ maxLen ∧ c = cap ∧ base ≤ g := by
  rcases h.own.2 with ⟨h1, _⟩ | ⟨g', cap, cur, hv, hg, hh, hn, hm, hs, _⟩
  · injection h1 with h1
    cases h1
  · injection hv with hv _ hc
    obtain rfl : g = g' := by simpa using hv
    refine ⟨cap, fun i => (cur[i]?).getD undef, ⟨cur, hh, by simpa using hs, fun i hi => ?_⟩, hn, hm, hc, hg⟩
    have : i < cur.size := by rw [hs]; omega
    show _ = some ((cur[i]?).getD undef)
    rw [Array.getElem?_eq_getElem this]; rfl
theorem OwnO.of_row {w : World} {base g cap : Nat} {f : Nat → Value} {os : List Od} (h : w.rowIs g 38 (cap * 2) f) (hl : os.length ≤ cap) (hm : cap ≤ maxLen) (hb : base ≤ g) (hf : ∀ i, i < os.length * 2 → (opVals os)[i]? = some (f i)) :
    OwnO w base (some ⟨g, 0, none⟩) cap os := by
  obtain ⟨cur, hh, hs, hc⟩ := h
  refine ⟨⟨opVals_len os, .inr ⟨g, cap, cur, rfl, hb, hh, hl, hm, by simpa using hs, ?_⟩⟩⟩
  apply List.ext_getElem?
  intro i
  rw [List.getElem?_take]
  by_cases hi : i < os.length * 2
  · rw [if_pos hi, Array.getElem?_toList, hc i (by omega), hf i hi]
  · rw [if_neg hi, List.getElem?_eq_none (by rw [opVals_len]; omega)]
theorem vals_one (o : Od) : ∀ u ∈ [Value.int .i64 o.code, Value.int .i64 o.arg], u.oneCell' = true := by
  intro u hu
  simp at hu
  rcases hu with rfl | rfl <;> rfl
theorem append_op {w : World} {ops : Array Oper} {rest : List Oper} {o : Oper} {a : Act} {Q : Exit → Act → World → Prop} (hgd : o.guard = none) (s x : Operand)
    (ho : o.op = .call { callee := .builtin .append, args := #[s, x], argTypes := #[23, 23] })
    (base : Nat) (A : Option Addr) (c : Nat) (os : List Od) (hs : a.eval s = .slice A os.length c) (hown : OwnO w base A c os)
    (b : Nat) (d : Od) (t : TypeId) (hx : a.eval x = .slice (some ⟨b, 0, none⟩) 1 1) (hr : Lies w b #[.int .i64 d.code, .int .i64 d.arg] t)
    (hsum : os.length + 1 ≤ 16777216) (hbase : base ≤ w.heap.size)
    (h : ∀ (zs : List Od) (A' : Option Addr) (c' : Nat) (w' : World), Hid (zs = os ++ [d]) → OwnO w' base A' c' zs → w.grownBy w' (blockOf A) → (blockOf A' = blockOf A ∨ blockOf A' = some w.heap.size) →
      wpList Tryd.prog ops Q rest (a.put o.dst (.slice A' zs.length c')) w') : wpList Tryd.prog ops Q (o :: rest) a w := by
  obtain ⟨i0, hi, hz0, hz1, hz2⟩ := info_parts infoOp
  refine wpList_append_own_at w hgd s x 23 ho base 38 i0 _ 2 16 Tryd.underlying23 hi hz0 hz1 hz2 rfl (by omega) _ _ _ hs hown.own ⟨b, 0, none⟩ 1 1 [.int .i64 d.code, .int .i64 d.arg] hx (by simp) (World.news_of_block hr) (vals_one d)
    (by unfold maxLen; omega) (by omega) hbase ?_
  intro v' w' h2 h3 _ h5
  have hlen : os.length + 1 = (os ++ [d]).length := by simp
  rw [ownBlock_slice] at h3 h5
  rw [← opVals_snoc, hlen] at h2
  rcases h2.2 with ⟨_, h6⟩ | ⟨g, cap, cur, rfl, _⟩
  · simp at h6
  · exact h (os ++ [d]) _ _ w' (by simp [Hid]) ⟨h2⟩ h3 (by simpa [ownBlock_slice] using h5)
def GivesOps (w : World) (os : List Od) (e : Ending) (w' : World) : Prop := ∃ A c, e = .returned (.slice A os.length c) ∧ OwnO w' w.heap.size A c os ∧ Below w.heap.size w w'
end Go.Proofs.YthckkpbjpgfdcaaDoor

namespace Go.Proofs.YthckkpbjpgfdcaaDoor
open Go.RowKit
set_option linter.unusedVariables false
theorem opVals_one (os : List Od) : ∀ u ∈ opVals os, u.oneCell' = true := by
  intro u hu
  obtain ⟨o, _, hu⟩ := List.mem_flatMap.1 hu
  simp at hu
  rcases hu with rfl | rfl <;> rfl
theorem opVals_append (os ps : List Od) : opVals (os ++ ps) = opVals os ++ opVals ps := by simp [opVals]
theorem OpsAt.vals {w : World} {B b off : Nat} {os : List Od} (h : OpsAt w B (some ⟨b, off, none⟩) os) : ∀ j u, (opVals os)[j]? = some u → w.cell? ⟨b, off + j, none⟩ = some u := by
  intro j u hu
  have hj : j < os.length * 2 := by have := (List.getElem?_eq_some_iff.1 hu).1; rwa [opVals_len] at this
  have hk : j / 2 < os.length := by omega
  obtain ⟨b', off', o, e, _, ho, _, hc0, hc1⟩ := h.at_ hk
  injection e with e
  injection e with e1 e2
  subst e1 e2
  rcases Nat.mod_two_eq_zero_or_one j with hm | hm
  · have ej : j = j / 2 * 2 := by omega
    have := opVals_code ho
    rw [← ej] at this hc0
    rw [this] at hu
    injection hu with hu
    rw [← hu]
    exact hc0
  · have ej : j = j / 2 * 2 + 1 := by omega
    have := opVals_arg ho
    rw [← ej] at this
    rw [Nat.add_assoc, ← ej] at hc1
    rw [this] at hu
    injection hu with hu
    rw [← hu]
    exact hc1
theorem append_ops {w : World} {ops : Array Oper} {rest : List Oper} {o : Oper} {a : Act} {Q : Exit → Act → World → Prop} (hgd : o.guard = none) (s x : Operand)
    (ho : o.op = .call { callee := .builtin .append, args := #[s, x], argTypes := #[23, 23] })
    (base : Nat) (A : Option Addr) (c : Nat) (xs : List Od) (hs : a.eval s = .slice A xs.length c) (hown : OwnO w base A c xs)
    (B : Nat) (A2 : Option Addr) (c2 : Nat) (ys : List Od) (hx : a.eval x = .slice A2 ys.length c2) (hnil : A2 = none → c2 = 0) (hr : OpsAt w B A2 ys)
    (hsum : xs.length + ys.length ≤ 8388608) (hbase : base ≤ w.heap.size)
    (h : ∀ (zs : List Od) (A' : Option Addr) (c' : Nat) (w' : World), Hid (zs = xs ++ ys) → OwnO w' base A' c' zs → w.grownBy w' (blockOf A) → (blockOf A' = blockOf A ∨ blockOf A' = some w.heap.size) →
      wpList Tryd.prog ops Q rest (a.put o.dst (.slice A' zs.length c')) w') : wpList Tryd.prog ops Q (o :: rest) a w := by
  obtain ⟨i0, hi, hz0, hz1, hz2⟩ := info_parts infoOp
  have hempty : A2 = none → ys = [] := by
    intro e
    cases ys with
    | nil => rfl
    | cons y ys =>
      obtain ⟨b, off, e2, _⟩ := hr.row (by simp)
      rw [e] at e2; cases e2
  rcases A2 with _ | ad
  · obtain rfl := hnil rfl
    obtain rfl := hempty rfl
    exact wpList_append_own_none hgd s x 23 ho base 38 i0 2 Tryd.underlying23 hi _ _ _ hs hown.own hx
      (h xs A c w (by simp [Hid]) hown (World.grownBy.refl w _) (.inl rfl))
  · have hcells : ∀ j u, (opVals ys)[j]? = some u → w.cell? (ad.add j) = some u := by
      intro j u hu
      have hy : ys ≠ [] := by intro e; subst e; simp [opVals] at hu
      obtain ⟨b, off, e2, _⟩ := hr.row hy
      obtain rfl : ad = ⟨b, off, none⟩ := Option.some.inj e2
      have hadd : (⟨b, off, none⟩ : Addr).add j = ⟨b, off + j, none⟩ := by
        unfold Addr.add
        split
        · rename_i h0; subst h0; rfl
        · rfl
      rw [hadd]
      exact hr.vals j u hu
    refine wpList_append_own_at w hgd s x 23 ho base 38 i0 _ 2 16 Tryd.underlying23 hi hz0 hz1 hz2 rfl (by omega) _ _ _ hs hown.own ad ys.length c2 (opVals ys) hx (by rw [opVals_len]) hcells (opVals_one ys)
      (by unfold maxLen; omega) (by omega) hbase ?_
    intro v' w' h2 h3 _ h5
    have hlen : xs.length + ys.length = (xs ++ ys).length := by simp
    rw [ownBlock_slice] at h3 h5
    rw [← opVals_append, hlen] at h2
    rcases h2.2 with ⟨rfl, h6⟩ | ⟨g, cap, cur, rfl, _⟩
    · have hzs : xs ++ ys = [] := List.eq_nil_of_length_eq_zero h6
      have := h (xs ++ ys) none 0 w' (by simp [Hid]) ⟨by rw [h6] at h2 ⊢; exact h2⟩ h3 (by simpa [blockOf, Value.ownBlock] using h5)
      rw [h6] at this
      exact this
    · exact h (xs ++ ys) _ _ w' (by simp [Hid]) ⟨h2⟩ h3 (by simpa [ownBlock_slice] using h5)
theorem OpsAt.upto {w : World} {B : Nat} {A : Option Addr} {os : List Od} (h : OpsAt w B A os) (n : Nat) : OpsAt w B A (os.take n) := by
  refine ⟨fun hx => ?_, fun x hx => h.wf x (List.mem_of_mem_take hx), Nat.le_trans (by simp; omega) h.len⟩
  obtain ⟨b, off, e, hlt, hc⟩ := h.row (by intro e; subst e; simp at hx)
  refine ⟨b, off, e, hlt, fun j x hj => hc j x ?_⟩
  rw [List.getElem?_take] at hj
  split at hj
  · exact hj
  · cases hj
end Go.Proofs.YthckkpbjpgfdcaaDoor

namespace Go.Proofs.YthckkpbjpgfdcaaDoor
open Go.RowKit
set_option linter.unusedVariables false
theorem OpsAt.one {w : World} {b : Nat} {o : Od} {t : TypeId} (h : Lies w b #[.int .i64 o.code, .int .i64 o.arg] t) (h64 : In64 o.code ∧ In64 o.arg) : OpsAt w w.heap.size (some ⟨b, 0, none⟩) [o] := by
  have c0 := h.cell 0
  have c1 := h.cell 1
  simp only [List.getElem?_toArray, List.getElem?_cons_zero, List.getElem?_cons_succ] at c0 c1
  refine ⟨fun _ => ⟨b, 0, rfl, h.lt, fun j x hj => ?_⟩, fun x hx => ?_, by simp⟩
  · match j, hj with
    | 0, hj =>
      simp at hj
      subst hj
      exact ⟨c0, c1⟩
  · rw [List.mem_singleton.1 hx]
    exact h64
set_option maxHeartbeats 1000000 in
theorem emit_any (A : Option Addr) (os : List Od) (c : Nat) (B : Option Addr) (ps : List Od) (d : Nat) (w : World) (h : OpsAt w w.heap.size A os) (hn : A = none → c = 0) (h2 : OpsAt w w.heap.size B ps) (hn2 : B = none → d = 0) (hl : os.length + ps.length ≤ 8000000) :
    Calls Tryd.prog 33 #[.slice A os.length c, .slice B ps.length d] w (GivesOps w (os ++ ps)) := by
  have Hn := hide hn
  have Hn2 := hide hn2
  have HE := hide (OwnO.bare w)
  have HB := hide ((Below.refl w.heap.size w).alloc (Nat.le_refl _) (.cells #[] 38))
  clear hn hn2
  go_enter Tryd.func33, Tryd.ntmps33
  go_wp2_with (at_builtin; first
    | (refine append_ops rfl (.tmp 5) (.tmp 6) rfl w.heap.size _ 0 [] rfl HE.out w.heap.size A c os rfl Hn.out (h.below HB.out) (by simp; omega) HB.out.size ?_; intro zs A5 c5 w6 e5 own5 hg5 _; have HB6 := hide (below_grown HB.out hg5 HB.out.size (fun q hq => (HE.out.blocks q hq).1)); have HO6 := hide own5; have hz6 : zs.length = os.length := (by rw [e5.out, List.nil_append]); have hz7 : zs.length ≤ os.length := (by omega); clear own5 hg5 hz6)
    | (refine append_ops rfl (.tmp 7) (.tmp 8) rfl w.heap.size A5 c5 zs rfl HO6.out w.heap.size B d ps rfl Hn2.out (h2.below HB6.out) (by omega) HB6.out.size ?_; intro ys A7 c7 w8 e7 own7 hg7 _; have HB8 := hide (below_grown HB6.out hg7 HB6.out.size (fun q hq => (HO6.out.blocks q hq).1)); have HO8 := hide own7; clear own7 hg7))
  go_ret
  have e8 : ys = os ++ ps := by rw [e7.out, e5.out, List.nil_append]
  subst e8
  exact ⟨A7, c7, rfl, HO8.out, HB8.out⟩
end Go.Proofs.YthckkpbjpgfdcaaDoor

namespace Go.Proofs.YthckkpbjpgfdcaaDoor
open Go.RowKit
theorem IntsAt.upto {w : World} {B : Nat} {A : Option Addr} {xs : List Int} (h : IntsAt w B A xs) (n : Nat) : IntsAt w B A (xs.take n) := by
  refine ⟨fun hx => ?_, fun x hx => h.wf x (List.mem_of_mem_take hx), Nat.le_trans (by simp; omega) h.len⟩
  obtain ⟨b, off, e, hlt, hc⟩ := h.row (by intro e; subst e; simp at hx)
  refine ⟨b, off, e, hlt, fun j x hj => hc j x ?_⟩
  rw [List.getElem?_take] at hj
  split at hj
  · exact hj
  · cases hj
theorem IntsAt.behind {w : World} {B b off : Nat} {xs : List Int} (h : IntsAt w B (some ⟨b, off, none⟩) xs) (k : Nat) : IntsAt w B (some ⟨b, off + k, none⟩) (xs.drop k) := by
  refine ⟨fun hx => ?_, fun x hx => h.wf x (List.mem_of_mem_drop hx), Nat.le_trans (by simp) h.len⟩
  obtain ⟨b', off', e, hlt, hc⟩ := h.row (by intro e; subst e; simp at hx)
  injection e with e
  injection e with e1 e2
  subst e1 e2
  refine ⟨b, off + k, rfl, hlt, fun j x hj => ?_⟩
  rw [List.getElem?_drop] at hj
  have := hc (k + j) x hj
  rwa [← Nat.add_assoc] at this
end Go.Proofs.YthckkpbjpgfdcaaDoor

namespace Go.Proofs.YthckkpbjpgfdcaaDoor
open Go.RowKit
set_option linter.unusedVariables false
theorem takeO {P : Program} {ops : Array Oper} {Q : Exit → Act → World → Prop} {md : Region.Mode} {S : World → Prop} (i d : Nat) {op ty pos af gd} {v : Value} {fuel : Nat} {listed : Array Bool} {a : Act} {w : World}
    (hi : ops[i]? = some { dst := some d, op := op, type := ty, pos := pos, after := af, guard := gd }) (hS : S w) (hs : Region.noSelect ops = true := by kernel_rfl) (hf : Region.free md ops listed i = true := by kernel_rfl) (hr : (Region.ready md ops listed).contains i = true := by kernel_rfl)
    (hw : Region.wanted { dst := some d, op := op, type := ty, pos := pos, after := af, guard := gd } (yielded ops a.tmps) = true := by rfl) (hQ : ∀ c a w, Q (.panic c) (a.put (some d) v) w → Q (.panic c) a w := by exact fun _ _ _ h => h)
    (hv : ∀ w, S w → (execOp a.eval { dst := some d, op := op, type := ty, pos := pos, after := af, guard := gd }).run P w = .ok (.value v) w) (h : wpAnyH P md ops Q S fuel (listed.setIfInBounds i true) (a.put (some d) v) w) : wpAnyH P md ops Q S (fuel + 1) listed a w :=
  wpAnyH_take hi hs hf hr hQ (.inl ⟨hw, hv⟩) hS h
theorem takeN {P : Program} {ops : Array Oper} {Q : Exit → Act → World → Prop} {md : Region.Mode} {S : World → Prop} (i d : Nat) {op ty pos af gd} {fuel : Nat} {listed : Array Bool} {a : Act} {w : World}
    (hi : ops[i]? = some { dst := some d, op := op, type := ty, pos := pos, after := af, guard := gd }) (hS : S w) (hs : Region.noSelect ops = true := by kernel_rfl) (hf : Region.free md ops listed i = true := by kernel_rfl) (hr : (Region.ready md ops listed).contains i = true := by kernel_rfl)
    (hw : Region.wanted { dst := some d, op := op, type := ty, pos := pos, after := af, guard := gd } (yielded ops a.tmps) = false := by rfl) (hQ : ∀ c a w, Q (.panic c) (a.put (some d) undef) w → Q (.panic c) a w := by exact fun _ _ _ h => h)
    (h : wpAnyH P md ops Q S fuel (listed.setIfInBounds i true) (a.put (some d) undef) w) : wpAnyH P md ops Q S (fuel + 1) listed a w :=
  wpAnyH_take hi hs hf hr hQ (.inr ⟨hw, rfl⟩) hS h
theorem Lies.five {w : World} {q : Nat} {v0 v1 v2 v3 v4 : Value} {t : TypeId} (h : Lies w q #[v0, v1, v2, v3, v4] t) : w.cell? ⟨q, 0, none⟩ = some v0 ∧ w.cell? ⟨q, 1, none⟩ = some v1 ∧ w.cell? ⟨q, 2, none⟩ = some v2 ∧ w.cell? ⟨q, 3, none⟩ = some v3 ∧ w.cell? ⟨q, 4, none⟩ = some v4 :=
  ⟨h.cell 0, h.cell 1, h.cell 2, h.cell 3, h.cell 4⟩
theorem Lies.zero {w : World} {q : Nat} {v0 v1 : Value} {t : TypeId} (h : Lies w q #[v0, v1] t) : w.cell? ⟨q, 0, none⟩ = some v0 := h.cell 0
structure ShW (w0 w : World) (p0 : ShPtr) (B q q2 : Nat) (p : ShPtr) (s : Shp) : Prop where
  box : Lies w q (shCells p s) 62
  res : Lies w q2 zero5 62
  bel : Below B w0 w
  fr : FrSh w0 w p0
  ne : q ≠ q2
  hq2 : B ≤ q2
  sq2 : w0.heap.size ≤ q2
theorem ShSt.refillW {w0 X w5 : World} {base q q2 : Nat} {p p0 p5 : ShPtr} {s t : Shp} (h : ShSt w0 X p0 base base q q2 p s) (hb : Below base X w5) (hf : FrSh X w5 p) :
    Lies w5 q (shCells p s) 62 ∧ ShW w0 (set5 w5 q (.slice p5.K t.kinds.length p5.c1) (.slice p5.F t.full.length p5.c2) (.slice p5.S t.stack.length p5.c3) (.slice p5.M t.memo.length p5.c4) (.bool t.done)) p0 base q q2 p5 t := by
  have h1 : Lies w5 q (shCells p s) 62 := (hf q h.bx.box.lt h.bx.off).trans h.bx.box
  have h2 : Lies w5 q2 zero5 62 := (hf q2 h.res.lt h.off2).trans h.res
  have hs : w0.heap.size ≤ X.heap.size := by have := h.bx.box.lt; have := h.sq; omega
  refine ⟨h1, (Lies.set5 h1 _ _ _ _ _).2, (set5_block h.ne.symm).trans h2, set5_below (h.bel.trans hb) h.hq, fun k hk ho => ?_, h.ne, h.hq2, h.sq2⟩
  rw [set5_block (by have := h.sq; omega), hf k (by omega) (h.offs k hk ho)]
  exact h.fr k hk ho
theorem ShSt.refill {w0 X w5 : World} {base q q2 : Nat} {p p0 p5 : ShPtr} {s t : Shp} (h : ShSt w0 X p0 base base q q2 p s) (hb : Below base X w5) (hf : FrSh X w5 p) (ho : ShOwn w5 base p5 t) (hof : OffSh X p p5) :
    ShSt w0 (set5 w5 q (.slice p5.K t.kinds.length p5.c1) (.slice p5.F t.full.length p5.c2) (.slice p5.S t.stack.length p5.c3) (.slice p5.M t.memo.length p5.c4) (.bool t.done)) p0 base base q q2 p5 t := by
  have hW := (h.refillW (p5 := p5) (t := t) hb hf).2
  have hq : p5.Off q := hof q h.bx.box.lt h.bx.off
  have hs : w0.heap.size ≤ X.heap.size := by have := h.bx.box.lt; have := h.sq; omega
  have hz := hb.size
  have hB := h.hB
  exact ⟨⟨hW.box, ho.set5 hq, hq⟩, hW.res, hof q2 h.res.lt h.off2, hW.bel, h.ne, by rw [set5_size]; omega, h.hb, h.hq, h.hq2, hW.fr, fun k hk hk2 => hof k (by omega) (h.offs k hk hk2), h.sq, h.sq2⟩
theorem ShSt.toW {w0 w : World} {base q q2 : Nat} {p p0 : ShPtr} {s : Shp} (h : ShSt w0 w p0 base base q q2 p s) : ShW w0 w p0 base q q2 p s := ⟨h.bx.box, h.res, h.bel, h.fr, h.ne, h.hq2, h.sq2⟩
end Go.Proofs.YthckkpbjpgfdcaaDoor

namespace Go.Proofs.YthckkpbjpgfdcaaDoor
set_option linter.unusedVariables false
open Classical in
noncomputable def cutOf (os : List Od) : List Od := if OpsOk os then os.take (runShp Shp.new os).2 else []
theorem cutOf_ok {os : List Od} (h : OpsOk os) : cutOf os = os.take (runShp Shp.new os).2 := by unfold cutOf; rw [if_pos h]
theorem cutOf_no {os : List Od} (h : ¬ OpsOk os) : cutOf os = [] := by unfold cutOf; rw [if_neg h]
theorem runNew_le {os : List Od} (h : ∀ o ∈ os, OdOk o) : (runShp Shp.new os).1.Ok ∧ (runShp Shp.new os).1.Fits ∧ (runShp Shp.new os).2 ≤ os.length :=
  runShp_ok Shp.new_ok ⟨by simp [Shp.new], by simp [Shp.new]⟩ (fun o ho => (h o ho).get)
theorem cutOf_few {os : List Od} : (cutOf os).length ≤ 300 := by
  by_cases h : OpsOk os
  · rw [cutOf_ok h]
    have := h.1
    simp only [List.length_take]
    omega
  · rw [cutOf_no h]; simp
theorem cutOf_mem {os : List Od} : ∀ o ∈ cutOf os, OdOk o := by
  by_cases h : OpsOk os
  · rw [cutOf_ok h]
    exact fun o ho => h.2 o (List.mem_of_mem_take ho)
  · rw [cutOf_no h]; intro o ho; cases ho
def negs (l : List Int) : Nat → Nat
  | 0 => 0
  | k + 1 => negs l k + (if l.getD k 0 < 0 then 1 else 0)
theorem negs_le (l : List Int) (k : Nat) : negs l k ≤ k := by
  induction k with
  | zero => exact Nat.le_refl _
  | succ k ih => unfold negs; split <;> omega
def free : List Int → Nat
  | [] => 0
  | x :: l => if 0 ≤ x then free l + 1 else 0
theorem free_le (l : List Int) : free l ≤ l.length := by
  induction l with
  | nil => exact Nat.le_refl _
  | cons x l ih => unfold free; split <;> simp only [List.length_cons] <;> omega
theorem free_at {l : List Int} {k : Nat} (h : k < free l) : 0 ≤ l.getD k 0 := by
  induction l generalizing k with
  | nil => simp [free] at h
  | cons x l ih =>
    unfold free at h
    split at h
    · cases k with
      | zero => simpa
      | succ k => simpa using ih (k := k) (by omega)
    · omega
theorem free_stop {l : List Int} (h : free l < l.length) : l.getD (free l) 0 < 0 := by
  induction l with
  | nil => simp at h
  | cons x l ih =>
    unfold free at h ⊢
    split
    · next hx =>
      rw [if_pos hx] at h
      simpa using ih (by simpa using h)
    · next hx => simp; omega
def tailOps (l : List Int) : List Od :=
  List.replicate (negs l l.length) ⟨3, 0⟩ ++ List.replicate (free l + (if 0 < negs l l.length then 1 else 0) - 1) ⟨6, 0⟩ ++
    (if free l + (if 0 < negs l l.length then 1 else 0) = 0 then [⟨4, 0⟩] else []) ++ [⟨19, 0⟩]
theorem od_fix {c : Int} (h0 : 0 ≤ c) (h1 : c ≤ 19) (h : argMost c < 0) : OdOk ⟨c, 0⟩ := ⟨⟨h0, h1⟩, .inl ⟨h, rfl⟩⟩
theorem od_64 {o : Od} (h : OdOk o) : (-9223372036854775808 ≤ o.code ∧ o.code ≤ 9223372036854775807) ∧ (-9223372036854775808 ≤ o.arg ∧ o.arg ≤ 9223372036854775807) := by
  obtain ⟨h1, h2⟩ := h
  have := argMost_range o.code
  constructor <;> constructor <;> omega
theorem tailOps_mem (l : List Int) : ∀ o ∈ tailOps l, OdOk o := by
  have h3 : OdOk ⟨3, 0⟩ := od_fix (by omega) (by omega) (by simp [argMost])
  have h6 : OdOk ⟨6, 0⟩ := od_fix (by omega) (by omega) (by simp [argMost])
  have h4 : OdOk ⟨4, 0⟩ := od_fix (by omega) (by omega) (by simp [argMost])
  have h19 : OdOk ⟨19, 0⟩ := od_fix (by omega) (by omega) (by simp [argMost])
  intro o ho
  unfold tailOps at ho
  rcases List.mem_append.1 ho with ho | ho
  · rcases List.mem_append.1 ho with ho | ho
    · rcases List.mem_append.1 ho with ho | ho
      · rw [List.eq_of_mem_replicate ho]; exact h3
      · rw [List.eq_of_mem_replicate ho]; exact h6
    · by_cases hc : free l + (if 0 < negs l l.length then 1 else 0) = 0
      · rw [if_pos hc] at ho
        rw [List.mem_singleton.1 ho]; exact h4
      · rw [if_neg hc] at ho; cases ho
  · rw [List.mem_singleton.1 ho]; exact h19
theorem tail_a {st : List Int} {m k : Nat} (hm : m = negs st st.length) (hk : k = free st) (h0 : 0 < m) : tailOps st = (List.replicate m ⟨3, 0⟩ ++ List.replicate (k + 1 - 1) ⟨6, 0⟩) ++ [⟨19, 0⟩] := by
  unfold tailOps
  rw [← hm, ← hk, if_pos h0, if_neg (by omega), List.append_nil]
theorem tail_b {st : List Int} {m k : Nat} (hm : m = negs st st.length) (hk : k = free st) (h0 : ¬ 0 < m) (hk0 : ¬ k = 0) : tailOps st = (List.replicate m ⟨3, 0⟩ ++ List.replicate (k - 1) ⟨6, 0⟩) ++ [⟨19, 0⟩] := by
  unfold tailOps
  rw [← hm, ← hk, if_neg h0, if_neg (by omega), List.append_nil, Nat.add_zero]
theorem tail_c {st : List Int} {m : Nat} (hm : m = negs st st.length) (hk : 0 = free st) (h0 : ¬ 0 < m) : tailOps st = (List.replicate m ⟨3, 0⟩ ++ List.replicate (0 - 1) ⟨6, 0⟩ ++ [⟨4, 0⟩]) ++ [⟨19, 0⟩] := by
  unfold tailOps
  rw [← hm, ← hk, if_neg h0, if_pos (by omega), Nat.add_zero]
theorem tailOps_len (l : List Int) : (tailOps l).length ≤ 2 * l.length + 3 := by
  have h1 := negs_le l l.length
  have h2 := free_le l
  unfold tailOps
  simp only [List.length_append, List.length_replicate]
  split <;> split <;> simp <;> omega
open Classical in
noncomputable def endOf (os : List Od) : Option (List Od) :=
  if OpsOk os then
    if (runShp Shp.new os).1.done = true then some []
    else if OpsOk (os.take (runShp Shp.new os).2 ++ tailOps (runShp Shp.new os).1.stack) ∧ (runShp Shp.new (os.take (runShp Shp.new os).2 ++ tailOps (runShp Shp.new os).1.stack)).2 = (os.take (runShp Shp.new os).2 ++ tailOps (runShp Shp.new os).1.stack).length then some (tailOps (runShp Shp.new os).1.stack)
    else none
  else none
end Go.Proofs.YthckkpbjpgfdcaaDoor

namespace Go.Proofs.YthckkpbjpgfdcaaDoor
open Go.RowKit
set_option linter.unusedVariables false
set_option maxHeartbeats 1000000 in
theorem argOf_any (c : Int) (w : World) :
    Calls Tryd.prog 36 #[.int .i64 c] w fun e w' => e = .returned (.int .i64 (argMost c)) ∧ w = w' := by
  by_cases h0 : c = 0
  · subst h0
    go_enter Tryd.func36, Tryd.ntmps36
    go_wp2
    go_ret
    exact ⟨rfl, rfl⟩
  · by_cases h1 : c = 1
    · subst h1
      go_enter Tryd.func36, Tryd.ntmps36
      go_wp2
      go_ret
      exact ⟨rfl, rfl⟩
    · by_cases h13 : c = 13
      · subst h13
        go_enter Tryd.func36, Tryd.ntmps36
        go_wp2
        go_ret
        exact ⟨rfl, rfl⟩
      · by_cases h15 : c = 15
        · subst h15
          go_enter Tryd.func36, Tryd.ntmps36
          go_wp2
          go_ret
          exact ⟨rfl, rfl⟩
        · by_cases h16 : c = 16
          · subst h16
            go_enter Tryd.func36, Tryd.ntmps36
            go_wp2
            go_ret
            exact ⟨rfl, rfl⟩
          · have HF := hide (show argMost c = -1 by unfold argMost; simp [h0, h1, h13, h15, h16])
            have t0 : (c == 0) = false := by simpa using h0
            have t1 : (c == 1) = false := by simpa using h1
            have t2 : (c == 13) = false := by simpa using h13
            have t3 : (c == 15) = false := by simpa using h15
            have t4 : (c == 16) = false := by simpa using h16
            clear h0 h1 h13 h15 h16
            go_enter Tryd.func36, Tryd.ntmps36
            go_wp2
            go_ret
            exact ⟨ret_int HF.out.symm, rfl⟩
set_option maxHeartbeats 1000000 in
theorem validOp_any (o : Od) (w : World) :
    Calls Tryd.prog 25 #[.agg #[.int .i64 o.code, .int .i64 o.arg]] w fun e w' => e = .returned (.bool (tf (OdOk o))) ∧ Below w.heap.size w w' := by
  have hB : Below w.heap.size w (w.alloc (.cells #[.int .i64 o.code, .int .i64 o.arg] 38)) := (Below.refl _ _).alloc (Nat.le_refl _) _
  have l1 := Lies.new w #[.int .i64 o.code, .int .i64 o.arg] 38
  have hm := argMost_range o.code
  by_cases hc : 0 ≤ o.code ∧ o.code ≤ 19
  · by_cases hneg : argMost o.code < 0
    · by_cases ha : o.arg = 0
      · have HF := hide (show tf (OdOk o) = true from tf_true ⟨hc, .inl ⟨hneg, ha⟩⟩)
        have t : (o.arg == 0) = true := by simpa using ha
        obtain ⟨hc1, hc2⟩ := hc
        clear ha
        go_enter Tryd.func25, Tryd.ntmps25
        go_wp2_with fail
        refine (argOf_any o.code _).mono ?_
        rintro e w' ⟨rfl, rfl⟩
        generalize argMost o.code = M at hneg hm ⊢
        have d : decide (M < 0) = true := by simpa using hneg
        go_wp2_with fail
        refine (inRange_yes o.code 0 19 _ hc1 hc2).mono ?_
        rintro e w' ⟨rfl, rfl⟩
        go_wp2
        go_ret
        exact ⟨ret_bool HF.out.symm, hB⟩
      · have HF := hide (show tf (OdOk o) = false from tf_false fun h => by rcases h.2 with h | h; exact ha h.2; omega)
        have t : (o.arg == 0) = false := by simpa using ha
        obtain ⟨hc1, hc2⟩ := hc
        clear ha
        go_enter Tryd.func25, Tryd.ntmps25
        go_wp2_with fail
        refine (argOf_any o.code _).mono ?_
        rintro e w' ⟨rfl, rfl⟩
        generalize argMost o.code = M at hneg hm ⊢
        have d : decide (M < 0) = true := by simpa using hneg
        have d2 : decide (0 ≤ M) = false := by simpa using hneg
        go_wp2_with fail
        refine (inRange_yes o.code 0 19 _ hc1 hc2).mono ?_
        rintro e w' ⟨rfl, rfl⟩
        go_wp2
        go_ret
        exact ⟨ret_bool HF.out.symm, hB⟩
    · by_cases ha : 0 ≤ o.arg ∧ o.arg ≤ argMost o.code
      · have HF := hide (show tf (OdOk o) = true from tf_true ⟨hc, .inr ⟨by omega, ha⟩⟩)
        obtain ⟨hc1, hc2⟩ := hc
        obtain ⟨ha1, ha2⟩ := ha
        go_enter Tryd.func25, Tryd.ntmps25
        go_wp2_with fail
        refine (argOf_any o.code _).mono ?_
        rintro e w' ⟨rfl, rfl⟩
        generalize argMost o.code = M at hneg hm ha2 ⊢
        have d : decide (M < 0) = false := by simpa using hneg
        have d2 : decide (0 ≤ M) = true := by simpa using hneg
        go_wp2_with fail
        refine (inRange_yes o.code 0 19 _ hc1 hc2).mono ?_
        rintro e w' ⟨rfl, rfl⟩
        go_wp2_with fail
        refine (inRange_yes o.arg 0 M _ ha1 ha2).mono ?_
        rintro e w' ⟨rfl, rfl⟩
        go_wp2
        go_ret
        exact ⟨ret_bool HF.out.symm, hB⟩
      · have HF := hide (show tf (OdOk o) = false from tf_false fun h => by rcases h.2 with h | h; omega; exact ha h.2)
        obtain ⟨hc1, hc2⟩ := hc
        have ha' : o.arg < 0 ∨ argMost o.code < o.arg := by omega
        clear ha
        go_enter Tryd.func25, Tryd.ntmps25
        go_wp2_with fail
        refine (argOf_any o.code _).mono ?_
        rintro e w' ⟨rfl, rfl⟩
        generalize argMost o.code = M at hneg hm ha' ⊢
        have d : decide (M < 0) = false := by simpa using hneg
        have d2 : decide (0 ≤ M) = true := by simpa using hneg
        go_wp2_with fail
        refine (inRange_yes o.code 0 19 _ hc1 hc2).mono ?_
        rintro e w' ⟨rfl, rfl⟩
        go_wp2_with fail
        refine (inRange_no o.arg 0 M _ ha').mono ?_
        rintro e w' ⟨rfl, rfl⟩
        clear ha'
        go_wp2
        go_ret
        exact ⟨ret_bool HF.out.symm, hB⟩
  · have HF := hide (show tf (OdOk o) = false from tf_false fun h => hc h.1)
    have hc' : o.code < 0 ∨ 19 < o.code := by omega
    clear hc
    go_enter Tryd.func25, Tryd.ntmps25
    go_wp2_with fail
    refine (argOf_any o.code _).mono ?_
    rintro e w' ⟨rfl, rfl⟩
    generalize argMost o.code = M at hm ⊢
    go_wp2_with fail
    refine (inRange_no o.code 0 19 _ hc').mono ?_
    rintro e w' ⟨rfl, rfl⟩
    clear hc'
    go_wp2
    go_ret
    exact ⟨ret_bool HF.out.symm, hB⟩
end Go.Proofs.YthckkpbjpgfdcaaDoor

namespace Go.Proofs.YthckkpbjpgfdcaaDoor
def numOf (os : List Od) (c : Int) : Nat := os.countP fun o => decide (o.code = c)
theorem numOf_le (os : List Od) (c : Int) : numOf os c ≤ os.length := List.countP_le_length
theorem numOf_snoc {os : List Od} {k : Nat} {o : Od} (h : os[k]? = some o) (c : Int) : numOf (os.take (k + 1)) c = numOf (os.take k) c + (if o.code = c then 1 else 0) := by
  unfold numOf
  rw [List.take_add_one, h, Option.toList_some, List.countP_append]
  congr 1
  by_cases e : o.code = c <;> simp [e]
end Go.Proofs.YthckkpbjpgfdcaaDoor
