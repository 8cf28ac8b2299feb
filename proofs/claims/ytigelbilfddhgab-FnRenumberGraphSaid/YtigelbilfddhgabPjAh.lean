/-
  Lemmas, several texts in one: NewR, CodM, GivG, Keys.
-/
import Derived.Test.YtigelbilfddhgabPick
import Derived.Test.YtigelbilfddhgabCod
import Derived.Test.YtigelbilfddhgabPjAg
import Derived.Test.YtigelbilfddhgabPickG
import Derived.Test.YtigelbilfddhgabPjAd
import Derived.DeepKeys4
import Derived.Maps.OwnSet
import Derived.WalkSpells
namespace Go.Proofs.Ytigelbilfddhgab
open Go.RowKit
set_option linter.unusedVariables false

theorem BytesAt.less {w : World} {B : Nat} {A : Option Addr} {n m : Nat} (h : BytesAt w B A n) (hm : m ≤ n) : BytesAt w B A m := fun k hk => h k (by omega)
theorem BytesAt.more {w : World} {B B' : Nat} {A : Option Addr} {n : Nat} (h : BytesAt w B A n) (hB : B ≤ B') : BytesAt w B' A n := fun k hk => by
  obtain ⟨b, off, x, h1, h2, h3⟩ := h k hk
  exact ⟨b, off, x, h1, by omega, h3⟩

set_option maxHeartbeats 1000000 in
theorem newReader_any (A : Option Addr) (n c : Nat) (w : World) (h : BytesAt w w.heap.size A n) (hc : n ≤ c) (hn : n ≤ 9223372036854775807) :
    Calls Try.prog 10 #[.slice A n c] w fun e w' => e = .returned (.pointer (some ⟨w.heap.size, 0, none⟩)) ∧ (∃ n' c', Rd w' w.heap.size A n' c' 0) ∧ Below w.heap.size w w' := by
  by_cases h2 : n ≤ 2000
  · have d : decide ((2000 : Int) < (n : Int)) = false := by simp; omega
    have hB : Below w.heap.size w (w.alloc (.cells #[.slice A n c, .int .i64 0] 51)) := (Below.refl _ _).alloc (Nat.le_refl _) _
    have HR : Hid (Rd (w.alloc (.cells #[.slice A n c, .int .i64 0] 51)) w.heap.size A n c 0) := hide ⟨Lies.new w _ _, h.later hB, h2⟩
    clear h
    go_enter Try.func10, Try.ntmps10
    go_wp2
    go_ret
    exact ⟨rfl, ⟨n, c, HR.out⟩, hB⟩
  · have d : decide ((2000 : Int) < (n : Int)) = true := by simp; omega
    obtain ⟨b, off, _, rfl, _⟩ := h 0 (by omega)
    have hcap : ¬ ((c : Int) < 2000) := by omega
    have hB : Below w.heap.size w (w.alloc (.cells #[.slice (some ⟨b, off, none⟩) 2000 c, .int .i64 0] 51)) := (Below.refl _ _).alloc (Nat.le_refl _) _
    have HR : Hid (Rd (w.alloc (.cells #[.slice (some ⟨b, off, none⟩) 2000 c, .int .i64 0] 51)) w.heap.size (some ⟨b, off, none⟩) 2000 c 0) := hide ⟨Lies.new w _ _, (h.less (by omega)).later hB, Nat.le_refl _⟩
    clear h
    go_enter Try.func10, Try.ntmps10
    go_wp2
    go_ret
    exact ⟨rfl, ⟨2000, c, HR.out⟩, hB⟩

end Go.Proofs.Ytigelbilfddhgab

namespace Go.Proofs.Ytigelbilfddhgab
open Go.RowKit Go.Maps
set_option linter.unusedVariables false

theorem CInv.start (ns : List Nd) : CInv ns ([], []) := ⟨Met.nil ns, fun x hx => (by cases hx), fun x hx => (by cases hx)⟩

open Classical in
/-- the code of a valid graph; nothing for another one -/
noncomputable def codeOf (ns : List Nd) (r : Int) : List Int := if ValidG ns r then (cod ns (ns.length + 1) r ([], [])).1 else []

theorem codG_of_valid {ns : List Nd} {r : Int} (h : ValidG ns r) (hwf : Wf ns) : CodG ns 6 := by
  refine ⟨fun n hn => (h.nodes n hn).inn, fun n hn => (h.nodes n hn).few, fun n hn h0 => ?_, hwf⟩
  have hk := (h.nodes n hn).kind
  apply List.eq_nil_of_length_eq_zero
  rcases hk with hk | hk | hk | hk | hk | hk
  · exact hk.2.2.2
  · omega
  · omega
  · omega
  · omega
  · omega

theorem codeOf_few {ns : List Nd} {r : Int} (hwf : Wf ns) : (codeOf ns r).length ≤ 300 := by
  unfold codeOf
  split
  next h =>
    have hc := (coded ns 6 (codG_of_valid h hwf) (by have := h.few; omega) (ns.length + 1) r ([], []) (CInv.start ns) h.root0 h.root (by simp))
    have h1 := hc.len
    have h2 := hc.inv.met.len
    have := h.few
    simp at h1
    omega
  next => simp

theorem codeOf_64 {ns : List Nd} {r : Int} (hwf : Wf ns) : ∀ x ∈ codeOf ns r, In64 x := by
  unfold codeOf
  split
  next h => exact (coded ns 6 (codG_of_valid h hwf) (by have := h.few; omega) (ns.length + 1) r ([], []) (CInv.start ns) h.root0 h.root (by simp)).inv.wf
  next => simp

end Go.Proofs.Ytigelbilfddhgab

namespace Go.Proofs.Ytigelbilfddhgab
open Go.RowKit Go.Maps
set_option linter.unusedVariables false

theorem GivesG.zero (w w' : World) (hb : Below w.heap.size w w') : GivesG w [] 0 (.returned (.agg #[.slice none 0 0, .int .i64 0])) w' :=
  ⟨none, 0, rfl, .inl ⟨rfl, rfl, rfl⟩, hb⟩

theorem OwnNs.lowB {w : World} {lo lo2 hi : Nat} {A : Option Addr} {c : Nat} {ns : List Nd} (h : OwnNs w lo hi A c ns) (h2 : lo2 ≤ lo) : OwnNs w lo2 hi A c ns := by
  rcases h with h | ⟨g, e, h⟩
  · exact .inl h
  · exact .inr ⟨g, e, h.low h2⟩

/-- the result is stored -/
theorem GivesG.put {w wd w2 w3 : World} {A : Option Addr} {c : Nat} {ms : List Nd} {r : Int} (hw : w.heap.size + 1 < wd.heap.size) (h0 : Below w.heap.size w wd) (h2 : Below wd.heap.size wd w2) (h3 : Below w2.heap.size w2 w3) (h : OwnNs w3 w2.heap.size w3.heap.size A c ms) :
    GivesG w ms r (.returned (.agg #[.slice A ms.length c, .int .i64 r])) ((w3.setCell ⟨w.heap.size + 1, 0, none⟩ (.slice A ms.length c)).setCell ⟨w.heap.size + 1, 1, none⟩ (.int .i64 r)) := by
  have hs2 := h2.size
  refine ⟨A, c, rfl, ?_, ((h0.trans ((h2.mono (by omega)).trans (h3.mono (by omega)))).setCell (p := ⟨w.heap.size + 1, 0, none⟩) (by show w.heap.size ≤ w.heap.size + 1; omega) _).setCell (p := ⟨w.heap.size + 1, 1, none⟩) (by show w.heap.size ≤ w.heap.size + 1; omega) _⟩
  have := (h.kept (w' := (w3.setCell ⟨w.heap.size + 1, 0, none⟩ (.slice A ms.length c)).setCell ⟨w.heap.size + 1, 1, none⟩ (.int .i64 r)) (fun b hb _ => (Below.heap_setCell _ _ _ _ (by show b ≠ w.heap.size + 1; omega)).trans (Below.heap_setCell _ _ _ _ (by show b ≠ w.heap.size + 1; omega)))).lowB (lo2 := w.heap.size) (by omega)
  simpa using this

end Go.Proofs.Ytigelbilfddhgab

namespace Go.Proofs.Ytigelbilfddhgab
open Go.RowKit Go.Maps

theorem rowK : 73 < Try.prog.types.size := of_decide_eq_true (by kernel_rfl)
theorem lawK : Keyed Try.prog 73 := Keyed.of_law (deep_law_laid laidOutP (m := 2) (by omega) rowK (by kernel_rfl) (by kernel_rfl))
theorem typeK : Try.prog.keyType 73 = true := by kernel_rfl
theorem cellsK : Try.prog.cellsOf 73 = 2 := by kernel_rfl

def keyLit (k v : Int) : Lit := .string (keyBytes [.int .i64 k, .int .i64 v])

theorem size_succ : ∃ m, Try.prog.types.size + 1 = m + 3 := ⟨Try.prog.types.size - 2, by have := rowK; omega⟩

theorem lits_int {x : Int} (h : In64 x) (m : Nat) : Try.prog.keyLits (m + 1) 3 [.int .i64 x] = some [.int .i64 x] := by
  unfold Program.keyLits
  simp only [Try.underlying3]
  rw [if_pos ⟨trivial, wf_of_in64 h⟩]

theorem lits_key {k v : Int} (hk : In64 k) (hv : In64 v) (m : Nat) : Try.prog.keyLits (m + 2) 73 [.int .i64 k, .int .i64 v] = some [.int .i64 k, .int .i64 v] := by
  unfold Program.keyLits
  simp only [Try.underlying73]
  rw [if_pos ⟨cellsK.symm, by decide +kernel⟩]
  simp [cellsI, lits_int hk, lits_int hv]

theorem keyOf_key {k v : Int} (hk : In64 k) (hv : In64 v) : keyOf Try.prog 73 (.agg #[.int .i64 k, .int .i64 v]) = some (keyLit k v) := by
  have hf : (Value.agg #[.int .i64 k, .int .i64 v]).formed Try.prog 73 = true := by
    unfold Value.formed
    simp only [Try.underlying73, cellsK]
    rfl
  obtain ⟨m, hm⟩ := size_succ
  unfold keyOf
  simp only [Try.underlying73, typeK, hf, Bool.and_self, if_true, hm]
  rw [show (Value.agg #[.int .i64 k, .int .i64 v]).cells.toList = [.int .i64 k, .int .i64 v] from rfl, lits_key hk hv (m + 1)]
  rfl

theorem keyLit_inj {k v k' v' : Int} (hk : In64 k) (hv : In64 v) (hk' : In64 k') (hv' : In64 v') (h : keyLit k v = keyLit k' v') : k = k' ∧ v = v' := by
  have h1 := keyOf_key hk hv
  rw [h] at h1
  have := lawK.inj h1 (keyOf_key hk' hv')
  simp at this
  exact this

end Go.Proofs.Ytigelbilfddhgab
