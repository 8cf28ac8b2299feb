/-
  Lemmas, several texts in one: Pick, NewR, SpecCp, OwnBb, Sub.
-/
import Derived.Test.YthckkpbjpgfdcabDoorPjAa
import Derived.BigQuiet
import Derived.Laws.Bits64
import Derived.Maps.AppendAt
import Derived.Laws.AppendOwnNone
import Derived.Maps.RangeWalk
namespace Go.Proofs.YthckkpbjpgfdcabDoor
open Go.RowKit
set_option linter.unusedVariables false
def BytesAt (w : World) (B : Nat) (A : Option Addr) (n : Nat) : Prop := ∀ k, k < n → ∃ b off x : Nat, A = some ⟨b, off, none⟩ ∧ b < B ∧ w.cell? ⟨b, off + k, none⟩ = some (.int .u8 (x : Int)) ∧ x < 256
structure Rd (w : World) (rb : Nat) (A : Option Addr) (n c p : Nat) : Prop where
  box : Lies w rb #[.slice A n c, .int .i64 (p : Int)] 57
  bytes : BytesAt w rb A n
  few : n ≤ 2000
structure Turn (g : Nat) (w w' : World) : Prop where
  os : w'.os = w.os
  tape : w'.tape = w.tape
  output : w'.output = w.output
  size : w'.heap.size = w.heap.size
  block : ∀ k, k ≠ g → w'.heap[k]? = w.heap[k]?
theorem xor_i64 (a b : Nat) (ha : a < 4611686018427387904) (hb : b < 4611686018427387904) : bits .xor .i64 (a : Int) (b : Int) = ((a ^^^ b : Nat) : Int) := by
  have hx : a ^^^ b < 2 ^ 62 := Nat.xor_lt_two_pow (by omega) (by omega)
  have h1 : (BitVec.ofInt 64 (a : Int)).toNat = a := by
    rw [BitVec.ofInt_natCast, BitVec.toNat_ofNat]; exact Nat.mod_eq_of_lt (by omega)
  have h2 : (BitVec.ofInt 64 (b : Int)).toNat = b := by
    rw [BitVec.ofInt_natCast, BitVec.toNat_ofNat]; exact Nat.mod_eq_of_lt (by omega)
  show IntKind.i64.wrap ((BitVec.ofInt 64 (a : Int) ^^^ BitVec.ofInt 64 (b : Int)).toNat : Int) = _
  rw [BitVec.toNat_xor, h1, h2, IntKind.wrap_i64]
  omega
theorem Rd.next {w : World} {rb : Nat} {A : Option Addr} {n c p : Nat} (h : Rd w rb A n c p) : Rd (w.setCell ⟨rb, 1, none⟩ (.int .i64 ((p : Int) + 1))) rb A n c (p + 1) ∧ Turn rb w (w.setCell ⟨rb, 1, none⟩ (.int .i64 ((p : Int) + 1))) := by
  have hb := h.box.set 1 (.int .i64 ((p : Int) + 1))
  simp only [jA, jC, jB] at hb
  refine ⟨⟨by simpa using hb, fun k hk => ?_, h.few⟩, ⟨rfl, rfl, rfl, by simp, fun k hk => Below.heap_setCell _ _ _ _ hk⟩⟩
  obtain ⟨b, off, x, h1, h2, h3, h4⟩ := h.bytes k hk
  refine ⟨b, off, x, h1, h2, ?_, h4⟩
  rw [World.cell?_setCell_other]
  · exact h3
  · intro e
    injection e with e _
    omega
def Picked (rb : Nat) (A : Option Addr) (n c p : Nat) (m : Int) (w : World) (e : Ending) (w' : World) : Prop :=
  (∃ x : Nat, e = .returned (.int .i64 (x : Int)) ∧ (1 ≤ m → (x : Int) < m) ∧ (m < 1 → x = 0)) ∧ Rd w' rb A n c (p + 1) ∧ Turn rb w w'
theorem Turn.drew {g : Nat} {w w' : World} (h : Turn g w w') : Turn g w w'.drew := ⟨h.os, h.tape, h.output, h.size, h.block⟩
theorem BytesAt.later {w w' : World} {B : Nat} {A : Option Addr} {n : Nat} (h : BytesAt w B A n) (hb : Below B w w') : BytesAt w' B A n := fun k hk => by
  obtain ⟨b, off, x, h1, h2, h3, h4⟩ := h k hk
  exact ⟨b, off, x, h1, h2, (hb.cell (p := ⟨b, off + k, none⟩) h2).trans h3, h4⟩
theorem Rd.drew {w : World} {rb : Nat} {A : Option Addr} {n c p : Nat} (h : Rd w rb A n c p) : Rd w.drew rb A n c p := ⟨h.box, h.bytes, h.few⟩
set_option maxRecDepth 100000 in
set_option maxHeartbeats 4000000 in
theorem pick_any (rb : Nat) (A : Option Addr) (n c p : Nat) (m : Int) (w : World) (h : Rd w rb A n c p) (hp : p < 1000000) (hm : m ≤ 1000000) :
    Calls Tryd.prog 20 #[.pointer (some ⟨rb, 0, none⟩), .int .i64 m] w (Picked rb A n c p m w) := by
  have e0 := h.box.cell 0
  have e1 := h.box.cell 1
  have f1 := h.box.frozen 1
  simp at e0 e1
  have hn := h.few
  have hx := h.next
  have HX := hide hx
  have z0 := hx.1.box.cell 0
  have z1 := hx.1.box.cell 1
  have hby := hx.1.bytes
  simp at z0 z1
  have HB := hide hby
  clear h hx hby
  by_cases hm1 : m < 1
  · have hfin : Hid (Picked rb A n c p m w (.returned (.int .i64 0)) (w.setCell ⟨rb, 1, none⟩ (.int .i64 ((p : Int) + 1)))) := ⟨⟨0, rfl, fun h => by omega, fun _ => rfl⟩, HX.out⟩
    have t1 : decide (m < 1) = true := by simpa using hm1
    go_enter Tryd.func20, Tryd.ntmps20
    go_wp2
    go_ret
    exact hfin.out
  · have t1 : decide (m < 1) = false := by simpa using hm1
    by_cases hn0 : n = 0
    · subst hn0
      have hfin : Hid (Picked rb A 0 c p m w (.returned (.int .i64 0)) (w.setCell ⟨rb, 1, none⟩ (.int .i64 ((p : Int) + 1)))) := ⟨⟨0, rfl, fun h => by show (0 : Int) < m; omega, fun _ => rfl⟩, HX.out⟩
      go_enter Tryd.func20, Tryd.ntmps20
      go_wp2
      go_ret
      exact hfin.out
    · have hne : ((n : Int) == 0) = false := by simpa using hn0
      have hpn0 : (0 : Int) ≤ (p : Int) := by omega
      by_cases hpn : p < n
      · obtain ⟨b, off, x, rfl, hb, hc, hx⟩ := HB.out p hpn
        have hpn2 : (p : Int) < (n : Int) := by omega
        go_enter Tryd.func20, Tryd.ntmps20
        have hfin : Hid (Picked rb (some ⟨b, off, none⟩) n c p m w (.returned (.int .i64 ((x : Int) % m))) (w.setCell ⟨rb, 1, none⟩ (.int .i64 ((p : Int) + 1)))) := by
          have h1 := Int.emod_nonneg (x : Int) (show m ≠ 0 by omega)
          have h2 := Int.emod_lt_of_pos (x : Int) (show 0 < m by omega)
          obtain ⟨y, hy⟩ := Int.eq_ofNat_of_zero_le h1
          rw [hy] at h2 ⊢
          exact ⟨⟨y, rfl, fun _ => h2, fun h => by omega⟩, HX.out⟩
        go_wp2
        go_ret
        exact hfin.out
      · obtain ⟨j1, hj1, hj1n⟩ : ∃ j : Nat, (p : Int) % (n : Int) = (j : Int) ∧ j < n := ⟨p % n, by simp, Nat.mod_lt _ (by omega)⟩
        obtain ⟨j2, hj2, hj2n⟩ : ∃ j : Nat, ((p : Int) * 7 + 3) % (n : Int) = (j : Int) ∧ j < n := ⟨(p * 7 + 3) % n, by simp, Nat.mod_lt _ (by omega)⟩
        obtain ⟨q, hq, hqp⟩ : ∃ q : Nat, (p : Int) / (n : Int) = (q : Int) ∧ q ≤ p := ⟨p / n, by simp, Nat.div_le_self _ _⟩
        obtain ⟨b, off, x1, rfl, hb, hc1, hx1⟩ := HB.out j1 hj1n
        obtain ⟨b', off', x2, he', _, hc2, hx2⟩ := HB.out j2 hj2n
        simp only [Option.some.injEq, Addr.mk.injEq, and_true] at he'
        obtain ⟨rfl, rfl⟩ := he'
        have hpn2 : (n : Int) ≤ (p : Int) := by omega
        have a1 : (0 : Int) ≤ (j1 : Int) := by omega
        have a2 : (j1 : Int) < (n : Int) := by omega
        have a3 : (0 : Int) ≤ (j2 : Int) := by omega
        have a4 : (j2 : Int) < (n : Int) := by omega
        go_enter Tryd.func20, Tryd.ntmps20
        go_wp2_with fail
        go_quiet (fail)
        obtain ⟨V, hV, hVl⟩ : ∃ V : Nat, (x1 : Int) * 131 + (x2 : Int) * 1117 + (p : Int) * 29 + (q : Int) * 53 = (V : Int) ∧ V < 4611686018427387904 := ⟨x1 * 131 + x2 * 1117 + p * 29 + q * 53, by simp, by omega⟩
        rw [hV]
        obtain ⟨D, hD, hDl⟩ : ∃ D : Nat, (V : Int) / 64 = (D : Int) ∧ D < 4611686018427387904 := ⟨V / 64, by simp, by omega⟩
        obtain ⟨Y, hY⟩ : ∃ Y : Nat, bits .xor .i64 (V : Int) (D : Int) = (Y : Int) := ⟨_, xor_i64 V D hVl hDl⟩
        have hfin : Hid (Picked rb (some ⟨b, off, none⟩) n c p m w (.returned (.int .i64 ((Y : Int) % m))) ((w.setCell ⟨rb, 1, none⟩ (.int .i64 ((p : Int) + 1))).drewN nq)) := by
          have h1 := Int.emod_nonneg (Y : Int) (show m ≠ 0 by omega)
          have h2 := Int.emod_lt_of_pos (Y : Int) (show 0 < m by omega)
          obtain ⟨y, hy⟩ := Int.eq_ofNat_of_zero_le h1
          rw [hy] at h2 ⊢
          exact ⟨⟨y, rfl, fun _ => h2, fun h => by omega⟩, ⟨HX.out.1.box, HX.out.1.bytes, HX.out.1.few⟩, ⟨HX.out.2.os, HX.out.2.tape, HX.out.2.output, HX.out.2.size, HX.out.2.block⟩⟩
        have hY0 : (0 : Int) ≤ (Y : Int) := by omega
        generalize (w.setCell ⟨rb, 1, none⟩ (.int .i64 ((p : Int) + 1))).drewN nq = X at hfin ⊢
        go_wp2
        go_ret
        exact hfin.out
end Go.Proofs.YthckkpbjpgfdcabDoor

namespace Go.Proofs.YthckkpbjpgfdcabDoor
open Go.RowKit
set_option linter.unusedVariables false
theorem BytesAt.less {w : World} {B : Nat} {A : Option Addr} {n m : Nat} (h : BytesAt w B A n) (hm : m ≤ n) : BytesAt w B A m := fun k hk => h k (by omega)
theorem BytesAt.more {w : World} {B B' : Nat} {A : Option Addr} {n : Nat} (h : BytesAt w B A n) (hB : B ≤ B') : BytesAt w B' A n := fun k hk => by
  obtain ⟨b, off, x, h1, h2, h3⟩ := h k hk
  exact ⟨b, off, x, h1, by omega, h3⟩
set_option maxHeartbeats 1000000 in
theorem newReader_any (A : Option Addr) (n c : Nat) (w : World) (h : BytesAt w w.heap.size A n) (hc : n ≤ c) (hn : n ≤ 9223372036854775807) :
    Calls Tryd.prog 12 #[.slice A n c] w fun e w' => e = .returned (.pointer (some ⟨w.heap.size, 0, none⟩)) ∧ (∃ n' c', Rd w' w.heap.size A n' c' 0) ∧ Below w.heap.size w w' := by
  by_cases h2 : n ≤ 2000
  · have d : decide ((2000 : Int) < (n : Int)) = false := by simp; omega
    have hB : Below w.heap.size w (w.alloc (.cells #[.slice A n c, .int .i64 0] 57)) := (Below.refl _ _).alloc (Nat.le_refl _) _
    have HR : Hid (Rd (w.alloc (.cells #[.slice A n c, .int .i64 0] 57)) w.heap.size A n c 0) := hide ⟨Lies.new w _ _, h.later hB, h2⟩
    clear h
    go_enter Tryd.func12, Tryd.ntmps12
    go_wp2
    go_ret
    exact ⟨rfl, ⟨n, c, HR.out⟩, hB⟩
  · have d : decide ((2000 : Int) < (n : Int)) = true := by simp; omega
    obtain ⟨b, off, _, rfl, _⟩ := h 0 (by omega)
    have hcap : ¬ ((c : Int) < 2000) := by omega
    have hB : Below w.heap.size w (w.alloc (.cells #[.slice (some ⟨b, off, none⟩) 2000 c, .int .i64 0] 57)) := (Below.refl _ _).alloc (Nat.le_refl _) _
    have HR : Hid (Rd (w.alloc (.cells #[.slice (some ⟨b, off, none⟩) 2000 c, .int .i64 0] 57)) w.heap.size (some ⟨b, off, none⟩) 2000 c 0) := hide ⟨Lies.new w _ _, (h.less (by omega)).later hB, Nat.le_refl _⟩
    clear h
    go_enter Tryd.func12, Tryd.ntmps12
    go_wp2
    go_ret
    exact ⟨rfl, ⟨2000, c, HR.out⟩, hB⟩
end Go.Proofs.YthckkpbjpgfdcabDoor

namespace Go.Proofs.YthckkpbjpgfdcabDoor
open Go.RowKit
set_option maxHeartbeats 400000 in
theorem copyInts_any (A : Option Addr) (xs : List Int) (c : Nat) (w : World) (h : IntsAt w w.heap.size A xs) (hnil : A = none → c = 0) (hs : xs.length ≤ 16777000) :
    Calls Tryd.prog 51 #[.slice A xs.length c] w (GivesInts w xs) := by
  go_enter Tryd.func51, Tryd.ntmps51
  go_wp2_with (at_builtin; refine append_ints rfl (.tmp 3) (.tmp 4) rfl w.heap.size _ 0 [] rfl (OwnI.bare w) w.heap.size A c xs rfl hnil (h.below ((Below.refl _ _).alloc (Nat.le_refl _) _)) (by simp; omega) (by simp) ?_; intro zs A' c' w' hz hown hg hat)
  go_ret
  obtain rfl : zs = xs := by simpa [Hid] using hz
  exact ⟨A', c', rfl, hown, below_grown ((Below.refl _ _).alloc (Nat.le_refl _) _) hg (by simp) (by simp [blockOf])⟩
end Go.Proofs.YthckkpbjpgfdcabDoor

namespace Go.Proofs.YthckkpbjpgfdcabDoor
open Go.RowKit
theorem infoBo : (Tryd.prog.info? 4).map (fun i => (i.zero, i.size, i.bytes)) = some (some (.bool false), 1, 1) := by kernel_rfl
structure BoolsAt (w : World) (B : Nat) (A : Option Addr) (xs : List Bool) : Prop where
  row : xs ≠ [] → ∃ b off, A = some ⟨b, off, none⟩ ∧ b < B ∧ ∀ j x, xs[j]? = some x → w.cell? ⟨b, off + j, none⟩ = some (.bool x)
  len : xs.length ≤ 9223372036854775807
theorem BoolsAt.below {w w' : World} {B : Nat} {A : Option Addr} {xs : List Bool} (h : BoolsAt w B A xs) (hb : Below B w w') : BoolsAt w' B A xs :=
  ⟨fun hx => by
    obtain ⟨b, off, e, hlt, hc⟩ := h.row hx
    exact ⟨b, off, e, hlt, fun j x hj => (hb.cell hlt).trans (hc j x hj)⟩, h.len⟩
theorem BoolsAt.more {w : World} {B B' : Nat} {A : Option Addr} {xs : List Bool} (h : BoolsAt w B A xs) (hB : B ≤ B') : BoolsAt w B' A xs :=
  ⟨fun hx => by
    obtain ⟨b, off, e, hlt, hc⟩ := h.row hx
    exact ⟨b, off, e, Nat.lt_of_lt_of_le hlt hB, hc⟩, h.len⟩
theorem BoolsAt.later {w w' : World} {B : Nat} {A : Option Addr} {xs : List Bool} (h : BoolsAt w B A xs) (hb : Below B w w') (hB : B ≤ w.heap.size) : BoolsAt w' w'.heap.size A xs :=
  (h.below hb).more (Nat.le_trans hB hb.size)
theorem BoolsAt.at_ {w : World} {B : Nat} {A : Option Addr} {xs : List Bool} (h : BoolsAt w B A xs) {k : Nat} (hk : k < xs.length) :
    ∃ b off x, A = some ⟨b, off, none⟩ ∧ b < B ∧ xs[k]? = some x ∧ x ∈ xs ∧ w.cell? ⟨b, off + k, none⟩ = some (.bool x) := by
  obtain ⟨b, off, e, hlt, hc⟩ := h.row (by intro e; subst e; simp at hk)
  have hat : xs[k]? = some xs[k] := List.getElem?_eq_getElem hk
  exact ⟨b, off, xs[k], e, hlt, hat, List.getElem_mem hk, hc k _ hat⟩
structure OwnB (w : World) (base : Nat) (A : Option Addr) (c : Nat) (xs : List Bool) : Prop where
  own : w.ownsRow base 4 1 (.slice A xs.length c) xs.length (xs.map (Value.bool))
theorem OwnB.empty (w : World) (base : Nat) : OwnB w base none 0 [] := ⟨World.ownsRow_nil _ _ _ _⟩
theorem OwnB.form {w : World} {base : Nat} {A : Option Addr} {c : Nat} {xs : List Bool} (h : OwnB w base A c xs) :
    (A = none ∧ c = 0 ∧ xs = []) ∨ ∃ g, A = some ⟨g, 0, none⟩ ∧ base ≤ g ∧ g < w.heap.size := by
  rcases h.own.2 with ⟨h1, h2⟩ | ⟨g, cap, cur, hv, hg, hh, _⟩
  · injection h1 with h1 _ h3
    exact .inl ⟨h1, h3, List.eq_nil_of_length_eq_zero h2⟩
  · injection hv with hv
    exact .inr ⟨g, hv, hg, lt_of_block hh⟩
theorem OwnB.nil {w : World} {base : Nat} {A : Option Addr} {c : Nat} {xs : List Bool} (h : OwnB w base A c xs) : A = none → c = 0 := by
  intro e
  rcases h.form with ⟨_, h2, _⟩ | ⟨g, h2, _⟩
  · exact h2
  · rw [e] at h2; cases h2
theorem OwnB.bools {w : World} {base : Nat} {A : Option Addr} {c : Nat} {xs : List Bool} (h : OwnB w base A c xs) (hl : xs.length ≤ 9223372036854775807) : BoolsAt w w.heap.size A xs := by
  refine ⟨fun hx => ?_, hl⟩
  rcases h.form with ⟨_, _, h2⟩ | ⟨g, rfl, _, hlt⟩
  · exact absurd h2 hx
  · refine ⟨g, 0, rfl, hlt, fun j x hj => ?_⟩
    have hjl : j < xs.length := (List.getElem?_eq_some_iff.1 hj).1
    have := h.own.cellAt j (by omega)
    rw [Nat.zero_add, this, List.getElem?_map, hj]
    rfl
theorem OwnB.blocks {w : World} {base : Nat} {A : Option Addr} {c : Nat} {xs : List Bool} (h : OwnB w base A c xs) : ∀ k, blockOf A = some k → base ≤ k ∧ k < w.heap.size := by
  intro k hk
  rcases h.form with ⟨rfl, _, _⟩ | ⟨g, rfl, h1, h2⟩
  · cases hk
  · simp [blockOf] at hk
    omega
theorem OwnB.alloc {w : World} {base : Nat} {A : Option Addr} {c : Nat} {xs : List Bool} (h : OwnB w base A c xs) (o : Obj) : OwnB (w.alloc o) base A c xs := ⟨h.own.alloc o⟩
theorem OwnB.drew {w : World} {base : Nat} {A : Option Addr} {c : Nat} {xs : List Bool} (h : OwnB w base A c xs) : OwnB w.drew base A c xs := ⟨h.own⟩
theorem OwnB.kept {w w' : World} {base : Nat} {A : Option Addr} {c : Nat} {xs : List Bool} {row : Option Nat} (h : OwnB w base A c xs) (hg : w.grownBy w' row) (hne : blockOf A = none ∨ blockOf A ≠ row) : OwnB w' base A c xs :=
  ⟨h.own.kept hg (by rw [ownBlock_slice]; exact hne)⟩
theorem OwnB.below {w w' : World} {base : Nat} {A : Option Addr} {c : Nat} {xs : List Bool} (h : OwnB w base A c xs) (hb : Below w.heap.size w w') : OwnB w' base A c xs :=
  h.kept (grownBy_of_below hb) (by cases hA : blockOf A <;> simp)
theorem OwnB.mono {w : World} {base base' : Nat} {A : Option Addr} {c : Nat} {xs : List Bool} (h : OwnB w base A c xs) (hb : base' ≤ base) : OwnB w base' A c xs := by
  refine ⟨h.own.1, ?_⟩
  rcases h.own.2 with h2 | ⟨g, cap, cur, hv, hg, r⟩
  · exact .inl h2
  · exact .inr ⟨g, cap, cur, hv, Nat.le_trans hb hg, r⟩
theorem bools_one (xs : List Bool) : ∀ u ∈ xs.map (Value.bool), u.oneCell' = true := by
  intro u hu
  obtain ⟨x, _, rfl⟩ := List.mem_map.1 hu
  rfl
theorem append_bools {w : World} {ops : Array Oper} {rest : List Oper} {o : Oper} {a : Act} {Q : Exit → Act → World → Prop} (hgd : o.guard = none) (s x : Operand)
    (ho : o.op = .call { callee := .builtin .append, args := #[s, x], argTypes := #[37, 37] })
    (base : Nat) (A : Option Addr) (c : Nat) (xs : List Bool) (hs : a.eval s = .slice A xs.length c) (hown : OwnB w base A c xs)
    (B : Nat) (A2 : Option Addr) (c2 : Nat) (ys : List Bool) (hx : a.eval x = .slice A2 ys.length c2) (hnil : A2 = none → c2 = 0) (hr : BoolsAt w B A2 ys)
    (hsum : xs.length + ys.length ≤ 16777216) (hbase : base ≤ w.heap.size)
    (h : ∀ (zs : List Bool) (A' : Option Addr) (c' : Nat) (w' : World), Hid (zs = xs ++ ys) → OwnB w' base A' c' zs → w.grownBy w' (blockOf A) → (blockOf A' = blockOf A ∨ blockOf A' = some w.heap.size) →
      wpList Tryd.prog ops Q rest (a.put o.dst (.slice A' zs.length c')) w') : wpList Tryd.prog ops Q (o :: rest) a w := by
  obtain ⟨i0, hi, hz0, hz1, hz2⟩ := info_parts infoBo
  have hempty : A2 = none → ys = [] := by
    intro e
    cases ys with
    | nil => rfl
    | cons y ys =>
      obtain ⟨b, off, e2, _⟩ := hr.row (by simp)
      rw [e] at e2; cases e2
  rcases A2 with _ | ad
  · obtain rfl := hnil rfl
    obtain rfl := hempty rfl
    exact wpList_append_own_none hgd s x 37 ho base 4 i0 1 Tryd.underlying37 hi _ _ _ hs hown.own hx
      (h xs A c w (by simp [Hid]) hown (World.grownBy.refl w _) (.inl rfl))
  · have hcells : ∀ j u, (ys.map (Value.bool))[j]? = some u → w.cell? (ad.add j) = some u := by
      intro j u hu
      rw [List.getElem?_map] at hu
      cases hy : ys[j]? with
      | none => rw [hy] at hu; cases hu
      | some y =>
        rw [hy] at hu
        simp at hu
        subst hu
        obtain ⟨b, off, e2, _, hc⟩ := hr.row (by intro e; subst e; simp at hy)
        obtain rfl : ad = ⟨b, off, none⟩ := Option.some.inj e2
        have hadd : (⟨b, off, none⟩ : Addr).add j = ⟨b, off + j, none⟩ := by
          unfold Addr.add
          split
          · rename_i h0; subst h0; rfl
          · rfl
        rw [hadd]
        exact hc j y hy
    refine wpList_append_own_at w hgd s x 37 ho base 4 i0 _ 1 1 Tryd.underlying37 hi hz0 hz1 hz2 rfl (by omega) _ _ _ hs hown.own ad ys.length c2 (ys.map (Value.bool)) hx (by simp) hcells (bools_one ys)
      (by unfold maxLen; omega) (by omega) hbase ?_
    intro v' w' h2 h3 _ h5
    have hlen : xs.length + ys.length = (xs ++ ys).length := by simp
    rw [ownBlock_slice] at h3 h5
    rw [← List.map_append, hlen] at h2
    rcases h2.2 with ⟨rfl, h6⟩ | ⟨g, cap, cur, rfl, _⟩
    · have hzs : xs ++ ys = [] := List.eq_nil_of_length_eq_zero h6
      have := h (xs ++ ys) none 0 w' (by simp [Hid]) ⟨by rw [h6] at h2 ⊢; exact h2⟩ h3 (by simpa [blockOf, Value.ownBlock] using h5)
      rw [h6] at this
      exact this
    · exact h (xs ++ ys) _ _ w' (by simp [Hid]) ⟨h2⟩ h3 (by simpa [ownBlock_slice] using h5)
theorem BoolsAt.one (w : World) (x : Bool) : BoolsAt (w.alloc (.cells #[.bool x] 4)) (w.heap.size + 1) (some ⟨w.heap.size, 0, none⟩) [x] := by
  refine ⟨fun _ => ⟨w.heap.size, 0, rfl, Nat.lt_succ_self _, fun j y hj => ?_⟩, by simp⟩
  match j, hj with
  | 0, hj =>
    simp at hj
    subst hj
    simp
theorem OwnB.bare (w : World) : OwnB (w.alloc (.cells #[] 4)) w.heap.size (some ⟨w.heap.size, 0, none⟩) 0 [] :=
  ⟨World.ownsRow_lit w #[] 0 (Nat.le_refl _) (by unfold maxLen; omega) rfl⟩
def GivesBools (w : World) (xs : List Bool) (e : Ending) (w' : World) : Prop := ∃ A c, e = .returned (.slice A xs.length c) ∧ OwnB w' w.heap.size A c xs ∧ Below w.heap.size w w'
theorem step_append_bools {w : World} {ops : Array Oper} {o : Oper} {a : Act} {K : Act → World → Prop} {Q : Exit → Act → World → Prop} {E : Prop} (hgd : o.guard = none) (s x : Operand)
    (ho : o.op = .call { callee := .builtin .append, args := #[s, x], argTypes := #[37, 37] })
    (base : Nat) (A : Option Addr) (c : Nat) (xs : List Bool) (hs : a.eval s = .slice A xs.length c) (hown : OwnB w base A c xs)
    (B : Nat) (A2 : Option Addr) (c2 : Nat) (ys : List Bool) (hx : a.eval x = .slice A2 ys.length c2) (hnil : A2 = none → c2 = 0) (hr : BoolsAt w B A2 ys)
    (hsum : xs.length + ys.length ≤ 16777216) (hbase : base ≤ w.heap.size)
    (h : ∀ (zs : List Bool) (A' : Option Addr) (c' : Nat) (w' : World), Hid (zs = xs ++ ys) → OwnB w' base A' c' zs → w.grownBy w' (blockOf A) → (blockOf A' = blockOf A ∨ blockOf A' = some w.heap.size) →
      K (a.put o.dst (.slice A' zs.length c')) w') :
    if Region.wanted o (yielded ops a.tmps) = true then Oper.wp Tryd.prog o a w K Q else E := by
  have hw : Region.wanted o (yielded ops a.tmps) = true := by simp [Region.wanted, hgd]
  rw [if_pos hw]
  obtain ⟨i0, hi, hz0, hz1, hz2⟩ := info_parts infoBo
  have hempty : A2 = none → ys = [] := by
    intro e
    cases ys with
    | nil => rfl
    | cons y ys =>
      obtain ⟨b, off, e2, _⟩ := hr.row (by simp)
      rw [e] at e2; cases e2
  rcases A2 with _ | ad
  · obtain rfl := hnil rfl
    obtain rfl := hempty rfl
    have hrun := run_append_owned_none (P := Tryd.prog) (w := w) base 37 o.type 4 i0 1 Tryd.underlying37 hi _ _ _ hown.own
    unfold Oper.wp
    simp only [List.length_nil] at hx
    simp [execOp, ho, resolve, invoke, builtin, hs, hx, hrun, Result.andThen]
    exact h xs A c w (by simp [Hid]) hown (World.grownBy.refl w _) (.inl rfl)
  · have hcells : ∀ j u, (ys.map (Value.bool))[j]? = some u → w.cell? (ad.add j) = some u := by
      intro j u hu
      rw [List.getElem?_map] at hu
      cases hy : ys[j]? with
      | none => rw [hy] at hu; cases hu
      | some y =>
        rw [hy] at hu
        simp at hu
        subst hu
        obtain ⟨b, off, e2, _, hc⟩ := hr.row (by intro e; subst e; simp at hy)
        obtain rfl : ad = ⟨b, off, none⟩ := Option.some.inj e2
        have hadd : (⟨b, off, none⟩ : Addr).add j = ⟨b, off + j, none⟩ := by
          unfold Addr.add
          split
          · rename_i h0; subst h0; rfl
          · rfl
        rw [hadd]
        exact hc j y hy
    obtain ⟨v', w', hrun, h2, h3, _, h5⟩ := run_append_own_at (P := Tryd.prog) w base 37 o.type 4 i0 _ 1 1 Tryd.underlying37 hi hz0 hz1 hz2 rfl (by omega) _ _ _ hown.own ad ys.length c2 (ys.map (Value.bool)) (by simp) hcells (bools_one ys)
      (by unfold maxLen; omega) (by omega) hbase
    unfold Oper.wp execOp
    simp only [ho, resolve, invoke, builtin, Sem.run_bind, Sem.run_pure, Result.andThen_ok, List.map_toArray, List.map_cons, List.map_nil, hs, hx, hrun]
    have hlen : xs.length + ys.length = (xs ++ ys).length := by simp
    rw [ownBlock_slice] at h3 h5
    rw [← List.map_append, hlen] at h2
    rcases h2.2 with ⟨rfl, h6⟩ | ⟨g, cap, cur, rfl, _⟩
    · have hzs : xs ++ ys = [] := List.eq_nil_of_length_eq_zero h6
      have := h (xs ++ ys) none 0 w' (by simp [Hid]) ⟨by rw [h6] at h2 ⊢; exact h2⟩ h3 (by simpa [blockOf, Value.ownBlock] using h5)
      rw [h6] at this
      exact this
    · exact h (xs ++ ys) _ _ w' (by simp [Hid]) ⟨h2⟩ h3 (by simpa [ownBlock_slice] using h5)
theorem OwnB.ofB {w w' : World} {base : Nat} {A : Option Addr} {c : Nat} {xs : List Bool} (h : OwnB w base A c xs) (hA : ∀ g, blockOf A = some g → w'.heap[g]? = w.heap[g]?) : OwnB w' base A c xs := by
  refine ⟨h.own.1, ?_⟩
  rcases h.own.2 with h2 | ⟨g, cap, cur, hv, hg, hh, r⟩
  · exact .inl h2
  · refine .inr ⟨g, cap, cur, hv, hg, ?_, r⟩
    rw [hA g (by injection hv with hv; rw [hv]; rfl)]
    exact hh
theorem OwnI.ofB {w w' : World} {base : Nat} {A : Option Addr} {c : Nat} {xs : List Int} (h : OwnI w base A c xs) (hA : ∀ g, blockOf A = some g → w'.heap[g]? = w.heap[g]?) : OwnI w' base A c xs := by
  refine ⟨h.own.1, ?_⟩
  rcases h.own.2 with h2 | ⟨g, cap, cur, hv, hg, hh, r⟩
  · exact .inl h2
  · refine .inr ⟨g, cap, cur, hv, hg, ?_, r⟩
    rw [hA g (by injection hv with hv; rw [hv]; rfl)]
    exact hh
theorem OwnB.setAt {w : World} {base g : Nat} {c : Nat} {xs : List Bool} (h : OwnB w base (some ⟨g, 0, none⟩) c xs) (j : Nat) (x : Bool) :
    OwnB (w.setCell ⟨g, j, none⟩ (.bool x)) base (some ⟨g, 0, none⟩) c (xs.set j x) := by
  have := (h.own.stored j (.bool x)).1
  refine ⟨?_⟩
  rw [List.length_set, List.map_set]
  exact this
theorem OwnI.setAt {w : World} {base g : Nat} {c : Nat} {xs : List Int} (h : OwnI w base (some ⟨g, 0, none⟩) c xs) (j : Nat) (x : Int) :
    OwnI (w.setCell ⟨g, j, none⟩ (.int .i64 x)) base (some ⟨g, 0, none⟩) c (xs.set j x) := by
  have := (h.own.stored j (.int .i64 x)).1
  refine ⟨?_⟩
  rw [List.length_set, List.map_set]
  exact this
theorem OwnI.cutAt {w : World} {base : Nat} {A : Option Addr} {c : Nat} {xs : List Int} (h : OwnI w base A c xs) {k : Nat} (hk : k ≤ xs.length) : OwnI w base A c (xs.take k) := by
  have hl : (xs.take k).length = k := by simp; omega
  obtain ⟨h1, h2⟩ := h.own
  refine ⟨⟨by simp, ?_⟩⟩
  rcases h2 with ⟨h3, h4⟩ | ⟨g, cap, cur, hv, hg, hh, hn, hm, hs, ht⟩
  · have : xs = [] := List.eq_nil_of_length_eq_zero h4
    subst this
    exact .inl ⟨by simpa using h3, by simp⟩
  · refine .inr ⟨g, cap, cur, ?_, hg, hh, by omega, hm, hs, ?_⟩
    · injection hv with e1 _ e3
      rw [e1, e3]
    · rw [hl]
      have := congrArg (fun l => l.take k) ht
      simp only [List.take_take, Nat.mul_one] at this
      rw [Nat.min_eq_left hk] at this
      rw [Nat.mul_one, this, List.map_take]
theorem OwnI.capLen {w : World} {base : Nat} {A : Option Addr} {c : Nat} {xs : List Int} (h : OwnI w base A c xs) : xs.length ≤ c := by
  rcases h.own with ⟨hl, hh⟩
  rcases hh with ⟨h1, h2⟩ | ⟨g, cap, cur, hv, hg, hh, hle, hm, hs, hx⟩
  · rw [h2]; exact Nat.zero_le _
  · injection hv with _ _ h3
    subst h3
    exact hle
end Go.Proofs.YthckkpbjpgfdcabDoor

namespace Go.Proofs.YthckkpbjpgfdcabDoor
open Go.RowKit
theorem IntsAt.upto {w : World} {B : Nat} {A : Option Addr} {xs : List Int} (h : IntsAt w B A xs) (n : Nat) : IntsAt w B A (xs.take n) := by
  refine ⟨fun hx => ?_, fun x hx => h.wf x (List.mem_of_mem_take hx), Nat.le_trans (by simp; omega) h.len⟩
  obtain ⟨b, off, e, hlt, hc⟩ := h.row (by intro e; subst e; simp at hx)
  refine ⟨b, off, e, hlt, fun j x hj => hc j x ?_⟩
  rw [List.getElem?_take] at hj
  split at hj
  · exact hj
  · cases hj
theorem IntsAt.behind {w : World} {B b off : Nat} {xs : List Int} (h : IntsAt w B (some ⟨b, off, none⟩) xs) (k : Nat) : IntsAt w B (some ⟨b, off + k, none⟩) (xs.drop k) := by
  refine ⟨fun hx => ?_, fun x hx => h.wf x (List.mem_of_mem_drop hx), Nat.le_trans (by simp) h.len⟩
  obtain ⟨b', off', e, hlt, hc⟩ := h.row (by intro e; subst e; simp at hx)
  injection e with e
  injection e with e1 e2
  subst e1 e2
  refine ⟨b, off + k, rfl, hlt, fun j x hj => ?_⟩
  rw [List.getElem?_drop] at hj
  have := hc (k + j) x hj
  rwa [← Nat.add_assoc] at this
end Go.Proofs.YthckkpbjpgfdcabDoor
