/-
  Lemmas, several texts in one: Pick, FrM.
-/
import Derived.Test.YtmilbhhlbjcodacPjAa
import Derived.BigQuiet
import Derived.Laws.Bits64
namespace Go.Proofs.Ytmilbhhlbjcodac
open Go.RowKit
set_option linter.unusedVariables false
def BytesAt (w : World) (B : Nat) (A : Option Addr) (n : Nat) : Prop := ∀ k, k < n → ∃ b off x : Nat, A = some ⟨b, off, none⟩ ∧ b < B ∧ w.cell? ⟨b, off + k, none⟩ = some (.int .u8 (x : Int)) ∧ x < 256
structure Rd (w : World) (rb : Nat) (A : Option Addr) (n c p : Nat) : Prop where
  box : Lies w rb #[.slice A n c, .int .i64 (p : Int)] 41
  bytes : BytesAt w rb A n
  few : n ≤ 2000
structure Turn (g : Nat) (w w' : World) : Prop where
  os : w'.os = w.os
  tape : w'.tape = w.tape
  output : w'.output = w.output
  size : w'.heap.size = w.heap.size
  block : ∀ k, k ≠ g → w'.heap[k]? = w.heap[k]?
theorem xor_i64 (a b : Nat) (ha : a < 4611686018427387904) (hb : b < 4611686018427387904) : bits .xor .i64 (a : Int) (b : Int) = ((a ^^^ b : Nat) : Int) := by
  have hx : a ^^^ b < 2 ^ 62 := Nat.xor_lt_two_pow (by omega) (by omega)
  have h1 : (BitVec.ofInt 64 (a : Int)).toNat = a := by
    rw [BitVec.ofInt_natCast, BitVec.toNat_ofNat]; exact Nat.mod_eq_of_lt (by omega)
  have h2 : (BitVec.ofInt 64 (b : Int)).toNat = b := by
    rw [BitVec.ofInt_natCast, BitVec.toNat_ofNat]; exact Nat.mod_eq_of_lt (by omega)
  show IntKind.i64.wrap ((BitVec.ofInt 64 (a : Int) ^^^ BitVec.ofInt 64 (b : Int)).toNat : Int) = _
  rw [BitVec.toNat_xor, h1, h2, IntKind.wrap_i64]
  omega
theorem Rd.next {w : World} {rb : Nat} {A : Option Addr} {n c p : Nat} (h : Rd w rb A n c p) : Rd (w.setCell ⟨rb, 1, none⟩ (.int .i64 ((p : Int) + 1))) rb A n c (p + 1) ∧ Turn rb w (w.setCell ⟨rb, 1, none⟩ (.int .i64 ((p : Int) + 1))) := by
  have hb := h.box.set 1 (.int .i64 ((p : Int) + 1))
  simp only [List.setIfInBounds_toArray, List.set_cons_succ, List.set_cons_zero] at hb
  refine ⟨⟨by simpa using hb, fun k hk => ?_, h.few⟩, ⟨rfl, rfl, rfl, by simp, fun k hk => Below.heap_setCell _ _ _ _ hk⟩⟩
  obtain ⟨b, off, x, h1, h2, h3, h4⟩ := h.bytes k hk
  refine ⟨b, off, x, h1, h2, ?_, h4⟩
  rw [World.cell?_setCell_other]
  · exact h3
  · intro e
    injection e with e _
    omega
def Picked (rb : Nat) (A : Option Addr) (n c p : Nat) (m : Int) (w : World) (e : Ending) (w' : World) : Prop :=
  (∃ x : Nat, e = .returned (.int .i64 (x : Int)) ∧ (1 ≤ m → (x : Int) < m) ∧ (m < 1 → x = 0)) ∧ Rd w' rb A n c (p + 1) ∧ Turn rb w w'
theorem Turn.drew {g : Nat} {w w' : World} (h : Turn g w w') : Turn g w w'.drew := ⟨h.os, h.tape, h.output, h.size, h.block⟩
theorem BytesAt.later {w w' : World} {B : Nat} {A : Option Addr} {n : Nat} (h : BytesAt w B A n) (hb : Below B w w') : BytesAt w' B A n := fun k hk => by
  obtain ⟨b, off, x, h1, h2, h3, h4⟩ := h k hk
  exact ⟨b, off, x, h1, h2, (hb.cell (p := ⟨b, off + k, none⟩) h2).trans h3, h4⟩
theorem Rd.drew {w : World} {rb : Nat} {A : Option Addr} {n c p : Nat} (h : Rd w rb A n c p) : Rd w.drew rb A n c p := ⟨h.box, h.bytes, h.few⟩
set_option maxRecDepth 100000 in
set_option maxHeartbeats 4000000 in
theorem pick_any (rb : Nat) (A : Option Addr) (n c p : Nat) (m : Int) (w : World) (h : Rd w rb A n c p) (hp : p < 1000000) (hm : m ≤ 1000000) :
    Calls Try.prog 18 #[.pointer (some ⟨rb, 0, none⟩), .int .i64 m] w (Picked rb A n c p m w) := by
  have e0 := h.box.cell 0
  have e1 := h.box.cell 1
  have f1 := h.box.frozen 1
  simp at e0 e1
  have hn := h.few
  have hx := h.next
  have HX := hide hx
  have z0 := hx.1.box.cell 0
  have z1 := hx.1.box.cell 1
  have hby := hx.1.bytes
  simp at z0 z1
  have HB := hide hby
  clear h hx hby
  by_cases hm1 : m < 1
  · have hfin : Hid (Picked rb A n c p m w (.returned (.int .i64 0)) (w.setCell ⟨rb, 1, none⟩ (.int .i64 ((p : Int) + 1)))) := ⟨⟨0, rfl, fun h => by omega, fun _ => rfl⟩, HX.out⟩
    have t1 : decide (m < 1) = true := by simpa using hm1
    go_enter Try.func18, Try.ntmps18
    go_wp2
    go_ret
    exact hfin.out
  · have t1 : decide (m < 1) = false := by simpa using hm1
    by_cases hn0 : n = 0
    · subst hn0
      have hfin : Hid (Picked rb A 0 c p m w (.returned (.int .i64 0)) (w.setCell ⟨rb, 1, none⟩ (.int .i64 ((p : Int) + 1)))) := ⟨⟨0, rfl, fun h => by show (0 : Int) < m; omega, fun _ => rfl⟩, HX.out⟩
      go_enter Try.func18, Try.ntmps18
      go_wp2
      go_ret
      exact hfin.out
    · have hne : ((n : Int) == 0) = false := by simpa using hn0
      have hpn0 : (0 : Int) ≤ (p : Int) := by omega
      by_cases hpn : p < n
      · obtain ⟨b, off, x, rfl, hb, hc, hx⟩ := HB.out p hpn
        have hpn2 : (p : Int) < (n : Int) := by omega
        go_enter Try.func18, Try.ntmps18
        have hfin : Hid (Picked rb (some ⟨b, off, none⟩) n c p m w (.returned (.int .i64 ((x : Int) % m))) (w.setCell ⟨rb, 1, none⟩ (.int .i64 ((p : Int) + 1)))) := by
          have h1 := Int.emod_nonneg (x : Int) (show m ≠ 0 by omega)
          have h2 := Int.emod_lt_of_pos (x : Int) (show 0 < m by omega)
          obtain ⟨y, hy⟩ := Int.eq_ofNat_of_zero_le h1
          rw [hy] at h2 ⊢
          exact ⟨⟨y, rfl, fun _ => h2, fun h => by omega⟩, HX.out⟩
        go_wp2
        go_ret
        exact hfin.out
      · obtain ⟨j1, hj1, hj1n⟩ : ∃ j : Nat, (p : Int) % (n : Int) = (j : Int) ∧ j < n := ⟨p % n, by simp, Nat.mod_lt _ (by omega)⟩
        obtain ⟨j2, hj2, hj2n⟩ : ∃ j : Nat, ((p : Int) * 7 + 3) % (n : Int) = (j : Int) ∧ j < n := ⟨(p * 7 + 3) % n, by simp, Nat.mod_lt _ (by omega)⟩
        obtain ⟨q, hq, hqp⟩ : ∃ q : Nat, (p : Int) / (n : Int) = (q : Int) ∧ q ≤ p := ⟨p / n, by simp, Nat.div_le_self _ _⟩
        obtain ⟨b, off, x1, rfl, hb, hc1, hx1⟩ := HB.out j1 hj1n
        obtain ⟨b', off', x2, he', _, hc2, hx2⟩ := HB.out j2 hj2n
        simp only [Option.some.injEq, Addr.mk.injEq, and_true] at he'
        obtain ⟨rfl, rfl⟩ := he'
        have hpn2 : (n : Int) ≤ (p : Int) := by omega
        have a1 : (0 : Int) ≤ (j1 : Int) := by omega
        have a2 : (j1 : Int) < (n : Int) := by omega
        have a3 : (0 : Int) ≤ (j2 : Int) := by omega
        have a4 : (j2 : Int) < (n : Int) := by omega
        go_enter Try.func18, Try.ntmps18
        go_wp2_with fail
        go_quiet (fail)
        obtain ⟨V, hV, hVl⟩ : ∃ V : Nat, (x1 : Int) * 131 + (x2 : Int) * 1117 + (p : Int) * 29 + (q : Int) * 53 = (V : Int) ∧ V < 4611686018427387904 := ⟨x1 * 131 + x2 * 1117 + p * 29 + q * 53, by simp, by omega⟩
        rw [hV]
        obtain ⟨D, hD, hDl⟩ : ∃ D : Nat, (V : Int) / 64 = (D : Int) ∧ D < 4611686018427387904 := ⟨V / 64, by simp, by omega⟩
        obtain ⟨Y, hY⟩ : ∃ Y : Nat, bits .xor .i64 (V : Int) (D : Int) = (Y : Int) := ⟨_, xor_i64 V D hVl hDl⟩
        have hfin : Hid (Picked rb (some ⟨b, off, none⟩) n c p m w (.returned (.int .i64 ((Y : Int) % m))) ((w.setCell ⟨rb, 1, none⟩ (.int .i64 ((p : Int) + 1))).drewN nq)) := by
          have h1 := Int.emod_nonneg (Y : Int) (show m ≠ 0 by omega)
          have h2 := Int.emod_lt_of_pos (Y : Int) (show 0 < m by omega)
          obtain ⟨y, hy⟩ := Int.eq_ofNat_of_zero_le h1
          rw [hy] at h2 ⊢
          exact ⟨⟨y, rfl, fun _ => h2, fun h => by omega⟩, ⟨HX.out.1.box, HX.out.1.bytes, HX.out.1.few⟩, ⟨HX.out.2.os, HX.out.2.tape, HX.out.2.output, HX.out.2.size, HX.out.2.block⟩⟩
        have hY0 : (0 : Int) ≤ (Y : Int) := by omega
        generalize (w.setCell ⟨rb, 1, none⟩ (.int .i64 ((p : Int) + 1))).drewN nq = X at hfin ⊢
        go_wp2
        go_ret
        exact hfin.out
end Go.Proofs.Ytmilbhhlbjcodac

namespace Go.Proofs.Ytmilbhhlbjcodac
set_option linter.unusedVariables false
def BytesOk (m : Nat) (xs : List Int) : Prop := xs.length ≤ m ∧ ∀ x ∈ xs, 0 ≤ x ∧ x ≤ 255
instance (m : Nat) (xs : List Int) : Decidable (BytesOk m xs) := inferInstanceAs (Decidable (_ ∧ _))
theorem in64_bytes {xs : List Int} (h : ∀ x ∈ xs, 0 ≤ x ∧ x ≤ 255) : ∀ x ∈ xs, In64 x := fun x hx => by
  have := h x hx
  constructor <;> omega
def framed (m : Nat) : Nat → List Int → List Int
  | 0, _ => []
  | f + 1, xs => if xs = [] then [] else ((min m xs.length : Nat) : Int) :: (xs.take m ++ framed m f (xs.drop m))
theorem framed_nil (m f : Nat) : framed m f [] = [] := by cases f <;> simp [framed]
theorem framed_fuel {m : Nat} (hm : 1 ≤ m) : ∀ (f g : Nat) (xs : List Int), xs.length ≤ f → xs.length ≤ g → framed m f xs = framed m g xs
  | 0, g, xs, h1, _ => by
    obtain rfl : xs = [] := List.eq_nil_of_length_eq_zero (by omega)
    rw [framed_nil, framed_nil]
  | f + 1, 0, xs, _, h2 => by
    obtain rfl : xs = [] := List.eq_nil_of_length_eq_zero (by omega)
    rw [framed_nil, framed_nil]
  | f + 1, g + 1, xs, h1, h2 => by
    by_cases hx : xs = []
    · subst hx; rw [framed_nil, framed_nil]
    · have hl : 0 < xs.length := List.length_pos_iff.2 hx
      simp only [framed, if_neg hx]
      rw [framed_fuel hm f g (xs.drop m) (by simp; omega) (by simp; omega)]
theorem framed_step {m f : Nat} {xs : List Int} (hm : 1 ≤ m) (hx : xs ≠ []) (hf : xs.length ≤ f) :
    framed m f xs = ((min m xs.length : Nat) : Int) :: (xs.take m ++ framed m f (xs.drop m)) := by
  have hl : 0 < xs.length := List.length_pos_iff.2 hx
  cases f with
  | zero => omega
  | succ f =>
    rw [framed_fuel hm (f + 1) f (xs.drop m) (by simp; omega) (by simp; omega)]
    simp only [framed, if_neg hx]
theorem framed_mem {m : Nat} (hm : m ≤ 200) : ∀ (f : Nat) (xs : List Int), (∀ x ∈ xs, 0 ≤ x ∧ x ≤ 255) → ∀ x ∈ framed m f xs, 0 ≤ x ∧ x ≤ 255
  | 0, xs, _, x, hx => by simp [framed] at hx
  | f + 1, xs, h, x, hx => by
    by_cases he : xs = []
    · subst he; rw [framed_nil] at hx; cases hx
    · simp only [framed, if_neg he, List.mem_cons, List.mem_append] at hx
      rcases hx with rfl | hx | hx
      · omega
      · exact h x (List.mem_of_mem_take hx)
      · exact framed_mem hm f (xs.drop m) (fun y hy => h y (List.mem_of_mem_drop hy)) x hx
theorem framed_len {m : Nat} (hm : 1 ≤ m) : ∀ (f : Nat) (xs : List Int), (framed m f xs).length ≤ 2 * xs.length
  | 0, xs => by simp [framed]
  | f + 1, xs => by
    by_cases he : xs = []
    · subst he; rw [framed_nil]; simp
    · have hl : 0 < xs.length := List.length_pos_iff.2 he
      have := framed_len hm f (xs.drop m)
      simp only [framed, if_neg he, List.length_cons, List.length_append, List.length_take, List.length_drop] at this ⊢
      omega
def frameOf (xs : List Int) (m : Int) : List Int := if BytesOk 1000 xs ∧ 1 ≤ m ∧ m ≤ 200 then framed m.toNat xs.length xs else []
theorem frameOf_ok {xs : List Int} {m : Int} (h : BytesOk 1000 xs) (h1 : 1 ≤ m) (h2 : m ≤ 200) : frameOf xs m = framed m.toNat xs.length xs := by
  unfold frameOf; rw [if_pos ⟨h, h1, h2⟩]
theorem frameOf_no {xs : List Int} {m : Int} (h : ¬ (BytesOk 1000 xs ∧ 1 ≤ m ∧ m ≤ 200)) : frameOf xs m = [] := by
  unfold frameOf; rw [if_neg h]
theorem frameOf_few (xs : List Int) (m : Int) : (frameOf xs m).length ≤ 2000 := by
  unfold frameOf
  split
  · rename_i h
    have := framed_len (m := m.toNat) (by omega) xs.length xs
    have := h.1.1
    omega
  · simp
theorem frameOf_byte (xs : List Int) (m : Int) : ∀ x ∈ frameOf xs m, 0 ≤ x ∧ x ≤ 255 := by
  unfold frameOf
  split
  · rename_i h
    exact framed_mem (by omega) _ _ h.1.2
  · intro x hx; cases hx
def unfr : Nat → List Int → List Int × Nat
  | 0, _ => ([], 0)
  | _ + 1, [] => ([], 0)
  | f + 1, h :: t => if 1 ≤ h ∧ h ≤ 200 ∧ h.toNat ≤ t.length then (t.take h.toNat ++ (unfr f (t.drop h.toNat)).1, 1 + h.toNat + (unfr f (t.drop h.toNat)).2) else ([], 0)
theorem unfr_nil (f : Nat) : unfr f [] = ([], 0) := by cases f <;> rfl
theorem unfr_fuel : ∀ (f g : Nat) (xs : List Int), xs.length ≤ f → xs.length ≤ g → unfr f xs = unfr g xs
  | 0, g, xs, h1, _ => by
    obtain rfl : xs = [] := List.eq_nil_of_length_eq_zero (by omega)
    rw [unfr_nil, unfr_nil]
  | f + 1, 0, xs, _, h2 => by
    obtain rfl : xs = [] := List.eq_nil_of_length_eq_zero (by omega)
    rw [unfr_nil, unfr_nil]
  | f + 1, g + 1, [], _, _ => rfl
  | f + 1, g + 1, h :: t, h1, h2 => by
    simp only [List.length_cons] at h1 h2
    simp only [unfr]
    rw [unfr_fuel f g (t.drop h.toNat) (by simp; omega) (by simp; omega)]
theorem unfr_step {f i : Nat} {xs : List Int} {h : Int} (hx : xs[i]? = some h) (h1 : 1 ≤ h) (h2 : h ≤ 200) (hl : i + h.toNat < xs.length) (hf : xs.length ≤ f) :
    unfr f (xs.drop i) = ((xs.drop (i + 1)).take h.toNat ++ (unfr f (xs.drop (i + 1 + h.toNat))).1, 1 + h.toNat + (unfr f (xs.drop (i + 1 + h.toNat))).2) := by
  rw [drop_at hx]
  cases f with
  | zero => omega
  | succ f =>
    rw [unfr_fuel (f + 1) f (xs.drop (i + 1 + h.toNat)) (by simp; omega) (by simp; omega)]
    simp only [unfr]
    rw [if_pos ⟨h1, h2, by simp; omega⟩, List.drop_drop]
theorem unfr_stop {f i : Nat} {xs : List Int} (hx : ∀ h, xs[i]? = some h → ¬ (1 ≤ h ∧ h ≤ 200 ∧ i + h.toNat < xs.length)) : unfr f (xs.drop i) = ([], 0) := by
  by_cases hi : i < xs.length
  · have ha : xs[i]? = some xs[i] := List.getElem?_eq_getElem hi
    have hn := hx _ ha
    rw [drop_at ha]
    cases f with
    | zero => rfl
    | succ f =>
      simp only [unfr]
      rw [if_neg]
      rintro ⟨h1, h2, h3⟩
      exact hn ⟨h1, h2, by simp at h3; omega⟩
  · rw [List.drop_eq_nil_of_le (by omega), unfr_nil]
theorem unfr_le : ∀ (f : Nat) (xs : List Int), (unfr f xs).2 ≤ xs.length ∧ (unfr f xs).1.length ≤ (unfr f xs).2
  | 0, xs => by simp [unfr]
  | f + 1, [] => by simp [unfr]
  | f + 1, h :: t => by
    have ih := unfr_le f (t.drop h.toNat)
    simp only [unfr]
    split
    · rename_i hc
      simp only [List.length_drop, List.length_cons, List.length_append, List.length_take] at ih ⊢
      omega
    · simp
theorem unfr_mem : ∀ (f : Nat) (xs : List Int), (∀ x ∈ xs, 0 ≤ x ∧ x ≤ 255) → ∀ x ∈ (unfr f xs).1, 0 ≤ x ∧ x ≤ 255
  | 0, xs, _, x, hx => by simp [unfr] at hx
  | f + 1, [], _, x, hx => by simp [unfr] at hx
  | f + 1, h :: t, hb, x, hx => by
    simp only [unfr] at hx
    split at hx
    · simp only [List.mem_append] at hx
      rcases hx with hx | hx
      · exact hb x (List.mem_cons_of_mem _ (List.mem_of_mem_take hx))
      · exact unfr_mem f (t.drop h.toNat) (fun y hy => hb y (List.mem_cons_of_mem _ (List.mem_of_mem_drop hy))) x hx
    · cases hx
def unfrBytes (xs : List Int) : List Int := if BytesOk 2000 xs then (unfr xs.length xs).1 else []
def unfrSize (xs : List Int) : Int := if BytesOk 2000 xs then ((unfr xs.length xs).2 : Int) else -1
theorem unfrBytes_ok {xs : List Int} (h : BytesOk 2000 xs) : unfrBytes xs = (unfr xs.length xs).1 := by unfold unfrBytes; rw [if_pos h]
theorem unfrBytes_no {xs : List Int} (h : ¬ BytesOk 2000 xs) : unfrBytes xs = [] := by unfold unfrBytes; rw [if_neg h]
theorem unfrSize_ok {xs : List Int} (h : BytesOk 2000 xs) : unfrSize xs = ((unfr xs.length xs).2 : Int) := by unfold unfrSize; rw [if_pos h]
theorem unfrSize_no {xs : List Int} (h : ¬ BytesOk 2000 xs) : unfrSize xs = -1 := by unfold unfrSize; rw [if_neg h]
theorem unfrBytes_few (xs : List Int) : (unfrBytes xs).length ≤ 2000 := by
  unfold unfrBytes
  split
  · rename_i h
    have := unfr_le xs.length xs
    have := h.1
    omega
  · simp
theorem unfrBytes_byte (xs : List Int) : ∀ x ∈ unfrBytes xs, 0 ≤ x ∧ x ≤ 255 := by
  unfold unfrBytes
  split
  · rename_i h
    exact unfr_mem _ _ h.2
  · intro x hx; cases hx
end Go.Proofs.Ytmilbhhlbjcodac
