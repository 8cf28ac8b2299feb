/-
  Lemmas, several texts in one: Pick, Cod.
-/
import Derived.Test.YtkgnijbdbkopkabMem
import Derived.BigQuiet
import Derived.Laws.Bits64
import Derived.Test.YtkgnijbdbkopkabPjAb
namespace Go.Proofs.Ytkgnijbdbkopkab
open Go.RowKit
set_option linter.unusedVariables false

/-- the numbers of bytes in memory -/
def BytesAt (w : World) (B : Nat) (A : Option Addr) (n : Nat) : Prop := ∀ k, k < n → ∃ b off x : Nat, A = some ⟨b, off, none⟩ ∧ b < B ∧ w.cell? ⟨b, off + k, none⟩ = some (.int .u8 (x : Int)) ∧ x < 256

/-- a reader in memory: it has given p numbers -/
structure Rd (w : World) (rb : Nat) (A : Option Addr) (n c p : Nat) : Prop where
  box : Lies w rb #[.slice A n c, .int .i64 (p : Int)] 51
  bytes : BytesAt w rb A n
  few : n ≤ 2000

/-- nothing but one block has turned -/
structure Turn (g : Nat) (w w' : World) : Prop where
  os : w'.os = w.os
  tape : w'.tape = w.tape
  output : w'.output = w.output
  size : w'.heap.size = w.heap.size
  block : ∀ k, k ≠ g → w'.heap[k]? = w.heap[k]?

theorem xor_i64 (a b : Nat) (ha : a < 4611686018427387904) (hb : b < 4611686018427387904) : bits .xor .i64 (a : Int) (b : Int) = ((a ^^^ b : Nat) : Int) := by
  have hx : a ^^^ b < 2 ^ 62 := Nat.xor_lt_two_pow (by omega) (by omega)
  have h1 : (BitVec.ofInt 64 (a : Int)).toNat = a := by
    rw [BitVec.ofInt_natCast, BitVec.toNat_ofNat]; exact Nat.mod_eq_of_lt (by omega)
  have h2 : (BitVec.ofInt 64 (b : Int)).toNat = b := by
    rw [BitVec.ofInt_natCast, BitVec.toNat_ofNat]; exact Nat.mod_eq_of_lt (by omega)
  show IntKind.i64.wrap ((BitVec.ofInt 64 (a : Int) ^^^ BitVec.ofInt 64 (b : Int)).toNat : Int) = _
  rw [BitVec.toNat_xor, h1, h2, IntKind.wrap_i64]
  omega

theorem Rd.next {w : World} {rb : Nat} {A : Option Addr} {n c p : Nat} (h : Rd w rb A n c p) : Rd (w.setCell ⟨rb, 1, none⟩ (.int .i64 ((p : Int) + 1))) rb A n c (p + 1) ∧ Turn rb w (w.setCell ⟨rb, 1, none⟩ (.int .i64 ((p : Int) + 1))) := by
  have hb := h.box.set 1 (.int .i64 ((p : Int) + 1))
  simp only [List.setIfInBounds_toArray, List.set_cons_succ, List.set_cons_zero] at hb
  refine ⟨⟨by simpa using hb, fun k hk => ?_, h.few⟩, ⟨rfl, rfl, rfl, by simp, fun k hk => Below.heap_setCell _ _ _ _ hk⟩⟩
  obtain ⟨b, off, x, h1, h2, h3, h4⟩ := h.bytes k hk
  refine ⟨b, off, x, h1, h2, ?_, h4⟩
  rw [World.cell?_setCell_other]
  · exact h3
  · intro e
    injection e with e _
    omega

/-- what a pick gives -/
def Picked (rb : Nat) (A : Option Addr) (n c p : Nat) (m : Int) (w : World) (e : Ending) (w' : World) : Prop :=
  (∃ x : Nat, e = .returned (.int .i64 (x : Int)) ∧ (1 ≤ m → (x : Int) < m) ∧ (m < 1 → x = 0)) ∧ Rd w' rb A n c (p + 1) ∧ Turn rb w w'

theorem Turn.drew {g : Nat} {w w' : World} (h : Turn g w w') : Turn g w w'.drew := ⟨h.os, h.tape, h.output, h.size, h.block⟩
theorem BytesAt.later {w w' : World} {B : Nat} {A : Option Addr} {n : Nat} (h : BytesAt w B A n) (hb : Below B w w') : BytesAt w' B A n := fun k hk => by
  obtain ⟨b, off, x, h1, h2, h3, h4⟩ := h k hk
  exact ⟨b, off, x, h1, h2, (hb.cell (p := ⟨b, off + k, none⟩) h2).trans h3, h4⟩
theorem Rd.drew {w : World} {rb : Nat} {A : Option Addr} {n c p : Nat} (h : Rd w rb A n c p) : Rd w.drew rb A n c p := ⟨h.box, h.bytes, h.few⟩

set_option maxRecDepth 100000 in
set_option maxHeartbeats 4000000 in
theorem pick_any (rb : Nat) (A : Option Addr) (n c p : Nat) (m : Int) (w : World) (h : Rd w rb A n c p) (hp : p < 1000000) (hm : m ≤ 1000000) :
    Calls Try.prog 25 #[.pointer (some ⟨rb, 0, none⟩), .int .i64 m] w (Picked rb A n c p m w) := by
  have e0 := h.box.cell 0
  have e1 := h.box.cell 1
  have f1 := h.box.frozen 1
  simp at e0 e1
  have hn := h.few
  have hx := h.next
  have HX := hide hx
  have z0 := hx.1.box.cell 0
  have z1 := hx.1.box.cell 1
  have hby := hx.1.bytes
  simp at z0 z1
  have HB := hide hby
  clear h hx hby
  by_cases hm1 : m < 1
  · have hfin : Hid (Picked rb A n c p m w (.returned (.int .i64 0)) (w.setCell ⟨rb, 1, none⟩ (.int .i64 ((p : Int) + 1)))) := ⟨⟨0, rfl, fun h => by omega, fun _ => rfl⟩, HX.out⟩
    have t1 : decide (m < 1) = true := by simpa using hm1
    go_enter Try.func25, Try.ntmps25
    go_wp2
    go_ret
    exact hfin.out
  · have t1 : decide (m < 1) = false := by simpa using hm1
    by_cases hn0 : n = 0
    · subst hn0
      have hfin : Hid (Picked rb A 0 c p m w (.returned (.int .i64 0)) (w.setCell ⟨rb, 1, none⟩ (.int .i64 ((p : Int) + 1)))) := ⟨⟨0, rfl, fun h => by show (0 : Int) < m; omega, fun _ => rfl⟩, HX.out⟩
      go_enter Try.func25, Try.ntmps25
      go_wp2
      go_ret
      exact hfin.out
    · have hne : ((n : Int) == 0) = false := by simpa using hn0
      have hpn0 : (0 : Int) ≤ (p : Int) := by omega
      by_cases hpn : p < n
      · obtain ⟨b, off, x, rfl, hb, hc, hx⟩ := HB.out p hpn
        have hpn2 : (p : Int) < (n : Int) := by omega
        go_enter Try.func25, Try.ntmps25
        have hfin : Hid (Picked rb (some ⟨b, off, none⟩) n c p m w (.returned (.int .i64 ((x : Int) % m))) (w.setCell ⟨rb, 1, none⟩ (.int .i64 ((p : Int) + 1)))) := by
          have h1 := Int.emod_nonneg (x : Int) (show m ≠ 0 by omega)
          have h2 := Int.emod_lt_of_pos (x : Int) (show 0 < m by omega)
          obtain ⟨y, hy⟩ := Int.eq_ofNat_of_zero_le h1
          rw [hy] at h2 ⊢
          exact ⟨⟨y, rfl, fun _ => h2, fun h => by omega⟩, HX.out⟩
        go_wp2
        go_ret
        exact hfin.out
      · obtain ⟨j1, hj1, hj1n⟩ : ∃ j : Nat, (p : Int) % (n : Int) = (j : Int) ∧ j < n := ⟨p % n, by simp, Nat.mod_lt _ (by omega)⟩
        obtain ⟨j2, hj2, hj2n⟩ : ∃ j : Nat, ((p : Int) * 7 + 3) % (n : Int) = (j : Int) ∧ j < n := ⟨(p * 7 + 3) % n, by simp, Nat.mod_lt _ (by omega)⟩
        obtain ⟨q, hq, hqp⟩ : ∃ q : Nat, (p : Int) / (n : Int) = (q : Int) ∧ q ≤ p := ⟨p / n, by simp, Nat.div_le_self _ _⟩
        obtain ⟨b, off, x1, rfl, hb, hc1, hx1⟩ := HB.out j1 hj1n
        obtain ⟨b', off', x2, he', _, hc2, hx2⟩ := HB.out j2 hj2n
        simp only [Option.some.injEq, Addr.mk.injEq, and_true] at he'
        obtain ⟨rfl, rfl⟩ := he'
        have hpn2 : (n : Int) ≤ (p : Int) := by omega
        have a1 : (0 : Int) ≤ (j1 : Int) := by omega
        have a2 : (j1 : Int) < (n : Int) := by omega
        have a3 : (0 : Int) ≤ (j2 : Int) := by omega
        have a4 : (j2 : Int) < (n : Int) := by omega
        go_enter Try.func25, Try.ntmps25
        go_wp2_with fail
        go_quiet (fail)
        obtain ⟨V, hV, hVl⟩ : ∃ V : Nat, (x1 : Int) * 131 + (x2 : Int) * 1117 + (p : Int) * 29 + (q : Int) * 53 = (V : Int) ∧ V < 4611686018427387904 := ⟨x1 * 131 + x2 * 1117 + p * 29 + q * 53, by simp, by omega⟩
        rw [hV]
        obtain ⟨D, hD, hDl⟩ : ∃ D : Nat, (V : Int) / 64 = (D : Int) ∧ D < 4611686018427387904 := ⟨V / 64, by simp, by omega⟩
        obtain ⟨Y, hY⟩ : ∃ Y : Nat, bits .xor .i64 (V : Int) (D : Int) = (Y : Int) := ⟨_, xor_i64 V D hVl hDl⟩
        have hfin : Hid (Picked rb (some ⟨b, off, none⟩) n c p m w (.returned (.int .i64 ((Y : Int) % m))) ((w.setCell ⟨rb, 1, none⟩ (.int .i64 ((p : Int) + 1))).drewN nq)) := by
          have h1 := Int.emod_nonneg (Y : Int) (show m ≠ 0 by omega)
          have h2 := Int.emod_lt_of_pos (Y : Int) (show 0 < m by omega)
          obtain ⟨y, hy⟩ := Int.eq_ofNat_of_zero_le h1
          rw [hy] at h2 ⊢
          exact ⟨⟨y, rfl, fun _ => h2, fun h => by omega⟩, ⟨HX.out.1.box, HX.out.1.bytes, HX.out.1.few⟩, ⟨HX.out.2.os, HX.out.2.tape, HX.out.2.output, HX.out.2.size, HX.out.2.block⟩⟩
        have hY0 : (0 : Int) ≤ (Y : Int) := by omega
        generalize (w.setCell ⟨rb, 1, none⟩ (.int .i64 ((p : Int) + 1))).drewN nq = X at hfin ⊢
        go_wp2
        go_ret
        exact hfin.out

end Go.Proofs.Ytkgnijbdbkopkab

namespace Go.Proofs.Ytkgnijbdbkopkab

/-- the value of a node -/
def valueOf (ns : List Nd) (x : Int) : Int := ((ns[x.toNat]?).map Nd.value).getD 0
theorem valueOf_at {ns : List Nd} {k : Nat} {n : Nd} (h : ns[k]? = some n) : valueOf ns (k : Int) = n.value := by
  unfold valueOf
  rw [Int.toNat_natCast, h]; rfl

/-- what was written, and what was met -/
abbrev CM := List Int × List Int

/-- what is written and met behind the first visit of x -/
def codPut (ns : List Nd) (x : Int) (p : CM) : CM :=
  (p.1 ++ [kindOf ns x, valueOf ns x, ((kidsOf ns x).length : Int)], if kindOf ns x = 0 then p.2 else p.2 ++ [x])

def cod (ns : List Nd) : Nat → Int → CM → CM
  | 0, _, p => p
  | f + 1, x, p => if x ∈ p.2 then (p.1 ++ [-1, place p.2 x], p.2) else (kidsOf ns x).foldl (fun q k => cod ns f k q) (codPut ns x p)

def codL (ns : List Nd) (f : Nat) (xs : List Int) (p : CM) : CM := xs.foldl (fun q k => cod ns f k q) p

theorem cod_seen {ns : List Nd} {f : Nat} {x : Int} {p : CM} (h : x ∈ p.2) : cod ns (f + 1) x p = (p.1 ++ [-1, place p.2 x], p.2) := by
  rw [cod, if_pos h]
theorem cod_new {ns : List Nd} {f : Nat} {x : Int} {p : CM} (h : x ∉ p.2) : cod ns (f + 1) x p = codL ns f (kidsOf ns x) (codPut ns x p) := by
  rw [cod, if_neg h]; rfl
theorem codL_nil (ns : List Nd) (f : Nat) (p : CM) : codL ns f [] p = p := rfl
theorem codL_snoc (ns : List Nd) (f : Nat) (xs : List Int) (x : Int) (p : CM) : codL ns f (xs ++ [x]) p = cod ns f x (codL ns f xs p) := by
  simp [codL]

/-- what the walk may rely on: kids are nodes, at most K of them, and numbers have none -/
structure CodG (ns : List Nd) (K : Nat) : Prop where
  kin : KidsIn ns
  few : ∀ n ∈ ns, n.kids.length ≤ K
  leaf : ∀ n ∈ ns, n.kind = 0 → n.kids = []
  wf : Wf ns

structure CInv (ns : List Nd) (p : CM) : Prop where
  met : Met ns p.2
  kinds : ∀ x ∈ p.2, kindOf ns x ≠ 0
  wf : ∀ x ∈ p.1, In64 x

structure Coded (ns : List Nd) (K n : Nat) (p q : CM) : Prop where
  inv : CInv ns q
  grow : p.2.length ≤ q.2.length
  len : q.1.length + 3 * (K * p.2.length) ≤ p.1.length + 3 * n + 3 * (K * q.2.length)

theorem CInv.seen {ns : List Nd} {p : CM} {x : Int} (h : CInv ns p) (hx : x ∈ p.2) (hl : ns.length ≤ 1048576) : CInv ns (p.1 ++ [-1, place p.2 x], p.2) := by
  refine ⟨h.met, h.kinds, fun y hy => ?_⟩
  rcases List.mem_append.1 hy with hy | hy
  · exact h.wf y hy
  · have h1 := place_lt hx
    have h2 := h.met.len
    simp at hy
    rcases hy with rfl | rfl <;> constructor <;> omega

theorem CInv.put {ns : List Nd} {K : Nat} {p : CM} {k : Nat} {n : Nd} (hg : CodG ns K) (h : CInv ns p) (hat : ns[k]? = some n) (hx : (k : Int) ∉ p.2) : CInv ns (codPut ns k p) := by
  have hmem := List.mem_of_getElem? hat
  obtain ⟨w1, w2, _, w4⟩ := hg.wf n hmem
  have hkl : k < ns.length := (List.getElem?_eq_some_iff.1 hat).1
  unfold codPut
  rw [kindOf_at hat, valueOf_at hat, kidsOf_at hat]
  refine ⟨?_, fun y hy => ?_, fun y hy => ?_⟩
  · show Met ns (if n.kind = 0 then p.2 else p.2 ++ [(k : Int)])
    split
    · exact h.met
    · exact h.met.snoc ⟨by omega, by omega⟩ hx
  · replace hy : y ∈ (if n.kind = 0 then p.2 else p.2 ++ [(k : Int)]) := hy
    split at hy
    · exact h.kinds y hy
    · rename_i hne
      rcases List.mem_append.1 hy with hy | hy
      · exact h.kinds y hy
      · simp at hy; subst hy; rw [kindOf_at hat]; exact hne
  · rcases List.mem_append.1 hy with hy | hy
    · exact h.wf y hy
    · simp at hy
      rcases hy with rfl | rfl | rfl
      · exact w1
      · exact w2
      · constructor <;> omega

theorem codedL (ns : List Nd) (K f : Nat) (ih : ∀ (x : Int) (p : CM), CInv ns p → 0 ≤ x → x < ns.length → ns.length < f + p.2.length → Coded ns K 1 p (cod ns f x p)) :
    ∀ (xs : List Int) (p : CM), CInv ns p → (∀ x ∈ xs, 0 ≤ x ∧ x < ns.length) → (xs ≠ [] → ns.length < f + p.2.length) → Coded ns K xs.length p (codL ns f xs p)
  | [], p, hp, _, _ => ⟨hp, Nat.le_refl _, by simp [codL]⟩
  | x :: xs, p, hp, hx, hf => by
    have h1 := ih x p hp (hx x (by simp)).1 (hx x (by simp)).2 (hf (by simp))
    have h2 := codedL ns K f ih xs (cod ns f x p) h1.inv (fun y hy => hx y (by simp [hy])) (fun _ => by have := h1.grow; have := hf (by simp); omega)
    have e : codL ns f (x :: xs) p = codL ns f xs (cod ns f x p) := rfl
    rw [e]
    refine ⟨h2.inv, Nat.le_trans h1.grow h2.grow, ?_⟩
    have a := h1.len
    have b := h2.len
    simp only [List.length_cons]
    omega

theorem coded (ns : List Nd) (K : Nat) (hg : CodG ns K) (hl : ns.length ≤ 1048576) : ∀ (f : Nat) (x : Int) (p : CM), CInv ns p → 0 ≤ x → x < ns.length → ns.length < f + p.2.length → Coded ns K 1 p (cod ns f x p)
  | 0, _, p, hp, _, _, hf => by have := hp.met.len; omega
  | f + 1, x, p, hp, h0, h1, hf => by
    obtain ⟨k, rfl⟩ := Int.eq_ofNat_of_zero_le h0
    have hat : ns[k]? = some ns[k] := List.getElem?_eq_getElem (by omega)
    by_cases hx : (k : Int) ∈ p.2
    · rw [cod_seen hx]
      refine ⟨hp.seen hx hl, Nat.le_refl _, ?_⟩
      simp
    · rw [cod_new hx]
      have hput := CInv.put hg hp hat hx
      generalize ns[k] = n at hat
      have hmem := List.mem_of_getElem? hat
      have hkf := hg.few n hmem
      have hlen : (codPut ns k p).1.length = p.1.length + 3 := by simp [codPut]
      have hkin : ∀ y ∈ kidsOf ns (k : Int), 0 ≤ y ∧ y < ns.length := hg.kin.of _
      by_cases hz : n.kind = 0
      · have hm : (codPut ns k p).2 = p.2 := by unfold codPut; rw [kindOf_at hat, if_pos hz]
        have hk0 : kidsOf ns (k : Int) = [] := by rw [kidsOf_at hat]; exact hg.leaf n hmem hz
        rw [hk0, codL_nil]
        exact ⟨hput, by rw [hm]; exact Nat.le_refl _, by rw [hm, hlen]; omega⟩
      · have hm : (codPut ns k p).2.length = p.2.length + 1 := by unfold codPut; rw [kindOf_at hat, if_neg hz]; simp
        have h := codedL ns K f (fun x p a b c d => coded ns K hg hl f x p a b c d) (kidsOf ns (k : Int)) (codPut ns k p) hput hkin (fun _ => by omega)
        refine ⟨h.inv, by have := h.grow; omega, ?_⟩
        have a := h.len
        rw [hm, hlen, Nat.mul_succ] at a
        rw [kidsOf_at hat] at a ⊢
        omega

theorem codedAll (ns : List Nd) (K : Nat) (hg : CodG ns K) (hl : ns.length ≤ 1048576) (f : Nat) (xs : List Int) (p : CM) (hp : CInv ns p) (hx : ∀ x ∈ xs, 0 ≤ x ∧ x < ns.length) (hf : xs ≠ [] → ns.length < f + p.2.length) : Coded ns K xs.length p (codL ns f xs p) :=
  codedL ns K f (fun x p a b c d => coded ns K hg hl f x p a b c d) xs p hp hx hf

theorem cod_bound {K N l q o z p k M : Nat} (hl : l ≤ N) (hq : q ≤ N) (h0 : o + 3 + 3 * (K * (N - l)) ≤ M) (hz : z = o + 3) (hp : p + 3 * (K * (l + 1)) ≤ z + 3 * k + 3 * (K * q)) (hk : k < K) :
    p + 3 + 3 * (K * (N - q)) ≤ M := by
  have e1 : K * (N - l) + K * l = K * N := by rw [← Nat.mul_add, Nat.sub_add_cancel hl]
  have e2 : K * (N - q) + K * q = K * N := by rw [← Nat.mul_add, Nat.sub_add_cancel hq]
  rw [Nat.mul_succ] at hp
  omega

end Go.Proofs.Ytkgnijbdbkopkab
