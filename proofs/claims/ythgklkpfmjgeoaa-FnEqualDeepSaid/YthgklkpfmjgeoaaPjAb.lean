/-
  Lemmas, several texts in one: Pick, Tup, Only, OwnN, Dfs.
-/
import Derived.Test.YthgklkpfmjgeoaaMem
import Derived.BigQuiet
import Derived.Laws.Bits64
import Derived.Test.YthgklkpfmjgeoaaPjAa
namespace Go.Proofs.Ythgklkpfmjgeoaa
open Go.RowKit
set_option linter.unusedVariables false

/-- the numbers of bytes in memory -/
def BytesAt (w : World) (B : Nat) (A : Option Addr) (n : Nat) : Prop := ∀ k, k < n → ∃ b off x : Nat, A = some ⟨b, off, none⟩ ∧ b < B ∧ w.cell? ⟨b, off + k, none⟩ = some (.int .u8 (x : Int)) ∧ x < 256

/-- a reader in memory: it has given p numbers -/
structure Rd (w : World) (rb : Nat) (A : Option Addr) (n c p : Nat) : Prop where
  box : Lies w rb #[.slice A n c, .int .i64 (p : Int)] 54
  bytes : BytesAt w rb A n
  few : n ≤ 2000

/-- nothing but one block has turned -/
structure Turn (g : Nat) (w w' : World) : Prop where
  os : w'.os = w.os
  tape : w'.tape = w.tape
  output : w'.output = w.output
  size : w'.heap.size = w.heap.size
  block : ∀ k, k ≠ g → w'.heap[k]? = w.heap[k]?

theorem xor_i64 (a b : Nat) (ha : a < 4611686018427387904) (hb : b < 4611686018427387904) : bits .xor .i64 (a : Int) (b : Int) = ((a ^^^ b : Nat) : Int) := by
  have hx : a ^^^ b < 2 ^ 62 := Nat.xor_lt_two_pow (by omega) (by omega)
  have h1 : (BitVec.ofInt 64 (a : Int)).toNat = a := by
    rw [BitVec.ofInt_natCast, BitVec.toNat_ofNat]; exact Nat.mod_eq_of_lt (by omega)
  have h2 : (BitVec.ofInt 64 (b : Int)).toNat = b := by
    rw [BitVec.ofInt_natCast, BitVec.toNat_ofNat]; exact Nat.mod_eq_of_lt (by omega)
  show IntKind.i64.wrap ((BitVec.ofInt 64 (a : Int) ^^^ BitVec.ofInt 64 (b : Int)).toNat : Int) = _
  rw [BitVec.toNat_xor, h1, h2, IntKind.wrap_i64]
  omega

theorem Rd.next {w : World} {rb : Nat} {A : Option Addr} {n c p : Nat} (h : Rd w rb A n c p) : Rd (w.setCell ⟨rb, 1, none⟩ (.int .i64 ((p : Int) + 1))) rb A n c (p + 1) ∧ Turn rb w (w.setCell ⟨rb, 1, none⟩ (.int .i64 ((p : Int) + 1))) := by
  have hb := h.box.set 1 (.int .i64 ((p : Int) + 1))
  simp only [List.setIfInBounds_toArray, List.set_cons_succ, List.set_cons_zero] at hb
  refine ⟨⟨by simpa using hb, fun k hk => ?_, h.few⟩, ⟨rfl, rfl, rfl, by simp, fun k hk => Below.heap_setCell _ _ _ _ hk⟩⟩
  obtain ⟨b, off, x, h1, h2, h3, h4⟩ := h.bytes k hk
  refine ⟨b, off, x, h1, h2, ?_, h4⟩
  rw [World.cell?_setCell_other]
  · exact h3
  · intro e
    injection e with e _
    omega

/-- what a pick gives -/
def Picked (rb : Nat) (A : Option Addr) (n c p : Nat) (m : Int) (w : World) (e : Ending) (w' : World) : Prop :=
  (∃ x : Nat, e = .returned (.int .i64 (x : Int)) ∧ (1 ≤ m → (x : Int) < m) ∧ (m < 1 → x = 0)) ∧ Rd w' rb A n c (p + 1) ∧ Turn rb w w'

theorem Turn.drew {g : Nat} {w w' : World} (h : Turn g w w') : Turn g w w'.drew := ⟨h.os, h.tape, h.output, h.size, h.block⟩
theorem BytesAt.later {w w' : World} {B : Nat} {A : Option Addr} {n : Nat} (h : BytesAt w B A n) (hb : Below B w w') : BytesAt w' B A n := fun k hk => by
  obtain ⟨b, off, x, h1, h2, h3, h4⟩ := h k hk
  exact ⟨b, off, x, h1, h2, (hb.cell (p := ⟨b, off + k, none⟩) h2).trans h3, h4⟩
theorem Rd.drew {w : World} {rb : Nat} {A : Option Addr} {n c p : Nat} (h : Rd w rb A n c p) : Rd w.drew rb A n c p := ⟨h.box, h.bytes, h.few⟩

set_option maxRecDepth 100000 in
set_option maxHeartbeats 4000000 in
theorem pick_any (rb : Nat) (A : Option Addr) (n c p : Nat) (m : Int) (w : World) (h : Rd w rb A n c p) (hp : p < 1000000) (hm : m ≤ 1000000) :
    Calls Try.prog 29 #[.pointer (some ⟨rb, 0, none⟩), .int .i64 m] w (Picked rb A n c p m w) := by
  have e0 := h.box.cell 0
  have e1 := h.box.cell 1
  have f1 := h.box.frozen 1
  simp at e0 e1
  have hn := h.few
  have hx := h.next
  have HX := hide hx
  have z0 := hx.1.box.cell 0
  have z1 := hx.1.box.cell 1
  have hby := hx.1.bytes
  simp at z0 z1
  have HB := hide hby
  clear h hx hby
  by_cases hm1 : m < 1
  · have hfin : Hid (Picked rb A n c p m w (.returned (.int .i64 0)) (w.setCell ⟨rb, 1, none⟩ (.int .i64 ((p : Int) + 1)))) := ⟨⟨0, rfl, fun h => by omega, fun _ => rfl⟩, HX.out⟩
    have t1 : decide (m < 1) = true := by simpa using hm1
    go_enter Try.func29, Try.ntmps29
    go_wp2
    go_ret
    exact hfin.out
  · have t1 : decide (m < 1) = false := by simpa using hm1
    by_cases hn0 : n = 0
    · subst hn0
      have hfin : Hid (Picked rb A 0 c p m w (.returned (.int .i64 0)) (w.setCell ⟨rb, 1, none⟩ (.int .i64 ((p : Int) + 1)))) := ⟨⟨0, rfl, fun h => by show (0 : Int) < m; omega, fun _ => rfl⟩, HX.out⟩
      go_enter Try.func29, Try.ntmps29
      go_wp2
      go_ret
      exact hfin.out
    · have hne : ((n : Int) == 0) = false := by simpa using hn0
      have hpn0 : (0 : Int) ≤ (p : Int) := by omega
      by_cases hpn : p < n
      · obtain ⟨b, off, x, rfl, hb, hc, hx⟩ := HB.out p hpn
        have hpn2 : (p : Int) < (n : Int) := by omega
        go_enter Try.func29, Try.ntmps29
        have hfin : Hid (Picked rb (some ⟨b, off, none⟩) n c p m w (.returned (.int .i64 ((x : Int) % m))) (w.setCell ⟨rb, 1, none⟩ (.int .i64 ((p : Int) + 1)))) := by
          have h1 := Int.emod_nonneg (x : Int) (show m ≠ 0 by omega)
          have h2 := Int.emod_lt_of_pos (x : Int) (show 0 < m by omega)
          obtain ⟨y, hy⟩ := Int.eq_ofNat_of_zero_le h1
          rw [hy] at h2 ⊢
          exact ⟨⟨y, rfl, fun _ => h2, fun h => by omega⟩, HX.out⟩
        go_wp2
        go_ret
        exact hfin.out
      · obtain ⟨j1, hj1, hj1n⟩ : ∃ j : Nat, (p : Int) % (n : Int) = (j : Int) ∧ j < n := ⟨p % n, by simp, Nat.mod_lt _ (by omega)⟩
        obtain ⟨j2, hj2, hj2n⟩ : ∃ j : Nat, ((p : Int) * 7 + 3) % (n : Int) = (j : Int) ∧ j < n := ⟨(p * 7 + 3) % n, by simp, Nat.mod_lt _ (by omega)⟩
        obtain ⟨q, hq, hqp⟩ : ∃ q : Nat, (p : Int) / (n : Int) = (q : Int) ∧ q ≤ p := ⟨p / n, by simp, Nat.div_le_self _ _⟩
        obtain ⟨b, off, x1, rfl, hb, hc1, hx1⟩ := HB.out j1 hj1n
        obtain ⟨b', off', x2, he', _, hc2, hx2⟩ := HB.out j2 hj2n
        simp only [Option.some.injEq, Addr.mk.injEq, and_true] at he'
        obtain ⟨rfl, rfl⟩ := he'
        have hpn2 : (n : Int) ≤ (p : Int) := by omega
        have a1 : (0 : Int) ≤ (j1 : Int) := by omega
        have a2 : (j1 : Int) < (n : Int) := by omega
        have a3 : (0 : Int) ≤ (j2 : Int) := by omega
        have a4 : (j2 : Int) < (n : Int) := by omega
        go_enter Try.func29, Try.ntmps29
        go_wp2_with fail
        go_quiet (fail)
        obtain ⟨V, hV, hVl⟩ : ∃ V : Nat, (x1 : Int) * 131 + (x2 : Int) * 1117 + (p : Int) * 29 + (q : Int) * 53 = (V : Int) ∧ V < 4611686018427387904 := ⟨x1 * 131 + x2 * 1117 + p * 29 + q * 53, by simp, by omega⟩
        rw [hV]
        obtain ⟨D, hD, hDl⟩ : ∃ D : Nat, (V : Int) / 64 = (D : Int) ∧ D < 4611686018427387904 := ⟨V / 64, by simp, by omega⟩
        obtain ⟨Y, hY⟩ : ∃ Y : Nat, bits .xor .i64 (V : Int) (D : Int) = (Y : Int) := ⟨_, xor_i64 V D hVl hDl⟩
        have hfin : Hid (Picked rb (some ⟨b, off, none⟩) n c p m w (.returned (.int .i64 ((Y : Int) % m))) ((w.setCell ⟨rb, 1, none⟩ (.int .i64 ((p : Int) + 1))).drewN nq)) := by
          have h1 := Int.emod_nonneg (Y : Int) (show m ≠ 0 by omega)
          have h2 := Int.emod_lt_of_pos (Y : Int) (show 0 < m by omega)
          obtain ⟨y, hy⟩ := Int.eq_ofNat_of_zero_le h1
          rw [hy] at h2 ⊢
          exact ⟨⟨y, rfl, fun _ => h2, fun h => by omega⟩, ⟨HX.out.1.box, HX.out.1.bytes, HX.out.1.few⟩, ⟨HX.out.2.os, HX.out.2.tape, HX.out.2.output, HX.out.2.size, HX.out.2.block⟩⟩
        have hY0 : (0 : Int) ≤ (Y : Int) := by omega
        generalize (w.setCell ⟨rb, 1, none⟩ (.int .i64 ((p : Int) + 1))).drewN nq = X at hfin ⊢
        go_wp2
        go_ret
        exact hfin.out

end Go.Proofs.Ythgklkpfmjgeoaa

namespace Go.Proofs.Ythgklkpfmjgeoaa

/-- a nodup list of numbers below N is no longer than N -/
theorem nodup_le : ∀ (N : Nat) (l : List Int), l.Nodup → (∀ x ∈ l, 0 ≤ x ∧ x < N) → l.length ≤ N
  | 0, l, _, h => by
    cases l with
    | nil => simp
    | cons x l => have := h x (by simp); omega
  | N + 1, l, hd, h => by
    have h1 : (l.erase (N : Int)).length ≤ N := nodup_le N _ (hd.erase _) (fun x hx => by
      have hx2 := (List.Nodup.mem_erase_iff hd).1 hx
      have := h x hx2.2
      have hne := hx2.1
      omega)
    have h2 := List.length_erase (a := (N : Int)) (l := l)
    split at h2 <;> omega

def kidsOf (ns : List Nd) (x : Int) : List Int := ((ns[x.toNat]?).map Nd.kids).getD []
def kindOf (ns : List Nd) (x : Int) : Int := ((ns[x.toNat]?).map Nd.kind).getD (-1)

theorem kidsOf_at {ns : List Nd} {k : Nat} {n : Nd} (h : ns[k]? = some n) : kidsOf ns (k : Int) = n.kids := by
  unfold kidsOf
  rw [Int.toNat_natCast, h]; rfl
theorem kindOf_at {ns : List Nd} {k : Nat} {n : Nd} (h : ns[k]? = some n) : kindOf ns (k : Int) = n.kind := by
  unfold kindOf
  rw [Int.toNat_natCast, h]; rfl

/-- ways from the node i over tuples -/
inductive TReach (ns : List Nd) (i : Int) : Int → Prop
  | kid (x : Int) : x ∈ kidsOf ns i → TReach ns i x
  | step (y x : Int) : TReach ns i y → kindOf ns y = 2 → x ∈ kidsOf ns y → TReach ns i x

/-- what the search has found when it has come to place k of its list -/
structure TInv (ns : List Nd) (i : Int) (out list : List Int) (k : Nat) : Prop where
  sound : ∀ x ∈ list, TReach ns i x
  range : ∀ x ∈ list, 0 ≤ x ∧ x < ns.length
  sub : ∀ x ∈ out, x ∈ list
  done : ∀ j x, j < k → list[j]? = some x → x ∈ out
  nodup : out.Nodup
  kids : ∀ x ∈ kidsOf ns i, x ∈ list
  closed : ∀ y ∈ out, kindOf ns y = 2 → ∀ x ∈ kidsOf ns y, x ∈ list
  len : list.length ≤ 6 * (1 + out.length)

theorem TInv.start {ns : List Nd} {i : Int} (h6 : (kidsOf ns i).length ≤ 6) (hr : ∀ x ∈ kidsOf ns i, 0 ≤ x ∧ x < ns.length) : TInv ns i [] (kidsOf ns i) 0 :=
  ⟨fun x hx => .kid x hx, hr, fun x hx => (by cases hx), fun j x hj => absurd hj (by omega), List.nodup_nil, fun x hx => hx, fun y hy => (by cases hy), by simp; omega⟩

theorem TInv.seen {ns : List Nd} {i : Int} {out list : List Int} {k : Nat} {x : Int} (h : TInv ns i out list k) (hx : list[k]? = some x) (hm : x ∈ out) : TInv ns i out list (k + 1) :=
  ⟨h.sound, h.range, h.sub, fun j y hj hy => by
    by_cases e : j = k
    · subst e; rw [hx] at hy; injection hy with hy; subst hy; exact hm
    · exact h.done j y (by omega) hy, h.nodup, h.kids, h.closed, h.len⟩

theorem TInv.outLen {ns : List Nd} {i : Int} {out list : List Int} {k : Nat} (h : TInv ns i out list k) : out.length ≤ ns.length :=
  nodup_le ns.length out h.nodup fun x hx => h.range x (h.sub x hx)

theorem TInv.listLen {ns : List Nd} {i : Int} {out list : List Int} {k : Nat} (h : TInv ns i out list k) (h12 : ns.length ≤ 12) : list.length ≤ 78 := by
  have := h.outLen
  have := h.len
  omega

theorem TInv.leaf {ns : List Nd} {i : Int} {out list : List Int} {k : Nat} {x : Int} (h : TInv ns i out list k) (hx : list[k]? = some x) (hm : x ∉ out) (hk : kindOf ns x ≠ 2) : TInv ns i (out ++ [x]) list (k + 1) := by
  have hmem : x ∈ list := List.mem_of_getElem? hx
  refine ⟨h.sound, h.range, fun y hy => ?_, fun j y hj hy => ?_, ?_, h.kids, fun y hy h2 z hz => ?_, ?_⟩
  · rcases List.mem_append.1 hy with hy | hy
    · exact h.sub y hy
    · simp at hy; subst hy; exact hmem
  · by_cases e : j = k
    · subst e; rw [hx] at hy; injection hy with hy; subst hy; simp
    · exact List.mem_append_left _ (h.done j y (by omega) hy)
  · rw [List.nodup_append]
    exact ⟨h.nodup, by simp, fun a ha b hb => by simp at hb; subst hb; intro e; subst e; exact hm ha⟩
  · rcases List.mem_append.1 hy with hy | hy
    · exact h.closed y hy h2 z hz
    · simp at hy; subst hy; exact absurd h2 hk
  · have := h.len
    simp only [List.length_append, List.length_singleton]
    omega

theorem TInv.tuple {ns : List Nd} {i : Int} {out list : List Int} {k : Nat} {x : Int} (h : TInv ns i out list k) (hx : list[k]? = some x) (hm : x ∉ out) (hk : kindOf ns x = 2) (h6 : (kidsOf ns x).length ≤ 6)
    (hr : ∀ z ∈ kidsOf ns x, 0 ≤ z ∧ z < ns.length) : TInv ns i (out ++ [x]) (list ++ kidsOf ns x) (k + 1) := by
  have hmem : x ∈ list := List.mem_of_getElem? hx
  have hkl : k < list.length := (List.getElem?_eq_some_iff.1 hx).1
  refine ⟨fun y hy => ?_, fun y hy => ?_, fun y hy => ?_, fun j y hj hy => ?_, ?_, fun y hy => List.mem_append_left _ (h.kids y hy), fun y hy h2 z hz => ?_, ?_⟩
  · rcases List.mem_append.1 hy with hy | hy
    · exact h.sound y hy
    · exact .step x y (h.sound x hmem) hk hy
  · rcases List.mem_append.1 hy with hy | hy
    · exact h.range y hy
    · exact hr y hy
  · rcases List.mem_append.1 hy with hy | hy
    · exact List.mem_append_left _ (h.sub y hy)
    · simp at hy; subst hy; exact List.mem_append_left _ hmem
  · rw [List.getElem?_append_left (by omega)] at hy
    by_cases e : j = k
    · subst e; rw [hx] at hy; injection hy with hy; subst hy; simp
    · exact List.mem_append_left _ (h.done j y (by omega) hy)
  · rw [List.nodup_append]
    exact ⟨h.nodup, by simp, fun a ha b hb => by simp at hb; subst hb; intro e; subst e; exact hm ha⟩
  · rcases List.mem_append.1 hy with hy | hy
    · exact List.mem_append_left _ (h.closed y hy h2 z hz)
    · simp at hy; subst hy; exact List.mem_append_right _ hz
  · have := h.len
    simp only [List.length_append, List.length_singleton]
    omega

theorem TInv.all {ns : List Nd} {i : Int} {out list : List Int} (h : TInv ns i out list list.length) (x : Int) : x ∈ out ↔ TReach ns i x := by
  have hall : ∀ y ∈ list, y ∈ out := fun y hy => by
    obtain ⟨j, hj, rfl⟩ := List.getElem_of_mem hy
    exact h.done j _ hj (List.getElem?_eq_getElem hj)
  constructor
  · exact fun hx => h.sound x (h.sub x hx)
  · intro hx
    induction hx with
    | kid x hx => exact hall x (h.kids x hx)
    | step y x _ h2 hx ih => exact hall x (h.closed y ih h2 x hx)

end Go.Proofs.Ythgklkpfmjgeoaa

namespace Go.Proofs.Ythgklkpfmjgeoaa
open Go.RowKit
set_option linter.unusedVariables false

/-- n numbers from k on -/
def marks (k : Int) (n : Nat) : List Int := (List.range n).map fun (i : Nat) => k + (i : Int)

theorem marks_len (k : Int) (n : Nat) : (marks k n).length = n := by simp [marks]
theorem marks_at {k : Int} {n j : Nat} (h : j < n) : (marks k n)[j]? = some (k + (j : Int)) := by
  simp [marks, h]

/-- but for blocks from lo on and below hi nothing has turned -/
structure Only (lo hi : Nat) (w w' : World) : Prop where
  os : w'.os = w.os
  tape : w'.tape = w.tape
  output : w'.output = w.output
  size : w'.heap.size = w.heap.size
  block : ∀ k, k < lo ∨ hi ≤ k → w'.heap[k]? = w.heap[k]?

theorem Only.refl (lo hi : Nat) (w : World) : Only lo hi w w := ⟨rfl, rfl, rfl, rfl, fun _ _ => rfl⟩
theorem Only.trans {lo hi : Nat} {a b c : World} (h : Only lo hi a b) (k : Only lo hi b c) : Only lo hi a c :=
  ⟨k.os.trans h.os, k.tape.trans h.tape, k.output.trans h.output, k.size.trans h.size, fun j hj => (k.block j hj).trans (h.block j hj)⟩
theorem Only.setCell {lo hi : Nat} {a w : World} (h : Only lo hi a w) {p : Addr} (h1 : lo ≤ p.block) (h2 : p.block < hi) (u : Value) : Only lo hi a (w.setCell p u) :=
  h.trans ⟨rfl, rfl, rfl, by simp, fun k hk => Below.heap_setCell _ _ _ _ (by omega)⟩
theorem Only.below {lo hi : Nat} {w w' : World} (h : Only lo hi w w') : Below lo w w' := ⟨h.os, h.tape, h.output, by rw [h.size]; exact Nat.le_refl _, fun k hk => h.block k (.inl hk)⟩
theorem Only.mono {lo hi lo' hi' : Nat} {w w' : World} (h : Only lo hi w w') (h1 : lo' ≤ lo) (h2 : hi ≤ hi') : Only lo' hi' w w' :=
  ⟨h.os, h.tape, h.output, h.size, fun k hk => h.block k (by omega)⟩

/-- an int slice in a row of the call's own keeps its numbers where the row is left alone -/
theorem OwnI.only {w w' : World} {base lo hi : Nat} {A : Option Addr} {c : Nat} {xs : List Int} (h : OwnI w base A c xs) (ho : Only lo hi w w') (hA : ∀ g, blockOf A = some g → g < lo ∨ hi ≤ g) : OwnI w' base A c xs := by
  refine ⟨h.own.1, ?_⟩
  rcases h.own.2 with h2 | ⟨g, cap, cur, hv, hg, hh, r⟩
  · exact .inl h2
  · refine .inr ⟨g, cap, cur, hv, hg, ?_, r⟩
    rw [ho.block g]
    · exact hh
    · apply hA g
      injection hv with hv
      rw [hv]
      rfl

/-- but for blocks from lo on and below hi, old memory is as it was -/
structure Save (lo hi : Nat) (w w' : World) : Prop where
  os : w'.os = w.os
  tape : w'.tape = w.tape
  output : w'.output = w.output
  size : w.heap.size ≤ w'.heap.size
  block : ∀ k, k < w.heap.size → k < lo ∨ hi ≤ k → w'.heap[k]? = w.heap[k]?

theorem Save.of_below {lo hi : Nat} {w w' : World} (h : Below w.heap.size w w') : Save lo hi w w' := ⟨h.os, h.tape, h.output, h.size, fun k hk _ => h.block k hk⟩
theorem Save.of_only {lo hi : Nat} {w w' : World} (h : Only lo hi w w') : Save lo hi w w' := ⟨h.os, h.tape, h.output, by rw [h.size]; exact Nat.le_refl _, fun k _ hk => h.block k hk⟩
theorem Save.trans {lo hi : Nat} {a b c : World} (h : Save lo hi a b) (k : Save lo hi b c) : Save lo hi a c :=
  ⟨k.os.trans h.os, k.tape.trans h.tape, k.output.trans h.output, Nat.le_trans h.size k.size, fun j hj hl => (k.block j (Nat.lt_of_lt_of_le hj h.size) hl).trans (h.block j hj hl)⟩
theorem Save.below {lo hi : Nat} {w w' : World} (h : Save lo hi w w') (hl : lo ≤ w.heap.size) : Below lo w w' := ⟨h.os, h.tape, h.output, h.size, fun k hk => h.block k (by omega) (.inl hk)⟩

theorem OwnI.save {w w' : World} {base lo hi : Nat} {A : Option Addr} {c : Nat} {xs : List Int} (h : OwnI w base A c xs) (ho : Save lo hi w w') (hA : ∀ g, blockOf A = some g → g < lo ∨ hi ≤ g) : OwnI w' base A c xs := by
  refine ⟨h.own.1, ?_⟩
  have hbl := h.blocks
  rcases h.own.2 with h2 | ⟨g, cap, cur, hv, hg, hh, r⟩
  · exact .inl h2
  · have hAg : blockOf A = some g := by
      injection hv with hv
      rw [hv]
      rfl
    refine .inr ⟨g, cap, cur, hv, hg, ?_, r⟩
    rw [ho.block g (hbl g hAg).2 (hA g hAg)]
    exact hh

end Go.Proofs.Ythgklkpfmjgeoaa

namespace Go.Proofs.Ythgklkpfmjgeoaa
open Go.RowKit
set_option linter.unusedVariables false

/-- the three cells of the node j in the row of the block g; its kids lie in a row of the call's own, in blocks from lo on and below hi -/
structure NdO (w : World) (lo hi g j : Nat) (n : Nd) : Prop where
  kind : w.cell? ⟨g, j * 3, none⟩ = some (.int .i64 n.kind)
  value : w.cell? ⟨g, j * 3 + 1, none⟩ = some (.int .i64 n.value)
  kids : ∃ A c, w.cell? ⟨g, j * 3 + 2, none⟩ = some (.slice A n.kids.length c) ∧ OwnI w lo A c n.kids ∧ ∀ b, blockOf A = some b → b < hi ∧ b ≠ g

structure OwnRow (w : World) (lo hi g cap : Nat) (ns : List Nd) : Prop where
  row : ∃ f, w.rowIs g 43 (cap * 3) f
  le : ns.length ≤ cap
  hlo : lo ≤ g
  hhi : g < hi
  nd : ∀ j n, ns[j]? = some n → NdO w lo hi g j n
  dis : ∀ (i j : Nat) (A A' : Option Addr) (n n' c c' : Nat), i ≠ j → i < ns.length → j < ns.length → w.cell? ⟨g, i * 3 + 2, none⟩ = some (.slice A n c) → w.cell? ⟨g, j * 3 + 2, none⟩ = some (.slice A' n' c') → ∀ b, blockOf A = some b → blockOf A' ≠ some b

/-- the slice value (A, length of ns, c) owns the nodes ns, all in blocks from lo on and below hi -/
def OwnNs (w : World) (lo hi : Nat) (A : Option Addr) (c : Nat) (ns : List Nd) : Prop :=
  (A = none ∧ c = 0 ∧ ns = []) ∨ ∃ g, A = some ⟨g, 0, none⟩ ∧ OwnRow w lo hi g c ns

/-- all numbers of nodes are ints -/
def WfN (ns : List Nd) : Prop := ∀ n ∈ ns, In64 n.kind ∧ In64 n.value ∧ (∀ x ∈ n.kids, In64 x) ∧ n.kids.length ≤ 9223372036854775807

theorem OwnI.of_blk {w w' : World} {base : Nat} {A : Option Addr} {c : Nat} {xs : List Int} (h : OwnI w base A c xs) (hA : ∀ g, blockOf A = some g → w'.heap[g]? = w.heap[g]?) : OwnI w' base A c xs := by
  refine ⟨h.own.1, ?_⟩
  rcases h.own.2 with h2 | ⟨g, cap, cur, hv, hg, hh, r⟩
  · exact .inl h2
  · refine .inr ⟨g, cap, cur, hv, hg, ?_, r⟩
    rw [hA g (by injection hv with hv; rw [hv]; rfl)]
    exact hh

theorem OwnRow.lt {w : World} {lo hi g cap : Nat} {ns : List Nd} (h : OwnRow w lo hi g cap ns) : g < w.heap.size := by
  obtain ⟨f, hf⟩ := h.row
  exact hf.lt

theorem OwnRow.nds {w : World} {lo hi g cap : Nat} {ns : List Nd} (h : OwnRow w lo hi g cap ns) (hwf : WfN ns) (hl : ns.length ≤ 9223372036854775807) : NdsAt w w.heap.size (some ⟨g, 0, none⟩) ns :=
  ⟨fun _ => ⟨g, 0, rfl, h.lt, fun j n hj => by
    have hn := h.nd j n hj
    obtain ⟨A, c, h1, h2, _⟩ := hn.kids
    obtain ⟨w1, w2, w3, w4⟩ := hwf n (List.mem_of_getElem? hj)
    rw [Nat.zero_add]
    exact ⟨hn.kind, hn.value, ⟨A, c, h1, h2.ints w3 w4, h2.nil⟩, w1, w2⟩⟩, hl⟩

theorem OwnNs.nds {w : World} {lo hi : Nat} {A : Option Addr} {c : Nat} {ns : List Nd} (h : OwnNs w lo hi A c ns) (hwf : WfN ns) (hl : ns.length ≤ 9223372036854775807) : NdsAt w w.heap.size A ns := by
  rcases h with ⟨rfl, _, rfl⟩ | ⟨g, rfl, h⟩
  · exact ⟨fun hx => absurd rfl hx, by simp⟩
  · exact h.nds hwf hl

/-- the blocks from lo on and below hi are as they were -/
theorem OwnRow.kept {w w' : World} {lo hi g cap : Nat} {ns : List Nd} (h : OwnRow w lo hi g cap ns) (hb : ∀ b, lo ≤ b → b < hi → w'.heap[b]? = w.heap[b]?) : OwnRow w' lo hi g cap ns := by
  have hg := hb g h.hlo h.hhi
  have hc : ∀ q, w'.cell? ⟨g, q, none⟩ = w.cell? ⟨g, q, none⟩ := fun q => World.cell?_of_block (w := w) hg
  obtain ⟨f, hf⟩ := h.row
  refine ⟨⟨f, hf.of_block hg⟩, h.le, h.hlo, h.hhi, fun j n hj => ?_, fun i j A A' n n' c c' hij hi hj h1 h2 => h.dis i j A A' n n' c c' hij hi hj ((hc _).symm.trans h1) ((hc _).symm.trans h2)⟩
  have hn := h.nd j n hj
  obtain ⟨A, c, h1, h2, h3⟩ := hn.kids
  exact ⟨(hc _).trans hn.kind, (hc _).trans hn.value, ⟨A, c, (hc _).trans h1, h2.of_blk (fun b hb' => hb b (h2.blocks b hb').1 (h3 b hb').1), h3⟩⟩

theorem OwnNs.kept {w w' : World} {lo hi : Nat} {A : Option Addr} {c : Nat} {ns : List Nd} (h : OwnNs w lo hi A c ns) (hb : ∀ b, lo ≤ b → b < hi → w'.heap[b]? = w.heap[b]?) : OwnNs w' lo hi A c ns := by
  rcases h with h | ⟨g, e, h⟩
  · exact .inl h
  · exact .inr ⟨g, e, h.kept hb⟩

theorem OwnNs.below {w w' : World} {lo hi B : Nat} {A : Option Addr} {c : Nat} {ns : List Nd} (h : OwnNs w lo hi A c ns) (hb : Below B w w') (hB : hi ≤ B) : OwnNs w' lo hi A c ns :=
  h.kept (fun b _ h2 => hb.block b (by omega))

theorem OwnNs.only {w w' : World} {lo hi l2 h2 : Nat} {A : Option Addr} {c : Nat} {ns : List Nd} (h : OwnNs w lo hi A c ns) (ho : Only l2 h2 w w') (hB : hi ≤ l2 ∨ h2 ≤ lo) : OwnNs w' lo hi A c ns :=
  h.kept (fun b h3 h4 => ho.block b (by omega))

/-- a node's kind and value are written -/
theorem OwnRow.set2 {w : World} {lo hi g cap j : Nat} {ns : List Nd} {n : Nd} (h : OwnRow w lo hi g cap ns) (hj : ns[j]? = some n) (a b : Int) :
    OwnRow ((w.setCell ⟨g, j * 3, none⟩ (.int .i64 a)).setCell ⟨g, j * 3 + 1, none⟩ (.int .i64 b)) lo hi g cap (ns.set j ⟨a, b, n.kids⟩) := by
  obtain ⟨f, hf⟩ := h.row
  have hjl := (List.getElem?_eq_some_iff.1 hj).1
  have hcap := h.le
  have hrow := (hf.set (j * 3) (.int .i64 a)).set (j * 3 + 1) (.int .i64 b)
  have hbl : ∀ q, q ≠ g → ((w.setCell ⟨g, j * 3, none⟩ (.int .i64 a)).setCell ⟨g, j * 3 + 1, none⟩ (.int .i64 b)).heap[q]? = w.heap[q]? := fun q hq => (Below.heap_setCell _ _ _ _ hq).trans (Below.heap_setCell _ _ _ _ hq)
  have hc : ∀ q, q ≠ j * 3 → q ≠ j * 3 + 1 → ((w.setCell ⟨g, j * 3, none⟩ (.int .i64 a)).setCell ⟨g, j * 3 + 1, none⟩ (.int .i64 b)).cell? ⟨g, q, none⟩ = w.cell? ⟨g, q, none⟩ := fun q h1 h2 => by
    rw [World.cell?_setCell_other, World.cell?_setCell_other] <;> (intro e; injection e with _ e; omega)
  refine ⟨⟨_, hrow⟩, by rw [List.length_set]; exact hcap, h.hlo, h.hhi, fun i m hi' => ?_, fun i k A A' n1 n2 c c' hik hi' hk h1 h2 => ?_⟩
  · rw [List.getElem?_set] at hi'
    by_cases e : j = i
    · subst e
      rw [if_pos rfl, if_pos hjl] at hi'
      injection hi' with hi'
      subst hi'
      obtain ⟨A, c, h1, h2, h3⟩ := (h.nd j n hj).kids
      have c0 := World.rowIs.cell hrow (i := j * 3) (by omega)
      have c1 := World.rowIs.cell hrow (i := j * 3 + 1) (by omega)
      simp at c0 c1
      exact ⟨c0, c1, ⟨A, c, (hc _ (by omega) (by omega)).trans h1, h2.of_blk (fun q hq => hbl q (h3 q hq).2), h3⟩⟩
    · rw [if_neg e] at hi'
      have hn := h.nd i m hi'
      obtain ⟨A, c, h1, h2, h3⟩ := hn.kids
      exact ⟨(hc _ (by omega) (by omega)).trans hn.kind, (hc _ (by omega) (by omega)).trans hn.value, ⟨A, c, (hc _ (by omega) (by omega)).trans h1, h2.of_blk (fun q hq => hbl q (h3 q hq).2), h3⟩⟩
  · rw [List.length_set] at hi' hk
    exact h.dis i k A A' n1 n2 c c' hik hi' hk ((hc _ (by omega) (by omega)).symm.trans h1) ((hc _ (by omega) (by omega)).symm.trans h2)

/-- the kids of a node are written, in the row where they lie -/
theorem OwnRow.setKids {w w' : World} {lo hi g cap j cj : Nat} {ns : List Nd} {n : Nd} {Aj : Option Addr} {ks : List Int} (h : OwnRow w lo hi g cap ns) (hj : ns[j]? = some n) (hcell : w.cell? ⟨g, j * 3 + 2, none⟩ = some (.slice Aj n.kids.length cj)) (hl : ks.length = n.kids.length)
    (hown : OwnI w' lo Aj cj ks) (hb : ∀ b, blockOf Aj ≠ some b → w'.heap[b]? = w.heap[b]?) :
    OwnRow w' lo hi g cap (ns.set j ⟨n.kind, n.value, ks⟩) := by
  obtain ⟨f, hf⟩ := h.row
  have hjl := (List.getElem?_eq_some_iff.1 hj).1
  obtain ⟨A, c, h1, h2, h3⟩ := (h.nd j n hj).kids
  rw [hcell] at h1
  injection h1 with h1
  injection h1 with e1 _ e2
  subst e1 e2
  have hg := hb g (fun e => (h3 g e).2 rfl)
  have hc : ∀ q, w'.cell? ⟨g, q, none⟩ = w.cell? ⟨g, q, none⟩ := fun q => World.cell?_of_block (w := w) hg
  refine ⟨⟨f, hf.of_block hg⟩, by rw [List.length_set]; exact h.le, h.hlo, h.hhi, fun i m hi' => ?_, fun i k A A' n1 n2 c c' hik hi' hk h1 h2 => ?_⟩
  · rw [List.getElem?_set] at hi'
    by_cases e : j = i
    · subst e
      rw [if_pos rfl, if_pos hjl] at hi'
      injection hi' with hi'
      subst hi'
      have hn := h.nd j n hj
      exact ⟨(hc _).trans hn.kind, (hc _).trans hn.value, ⟨Aj, cj, by rw [hl]; exact (hc _).trans hcell, hown, h3⟩⟩
    · rw [if_neg e] at hi'
      have hil := (List.getElem?_eq_some_iff.1 hi').1
      have hn := h.nd i m hi'
      obtain ⟨A2, c2, g1, g2, g3⟩ := hn.kids
      exact ⟨(hc _).trans hn.kind, (hc _).trans hn.value, ⟨A2, c2, (hc _).trans g1, g2.of_blk (fun q hq => hb q (h.dis i j A2 Aj _ _ _ _ (fun e2 => e e2.symm) hil hjl g1 hcell q hq)), g3⟩⟩
  · rw [List.length_set] at hi' hk
    exact h.dis i k A A' n1 n2 c c' hik hi' hk ((hc _).symm.trans h1) ((hc _).symm.trans h2)

end Go.Proofs.Ythgklkpfmjgeoaa

namespace Go.Proofs.Ythgklkpfmjgeoaa

/-- the walk from x, where the nodes of L have been met; only nodes that may be entered are met -/
def dfs (ns : List Nd) (ent : Int → Bool) : Nat → Int → List Int → List Int
  | 0, _, L => L
  | f + 1, x, L => if ent x = false ∨ x ∈ L then L else (kidsOf ns x).foldl (fun M k => dfs ns ent f k M) (L ++ [x])

def dfsL (ns : List Nd) (ent : Int → Bool) (f : Nat) (xs : List Int) (L : List Int) : List Int := xs.foldl (fun M k => dfs ns ent f k M) L

theorem dfs_stop {ns : List Nd} {ent : Int → Bool} {f : Nat} {x : Int} {L : List Int} (h : ent x = false ∨ x ∈ L) : dfs ns ent (f + 1) x L = L := by
  rw [dfs, if_pos h]

theorem dfs_go {ns : List Nd} {ent : Int → Bool} {f : Nat} {x : Int} {L : List Int} (h1 : ent x = true) (h2 : x ∉ L) : dfs ns ent (f + 1) x L = dfsL ns ent f (kidsOf ns x) (L ++ [x]) := by
  rw [dfs, if_neg (by simp [h1, h2])]
  rfl

theorem dfsL_nil (ns : List Nd) (ent : Int → Bool) (f : Nat) (L : List Int) : dfsL ns ent f [] L = L := rfl
theorem dfsL_cons (ns : List Nd) (ent : Int → Bool) (f : Nat) (x : Int) (xs L : List Int) : dfsL ns ent f (x :: xs) L = dfsL ns ent f xs (dfs ns ent f x L) := rfl
theorem dfsL_snoc (ns : List Nd) (ent : Int → Bool) (f : Nat) (xs : List Int) (x : Int) (L : List Int) : dfsL ns ent f (xs ++ [x]) L = dfs ns ent f x (dfsL ns ent f xs L) := by
  simp [dfsL]

/-- the kids of each node are nodes -/
def KidsIn (ns : List Nd) : Prop := ∀ n ∈ ns, ∀ x ∈ n.kids, 0 ≤ x ∧ x < ns.length

theorem KidsIn.of {ns : List Nd} (h : KidsIn ns) (x : Int) : ∀ k ∈ kidsOf ns x, 0 ≤ k ∧ k < ns.length := by
  intro k hk
  unfold kidsOf at hk
  cases hn : ns[x.toNat]? with
  | none => rw [hn] at hk; simp at hk
  | some n =>
    rw [hn] at hk
    exact h n (List.mem_of_getElem? hn) k (by simpa using hk)

/-- what has been met: different nodes -/
structure Met (ns : List Nd) (L : List Int) : Prop where
  nodup : L.Nodup
  range : ∀ x ∈ L, 0 ≤ x ∧ x < ns.length

theorem Met.nil (ns : List Nd) : Met ns [] := ⟨List.nodup_nil, fun x hx => by cases hx⟩
theorem Met.len {ns : List Nd} {L : List Int} (h : Met ns L) : L.length ≤ ns.length := nodup_le _ _ h.nodup h.range
theorem Met.snoc {ns : List Nd} {L : List Int} {x : Int} (h : Met ns L) (hx : 0 ≤ x ∧ x < ns.length) (hno : x ∉ L) : Met ns (L ++ [x]) := by
  refine ⟨?_, fun y hy => ?_⟩
  · rw [List.nodup_append]
    exact ⟨h.nodup, by simp, fun a ha b hb => by simp at hb; subst hb; intro e; subst e; exact hno ha⟩
  · rcases List.mem_append.1 hy with hy | hy
    · exact h.range y hy
    · simp at hy; subst hy; exact hx

/-- all that the walk gives -/
structure Walked (ns : List Nd) (ent : Int → Bool) (xs : List Int) (L R : List Int) : Prop where
  met : Met ns R
  sub : ∀ y ∈ L, y ∈ R
  len : L.length ≤ R.length
  starts : ∀ x ∈ xs, ent x = true → x ∈ R
  closed : ∀ y ∈ R, y ∉ L → ∀ k ∈ kidsOf ns y, ent k = true → k ∈ R
  from_ : ∀ y ∈ R, y ∈ L ∨ (ent y = true ∧ (y ∈ xs ∨ ∃ z ∈ R, z ∉ L ∧ y ∈ kidsOf ns z))

theorem walkedL (ns : List Nd) (ent : Int → Bool) (f : Nat)
    (ih : ∀ (x : Int) (L : List Int), Met ns L → 0 ≤ x → x < ns.length → ns.length < f + L.length → Walked ns ent [x] L (dfs ns ent f x L)) :
    ∀ (xs : List Int) (L : List Int), Met ns L → (∀ x ∈ xs, 0 ≤ x ∧ x < ns.length) → ns.length < f + L.length → Walked ns ent xs L (dfsL ns ent f xs L)
  | [], L, hL, _, _ => ⟨hL, fun y hy => hy, Nat.le_refl _, fun x hx => (by cases hx), fun y hy hno => absurd hy hno, fun y hy => .inl hy⟩
  | x :: xs, L, hL, hx, hf => by
    have h1 := ih x L hL (hx x (by simp)).1 (hx x (by simp)).2 hf
    have h2 := walkedL ns ent f ih xs (dfs ns ent f x L) h1.met (fun y hy => hx y (by simp [hy])) (by have := h1.len; omega)
    rw [dfsL_cons]
    refine ⟨h2.met, fun y hy => h2.sub y (h1.sub y hy), Nat.le_trans h1.len h2.len, fun y hy he => ?_, fun y hy hno k hk he => ?_, fun y hy => ?_⟩
    · rcases List.mem_cons.1 hy with rfl | hy
      · exact h2.sub _ (h1.starts _ (by simp) he)
      · exact h2.starts y hy he
    · by_cases hm : y ∈ dfs ns ent f x L
      · exact h2.sub _ (h1.closed y hm hno k hk he)
      · exact h2.closed y hy hm k hk he
    · rcases h2.from_ y hy with h | ⟨he, h | ⟨z, hz, hzn, hk⟩⟩
      · rcases h1.from_ y h with h | ⟨he, h | ⟨z, hz, hzn, hk⟩⟩
        · exact .inl h
        · exact .inr ⟨he, .inl (by simp at h; simp [h])⟩
        · exact .inr ⟨he, .inr ⟨z, h2.sub z hz, hzn, hk⟩⟩
      · exact .inr ⟨he, .inl (by simp [h])⟩
      · exact .inr ⟨he, .inr ⟨z, hz, fun h => hzn (h1.sub z h), hk⟩⟩

theorem walked (ns : List Nd) (ent : Int → Bool) (hk : KidsIn ns) : ∀ (f : Nat) (x : Int) (L : List Int), Met ns L → 0 ≤ x → x < ns.length → ns.length < f + L.length → Walked ns ent [x] L (dfs ns ent f x L)
  | 0, x, L, hL, _, _, hf => by have := hL.len; omega
  | f + 1, x, L, hL, h0, h1, hf => by
    by_cases hs : ent x = false ∨ x ∈ L
    · rw [dfs_stop hs]
      exact ⟨hL, fun y hy => hy, Nat.le_refl _, fun y hy he => by
        simp at hy
        subst hy
        rcases hs with h | h
        · rw [h] at he; cases he
        · exact h, fun y hy hno => absurd hy hno, fun y hy => .inl hy⟩
    · have he : ent x = true := by
        cases h : ent x
        · exact absurd (.inl h) hs
        · rfl
      have hno : x ∉ L := fun h => hs (.inr h)
      rw [dfs_go he hno]
      have h := walkedL ns ent f (walked ns ent hk f) (kidsOf ns x) (L ++ [x]) (hL.snoc ⟨h0, h1⟩ hno) (hk.of x) (by simp; omega)
      refine ⟨h.met, fun y hy => h.sub y (List.mem_append_left _ hy), by have := h.len; simp at this; omega, fun y hy _ => ?_, fun y hy hyn k hkk hek => ?_, fun y hy => ?_⟩
      · simp at hy
        subst hy
        exact h.sub y (by simp)
      · by_cases hyx : y = x
        · subst hyx
          exact h.starts k hkk hek
        · exact h.closed y hy (by simp [hyn, hyx]) k hkk hek
      · by_cases hyL : y ∈ L
        · exact .inl hyL
        · refine .inr ?_
          by_cases hyx : y = x
          · subst hyx
            exact ⟨he, .inl (by simp)⟩
          · rcases h.from_ y hy with hm | ⟨hey, hm | ⟨z, hz, hzn, hm⟩⟩
            · exact absurd hm (by simp [hyL, hyx])
            · exact ⟨hey, .inr ⟨x, h.sub x (by simp), hno, hm⟩⟩
            · exact ⟨hey, .inr ⟨z, hz, fun hzL => hzn (List.mem_append_left _ hzL), hm⟩⟩

/-- a walk over all of a list of starts -/
theorem walkedAll (ns : List Nd) (ent : Int → Bool) (hk : KidsIn ns) (xs L : List Int) (f : Nat) (hL : Met ns L) (hx : ∀ x ∈ xs, 0 ≤ x ∧ x < ns.length) (hf : ns.length < f + L.length) : Walked ns ent xs L (dfsL ns ent f xs L) :=
  walkedL ns ent f (walked ns ent hk f) xs L hL hx hf

theorem dfs_met (ns : List Nd) (ent : Int → Bool) (hk : KidsIn ns) : ∀ (f : Nat) (x : Int) (L : List Int), Met ns L → (0 ≤ x ∧ x < ns.length) → Met ns (dfs ns ent f x L)
  | 0, x, L, hL, _ => hL
  | f + 1, x, L, hL, hx => by
    by_cases hs : ent x = false ∨ x ∈ L
    · rw [dfs_stop hs]; exact hL
    · have he : ent x = true := by
        cases h : ent x
        · exact absurd (.inl h) hs
        · rfl
      have hno : x ∉ L := fun h => hs (.inr h)
      rw [dfs_go he hno]
      have hl : ∀ (xs M : List Int), Met ns M → (∀ y ∈ xs, 0 ≤ y ∧ y < ns.length) → Met ns (dfsL ns ent f xs M) := by
        intro xs
        induction xs with
        | nil => intro M hM _; exact hM
        | cons a xs ih => intro M hM hr; rw [dfsL_cons]; exact ih _ (dfs_met ns ent hk f a M hM (hr a (by simp))) (fun y hy => hr y (by simp [hy]))
      exact hl _ _ (hL.snoc hx hno) (hk.of x)

/-- the nodes that are tuples -/
def isTup (ns : List Nd) (x : Int) : Bool := kindOf ns x == 2

/-- a walk over tuples from a tuple's kids comes back to it just if a way over tuples does -/
theorem tuple_back (ns : List Nd) (hk : KidsIn ns) (i : Int) (h2 : kindOf ns i = 2) (f : Nat) (hf : ns.length < f) : i ∈ dfsL ns (isTup ns) f (kidsOf ns i) [] ↔ TReach ns i i := by
  have h := walkedAll ns (isTup ns) hk (kidsOf ns i) [] f (Met.nil ns) (hk.of i) (by simpa using hf)
  have hall : ∀ x, TReach ns i x → isTup ns x = true → x ∈ dfsL ns (isTup ns) f (kidsOf ns i) [] := by
    intro x hx
    induction hx with
    | kid x hx => exact fun he => h.starts x hx he
    | step y x _ hy2 hx ih => exact fun he => h.closed y (ih (by simp [isTup, hy2])) (by simp) x hx he
  constructor
  · intro hi
    have hs : ∀ (g : Nat) (xs L : List Int), Met ns L → (∀ x ∈ xs, 0 ≤ x ∧ x < ns.length) → (∀ x ∈ xs, TReach ns i x) → (∀ x ∈ L, TReach ns i x) → ∀ x ∈ dfsL ns (isTup ns) g xs L, TReach ns i x := by
      intro g
      induction g with
      | zero =>
        intro xs
        induction xs with
        | nil => intro L _ _ _ hL x hx; exact hL x hx
        | cons a xs ihx => intro L hM hr hxs hL x hx; exact ihx L hM (fun y hy => hr y (by simp [hy])) (fun y hy => hxs y (by simp [hy])) hL x hx
      | succ g ihg =>
        intro xs
        induction xs with
        | nil => intro L _ _ _ hL x hx; exact hL x hx
        | cons a xs ihx =>
          intro L hM hr hxs hL x hx
          rw [dfsL_cons] at hx
          by_cases hst : isTup ns a = false ∨ a ∈ L
          · rw [dfs_stop hst] at hx
            exact ihx L hM (fun y hy => hr y (by simp [hy])) (fun y hy => hxs y (by simp [hy])) hL x hx
          · have hea : isTup ns a = true := by
              cases hq : isTup ns a
              · exact absurd (.inl hq) hst
              · rfl
            have hna : a ∉ L := fun hq => hst (.inr hq)
            have hMa := hM.snoc (hr a (by simp)) hna
            have hsub : ∀ y ∈ dfs ns (isTup ns) (g + 1) a L, TReach ns i y := by
              rw [dfs_go hea hna]
              refine ihg (kidsOf ns a) (L ++ [a]) hMa (hk.of a) (fun y hy => .step a y (hxs a (by simp)) (by simpa [isTup] using hea) hy) (fun y hy => ?_)
              rcases List.mem_append.1 hy with hy | hy
              · exact hL y hy
              · simp at hy; subst hy; exact hxs y (by simp)
            by_cases hlen : ns.length < (g + 1) + L.length
            · have hw := walked ns (isTup ns) hk (g + 1) a L hM (hr a (by simp)).1 (hr a (by simp)).2 hlen
              exact ihx _ hw.met (fun y hy => hr y (by simp [hy])) (fun y hy => hxs y (by simp [hy])) hsub x hx
            · exact ihx _ (dfs_met ns (isTup ns) hk (g + 1) a L hM (hr a (by simp))) (fun y hy => hr y (by simp [hy])) (fun y hy => hxs y (by simp [hy])) hsub x hx
    exact hs f (kidsOf ns i) [] (Met.nil ns) (hk.of i) (fun x hx => .kid x hx) (fun x hx => by cases hx) i hi
  · intro ht
    exact hall i ht (by simp [isTup, h2])

end Go.Proofs.Ythgklkpfmjgeoaa
