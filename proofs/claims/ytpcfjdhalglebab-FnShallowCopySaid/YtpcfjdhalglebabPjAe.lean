/-
  Lemmas, several texts in one: RowN, Cod.
-/
import Derived.Test.YtpcfjdhalglebabPjAd
import Derived.Deep.AppendLies
import Derived.Test.YtpcfjdhalglebabDfs
namespace Go.Proofs.Ytpcfjdhalglebab
open Go.RowKit
set_option linter.unusedVariables false

/-- the three cells of a node in a list of cells; the kids lie in a row of their own -/
def CellsN (w : World) (base : Nat) (cs : List Value) (j : Nat) (n : Nd) : Prop :=
  ∃ (A : Option Addr) (c : Nat), cs[j * 3]? = some (.int .i64 n.kind) ∧ cs[j * 3 + 1]? = some (.int .i64 n.value) ∧ cs[j * 3 + 2]? = some (.slice A n.kids.length c) ∧ OwnI w base A c n.kids

/-- the slice (A, length of ns, c) is a row of the call's own that reads as ns -/
structure RowN (w : World) (base : Nat) (A : Option Addr) (c : Nat) (ns : List Nd) : Prop where
  row : ∃ cs, w.ownsRow base 33 3 (.slice A ns.length c) ns.length cs ∧ ∀ j n, ns[j]? = some n → CellsN w base cs j n

theorem RowN.nil (w : World) (base : Nat) : RowN w base none 0 [] := ⟨⟨[], World.ownsRow_nil _ _ _ _, fun j n h => by simp at h⟩⟩

theorem RowN.blocks {w : World} {base : Nat} {A : Option Addr} {c : Nat} {ns : List Nd} (h : RowN w base A c ns) : ∀ b, blockOf A = some b → base ≤ b ∧ b < w.heap.size := by
  obtain ⟨cs, h1, _⟩ := h.row
  exact fun b hb => World.ownsRow.lt h1 b (by rw [ownBlock_slice]; exact hb)

/-- a row of nodes and a row of ints are not the same block -/
theorem node_int_ne {w : World} {base base' n k size : Nat} {A A' : Option Addr} {c c' : Nat} {xs ys : List Value} (h : w.ownsRow base 33 3 (.slice A n c) n xs) (h' : w.ownsRow base' 3 size (.slice A' k c') k ys) : ∀ b, blockOf A = some b → blockOf A' ≠ some b := by
  intro b hb hb'
  rcases h.2 with ⟨h1, _⟩ | ⟨g, cap, cur, hv, _, hh, _⟩
  · injection h1 with h1 _ _
    rw [h1] at hb; cases hb
  · rcases h'.2 with ⟨h1', _⟩ | ⟨g', cap', cur', hv', _, hh', _⟩
    · injection h1' with h1' _ _
      rw [h1'] at hb'; cases hb'
    · injection hv with hv _ _
      injection hv' with hv' _ _
      subst hv hv'
      simp [blockOf] at hb hb'
      subst hb hb'
      rw [hh] at hh'
      injection hh' with hh'
      injection hh' with _ e _
      exact absurd e (by decide)

theorem RowN.below {w w' : World} {base : Nat} {A : Option Addr} {c : Nat} {ns : List Nd} (h : RowN w base A c ns) (hb : Below w.heap.size w w') : RowN w' base A c ns := by
  obtain ⟨cs, h1, h2⟩ := h.row
  refine ⟨⟨cs, h1.kept (grownBy_of_below hb) (by rw [ownBlock_slice]; cases blockOf A <;> simp), fun j n hj => ?_⟩⟩
  obtain ⟨A1, c1, a1, a2, a3, a4⟩ := h2 j n hj
  exact ⟨A1, c1, a1, a2, a3, a4.below hb⟩

theorem RowN.nds {w : World} {base : Nat} {A : Option Addr} {c : Nat} {ns : List Nd} (h : RowN w base A c ns) (hwf : WfN ns) (hl : ns.length ≤ 9223372036854775807) : NdsAt w w.heap.size A ns := by
  obtain ⟨cs, h1, h2⟩ := h.row
  refine ⟨fun hx => ?_, hl⟩
  rcases h1.2 with ⟨_, h3⟩ | ⟨g, cap, cur, hv, _, hh, _⟩
  · exact absurd (List.eq_nil_of_length_eq_zero h3) hx
  · injection hv with hv _ hc
    subst hv hc
    refine ⟨g, 0, rfl, lt_of_block hh, fun j n hj => ?_⟩
    have hjl := (List.getElem?_eq_some_iff.1 hj).1
    obtain ⟨A1, c1, a1, a2, a3, a4⟩ := h2 j n hj
    obtain ⟨w1, w2, w3, w4⟩ := hwf n (List.mem_of_getElem? hj)
    rw [Nat.zero_add]
    exact ⟨(h1.cellAt _ (by omega)).trans a1, (h1.cellAt _ (by omega)).trans a2, ⟨A1, c1, (h1.cellAt _ (by omega)).trans a3, a4.ints w3 w4, a4.nil⟩, w1, w2⟩

/-- append of one node with kids -/
theorem append_ndK {w : World} {ops : Array Oper} {rest : List Oper} {o : Oper} {a : Act} {Q : Exit → Act → World → Prop} (hgd : o.guard = none) (s x : Operand)
    (ho : o.op = .call { callee := .builtin .append, args := #[s, x], argTypes := #[23, 23] })
    (base : Nat) (An : Option Addr) (cn : Nat) (ns : List Nd) (hs : a.eval s = .slice An ns.length cn) (hrow : RowN w base An cn ns) (b : Nat) (n : Nd) (Ak : Option Addr) (ck : Nat) (t : TypeId) (hx : a.eval x = .slice (some ⟨b, 0, none⟩) 1 1)
    (hr : w.heap[b]? = some (.cells #[.int .i64 n.kind, .int .i64 n.value, .slice Ak n.kids.length ck] t (0, 0))) (hown : OwnI w base Ak ck n.kids) (hbase : base ≤ w.heap.size) (hn : ns.length ≤ 1000)
    (h : ∀ (A' : Option Addr) (c' : Nat) (w' : World), RowN w' base A' c' (ns ++ [n]) → w.grownBy w' (blockOf An) →
      wpList Try.prog ops Q rest (a.put o.dst (.slice A' (ns.length + 1) c')) w') : wpList Try.prog ops Q (o :: rest) a w := by
  obtain ⟨i0, hi, hz0, hz1, hz2⟩ := info_parts infoNdA
  obtain ⟨cs, h1, hcs⟩ := hrow.row
  have hlen := h1.1
  refine wpList_append_own_at w hgd s x 23 ho base 33 i0 _ 3 40 Try.underlying23 hi hz0 hz1 hz2 rfl (by omega) _ ns.length cs hs h1 ⟨b, 0, none⟩ 1 1 [.int .i64 n.kind, .int .i64 n.value, .slice Ak n.kids.length ck] hx (by simp) (World.news_of_block hr) (by
      intro u hu
      simp at hu
      rcases hu with rfl | rfl | rfl <;> rfl)
    (by unfold maxLen; omega) (by omega) hbase ?_
  intro v' w' h2 h3 _ h5
  rw [ownBlock_slice] at h3
  have h2' := h2
  rcases h2.2 with ⟨_, h6⟩ | ⟨g, cap, cur, rfl, hg, hh, r⟩
  · omega
  · refine h (some ⟨g, 0, none⟩) cap w' ⟨⟨_, by simpa using h2', fun j m hj => ?_⟩⟩ h3
    have hkeep : ∀ (A1 : Option Addr) (c1 : Nat) (ks : List Int), OwnI w base A1 c1 ks → OwnI w' base A1 c1 ks := fun A1 c1 ks ho => ho.kept h3 (by
      cases hA : blockOf A1 with
      | none => exact .inl rfl
      | some q => exact .inr (fun e => node_int_ne h1 ho.own q e.symm hA))
    rw [List.getElem?_append] at hj
    split at hj
    next hlt =>
      obtain ⟨A1, c1, a1, a2, a3, a4⟩ := hcs j m hj
      exact ⟨A1, c1, by rw [List.getElem?_append_left (by omega)]; exact a1, by rw [List.getElem?_append_left (by omega)]; exact a2, by rw [List.getElem?_append_left (by omega)]; exact a3, hkeep _ _ _ a4⟩
    next hlt =>
      have hjl := (List.getElem?_eq_some_iff.1 hj).1
      simp at hjl
      obtain rfl : j = ns.length := by omega
      simp at hj
      subst hj
      refine ⟨Ak, ck, ?_, ?_, ?_, hkeep _ _ _ hown⟩
      · rw [List.getElem?_append_right (by omega), hlen]; simp
      · rw [List.getElem?_append_right (by omega), hlen]; simp
      · rw [List.getElem?_append_right (by omega), hlen]; simp

end Go.Proofs.Ytpcfjdhalglebab

namespace Go.Proofs.Ytpcfjdhalglebab

/-- the value of a node -/
def valueOf (ns : List Nd) (x : Int) : Int := ((ns[x.toNat]?).map Nd.value).getD 0
theorem valueOf_at {ns : List Nd} {k : Nat} {n : Nd} (h : ns[k]? = some n) : valueOf ns (k : Int) = n.value := by
  unfold valueOf
  rw [Int.toNat_natCast, h]; rfl

/-- what was written, and what was met -/
abbrev CM := List Int × List Int

/-- what is written and met behind the first visit of x -/
def codPut (ns : List Nd) (x : Int) (p : CM) : CM :=
  (p.1 ++ [kindOf ns x, valueOf ns x, ((kidsOf ns x).length : Int)], if kindOf ns x = 0 then p.2 else p.2 ++ [x])

def cod (ns : List Nd) : Nat → Int → CM → CM
  | 0, _, p => p
  | f + 1, x, p => if x ∈ p.2 then (p.1 ++ [-1, place p.2 x], p.2) else (kidsOf ns x).foldl (fun q k => cod ns f k q) (codPut ns x p)

def codL (ns : List Nd) (f : Nat) (xs : List Int) (p : CM) : CM := xs.foldl (fun q k => cod ns f k q) p

theorem cod_seen {ns : List Nd} {f : Nat} {x : Int} {p : CM} (h : x ∈ p.2) : cod ns (f + 1) x p = (p.1 ++ [-1, place p.2 x], p.2) := by
  rw [cod, if_pos h]
theorem cod_new {ns : List Nd} {f : Nat} {x : Int} {p : CM} (h : x ∉ p.2) : cod ns (f + 1) x p = codL ns f (kidsOf ns x) (codPut ns x p) := by
  rw [cod, if_neg h]; rfl
theorem codL_nil (ns : List Nd) (f : Nat) (p : CM) : codL ns f [] p = p := rfl
theorem codL_snoc (ns : List Nd) (f : Nat) (xs : List Int) (x : Int) (p : CM) : codL ns f (xs ++ [x]) p = cod ns f x (codL ns f xs p) := by
  simp [codL]

/-- what the walk may rely on: kids are nodes, at most K of them, and numbers have none -/
structure CodG (ns : List Nd) (K : Nat) : Prop where
  kin : KidsIn ns
  few : ∀ n ∈ ns, n.kids.length ≤ K
  leaf : ∀ n ∈ ns, n.kind = 0 → n.kids = []
  wf : Wf ns

structure CInv (ns : List Nd) (p : CM) : Prop where
  met : Met ns p.2
  kinds : ∀ x ∈ p.2, kindOf ns x ≠ 0
  wf : ∀ x ∈ p.1, In64 x

structure Coded (ns : List Nd) (K n : Nat) (p q : CM) : Prop where
  inv : CInv ns q
  grow : p.2.length ≤ q.2.length
  len : q.1.length + 3 * (K * p.2.length) ≤ p.1.length + 3 * n + 3 * (K * q.2.length)

theorem CInv.seen {ns : List Nd} {p : CM} {x : Int} (h : CInv ns p) (hx : x ∈ p.2) (hl : ns.length ≤ 1048576) : CInv ns (p.1 ++ [-1, place p.2 x], p.2) := by
  refine ⟨h.met, h.kinds, fun y hy => ?_⟩
  rcases List.mem_append.1 hy with hy | hy
  · exact h.wf y hy
  · have h1 := place_lt hx
    have h2 := h.met.len
    simp at hy
    rcases hy with rfl | rfl <;> constructor <;> omega

theorem CInv.put {ns : List Nd} {K : Nat} {p : CM} {k : Nat} {n : Nd} (hg : CodG ns K) (h : CInv ns p) (hat : ns[k]? = some n) (hx : (k : Int) ∉ p.2) : CInv ns (codPut ns k p) := by
  have hmem := List.mem_of_getElem? hat
  obtain ⟨w1, w2, _, w4⟩ := hg.wf n hmem
  have hkl : k < ns.length := (List.getElem?_eq_some_iff.1 hat).1
  unfold codPut
  rw [kindOf_at hat, valueOf_at hat, kidsOf_at hat]
  refine ⟨?_, fun y hy => ?_, fun y hy => ?_⟩
  · show Met ns (if n.kind = 0 then p.2 else p.2 ++ [(k : Int)])
    split
    · exact h.met
    · exact h.met.snoc ⟨by omega, by omega⟩ hx
  · replace hy : y ∈ (if n.kind = 0 then p.2 else p.2 ++ [(k : Int)]) := hy
    split at hy
    · exact h.kinds y hy
    · rename_i hne
      rcases List.mem_append.1 hy with hy | hy
      · exact h.kinds y hy
      · simp at hy; subst hy; rw [kindOf_at hat]; exact hne
  · rcases List.mem_append.1 hy with hy | hy
    · exact h.wf y hy
    · simp at hy
      rcases hy with rfl | rfl | rfl
      · exact w1
      · exact w2
      · constructor <;> omega

theorem codedL (ns : List Nd) (K f : Nat) (ih : ∀ (x : Int) (p : CM), CInv ns p → 0 ≤ x → x < ns.length → ns.length < f + p.2.length → Coded ns K 1 p (cod ns f x p)) :
    ∀ (xs : List Int) (p : CM), CInv ns p → (∀ x ∈ xs, 0 ≤ x ∧ x < ns.length) → (xs ≠ [] → ns.length < f + p.2.length) → Coded ns K xs.length p (codL ns f xs p)
  | [], p, hp, _, _ => ⟨hp, Nat.le_refl _, by simp [codL]⟩
  | x :: xs, p, hp, hx, hf => by
    have h1 := ih x p hp (hx x (by simp)).1 (hx x (by simp)).2 (hf (by simp))
    have h2 := codedL ns K f ih xs (cod ns f x p) h1.inv (fun y hy => hx y (by simp [hy])) (fun _ => by have := h1.grow; have := hf (by simp); omega)
    have e : codL ns f (x :: xs) p = codL ns f xs (cod ns f x p) := rfl
    rw [e]
    refine ⟨h2.inv, Nat.le_trans h1.grow h2.grow, ?_⟩
    have a := h1.len
    have b := h2.len
    simp only [List.length_cons]
    omega

theorem coded (ns : List Nd) (K : Nat) (hg : CodG ns K) (hl : ns.length ≤ 1048576) : ∀ (f : Nat) (x : Int) (p : CM), CInv ns p → 0 ≤ x → x < ns.length → ns.length < f + p.2.length → Coded ns K 1 p (cod ns f x p)
  | 0, _, p, hp, _, _, hf => by have := hp.met.len; omega
  | f + 1, x, p, hp, h0, h1, hf => by
    obtain ⟨k, rfl⟩ := Int.eq_ofNat_of_zero_le h0
    have hat : ns[k]? = some ns[k] := List.getElem?_eq_getElem (by omega)
    by_cases hx : (k : Int) ∈ p.2
    · rw [cod_seen hx]
      refine ⟨hp.seen hx hl, Nat.le_refl _, ?_⟩
      simp
    · rw [cod_new hx]
      have hput := CInv.put hg hp hat hx
      generalize ns[k] = n at hat
      have hmem := List.mem_of_getElem? hat
      have hkf := hg.few n hmem
      have hlen : (codPut ns k p).1.length = p.1.length + 3 := by simp [codPut]
      have hkin : ∀ y ∈ kidsOf ns (k : Int), 0 ≤ y ∧ y < ns.length := hg.kin.of _
      by_cases hz : n.kind = 0
      · have hm : (codPut ns k p).2 = p.2 := by unfold codPut; rw [kindOf_at hat, if_pos hz]
        have hk0 : kidsOf ns (k : Int) = [] := by rw [kidsOf_at hat]; exact hg.leaf n hmem hz
        rw [hk0, codL_nil]
        exact ⟨hput, by rw [hm]; exact Nat.le_refl _, by rw [hm, hlen]; omega⟩
      · have hm : (codPut ns k p).2.length = p.2.length + 1 := by unfold codPut; rw [kindOf_at hat, if_neg hz]; simp
        have h := codedL ns K f (fun x p a b c d => coded ns K hg hl f x p a b c d) (kidsOf ns (k : Int)) (codPut ns k p) hput hkin (fun _ => by omega)
        refine ⟨h.inv, by have := h.grow; omega, ?_⟩
        have a := h.len
        rw [hm, hlen, Nat.mul_succ] at a
        rw [kidsOf_at hat] at a ⊢
        omega

theorem codedAll (ns : List Nd) (K : Nat) (hg : CodG ns K) (hl : ns.length ≤ 1048576) (f : Nat) (xs : List Int) (p : CM) (hp : CInv ns p) (hx : ∀ x ∈ xs, 0 ≤ x ∧ x < ns.length) (hf : xs ≠ [] → ns.length < f + p.2.length) : Coded ns K xs.length p (codL ns f xs p) :=
  codedL ns K f (fun x p a b c d => coded ns K hg hl f x p a b c d) xs p hp hx hf

theorem cod_bound {K N l q o z p k M : Nat} (hl : l ≤ N) (hq : q ≤ N) (h0 : o + 3 + 3 * (K * (N - l)) ≤ M) (hz : z = o + 3) (hp : p + 3 * (K * (l + 1)) ≤ z + 3 * k + 3 * (K * q)) (hk : k < K) :
    p + 3 + 3 * (K * (N - q)) ≤ M := by
  have e1 : K * (N - l) + K * l = K * N := by rw [← Nat.mul_add, Nat.sub_add_cancel hl]
  have e2 : K * (N - q) + K * q = K * N := by rw [← Nat.mul_add, Nat.sub_add_cancel hq]
  rw [Nat.mul_succ] at hp
  omega

end Go.Proofs.Ytpcfjdhalglebab
