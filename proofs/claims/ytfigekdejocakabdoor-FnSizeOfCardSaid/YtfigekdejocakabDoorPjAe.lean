/-
  Lemmas, several texts in one: Forms, Tup, OwnS, Only, ShpW, CutM, ImplO, HasA, ApA, EncI.
-/
import Derived.Test.YtfigekdejocakabDoorPjAa
import Derived.LaidMore
import Derived.Test.YtfigekdejocakabDoorPjAd
import Derived.Deep.RegionLaw
import Derived.Deep.AppendLies
import Derived.Test.YtfigekdejocakabDoorShpR
import Derived.Deep.RegionHeld
import Derived.Test.YtfigekdejocakabDoorPjAb
import Derived.Test.YtfigekdejocakabDoorPjAc
import Derived.Deep.QuietTactic
import Derived.BigQuiet
import Derived.Deep.LoopGhost
import Derived.Deep.Cut
namespace Go.Proofs.YtfigekdejocakabDoor
open Go.RowKit Go.ChangeShapes

/-- how many things an order of a code takes, -1 for all above a mark -/
def takesOf (c : Nat) : Int := [0, 0, 0, -1, 0, 1, 2, 0, 1, -1, 0, 2, -1, 0, 1, 0, 0, 1, -1, 0].getD c 0

/-- how many things an order of a code pushes -/
def pushesOf (c : Nat) : Int := [1, 1, 1, 1, 1, 1, 1, 1, 0, 0, 1, 0, 0, 1, 0, 0, 1, 0, 0, 0].getD c 0

/-- the cells of the table -/
structure FormsAt (w : World) (B : Nat) : Prop where
  lt : 0 < B
  takes : ∀ c : Nat, c < 20 → w.cell? ⟨0, c * 3, none⟩ = some (.int .i64 (takesOf c))
  pushes : ∀ c : Nat, c < 20 → w.cell? ⟨0, c * 3 + 1, none⟩ = some (.int .i64 (pushesOf c))
  arg : ∀ c : Nat, c < 20 → w.cell? ⟨0, c * 3 + 2, none⟩ = some (.int .i64 (argTop c))

theorem FormsAt.below {w w' : World} {B : Nat} (h : FormsAt w B) (hb : Below B w w') : FormsAt w' B :=
  ⟨h.lt, fun c hc => (hb.cell (p := ⟨0, c * 3, none⟩) h.lt).trans (h.takes c hc), fun c hc => (hb.cell (p := ⟨0, c * 3 + 1, none⟩) h.lt).trans (h.pushes c hc), fun c hc => (hb.cell (p := ⟨0, c * 3 + 2, none⟩) h.lt).trans (h.arg c hc)⟩

theorem FormsAt.more {w : World} {B B' : Nat} (h : FormsAt w B) (hB : B ≤ B') : FormsAt w B' := ⟨Nat.lt_of_lt_of_le h.lt hB, h.takes, h.pushes, h.arg⟩

theorem FormsAt.later {w w' : World} {B : Nat} (h : FormsAt w B) (hb : Below B w w') (hB : B ≤ w.heap.size) : FormsAt w' w'.heap.size :=
  (h.below hb).more (Nat.le_trans hB hb.size)

end Go.Proofs.YtfigekdejocakabDoor

namespace Go.Proofs.YtfigekdejocakabDoor

/-- a nodup list of numbers below N is no longer than N -/
theorem nodup_le : ∀ (N : Nat) (l : List Int), l.Nodup → (∀ x ∈ l, 0 ≤ x ∧ x < N) → l.length ≤ N
  | 0, l, _, h => by
    cases l with
    | nil => simp
    | cons x l => have := h x (by simp); omega
  | N + 1, l, hd, h => by
    have h1 : (l.erase (N : Int)).length ≤ N := nodup_le N _ (hd.erase _) (fun x hx => by
      have hx2 := (List.Nodup.mem_erase_iff hd).1 hx
      have := h x hx2.2
      have hne := hx2.1
      omega)
    have h2 := List.length_erase (a := (N : Int)) (l := l)
    split at h2 <;> omega

def kidsOf (ns : List Nd) (x : Int) : List Int := ((ns[x.toNat]?).map Nd.kids).getD []
def kindOf (ns : List Nd) (x : Int) : Int := ((ns[x.toNat]?).map Nd.kind).getD (-1)

theorem kidsOf_at {ns : List Nd} {k : Nat} {n : Nd} (h : ns[k]? = some n) : kidsOf ns (k : Int) = n.kids := by
  unfold kidsOf
  rw [Int.toNat_natCast, h]; rfl
theorem kindOf_at {ns : List Nd} {k : Nat} {n : Nd} (h : ns[k]? = some n) : kindOf ns (k : Int) = n.kind := by
  unfold kindOf
  rw [Int.toNat_natCast, h]; rfl

/-- ways from the node i over tuples -/
inductive TReach (ns : List Nd) (i : Int) : Int → Prop
  | kid (x : Int) : x ∈ kidsOf ns i → TReach ns i x
  | step (y x : Int) : TReach ns i y → kindOf ns y = 2 → x ∈ kidsOf ns y → TReach ns i x

/-- what the search has found when it has come to place k of its list -/
structure TInv (ns : List Nd) (i : Int) (out list : List Int) (k : Nat) : Prop where
  sound : ∀ x ∈ list, TReach ns i x
  range : ∀ x ∈ list, 0 ≤ x ∧ x < ns.length
  sub : ∀ x ∈ out, x ∈ list
  done : ∀ j x, j < k → list[j]? = some x → x ∈ out
  nodup : out.Nodup
  kids : ∀ x ∈ kidsOf ns i, x ∈ list
  closed : ∀ y ∈ out, kindOf ns y = 2 → ∀ x ∈ kidsOf ns y, x ∈ list
  len : list.length ≤ 6 * (1 + out.length)

theorem TInv.start {ns : List Nd} {i : Int} (h6 : (kidsOf ns i).length ≤ 6) (hr : ∀ x ∈ kidsOf ns i, 0 ≤ x ∧ x < ns.length) : TInv ns i [] (kidsOf ns i) 0 :=
  ⟨fun x hx => .kid x hx, hr, fun x hx => (by cases hx), fun j x hj => absurd hj (by omega), List.nodup_nil, fun x hx => hx, fun y hy => (by cases hy), by simp; omega⟩

theorem TInv.seen {ns : List Nd} {i : Int} {out list : List Int} {k : Nat} {x : Int} (h : TInv ns i out list k) (hx : list[k]? = some x) (hm : x ∈ out) : TInv ns i out list (k + 1) :=
  ⟨h.sound, h.range, h.sub, fun j y hj hy => by
    by_cases e : j = k
    · subst e; rw [hx] at hy; injection hy with hy; subst hy; exact hm
    · exact h.done j y (by omega) hy, h.nodup, h.kids, h.closed, h.len⟩

theorem TInv.outLen {ns : List Nd} {i : Int} {out list : List Int} {k : Nat} (h : TInv ns i out list k) : out.length ≤ ns.length :=
  nodup_le ns.length out h.nodup fun x hx => h.range x (h.sub x hx)

theorem TInv.listLen {ns : List Nd} {i : Int} {out list : List Int} {k : Nat} (h : TInv ns i out list k) (h12 : ns.length ≤ 12) : list.length ≤ 78 := by
  have := h.outLen
  have := h.len
  omega

theorem TInv.leaf {ns : List Nd} {i : Int} {out list : List Int} {k : Nat} {x : Int} (h : TInv ns i out list k) (hx : list[k]? = some x) (hm : x ∉ out) (hk : kindOf ns x ≠ 2) : TInv ns i (out ++ [x]) list (k + 1) := by
  have hmem : x ∈ list := List.mem_of_getElem? hx
  refine ⟨h.sound, h.range, fun y hy => ?_, fun j y hj hy => ?_, ?_, h.kids, fun y hy h2 z hz => ?_, ?_⟩
  · rcases List.mem_append.1 hy with hy | hy
    · exact h.sub y hy
    · simp at hy; subst hy; exact hmem
  · by_cases e : j = k
    · subst e; rw [hx] at hy; injection hy with hy; subst hy; simp
    · exact List.mem_append_left _ (h.done j y (by omega) hy)
  · rw [List.nodup_append]
    exact ⟨h.nodup, by simp, fun a ha b hb => by simp at hb; subst hb; intro e; subst e; exact hm ha⟩
  · rcases List.mem_append.1 hy with hy | hy
    · exact h.closed y hy h2 z hz
    · simp at hy; subst hy; exact absurd h2 hk
  · have := h.len
    simp only [List.length_append, List.length_singleton]
    omega

theorem TInv.tuple {ns : List Nd} {i : Int} {out list : List Int} {k : Nat} {x : Int} (h : TInv ns i out list k) (hx : list[k]? = some x) (hm : x ∉ out) (hk : kindOf ns x = 2) (h6 : (kidsOf ns x).length ≤ 6)
    (hr : ∀ z ∈ kidsOf ns x, 0 ≤ z ∧ z < ns.length) : TInv ns i (out ++ [x]) (list ++ kidsOf ns x) (k + 1) := by
  have hmem : x ∈ list := List.mem_of_getElem? hx
  have hkl : k < list.length := (List.getElem?_eq_some_iff.1 hx).1
  refine ⟨fun y hy => ?_, fun y hy => ?_, fun y hy => ?_, fun j y hj hy => ?_, ?_, fun y hy => List.mem_append_left _ (h.kids y hy), fun y hy h2 z hz => ?_, ?_⟩
  · rcases List.mem_append.1 hy with hy | hy
    · exact h.sound y hy
    · exact .step x y (h.sound x hmem) hk hy
  · rcases List.mem_append.1 hy with hy | hy
    · exact h.range y hy
    · exact hr y hy
  · rcases List.mem_append.1 hy with hy | hy
    · exact List.mem_append_left _ (h.sub y hy)
    · simp at hy; subst hy; exact List.mem_append_left _ hmem
  · rw [List.getElem?_append_left (by omega)] at hy
    by_cases e : j = k
    · subst e; rw [hx] at hy; injection hy with hy; subst hy; simp
    · exact List.mem_append_left _ (h.done j y (by omega) hy)
  · rw [List.nodup_append]
    exact ⟨h.nodup, by simp, fun a ha b hb => by simp at hb; subst hb; intro e; subst e; exact hm ha⟩
  · rcases List.mem_append.1 hy with hy | hy
    · exact List.mem_append_left _ (h.closed y hy h2 z hz)
    · simp at hy; subst hy; exact List.mem_append_right _ hz
  · have := h.len
    simp only [List.length_append, List.length_singleton]
    omega

theorem TInv.all {ns : List Nd} {i : Int} {out list : List Int} (h : TInv ns i out list list.length) (x : Int) : x ∈ out ↔ TReach ns i x := by
  have hall : ∀ y ∈ list, y ∈ out := fun y hy => by
    obtain ⟨j, hj, rfl⟩ := List.getElem_of_mem hy
    exact h.done j _ hj (List.getElem?_eq_getElem hj)
  constructor
  · exact fun hx => h.sound x (h.sub x hx)
  · intro hx
    induction hx with
    | kid x hx => exact hall x (h.kids x hx)
    | step y x _ h2 hx ih => exact hall x (h.closed y ih h2 x hx)

end Go.Proofs.YtfigekdejocakabDoor

namespace Go.Proofs.YtfigekdejocakabDoor
open Go.RowKit

theorem IntsAt.lit (w : World) (xs : List Int) (hx : ∀ x ∈ xs, In64 x) (hl : xs.length ≤ 1048576) : IntsAt (w.alloc (.cells (xs.map (Value.int .i64)).toArray 3)) (w.heap.size + 1) (some ⟨w.heap.size, 0, none⟩) xs := by
  refine ⟨fun _ => ⟨w.heap.size, 0, rfl, Nat.lt_succ_self _, fun j y hj => ?_⟩, hx, by omega⟩
  rw [(Lies.new w (xs.map (Value.int .i64)).toArray 3).cell]
  simp [hj]

theorem IntsAt.hold {w : World} {b : Nat} {cs : Array Value} {t : TypeId} (h : Lies w b cs t) (xs : List Int) (hc : cs = (xs.map (Value.int .i64)).toArray) (hx : ∀ x ∈ xs, In64 x) (hl : xs.length ≤ 1048576) : IntsAt w w.heap.size (some ⟨b, 0, none⟩) xs := by
  subst hc
  refine ⟨fun _ => ⟨b, 0, rfl, h.lt, fun j y hj => ?_⟩, hx, by omega⟩
  rw [h.cell]
  simp [hj]

/-- append(s, t...) in a statement that draws its order, where s is the call's own and t is an int slice that is not empty -/
theorem step_append_ints {w : World} {ops : Array Oper} {o : Oper} {a : Act} {K : Act → World → Prop} {Q : Exit → Act → World → Prop} {E : Prop} (hgd : o.guard = none) (s x : Operand)
    (ho : o.op = .call { callee := .builtin .append, args := #[s, x], argTypes := #[31, 31] })
    (base : Nat) (A : Option Addr) (c : Nat) (xs : List Int) (hs : a.eval s = .slice A xs.length c) (hown : OwnI w base A c xs)
    (ad : Addr) (c2 : Nat) (ys : List Int) (hne : ys ≠ []) (hx : a.eval x = .slice (some ad) ys.length c2) (hr : IntsAt w w.heap.size (some ad) ys)
    (hsum : xs.length + ys.length ≤ 16777216) (hbase : base ≤ w.heap.size)
    (h : ∀ (zs : List Int) (A' : Option Addr) (c' : Nat) (w' : World), Hid (zs = xs ++ ys) → OwnI w' base A' c' zs → w.grownBy w' (blockOf A) → (blockOf A' = blockOf A ∨ blockOf A' = some w.heap.size) →
      K (a.put o.dst (.slice A' zs.length c')) w') :
    if Region.wanted o (yielded ops a.tmps) = true then Oper.wp Tryd.prog o a w K Q else E := by
  obtain ⟨i0, hi, hz0, hz1, hz2⟩ := info_parts infoI
  have hcells : ∀ j u, (ys.map (Value.int .i64))[j]? = some u → w.cell? (ad.add j) = some u := by
    intro j u hu
    rw [List.getElem?_map] at hu
    cases hy : ys[j]? with
    | none => rw [hy] at hu; cases hu
    | some y =>
      rw [hy] at hu
      simp at hu
      subst hu
      obtain ⟨b, off, e2, _, hc⟩ := hr.row hne
      obtain rfl : ad = ⟨b, off, none⟩ := Option.some.inj e2
      have hadd : (⟨b, off, none⟩ : Addr).add j = ⟨b, off + j, none⟩ := by
        unfold Addr.add
        split
        · rename_i h0; subst h0; rfl
        · rfl
      rw [hadd]
      exact hc j y hy
  refine step_append_lies w hgd s x 31 ho base 3 i0 _ 1 8 Tryd.underlying31 hi hz0 hz1 hz2 rfl (by omega) _ _ _ hs hown.own ad ys.length c2 (ys.map (Value.int .i64)) hx (by simp) hcells (ints_one ys)
    (List.length_pos_iff.2 hne) (by unfold maxLen; omega) (by omega) hbase w.heap.size rfl ?_
  intro g cap w' h2 h3 h4 _
  have hlen : xs.length + ys.length = (xs ++ ys).length := by simp
  rw [ownBlock_slice] at h3 h4
  rw [← List.map_append, hlen] at h2
  rw [hlen]
  refine h (xs ++ ys) (some ⟨g, 0, none⟩) cap w' (by simp [Hid]) ⟨h2⟩ h3 ?_
  rcases h4 with h4 | h4
  · exact .inl (by rw [h4]; rfl)
  · exact .inr (by rw [h4]; rfl)

end Go.Proofs.YtfigekdejocakabDoor

namespace Go.Proofs.YtfigekdejocakabDoor
open Go.RowKit
set_option linter.unusedVariables false

/-- n numbers from k on -/
def marks (k : Int) (n : Nat) : List Int := (List.range n).map fun (i : Nat) => k + (i : Int)

theorem marks_len (k : Int) (n : Nat) : (marks k n).length = n := by simp [marks]
theorem marks_at {k : Int} {n j : Nat} (h : j < n) : (marks k n)[j]? = some (k + (j : Int)) := by
  simp [marks, h]

/-- but for blocks from lo on and below hi nothing has turned -/
structure Only (lo hi : Nat) (w w' : World) : Prop where
  os : w'.os = w.os
  tape : w'.tape = w.tape
  output : w'.output = w.output
  size : w'.heap.size = w.heap.size
  block : ∀ k, k < lo ∨ hi ≤ k → w'.heap[k]? = w.heap[k]?

theorem Only.refl (lo hi : Nat) (w : World) : Only lo hi w w := ⟨rfl, rfl, rfl, rfl, fun _ _ => rfl⟩
theorem Only.trans {lo hi : Nat} {a b c : World} (h : Only lo hi a b) (k : Only lo hi b c) : Only lo hi a c :=
  ⟨k.os.trans h.os, k.tape.trans h.tape, k.output.trans h.output, k.size.trans h.size, fun j hj => (k.block j hj).trans (h.block j hj)⟩
theorem Only.setCell {lo hi : Nat} {a w : World} (h : Only lo hi a w) {p : Addr} (h1 : lo ≤ p.block) (h2 : p.block < hi) (u : Value) : Only lo hi a (w.setCell p u) :=
  h.trans ⟨rfl, rfl, rfl, by simp, fun k hk => Below.heap_setCell _ _ _ _ (by omega)⟩
theorem Only.below {lo hi : Nat} {w w' : World} (h : Only lo hi w w') : Below lo w w' := ⟨h.os, h.tape, h.output, by rw [h.size]; exact Nat.le_refl _, fun k hk => h.block k (.inl hk)⟩
theorem Only.mono {lo hi lo' hi' : Nat} {w w' : World} (h : Only lo hi w w') (h1 : lo' ≤ lo) (h2 : hi ≤ hi') : Only lo' hi' w w' :=
  ⟨h.os, h.tape, h.output, h.size, fun k hk => h.block k (by omega)⟩

/-- an int slice in a row of the call's own keeps its numbers where the row is left alone -/
theorem OwnI.only {w w' : World} {base lo hi : Nat} {A : Option Addr} {c : Nat} {xs : List Int} (h : OwnI w base A c xs) (ho : Only lo hi w w') (hA : ∀ g, blockOf A = some g → g < lo ∨ hi ≤ g) : OwnI w' base A c xs := by
  refine ⟨h.own.1, ?_⟩
  rcases h.own.2 with h2 | ⟨g, cap, cur, hv, hg, hh, r⟩
  · exact .inl h2
  · refine .inr ⟨g, cap, cur, hv, hg, ?_, r⟩
    rw [ho.block g]
    · exact hh
    · apply hA g
      injection hv with hv
      rw [hv]
      rfl

/-- but for blocks from lo on and below hi, old memory is as it was -/
structure Save (lo hi : Nat) (w w' : World) : Prop where
  os : w'.os = w.os
  tape : w'.tape = w.tape
  output : w'.output = w.output
  size : w.heap.size ≤ w'.heap.size
  block : ∀ k, k < w.heap.size → k < lo ∨ hi ≤ k → w'.heap[k]? = w.heap[k]?

theorem Save.of_below {lo hi : Nat} {w w' : World} (h : Below w.heap.size w w') : Save lo hi w w' := ⟨h.os, h.tape, h.output, h.size, fun k hk _ => h.block k hk⟩
theorem Save.of_only {lo hi : Nat} {w w' : World} (h : Only lo hi w w') : Save lo hi w w' := ⟨h.os, h.tape, h.output, by rw [h.size]; exact Nat.le_refl _, fun k _ hk => h.block k hk⟩
theorem Save.trans {lo hi : Nat} {a b c : World} (h : Save lo hi a b) (k : Save lo hi b c) : Save lo hi a c :=
  ⟨k.os.trans h.os, k.tape.trans h.tape, k.output.trans h.output, Nat.le_trans h.size k.size, fun j hj hl => (k.block j (Nat.lt_of_lt_of_le hj h.size) hl).trans (h.block j hj hl)⟩
theorem Save.below {lo hi : Nat} {w w' : World} (h : Save lo hi w w') (hl : lo ≤ w.heap.size) : Below lo w w' := ⟨h.os, h.tape, h.output, h.size, fun k hk => h.block k (by omega) (.inl hk)⟩

theorem OwnI.save {w w' : World} {base lo hi : Nat} {A : Option Addr} {c : Nat} {xs : List Int} (h : OwnI w base A c xs) (ho : Save lo hi w w') (hA : ∀ g, blockOf A = some g → g < lo ∨ hi ≤ g) : OwnI w' base A c xs := by
  refine ⟨h.own.1, ?_⟩
  have hbl := h.blocks
  rcases h.own.2 with h2 | ⟨g, cap, cur, hv, hg, hh, r⟩
  · exact .inl h2
  · have hAg : blockOf A = some g := by
      injection hv with hv
      rw [hv]
      rfl
    refine .inr ⟨g, cap, cur, hv, hg, ?_, r⟩
    rw [ho.block g (hbl g hAg).2 (hA g hAg)]
    exact hh

end Go.Proofs.YtfigekdejocakabDoor

namespace Go.Proofs.YtfigekdejocakabDoor
open Go.RowKit
set_option linter.unusedVariables false

/-- an operation that only reads is taken first -/
theorem takeO {P : Program} {ops : Array Oper} {Q : Exit → Act → World → Prop} {md : Region.Mode} {S : World → Prop} (i d : Nat) {op ty pos af gd} {v : Value} {fuel : Nat} {listed : Array Bool} {a : Act} {w : World}
    (hi : ops[i]? = some { dst := some d, op := op, type := ty, pos := pos, after := af, guard := gd }) (hS : S w) (hs : Region.noSelect ops = true := by kernel_rfl) (hf : Region.free md ops listed i = true := by kernel_rfl) (hr : (Region.ready md ops listed).contains i = true := by kernel_rfl)
    (hw : Region.wanted { dst := some d, op := op, type := ty, pos := pos, after := af, guard := gd } (yielded ops a.tmps) = true := by rfl) (hQ : ∀ c a w, Q (.panic c) (a.put (some d) v) w → Q (.panic c) a w := by exact fun _ _ _ h => h)
    (hv : ∀ w, S w → (execOp a.eval { dst := some d, op := op, type := ty, pos := pos, after := af, guard := gd }).run P w = .ok (.value v) w) (h : wpAnyH P md ops Q S fuel (listed.setIfInBounds i true) (a.put (some d) v) w) : wpAnyH P md ops Q S (fuel + 1) listed a w :=
  wpAnyH_take hi hs hf hr hQ (.inl ⟨hw, hv⟩) hS h

/-- an operation whose guard is shut is taken first -/
theorem takeN {P : Program} {ops : Array Oper} {Q : Exit → Act → World → Prop} {md : Region.Mode} {S : World → Prop} (i d : Nat) {op ty pos af gd} {fuel : Nat} {listed : Array Bool} {a : Act} {w : World}
    (hi : ops[i]? = some { dst := some d, op := op, type := ty, pos := pos, after := af, guard := gd }) (hS : S w) (hs : Region.noSelect ops = true := by kernel_rfl) (hf : Region.free md ops listed i = true := by kernel_rfl) (hr : (Region.ready md ops listed).contains i = true := by kernel_rfl)
    (hw : Region.wanted { dst := some d, op := op, type := ty, pos := pos, after := af, guard := gd } (yielded ops a.tmps) = false := by rfl) (hQ : ∀ c a w, Q (.panic c) (a.put (some d) undef) w → Q (.panic c) a w := by exact fun _ _ _ h => h)
    (h : wpAnyH P md ops Q S fuel (listed.setIfInBounds i true) (a.put (some d) undef) w) : wpAnyH P md ops Q S (fuel + 1) listed a w :=
  wpAnyH_take hi hs hf hr hQ (.inr ⟨hw, rfl⟩) hS h

theorem Lies.five {w : World} {q : Nat} {v0 v1 v2 v3 v4 : Value} {t : TypeId} (h : Lies w q #[v0, v1, v2, v3, v4] t) : w.cell? ⟨q, 0, none⟩ = some v0 ∧ w.cell? ⟨q, 1, none⟩ = some v1 ∧ w.cell? ⟨q, 2, none⟩ = some v2 ∧ w.cell? ⟨q, 3, none⟩ = some v3 ∧ w.cell? ⟨q, 4, none⟩ = some v4 :=
  ⟨h.cell 0, h.cell 1, h.cell 2, h.cell 3, h.cell 4⟩
theorem Lies.zero {w : World} {q : Nat} {v0 v1 : Value} {t : TypeId} (h : Lies w q #[v0, v1] t) : w.cell? ⟨q, 0, none⟩ = some v0 := h.cell 0

/-- shapes in a box of which nothing is said but that they lie there -/
structure ShW (w0 w : World) (p0 : ShPtr) (B q q2 : Nat) (p : ShPtr) (s : Shp) : Prop where
  box : Lies w q (shCells p s) 55
  res : Lies w q2 zero5 55
  bel : Below B w0 w
  fr : FrSh w0 w p0
  ne : q ≠ q2
  hq2 : B ≤ q2
  sq2 : w0.heap.size ≤ q2

/-- the box is written anew, with what a call handed back -/
theorem ShSt.refillW {w0 X w5 : World} {base q q2 : Nat} {p p0 p5 : ShPtr} {s t : Shp} (h : ShSt w0 X p0 base base q q2 p s) (hb : Below base X w5) (hf : FrSh X w5 p) :
    Lies w5 q (shCells p s) 55 ∧ ShW w0 (set5 w5 q (.slice p5.K t.kinds.length p5.c1) (.slice p5.F t.full.length p5.c2) (.slice p5.S t.stack.length p5.c3) (.slice p5.M t.memo.length p5.c4) (.bool t.done)) p0 base q q2 p5 t := by
  have h1 : Lies w5 q (shCells p s) 55 := (hf q h.bx.box.lt h.bx.off).trans h.bx.box
  have h2 : Lies w5 q2 zero5 55 := (hf q2 h.res.lt h.off2).trans h.res
  have hs : w0.heap.size ≤ X.heap.size := by have := h.bx.box.lt; have := h.sq; omega
  refine ⟨h1, (Lies.set5 h1 _ _ _ _ _).2, (set5_block h.ne.symm).trans h2, set5_below (h.bel.trans hb) h.hq, fun k hk ho => ?_, h.ne, h.hq2, h.sq2⟩
  rw [set5_block (by have := h.sq; omega), hf k (by omega) (h.offs k hk ho)]
  exact h.fr k hk ho

theorem ShSt.refill {w0 X w5 : World} {base q q2 : Nat} {p p0 p5 : ShPtr} {s t : Shp} (h : ShSt w0 X p0 base base q q2 p s) (hb : Below base X w5) (hf : FrSh X w5 p) (ho : ShOwn w5 base p5 t) (hof : OffSh X p p5) :
    ShSt w0 (set5 w5 q (.slice p5.K t.kinds.length p5.c1) (.slice p5.F t.full.length p5.c2) (.slice p5.S t.stack.length p5.c3) (.slice p5.M t.memo.length p5.c4) (.bool t.done)) p0 base base q q2 p5 t := by
  have hW := (h.refillW (p5 := p5) (t := t) hb hf).2
  have hq : p5.Off q := hof q h.bx.box.lt h.bx.off
  have hs : w0.heap.size ≤ X.heap.size := by have := h.bx.box.lt; have := h.sq; omega
  have hz := hb.size
  have hB := h.hB
  exact ⟨⟨hW.box, ho.set5 hq, hq⟩, hW.res, hof q2 h.res.lt h.off2, hW.bel, h.ne, by rw [set5_size]; omega, h.hb, h.hq, h.hq2, hW.fr, fun k hk hk2 => hof k (by omega) (h.offs k hk hk2), h.sq, h.sq2⟩

theorem ShSt.toW {w0 w : World} {base q q2 : Nat} {p p0 : ShPtr} {s : Shp} (h : ShSt w0 w p0 base base q q2 p s) : ShW w0 w p0 base q q2 p s := ⟨h.bx.box, h.res, h.bel, h.fr, h.ne, h.hq2, h.sq2⟩

end Go.Proofs.YtfigekdejocakabDoor

namespace Go.Proofs.YtfigekdejocakabDoor
set_option linter.unusedVariables false

open Classical in
/-- what CutOps returns -/
noncomputable def cutOf (os : List Od) : List Od := if OpsOk os then os.take (runShp Shp.new os).2 else []
theorem cutOf_ok {os : List Od} (h : OpsOk os) : cutOf os = os.take (runShp Shp.new os).2 := by unfold cutOf; rw [if_pos h]
theorem cutOf_no {os : List Od} (h : ¬ OpsOk os) : cutOf os = [] := by unfold cutOf; rw [if_neg h]

theorem runNew_le {os : List Od} (h : ∀ o ∈ os, OdOk o) : (runShp Shp.new os).1.Ok ∧ (runShp Shp.new os).1.Fits ∧ (runShp Shp.new os).2 ≤ os.length :=
  runShp_ok Shp.new_ok ⟨by simp [Shp.new], by simp [Shp.new]⟩ (fun o ho => (h o ho).get)

theorem cutOf_few {os : List Od} : (cutOf os).length ≤ 300 := by
  by_cases h : OpsOk os
  · rw [cutOf_ok h]
    have := h.1
    simp only [List.length_take]
    omega
  · rw [cutOf_no h]; simp
theorem cutOf_mem {os : List Od} : ∀ o ∈ cutOf os, OdOk o := by
  by_cases h : OpsOk os
  · rw [cutOf_ok h]
    exact fun o ho => h.2 o (List.mem_of_mem_take ho)
  · rw [cutOf_no h]; intro o ho; cases ho

/-- how many marks are among the first k things of a stack -/
def negs (l : List Int) : Nat → Nat
  | 0 => 0
  | k + 1 => negs l k + (if l.getD k 0 < 0 then 1 else 0)
theorem negs_le (l : List Int) (k : Nat) : negs l k ≤ k := by
  induction k with
  | zero => exact Nat.le_refl _
  | succ k ih => unfold negs; split <;> omega

/-- how many things lie below the first mark -/
def free : List Int → Nat
  | [] => 0
  | x :: l => if 0 ≤ x then free l + 1 else 0
theorem free_le (l : List Int) : free l ≤ l.length := by
  induction l with
  | nil => exact Nat.le_refl _
  | cons x l ih => unfold free; split <;> simp only [List.length_cons] <;> omega
theorem free_at {l : List Int} {k : Nat} (h : k < free l) : 0 ≤ l.getD k 0 := by
  induction l generalizing k with
  | nil => simp [free] at h
  | cons x l ih =>
    unfold free at h
    split at h
    · cases k with
      | zero => simpa
      | succ k => simpa using ih (k := k) (by omega)
    · omega
theorem free_stop {l : List Int} (h : free l < l.length) : l.getD (free l) 0 < 0 := by
  induction l with
  | nil => simp at h
  | cons x l ih =>
    unfold free at h ⊢
    split
    · next hx =>
      rw [if_pos hx] at h
      simpa using ih (by simpa using h)
    · next hx => simp; omega

/-- the orders that end a program behind which things lie on the stack -/
def tailOps (l : List Int) : List Od :=
  List.replicate (negs l l.length) ⟨3, 0⟩ ++ List.replicate (free l + (if 0 < negs l l.length then 1 else 0) - 1) ⟨6, 0⟩ ++
    (if free l + (if 0 < negs l l.length then 1 else 0) = 0 then [⟨4, 0⟩] else []) ++ [⟨19, 0⟩]

theorem od_fix {c : Int} (h0 : 0 ≤ c) (h1 : c ≤ 19) (h : argMost c < 0) : OdOk ⟨c, 0⟩ := ⟨⟨h0, h1⟩, .inl ⟨h, rfl⟩⟩

theorem od_64 {o : Od} (h : OdOk o) : (-9223372036854775808 ≤ o.code ∧ o.code ≤ 9223372036854775807) ∧ (-9223372036854775808 ≤ o.arg ∧ o.arg ≤ 9223372036854775807) := by
  obtain ⟨h1, h2⟩ := h
  have := argMost_range o.code
  constructor <;> constructor <;> omega

theorem tailOps_mem (l : List Int) : ∀ o ∈ tailOps l, OdOk o := by
  have h3 : OdOk ⟨3, 0⟩ := od_fix (by omega) (by omega) (by simp [argMost])
  have h6 : OdOk ⟨6, 0⟩ := od_fix (by omega) (by omega) (by simp [argMost])
  have h4 : OdOk ⟨4, 0⟩ := od_fix (by omega) (by omega) (by simp [argMost])
  have h19 : OdOk ⟨19, 0⟩ := od_fix (by omega) (by omega) (by simp [argMost])
  intro o ho
  unfold tailOps at ho
  rcases List.mem_append.1 ho with ho | ho
  · rcases List.mem_append.1 ho with ho | ho
    · rcases List.mem_append.1 ho with ho | ho
      · rw [List.eq_of_mem_replicate ho]; exact h3
      · rw [List.eq_of_mem_replicate ho]; exact h6
    · by_cases hc : free l + (if 0 < negs l l.length then 1 else 0) = 0
      · rw [if_pos hc] at ho
        rw [List.mem_singleton.1 ho]; exact h4
      · rw [if_neg hc] at ho; cases ho
  · rw [List.mem_singleton.1 ho]; exact h19

theorem tail_a {st : List Int} {m k : Nat} (hm : m = negs st st.length) (hk : k = free st) (h0 : 0 < m) : tailOps st = (List.replicate m ⟨3, 0⟩ ++ List.replicate (k + 1 - 1) ⟨6, 0⟩) ++ [⟨19, 0⟩] := by
  unfold tailOps
  rw [← hm, ← hk, if_pos h0, if_neg (by omega), List.append_nil]
theorem tail_b {st : List Int} {m k : Nat} (hm : m = negs st st.length) (hk : k = free st) (h0 : ¬ 0 < m) (hk0 : ¬ k = 0) : tailOps st = (List.replicate m ⟨3, 0⟩ ++ List.replicate (k - 1) ⟨6, 0⟩) ++ [⟨19, 0⟩] := by
  unfold tailOps
  rw [← hm, ← hk, if_neg h0, if_neg (by omega), List.append_nil, Nat.add_zero]
theorem tail_c {st : List Int} {m : Nat} (hm : m = negs st st.length) (hk : 0 = free st) (h0 : ¬ 0 < m) : tailOps st = (List.replicate m ⟨3, 0⟩ ++ List.replicate (0 - 1) ⟨6, 0⟩ ++ [⟨4, 0⟩]) ++ [⟨19, 0⟩] := by
  unfold tailOps
  rw [← hm, ← hk, if_neg h0, if_pos (by omega), Nat.add_zero]

theorem tailOps_len (l : List Int) : (tailOps l).length ≤ 2 * l.length + 3 := by
  have h1 := negs_le l l.length
  have h2 := free_le l
  unfold tailOps
  simp only [List.length_append, List.length_replicate]
  split <;> split <;> simp <;> omega

open Classical in
/-- what EndOps returns -/
noncomputable def endOf (os : List Od) : Option (List Od) :=
  if OpsOk os then
    if (runShp Shp.new os).1.done = true then some []
    else if OpsOk (os.take (runShp Shp.new os).2 ++ tailOps (runShp Shp.new os).1.stack) ∧ (runShp Shp.new (os.take (runShp Shp.new os).2 ++ tailOps (runShp Shp.new os).1.stack)).2 = (os.take (runShp Shp.new os).2 ++ tailOps (runShp Shp.new os).1.stack).length then some (tailOps (runShp Shp.new os).1.stack)
    else none
  else none

end Go.Proofs.YtfigekdejocakabDoor

namespace Go.Proofs.YtfigekdejocakabDoor
open Go.RowKit
set_option linter.unusedVariables false

set_option maxRecDepth 100000 in
set_option maxHeartbeats 1000000 in
theorem implValidOps_any (A : Option Addr) (os : List Od) (c : Nat) (w : World) (h : OpsAt w w.heap.size A os) (hF : FormsAt w w.heap.size) :
    Calls Tryd.prog 9 #[.slice A os.length c] w fun e w' => e = .returned (.bool (tf (OpsOk os))) ∧ Below w.heap.size w w' := by
  have hl := h.len
  by_cases h3 : os.length ≤ 300
  · have t3 : decide ((300 : Int) < (os.length : Int)) = false := by simp; omega
    go_enter Tryd.func9, Tryd.ntmps9
    go_wp2_with fail
    go_loopw [10] (fun i wr => ∃ k : Nat, k ≤ os.length ∧ i = .int .i64 k ∧ Below w.heap.size w wr ∧ ∀ j x, j < k → os[j]? = some x → OdOk x) (fun i _ => os.length - (intOf i).toNat)
    case atStart => exact ⟨0, Nat.zero_le _, rfl, Below.refl _ _, fun j _ hj => absurd hj (by omega)⟩
    case round =>
      obtain ⟨k, hk, rfl, hb, he0⟩ := hrel
      have he := hide he0
      clear he0
      by_cases hlt : k < os.length
      · obtain ⟨b, off, x, rfl, hbl, hx, hmem, hc0, hc1⟩ := (h.below hb).at_ hlt
        have Hx := hide hx
        clear hx
        have hFr := hF.below hb
        have hb2 : Below w.heap.size w (wr.alloc (.cells #[.int .i64 x.code, .int .i64 x.arg] 40)) := hb.alloc hb.size _
        have lx := Lies.new wr #[.int .i64 x.code, .int .i64 x.arg] 40
        have hF2 := hF.below hb2
        clear hFr
        go_wp2_with fail
        generalize wr.alloc (.cells #[.int .i64 x.code, .int .i64 x.arg] 40) = w2 at hb2 lx hF2 ⊢
        have x0 := lx.cell 0
        have x1 := lx.cell 1
        simp at x0 x1
        by_cases hc : 0 ≤ x.code ∧ x.code ≤ 19
        · have u1 := upB_yes hc
          obtain ⟨m, hm⟩ := Int.eq_ofNat_of_zero_le hc.1
          have hm19 : m < 20 := by omega
          have harg := hF2.arg m hm19
          have hi1 : (0 : Int) ≤ x.code := hc.1
          have hi2 : x.code < 20 := by omega
          have hmn : x.code.toNat = m := by omega
          rw [← hm, ← hmn] at harg
          by_cases ha : 0 ≤ x.arg ∧ x.arg ≤ argTop x.code
          · have u2 := upB_yes ha
            have He : Hid (∀ j y, j < k + 1 → os[j]? = some y → OdOk y) := by
              intro j y hj hy
              by_cases e : j = k
              · subst e
                obtain rfl := Option.some.inj (Hx.out.symm.trans hy)
                exact (OdOk.iff _).2 ⟨hc, ha⟩
              · exact he.out j y (by omega) hy
            generalize argTop x.code = T at harg u2
            clear he hmem hm hmn ha hc hF2 lx
            go_quiet ((go_at_call 19; exact Calls.quiet_of_same (isUpTo_q _ _ _)))
            go_wp2
            go_roundw
            case rel => exact ⟨k + 1, by omega, by go_num, below_drewN hb2 _, He.out⟩
            case measure => simp [intOf]; omega
          · have u2 := upB_no ha
            have HF := hide (show tf (OpsOk os) = false from tf_false fun hall => ha ((OdOk.iff _).1 (hall.2 x hmem)).2)
            generalize argTop x.code = T at harg u2
            clear he hmem hm hmn ha hc hF2 lx
            go_quiet ((go_at_call 19; exact Calls.quiet_of_same (isUpTo_q _ _ _)))
            go_wp2
            go_ret
            exact ⟨ret_bool HF.out.symm, below_drewN hb2 _⟩
        · have u1 := upB_no hc
          have HF := hide (show tf (OpsOk os) = false from tf_false fun hall => hc (hall.2 x hmem).1)
          clear he hmem hc hF2 lx
          go_quiet ((go_at_call 19; exact Calls.quiet_of_same (isUpTo_q _ _ _)))
          go_wp2
          go_ret
          exact ⟨ret_bool HF.out.symm, below_drewN hb2 _⟩
      · obtain rfl : k = os.length := by omega
        have HF := hide (show tf (OpsOk os) = true from tf_true ⟨h3, fun x hx => by
          obtain ⟨j, hj, rfl⟩ := List.getElem_of_mem hx
          exact he.out j _ hj (List.getElem?_eq_getElem hj)⟩)
        clear hlt
        go_wp2
        go_ret
        exact ⟨ret_bool HF.out.symm, hb⟩
  · have t3 : decide ((300 : Int) < (os.length : Int)) = true := by simp; omega
    have HF := hide (show tf (OpsOk os) = false from tf_false fun hh => h3 hh.1)
    clear h3
    go_enter Tryd.func9, Tryd.ntmps9
    go_wp2
    go_ret
    exact ⟨ret_bool HF.out.symm, Below.refl _ _⟩

end Go.Proofs.YtfigekdejocakabDoor

namespace Go.Proofs.YtfigekdejocakabDoor
open Go.RowKit
set_option linter.unusedVariables false

set_option maxHeartbeats 1000000 in
theorem hasArg_yes (c : Int) (w : World) (hF : FormsAt w w.heap.size) (h1 : 0 ≤ c) (h2 : c < 20) (ha : ¬ argMost c < 0) :
    Calls Tryd.prog 20 #[.int .i64 c] w fun e w' => e = .returned (.bool true) ∧ w = w' := by
  obtain ⟨m, rfl⟩ := Int.eq_ofNat_of_zero_le h1
  have hm : m < 20 := by omega
  have hc := hF.arg m hm
  have ht : 0 < argTop (m : Int) := by
    unfold argTop
    rw [if_neg ha]
    unfold argMost at ha ⊢
    repeat' split
    all_goals first | omega | (exfalso; simp_all)
  have hr := argTop_range (m : Int)
  generalize argTop (m : Int) = T at hc ht hr
  have d : decide (0 < T) = true := by simpa using ht
  clear ha
  go_enter Tryd.func20, Tryd.ntmps20
  go_wp2
  go_ret
  exact ⟨rfl, rfl⟩

set_option maxHeartbeats 1000000 in
theorem hasArg_no (c : Int) (w : World) (hF : FormsAt w w.heap.size) (h1 : 0 ≤ c) (h2 : c < 20) (ha : argMost c < 0) :
    Calls Tryd.prog 20 #[.int .i64 c] w fun e w' => e = .returned (.bool false) ∧ w = w' := by
  obtain ⟨m, rfl⟩ := Int.eq_ofNat_of_zero_le h1
  have hm : m < 20 := by omega
  have hc := hF.arg m hm
  have ht : argTop (m : Int) = 0 := by unfold argTop; rw [if_pos ha]
  rw [ht] at hc
  clear ha ht
  go_enter Tryd.func20, Tryd.ntmps20
  go_wp2
  go_ret
  exact ⟨rfl, rfl⟩

end Go.Proofs.YtfigekdejocakabDoor

namespace Go.Proofs.YtfigekdejocakabDoor
open Go.RowKit
set_option linter.unusedVariables false

/-- a slice of the call's own has grown to zs -/
def GrowsI (base : Nat) (A : Option Addr) (w : World) (zs : List Int) (e : Ending) (w' : World) : Prop := ∃ A' c', e = .returned (.slice A' zs.length c') ∧ OwnI w' base A' c' zs ∧ Below base w w' ∧ (∀ k, k < w.heap.size → blockOf A ≠ some k → w'.heap[k]? = w.heap[k]?)

set_option maxHeartbeats 1000000 in
theorem appendArg_any (base : Nat) (A : Option Addr) (c : Nat) (xs : List Int) (a : Int) (w : World) (h : OwnI w base A c xs) (hbase : base ≤ w.heap.size) (h1 : 0 ≤ a) (h2 : a ≤ 999) (hl : xs.length ≤ 100000) :
    Calls Tryd.prog 21 #[.slice A xs.length c, .int .i64 a] w (GrowsI base A w (xs ++ encA a)) := by
  have HO := hide h
  have hbl := hide (h.blocks)
  clear h
  by_cases hs : a < 128
  · rw [encA_short hs]
    have d : decide (a < 128) = true := by simpa using hs
    go_enter Tryd.func21, Tryd.ntmps21
    go_wp2_with (at_builtin; refine append_ints rfl (.tmp 7) (.tmp 9) rfl base A c xs rfl (HO.out.alloc _) _ _ 1 [a] rfl (fun e => by cases e) (IntsAt.one w a (by constructor <;> omega)) (by simp; omega) (by simp; omega) ?_; intro zs A3 c3 w3 e3 own3 hg3 _; have HG3 := hide hg3; have HO3 := hide own3; clear hg3 own3)
    go_ret
    have e3 := e3.out
    subst e3
    exact ⟨A3, c3, rfl, HO3.out, below_grown ((Below.refl _ _).alloc hbase _) HG3.out (by simp; omega) (fun q hq => (hbl.out q hq).1), fun k hk hne => (HG3.out.block k (by simp; omega) (Ne.symm hne)).trans (Below.heap_alloc w _ k hk)⟩
  · rw [encA_long hs]
    have d : decide (a < 128) = false := by simpa using hs
    go_enter Tryd.func21, Tryd.ntmps21
    go_wp2_with (at_builtin; refine append_ints rfl (.tmp 11) (.tmp 17) rfl base A c xs rfl (HO.out.alloc _) _ _ 2 [128 + a % 128, a / 128] rfl (fun e => by cases e) (by simpa using IntsAt.lit w [128 + a % 128, a / 128] (by intro x hx; simp at hx; rcases hx with rfl | rfl <;> constructor <;> omega) (by simp)) (by simp; omega) (by simp; omega) ?_; intro zs A3 c3 w3 e3 own3 hg3 _; have HG3 := hide hg3; have HO3 := hide own3; clear hg3 own3)
    go_ret
    have e3 := e3.out
    subst e3
    exact ⟨A3, c3, rfl, HO3.out, below_grown ((Below.refl _ _).alloc hbase _) HG3.out (by simp; omega) (fun q hq => (hbl.out q hq).1), fun k hk hne => (HG3.out.block k (by simp; omega) (Ne.symm hne)).trans (Below.heap_alloc w _ k hk)⟩

end Go.Proofs.YtfigekdejocakabDoor

namespace Go.Proofs.YtfigekdejocakabDoor
open Go.RowKit
set_option linter.unusedVariables false

/-- the memory while the bytes of k orders lie behind each other -/
structure EnT (w wr : World) (os : List Od) (k : Nat) (Ao : Option Addr) (co : Nat) (acc : List Int) : Prop where
  bel : Below w.heap.size w wr
  own : OwnI wr w.heap.size Ao co acc
  eq : acc = encs (os.take k)

theorem EnT.few {w wr : World} {os : List Od} {k : Nat} {Ao : Option Addr} {co : Nat} {acc : List Int} (h : EnT w wr os k Ao co acc) : acc.length ≤ 3 * k := by
  rw [h.eq]
  have := (encs_len (os.take k)).2
  simp only [List.length_take] at this
  omega

set_option maxRecDepth 100000 in
set_option maxHeartbeats 2000000 in
theorem implEncodeOps_any (A : Option Addr) (os : List Od) (c : Nat) (w : World) (h : OpsAt w w.heap.size A os) (hF : FormsAt w w.heap.size) :
    Calls Tryd.prog 10 #[.slice A os.length c] w (GivesInts w (encodeOf os)) := by
  have hl := h.len
  by_cases hok : OpsOk os
  · rw [encodeOf_ok hok]
    have Hok := hide hok
    have ht := hide (tf_true hok)
    have hl3 := hok.1
    clear hok
    go_enter Tryd.func10, Tryd.ntmps10
    go_wp2_with fail
    refine (implValidOps_any A os c w h hF).mono ?_
    rintro e w1 ⟨rfl, hb1⟩
    rw [ht.out]
    have HS0 := hide (show EnT w w1 os 0 none 0 [] from ⟨hb1, OwnI.empty _ _, rfl⟩)
    clear hb1
    go_wp2_with fail
    go_loopg [3, 5, 11] os.length (fun gk ov _ iv wr => ∃ (k : Nat) (Ao : Option Addr) (co : Nat) (acc : List Int), k ≤ os.length ∧ gk = os.length - k ∧ iv = .int .i64 (k : Int) ∧ ov = .slice Ao acc.length co ∧ EnT w wr os k Ao co acc)
    case atStart => exact ⟨0, none, 0, [], Nat.zero_le _, rfl, rfl, rfl, HS0.out⟩
    case round =>
      clear HS0
      obtain ⟨k, Ao, co, acc, hk, rfl, rfl, rfl, hS⟩ := hrel
      have HS := hide hS
      have hfew := hS.few
      have hbs := hS.bel.size
      by_cases hlt : k < os.length
      · obtain ⟨b, off, o, rfl, hbl, hx, hmem, hc0, hc1⟩ := (h.below hS.bel).at_ hlt
        have Hx := hide hx
        have hin := Hok.out.2 o hmem
        obtain ⟨⟨hq1, hq2⟩, hqa⟩ := hin
        have HA := hide hqa
        have hm := argMost_range o.code
        have lo := Lies.new wr #[.int .i64 o.code, .int .i64 o.arg] 40
        have HOb := hide (HS.out.own.alloc (.cells #[.int .i64 o.code, .int .i64 o.arg] 40))
        have HBb := hide (HS.out.bel.alloc HS.out.bel.size (.cells #[.int .i64 o.code, .int .i64 o.arg] 40))
        have Hne := hide (fun (g : Nat) (e : some wr.heap.size = blockOf Ao) => (by have := (HS.out.own.blocks _ e.symm).2; omega : False))
        clear hS hx hmem hqa
        go_upto_region 7 with fail
        have hgb : wr.heap.size < (wr.alloc (.cells #[.int .i64 o.code, .int .i64 o.arg] 40)).heap.size := lo.lt
        generalize wr.heap.size = gb at *
        generalize wr.alloc (.cells #[.int .i64 o.code, .int .i64 o.arg] 40) = wb at *
        have c0 := lo.cell 0
        simp at c0
        have Lo := hide lo
        clear hc0 hc1 lo
        have hg3f : ∀ (w3 : World), (wb.alloc (.cells #[.int .i64 o.code] 3)).grownBy w3 (blockOf Ao) → Below w.heap.size w w3 ∧ Lies w3 gb #[.int .i64 o.code, .int .i64 o.arg] 40 := fun w3 hg3 =>
          ⟨below_grown (HBb.out.alloc HBb.out.size _) hg3 (by have := HBb.out.size; simp; omega) (fun q hq => (HOb.out.blocks q hq).1),
            (hg3.block gb (by simp; omega) (fun e => Hne.out gb e)).trans (Lo.out.alloc _)⟩
        have Hg3f := hide hg3f
        clear hg3f
        go_wp2_with (at_builtin; refine append_ints rfl (.tmp 15) (.tmp 18) rfl w.heap.size Ao co acc rfl (HOb.out.alloc _) _ _ 1 [o.code] rfl (fun e => by cases e) (IntsAt.one wb o.code (by constructor <;> omega)) (by simp; omega) (by simp; omega) ?_; intro zs A3 c3 w3 e3 own3 hg3 _; obtain ⟨hb3, lo3⟩ := Hg3f.out w3 hg3; have HO3 := hide own3; have HB3 := hide hb3; have HL3 := hide lo3; have d0 := lo3.cell 0; have d1 := lo3.cell 1; simp at d0 d1; have HF3 := hide (hF.later hb3 (Nat.le_refl _)); have hs3 := hb3.size; clear hg3 own3 hb3 lo3)
        by_cases hneg : argMost o.code < 0
        · have HE := hide (encO_bare hneg)
          refine (hasArg_no o.code w3 HF3.out hq1 (by omega) hneg).mono ?_
          rintro e w' ⟨rfl, rfl⟩
          clear hneg
          go_wp2
          go_roundg (os.length - (k + 1))
          case measure => omega
          case rel => exact ⟨k + 1, A3, c3, zs, by omega, rfl, by go_num, rfl, HB3.out, HO3.out, by rw [e3.out, HS.out.eq, encs_next Hx.out, HE.out]⟩
        · have HE := hide (encO_arg hneg)
          have hr : 0 ≤ o.arg ∧ o.arg ≤ 999 := by have := HA.out; omega
          obtain ⟨hr1, hr2⟩ := hr
          have hzl : zs.length ≤ 3 * k + 1 := by rw [e3.out]; simp; omega
          refine (hasArg_yes o.code w3 HF3.out hq1 (by omega) hneg).mono ?_
          rintro e w' ⟨rfl, rfl⟩
          clear hneg
          go_wp2_with fail
          refine (appendArg_any w.heap.size A3 c3 zs o.arg w3 HO3.out hs3 hr1 hr2 (by omega)).mono ?_
          rintro e w4 ⟨A4, c4, rfl, own4, hb4, _⟩
          go_wp2
          go_roundg (os.length - (k + 1))
          case measure => omega
          case rel => exact ⟨k + 1, A4, c4, zs ++ encA o.arg, by omega, rfl, by go_num, by rw [List.length_append], HB3.out.trans hb4, own4, by rw [e3.out, HS.out.eq, encs_next Hx.out, HE.out]; simp⟩
      · obtain rfl : k = os.length := by omega
        have hE : acc = encs os := by have := hS.eq; rw [List.take_length] at this; exact this
        subst hE
        clear hS hlt
        go_wp2
        go_ret
        exact ⟨Ao, co, rfl, HS.out.own, HS.out.bel⟩
  · rw [encodeOf_no hok]
    have ht := hide (tf_false hok)
    clear hok
    go_enter Tryd.func10, Tryd.ntmps10
    go_wp2_with fail
    refine (implValidOps_any A os c w h hF).mono ?_
    rintro e w1 ⟨rfl, hb1⟩
    rw [ht.out]
    go_wp2
    go_ret
    exact ⟨none, 0, rfl, OwnI.empty _ _, hb1⟩

end Go.Proofs.YtfigekdejocakabDoor
