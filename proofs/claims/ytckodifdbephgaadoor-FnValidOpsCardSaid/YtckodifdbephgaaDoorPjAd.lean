/-
  Lemmas, several texts in one: Tup, OwnS, PlIn, InR, AllIn, SpecA, SpecB, Sub, ShpW, VOp, SpecO, ReadB.
-/
import Derived.Test.YtckodifdbephgaaDoorMem
import Derived.Test.YtckodifdbephgaaDoorPjAa
import Derived.Deep.RegionLaw
import Derived.Deep.AppendLies
import Derived.Deep.QuietTactic
import Derived.BigQuiet
import Derived.Test.YtckodifdbephgaaDoorPjAc
import Derived.StillTailTactics
import Derived.Test.YtckodifdbephgaaDoorShpR
import Derived.Deep.RegionHeld
import Derived.Test.YtckodifdbephgaaDoorPjAb
import Derived.Test.YtckodifdbephgaaDoorRows
import Derived.ProofKit
import Derived.OpenShut
import Derived.ShutString
import Derived.ChangeOld
import Derived.Deep.Slices
import Derived.Deep.Fields
import Derived.Lib.SmallJoins
namespace Go.Proofs.YtckodifdbephgaaDoor

/-- a nodup list of numbers below N is no longer than N -/
theorem nodup_le : ∀ (N : Nat) (l : List Int), l.Nodup → (∀ x ∈ l, 0 ≤ x ∧ x < N) → l.length ≤ N
  | 0, l, _, h => by
    cases l with
    | nil => simp
    | cons x l => have := h x (by simp); omega
  | N + 1, l, hd, h => by
    have h1 : (l.erase (N : Int)).length ≤ N := nodup_le N _ (hd.erase _) (fun x hx => by
      have hx2 := (List.Nodup.mem_erase_iff hd).1 hx
      have := h x hx2.2
      have hne := hx2.1
      omega)
    have h2 := List.length_erase (a := (N : Int)) (l := l)
    split at h2 <;> omega

def kidsOf (ns : List Nd) (x : Int) : List Int := ((ns[x.toNat]?).map Nd.kids).getD []
def kindOf (ns : List Nd) (x : Int) : Int := ((ns[x.toNat]?).map Nd.kind).getD (-1)

theorem kidsOf_at {ns : List Nd} {k : Nat} {n : Nd} (h : ns[k]? = some n) : kidsOf ns (k : Int) = n.kids := by
  unfold kidsOf
  rw [Int.toNat_natCast, h]; rfl
theorem kindOf_at {ns : List Nd} {k : Nat} {n : Nd} (h : ns[k]? = some n) : kindOf ns (k : Int) = n.kind := by
  unfold kindOf
  rw [Int.toNat_natCast, h]; rfl

/-- ways from the node i over tuples -/
inductive TReach (ns : List Nd) (i : Int) : Int → Prop
  | kid (x : Int) : x ∈ kidsOf ns i → TReach ns i x
  | step (y x : Int) : TReach ns i y → kindOf ns y = 2 → x ∈ kidsOf ns y → TReach ns i x

/-- what the search has found when it has come to place k of its list -/
structure TInv (ns : List Nd) (i : Int) (out list : List Int) (k : Nat) : Prop where
  sound : ∀ x ∈ list, TReach ns i x
  range : ∀ x ∈ list, 0 ≤ x ∧ x < ns.length
  sub : ∀ x ∈ out, x ∈ list
  done : ∀ j x, j < k → list[j]? = some x → x ∈ out
  nodup : out.Nodup
  kids : ∀ x ∈ kidsOf ns i, x ∈ list
  closed : ∀ y ∈ out, kindOf ns y = 2 → ∀ x ∈ kidsOf ns y, x ∈ list
  len : list.length ≤ 6 * (1 + out.length)

theorem TInv.start {ns : List Nd} {i : Int} (h6 : (kidsOf ns i).length ≤ 6) (hr : ∀ x ∈ kidsOf ns i, 0 ≤ x ∧ x < ns.length) : TInv ns i [] (kidsOf ns i) 0 :=
  ⟨fun x hx => .kid x hx, hr, fun x hx => (by cases hx), fun j x hj => absurd hj (by omega), List.nodup_nil, fun x hx => hx, fun y hy => (by cases hy), by simp; omega⟩

theorem TInv.seen {ns : List Nd} {i : Int} {out list : List Int} {k : Nat} {x : Int} (h : TInv ns i out list k) (hx : list[k]? = some x) (hm : x ∈ out) : TInv ns i out list (k + 1) :=
  ⟨h.sound, h.range, h.sub, fun j y hj hy => by
    by_cases e : j = k
    · subst e; rw [hx] at hy; injection hy with hy; subst hy; exact hm
    · exact h.done j y (by omega) hy, h.nodup, h.kids, h.closed, h.len⟩

theorem TInv.outLen {ns : List Nd} {i : Int} {out list : List Int} {k : Nat} (h : TInv ns i out list k) : out.length ≤ ns.length :=
  nodup_le ns.length out h.nodup fun x hx => h.range x (h.sub x hx)

theorem TInv.listLen {ns : List Nd} {i : Int} {out list : List Int} {k : Nat} (h : TInv ns i out list k) (h12 : ns.length ≤ 12) : list.length ≤ 78 := by
  have := h.outLen
  have := h.len
  omega

theorem TInv.leaf {ns : List Nd} {i : Int} {out list : List Int} {k : Nat} {x : Int} (h : TInv ns i out list k) (hx : list[k]? = some x) (hm : x ∉ out) (hk : kindOf ns x ≠ 2) : TInv ns i (out ++ [x]) list (k + 1) := by
  have hmem : x ∈ list := List.mem_of_getElem? hx
  refine ⟨h.sound, h.range, fun y hy => ?_, fun j y hj hy => ?_, ?_, h.kids, fun y hy h2 z hz => ?_, ?_⟩
  · rcases List.mem_append.1 hy with hy | hy
    · exact h.sub y hy
    · simp at hy; subst hy; exact hmem
  · by_cases e : j = k
    · subst e; rw [hx] at hy; injection hy with hy; subst hy; simp
    · exact List.mem_append_left _ (h.done j y (by omega) hy)
  · rw [List.nodup_append]
    exact ⟨h.nodup, by simp, fun a ha b hb => by simp at hb; subst hb; intro e; subst e; exact hm ha⟩
  · rcases List.mem_append.1 hy with hy | hy
    · exact h.closed y hy h2 z hz
    · simp at hy; subst hy; exact absurd h2 hk
  · have := h.len
    simp only [List.length_append, List.length_singleton]
    omega

theorem TInv.tuple {ns : List Nd} {i : Int} {out list : List Int} {k : Nat} {x : Int} (h : TInv ns i out list k) (hx : list[k]? = some x) (hm : x ∉ out) (hk : kindOf ns x = 2) (h6 : (kidsOf ns x).length ≤ 6)
    (hr : ∀ z ∈ kidsOf ns x, 0 ≤ z ∧ z < ns.length) : TInv ns i (out ++ [x]) (list ++ kidsOf ns x) (k + 1) := by
  have hmem : x ∈ list := List.mem_of_getElem? hx
  have hkl : k < list.length := (List.getElem?_eq_some_iff.1 hx).1
  refine ⟨fun y hy => ?_, fun y hy => ?_, fun y hy => ?_, fun j y hj hy => ?_, ?_, fun y hy => List.mem_append_left _ (h.kids y hy), fun y hy h2 z hz => ?_, ?_⟩
  · rcases List.mem_append.1 hy with hy | hy
    · exact h.sound y hy
    · exact .step x y (h.sound x hmem) hk hy
  · rcases List.mem_append.1 hy with hy | hy
    · exact h.range y hy
    · exact hr y hy
  · rcases List.mem_append.1 hy with hy | hy
    · exact List.mem_append_left _ (h.sub y hy)
    · simp at hy; subst hy; exact List.mem_append_left _ hmem
  · rw [List.getElem?_append_left (by omega)] at hy
    by_cases e : j = k
    · subst e; rw [hx] at hy; injection hy with hy; subst hy; simp
    · exact List.mem_append_left _ (h.done j y (by omega) hy)
  · rw [List.nodup_append]
    exact ⟨h.nodup, by simp, fun a ha b hb => by simp at hb; subst hb; intro e; subst e; exact hm ha⟩
  · rcases List.mem_append.1 hy with hy | hy
    · exact List.mem_append_left _ (h.closed y hy h2 z hz)
    · simp at hy; subst hy; exact List.mem_append_right _ hz
  · have := h.len
    simp only [List.length_append, List.length_singleton]
    omega

theorem TInv.all {ns : List Nd} {i : Int} {out list : List Int} (h : TInv ns i out list list.length) (x : Int) : x ∈ out ↔ TReach ns i x := by
  have hall : ∀ y ∈ list, y ∈ out := fun y hy => by
    obtain ⟨j, hj, rfl⟩ := List.getElem_of_mem hy
    exact h.done j _ hj (List.getElem?_eq_getElem hj)
  constructor
  · exact fun hx => h.sound x (h.sub x hx)
  · intro hx
    induction hx with
    | kid x hx => exact hall x (h.kids x hx)
    | step y x _ h2 hx ih => exact hall x (h.closed y ih h2 x hx)

end Go.Proofs.YtckodifdbephgaaDoor

namespace Go.Proofs.YtckodifdbephgaaDoor
open Go.RowKit

theorem IntsAt.lit (w : World) (xs : List Int) (hx : ∀ x ∈ xs, In64 x) (hl : xs.length ≤ 1048576) : IntsAt (w.alloc (.cells (xs.map (Value.int .i64)).toArray 3)) (w.heap.size + 1) (some ⟨w.heap.size, 0, none⟩) xs := by
  refine ⟨fun _ => ⟨w.heap.size, 0, rfl, Nat.lt_succ_self _, fun j y hj => ?_⟩, hx, by omega⟩
  rw [(Lies.new w (xs.map (Value.int .i64)).toArray 3).cell]
  simp [hj]

theorem IntsAt.hold {w : World} {b : Nat} {cs : Array Value} {t : TypeId} (h : Lies w b cs t) (xs : List Int) (hc : cs = (xs.map (Value.int .i64)).toArray) (hx : ∀ x ∈ xs, In64 x) (hl : xs.length ≤ 1048576) : IntsAt w w.heap.size (some ⟨b, 0, none⟩) xs := by
  subst hc
  refine ⟨fun _ => ⟨b, 0, rfl, h.lt, fun j y hj => ?_⟩, hx, by omega⟩
  rw [h.cell]
  simp [hj]

/-- append(s, t...) in a statement that draws its order, where s is the call's own and t is an int slice that is not empty -/
theorem step_append_ints {w : World} {ops : Array Oper} {o : Oper} {a : Act} {K : Act → World → Prop} {Q : Exit → Act → World → Prop} {E : Prop} (hgd : o.guard = none) (s x : Operand)
    (ho : o.op = .call { callee := .builtin .append, args := #[s, x], argTypes := #[44, 44] })
    (base : Nat) (A : Option Addr) (c : Nat) (xs : List Int) (hs : a.eval s = .slice A xs.length c) (hown : OwnI w base A c xs)
    (ad : Addr) (c2 : Nat) (ys : List Int) (hne : ys ≠ []) (hx : a.eval x = .slice (some ad) ys.length c2) (hr : IntsAt w w.heap.size (some ad) ys)
    (hsum : xs.length + ys.length ≤ 16777216) (hbase : base ≤ w.heap.size)
    (h : ∀ (zs : List Int) (A' : Option Addr) (c' : Nat) (w' : World), Hid (zs = xs ++ ys) → OwnI w' base A' c' zs → w.grownBy w' (blockOf A) → (blockOf A' = blockOf A ∨ blockOf A' = some w.heap.size) →
      K (a.put o.dst (.slice A' zs.length c')) w') :
    if Region.wanted o (yielded ops a.tmps) = true then Oper.wp Tryd.prog o a w K Q else E := by
  obtain ⟨i0, hi, hz0, hz1, hz2⟩ := info_parts infoI
  have hcells : ∀ j u, (ys.map (Value.int .i64))[j]? = some u → w.cell? (ad.add j) = some u := by
    intro j u hu
    rw [List.getElem?_map] at hu
    cases hy : ys[j]? with
    | none => rw [hy] at hu; cases hu
    | some y =>
      rw [hy] at hu
      simp at hu
      subst hu
      obtain ⟨b, off, e2, _, hc⟩ := hr.row hne
      obtain rfl : ad = ⟨b, off, none⟩ := Option.some.inj e2
      have hadd : (⟨b, off, none⟩ : Addr).add j = ⟨b, off + j, none⟩ := by
        unfold Addr.add
        split
        · rename_i h0; subst h0; rfl
        · rfl
      rw [hadd]
      exact hc j y hy
  refine step_append_lies w hgd s x 44 ho base 3 i0 _ 1 8 Tryd.underlying44 hi hz0 hz1 hz2 rfl (by omega) _ _ _ hs hown.own ad ys.length c2 (ys.map (Value.int .i64)) hx (by simp) hcells (ints_one ys)
    (List.length_pos_iff.2 hne) (by unfold maxLen; omega) (by omega) hbase w.heap.size rfl ?_
  intro g cap w' h2 h3 h4 _
  have hlen : xs.length + ys.length = (xs ++ ys).length := by simp
  rw [ownBlock_slice] at h3 h4
  rw [← List.map_append, hlen] at h2
  rw [hlen]
  refine h (xs ++ ys) (some ⟨g, 0, none⟩) cap w' (by simp [Hid]) ⟨h2⟩ h3 ?_
  rcases h4 with h4 | h4
  · exact .inl (by rw [h4]; rfl)
  · exact .inr (by rw [h4]; rfl)

end Go.Proofs.YtckodifdbephgaaDoor

namespace Go.Proofs.YtckodifdbephgaaDoor
open Go.RowKit

set_option maxHeartbeats 1000000 in
theorem placeIn_any (A : Option Addr) (xs : List Int) (c : Nat) (n : Int) (w : World) (h : IntsAt w w.heap.size A xs) :
    Calls Tryd.prog 45 #[.slice A xs.length c, .int .i64 n] w fun e w' => e = .returned (.int .i64 (place xs n)) ∧ w = w' := by
  have hl := h.len
  go_enter Tryd.func45, Tryd.ntmps45
  go_wp2_with fail
  go_loop [5] (fun i => ∃ k : Nat, k ≤ xs.length ∧ i = .int .i64 k ∧ ∀ j, j < k → xs[j]? ≠ some n) (fun i => xs.length - (intOf i).toNat)
  case atStart => exact ⟨0, Nat.zero_le _, rfl, fun j hj => absurd hj (by omega)⟩
  case round =>
    obtain ⟨k, hk, rfl, he0⟩ := hrel
    have he := hide he0
    clear he0
    by_cases hlt : k < xs.length
    · obtain ⟨b, off, x, rfl, hbl, hx, _, hc⟩ := h.at_ hlt
      have Hx := hide hx
      clear hx
      by_cases hxn : x = n
      · subst hxn
        have HF := hide (place_at Hx.out he.out)
        go_wp2
        go_ret
        exact ⟨ret_int HF.out.symm, rfl⟩
      · have t : (x == n) = false := by simpa using hxn
        have he2 : ∀ j, j < k + 1 → xs[j]? ≠ some n := by
          intro j hj
          by_cases e : j = k
          · subst e; rw [Hx.out]; intro e; injection e with e; exact hxn e
          · exact he.out j (by omega)
        have He := hide he2
        clear he2 he hxn
        go_wp2
        go_round
        case rel => exact ⟨k + 1, by omega, by go_num, He.out⟩
        case measure => simp [intOf]; omega
    · obtain rfl : k = xs.length := by omega
      have HF := hide (place_none he.out)
      clear hlt
      go_wp2
      go_ret
      exact ⟨ret_int HF.out.symm, rfl⟩

end Go.Proofs.YtckodifdbephgaaDoor

namespace Go.Proofs.YtckodifdbephgaaDoor
open Go.RowKit

theorem inRange_yes (n lo hi : Int) (w : World) (h1 : lo ≤ n) (h2 : n ≤ hi) :
    Calls Tryd.prog 29 #[.int .i64 n, .int .i64 lo, .int .i64 hi] w fun e w' => e = .returned (.bool true) ∧ w = w' := by
  have d1 : decide (lo ≤ n) = true := by simpa using h1
  have d2 : decide (n ≤ hi) = true := by simpa using h2
  go_enter Tryd.func29, Tryd.ntmps29
  go_wp2
  go_ret
  exact ⟨rfl, rfl⟩

theorem inRange_no (n lo hi : Int) (w : World) (h : n < lo ∨ hi < n) :
    Calls Tryd.prog 29 #[.int .i64 n, .int .i64 lo, .int .i64 hi] w fun e w' => e = .returned (.bool false) ∧ w = w' := by
  by_cases h1 : lo ≤ n
  · have h2 : ¬ n ≤ hi := by omega
    have d1 : decide (lo ≤ n) = true := by simpa using h1
    have d2 : decide (n ≤ hi) = false := by simpa using h2
    clear h
    go_enter Tryd.func29, Tryd.ntmps29
    go_wp2
    go_ret
    exact ⟨rfl, rfl⟩
  · have d1 : decide (lo ≤ n) = false := by simpa using h1
    clear h
    go_enter Tryd.func29, Tryd.ntmps29
    go_wp2
    go_ret
    exact ⟨rfl, rfl⟩

end Go.Proofs.YtckodifdbephgaaDoor

namespace Go.Proofs.YtckodifdbephgaaDoor
open Go.RowKit

/-- all numbers lie in a range -/
def AllIn (xs : List Int) (lo hi : Int) : Prop := ∀ x ∈ xs, lo ≤ x ∧ x ≤ hi

set_option maxHeartbeats 1000000 in
theorem allIn_any (A : Option Addr) (xs : List Int) (c : Nat) (lo hi : Int) (w : World) (h : IntsAt w w.heap.size A xs) :
    Calls Tryd.prog 47 #[.slice A xs.length c, .int .i64 lo, .int .i64 hi] w fun e w' => e = .returned (.bool (tf (AllIn xs lo hi))) ∧ w = w' := by
  have hl := h.len
  go_enter Tryd.func47, Tryd.ntmps47
  go_wp2_with fail
  go_loop [7] (fun i => ∃ k : Nat, k ≤ xs.length ∧ i = .int .i64 k ∧ ∀ j x, j < k → xs[j]? = some x → lo ≤ x ∧ x ≤ hi) (fun i => xs.length - (intOf i).toNat)
  case atStart => exact ⟨0, Nat.zero_le _, rfl, fun j _ hj => absurd hj (by omega)⟩
  case round =>
    obtain ⟨k, hk, rfl, he0⟩ := hrel
    have he := hide he0
    clear he0
    by_cases hlt : k < xs.length
    · obtain ⟨b, off, x, rfl, hbl, hx, hmem, hc⟩ := h.at_ hlt
      have Hx := hide hx
      clear hx
      by_cases hin : lo ≤ x ∧ x ≤ hi
      · have He : Hid (∀ j y, j < k + 1 → xs[j]? = some y → lo ≤ y ∧ y ≤ hi) := by
          intro j y hj hy
          by_cases e : j = k
          · subst e
            have := Hx.out.symm.trans hy
            injection this with this
            subst this
            exact hin
          · exact he.out j y (by omega) hy
        obtain ⟨h1, h2⟩ := hin
        clear he hmem
        go_wp2_with fail
        refine (inRange_yes x lo hi w h1 h2).mono ?_
        rintro e w' ⟨rfl, rfl⟩
        go_wp2
        go_round
        case rel => exact ⟨k + 1, by omega, by go_num, He.out⟩
        case measure => simp [intOf]; omega
      · have HF := hide (show tf (AllIn xs lo hi) = false from tf_false fun hall => hin (hall x hmem))
        have hno : x < lo ∨ hi < x := by omega
        clear he hmem
        go_wp2_with fail
        refine (inRange_no x lo hi w hno).mono ?_
        rintro e w' ⟨rfl, rfl⟩
        clear hno hin
        go_wp2
        go_ret
        exact ⟨ret_bool HF.out.symm, rfl⟩
    · obtain rfl : k = xs.length := by omega
      have HF := hide (show tf (AllIn xs lo hi) = true from tf_true fun x hx => by
        obtain ⟨j, hj, rfl⟩ := List.getElem_of_mem hx
        exact he.out j _ hj (List.getElem?_eq_getElem hj))
      clear hlt
      go_wp2
      go_ret
      exact ⟨ret_bool HF.out.symm, rfl⟩

end Go.Proofs.YtckodifdbephgaaDoor

namespace Go.Proofs.YtckodifdbephgaaDoor
open Go.RowKit

/-- a node that can be a key -/
def IsKey (n : Nd) : Prop := n.kind = 0 ∨ n.kind = 1

set_option maxHeartbeats 400000 in
theorem isKey_any (v : Value) (n : Nd) (w : World) :
    Calls Tryd.prog 40 #[.agg #[.int .i64 n.kind, .int .i64 n.value, v]] w fun e w' => e = .returned (.bool (tf (IsKey n))) ∧ Below w.heap.size w w' := by
  by_cases h0 : n.kind = 0
  · have HF := hide (show tf (IsKey n) = true from tf_true (.inl h0))
    have t : (n.kind == 0) = true := by simpa using h0
    clear h0
    go_enter Tryd.func40, Tryd.ntmps40
    go_wp2
    go_ret
    exact ⟨ret_bool HF.out.symm, (Below.refl _ _).alloc (Nat.le_refl _) _⟩
  · by_cases h1 : n.kind = 1
    · have HF := hide (show tf (IsKey n) = true from tf_true (.inr h1))
      have t : (n.kind == 0) = false := by simpa using h0
      have t1 : (n.kind == 1) = true := by simpa using h1
      clear h0 h1
      go_enter Tryd.func40, Tryd.ntmps40
      go_wp2
      go_ret
      exact ⟨ret_bool HF.out.symm, (Below.refl _ _).alloc (Nat.le_refl _) _⟩
    · have HF := hide (show tf (IsKey n) = false from tf_false (fun h => h.elim h0 h1))
      have t : (n.kind == 0) = false := by simpa using h0
      have t1 : (n.kind == 1) = false := by simpa using h1
      clear h0 h1
      go_enter Tryd.func40, Tryd.ntmps40
      go_wp2
      go_ret
      exact ⟨ret_bool HF.out.symm, (Below.refl _ _).alloc (Nat.le_refl _) _⟩

/-- equal keys -/
def SameKey (m n : Nd) : Prop := m.kind = n.kind ∧ m.value = n.value

set_option maxHeartbeats 400000 in
theorem sameKey_any (v v' : Value) (m n : Nd) (w : World) :
    Calls Tryd.prog 49 #[.agg #[.int .i64 m.kind, .int .i64 m.value, v], .agg #[.int .i64 n.kind, .int .i64 n.value, v']] w fun e w' => e = .returned (.bool (tf (SameKey m n))) ∧ Below w.heap.size w w' := by
  by_cases h0 : m.kind = n.kind
  · by_cases h1 : m.value = n.value
    · have HF := hide (show tf (SameKey m n) = true from tf_true ⟨h0, h1⟩)
      have t : (m.kind == n.kind) = true := by simpa using h0
      have t1 : (m.value == n.value) = true := by simpa using h1
      clear h0 h1
      go_enter Tryd.func49, Tryd.ntmps49
      go_wp2
      go_ret
      exact ⟨ret_bool HF.out.symm, ((Below.refl _ _).alloc (Nat.le_refl _) _).alloc (by simp) _⟩
    · have HF := hide (show tf (SameKey m n) = false from tf_false (fun h => h1 h.2))
      have t : (m.kind == n.kind) = true := by simpa using h0
      have t1 : (m.value == n.value) = false := by simpa using h1
      clear h0 h1
      go_enter Tryd.func49, Tryd.ntmps49
      go_wp2
      go_ret
      exact ⟨ret_bool HF.out.symm, ((Below.refl _ _).alloc (Nat.le_refl _) _).alloc (by simp) _⟩
  · have HF := hide (show tf (SameKey m n) = false from tf_false (fun h => h0 h.1))
    have t : (m.kind == n.kind) = false := by simpa using h0
    clear h0
    go_enter Tryd.func49, Tryd.ntmps49
    go_wp2
    go_ret
    exact ⟨ret_bool HF.out.symm, ((Below.refl _ _).alloc (Nat.le_refl _) _).alloc (by simp) _⟩

end Go.Proofs.YtckodifdbephgaaDoor

namespace Go.Proofs.YtckodifdbephgaaDoor
open Go.RowKit

/-- all kids are nodes -/
def InG (ns : List Nd) (kids : List Int) : Prop := ∀ x ∈ kids, 0 ≤ x ∧ x < ns.length

/-- the node that is the kid at place p -/
def KidNd (ns : List Nd) (kids : List Int) (p : Nat) (n : Nd) : Prop := ∃ k : Nat, kids[p]? = some (k : Int) ∧ ns[k]? = some n

/-- keys and values by turns, keys that can be keys, no two of them equal -/
structure DictOk (ns : List Nd) (kids : List Int) : Prop where
  even : kids.length % 2 = 0
  key : ∀ p n, p % 2 = 0 → KidNd ns kids p n → IsKey n
  diff : ∀ p q m n, p % 2 = 0 → q % 2 = 0 → q < p → KidNd ns kids p m → KidNd ns kids q n → ¬ SameKey m n

theorem KidNd.eq {ns : List Nd} {kids : List Int} {p : Nat} {m n : Nd} (h : KidNd ns kids p m) (h' : KidNd ns kids p n) : m = n := by
  obtain ⟨k, h1, h2⟩ := h
  obtain ⟨k', h3, h4⟩ := h'
  rw [h1] at h3
  have : k = k' := by injection h3 with h3; omega
  subst this
  rw [h2] at h4
  injection h4

theorem KidNd.lt {ns : List Nd} {kids : List Int} {p : Nat} {n : Nd} (h : KidNd ns kids p n) : p < kids.length := by
  obtain ⟨k, h1, _⟩ := h
  exact (List.getElem?_eq_some_iff.1 h1).1

/-- reading the kid at place p and its node -/
theorem kid_at {w : World} {B B' : Nat} {A A' : Option Addr} {ns : List Nd} {kids : List Int} (hr : NdsAt w B A ns) (hk : IntsAt w B' A' kids) (hin : InG ns kids) {p : Nat} (hp : p < kids.length) :
    ∃ (b off b' off' k : Nat) (n : Nd), A = some ⟨b, off, none⟩ ∧ b < B ∧ A' = some ⟨b', off', none⟩ ∧ b' < B' ∧ k < ns.length ∧ w.cell? ⟨b', off' + p, none⟩ = some (.int .i64 (k : Int)) ∧ NdAt w B b (off + k * 3) n ∧
      KidNd ns kids p n ∧ n ∈ ns := by
  obtain ⟨b', off', x, rfl, hb', hx, hmem, hc⟩ := hk.at_ hp
  obtain ⟨h0, h1⟩ := hin x hmem
  obtain ⟨k, rfl⟩ := Int.eq_ofNat_of_zero_le h0
  obtain ⟨b, off, n, rfl, hb, hat, hn, hN⟩ := hr.at_ (k := k) (by omega)
  exact ⟨b, off, b', off', k, n, rfl, hb, rfl, hb', by omega, hc, hN, ⟨k, hx, hat⟩, hn⟩

set_option maxRecDepth 100000 in
set_option maxHeartbeats 4000000 in
theorem validDict_any (A : Option Addr) (ns : List Nd) (c : Nat) (r : Int) (A' : Option Addr) (n : Nd) (c' : Nat) (w : World) (hr : NdsAt w w.heap.size A ns) (hk : IntsAt w w.heap.size A' n.kids) (hin : InG ns n.kids) (hsm : n.kids.length ≤ 1048576) :
    Calls Tryd.prog 48 #[.agg #[.slice A ns.length c, .int .i64 r], .agg #[.int .i64 n.kind, .int .i64 n.value, .slice A' n.kids.length c']] w fun e w' =>
      e = .returned (.bool (tf (DictOk ns n.kids))) ∧ Below w.heap.size w w' := by
  have hnl := hr.len
  have hB : Below w.heap.size w ((w.alloc (.cells #[.slice A ns.length c, .int .i64 r] 40)).alloc (.cells #[.int .i64 n.kind, .int .i64 n.value, .slice A' n.kids.length c'] 63)) :=
    ((Below.refl _ _).alloc (Nat.le_refl _) _).alloc (by simp) _
  have l1 := (Lies.new w #[.slice A ns.length c, .int .i64 r] 40).alloc (.cells #[.int .i64 n.kind, .int .i64 n.value, .slice A' n.kids.length c'] 63)
  have l2 := Lies.new (w.alloc (.cells #[.slice A ns.length c, .int .i64 r] 40)) #[.int .i64 n.kind, .int .i64 n.value, .slice A' n.kids.length c'] 63
  have hr2 := hr.later hB (Nat.le_refl _)
  have hk2 := hk.later hB (Nat.le_refl _)
  simp only [World.size_alloc] at l2
  clear hr hk
  go_enter Tryd.func48, Tryd.ntmps48
  go_wp2_with fail
  generalize (w.alloc (.cells #[.slice A ns.length c, .int .i64 r] 40)).alloc (.cells #[.int .i64 n.kind, .int .i64 n.value, .slice A' n.kids.length c'] 63) = W at hB l1 l2 hr2 hk2 ⊢
  have hW1 := l1.lt
  have hW2 := l2.lt
  go_loopw [5] (fun i wr => ∃ k : Nat, k % 2 = 0 ∧ k ≤ n.kids.length + 1 ∧ i = .int .i64 k ∧ Below W.heap.size W wr ∧ (∀ p m, p < k → p % 2 = 0 → KidNd ns n.kids p m → IsKey m) ∧
      (∀ p q m m', p < k → p % 2 = 0 → q % 2 = 0 → q < p → KidNd ns n.kids p m → KidNd ns n.kids q m' → ¬ SameKey m m')) (fun i _ => n.kids.length + 2 - (intOf i).toNat)
  case atStart => exact ⟨0, rfl, Nat.zero_le _, rfl, Below.refl _ _, fun p m hp => absurd hp (by omega), fun p q m m' hp => absurd hp (by omega)⟩
  case round =>
    obtain ⟨k, hk2', hkl, rfl, hb, hkey0, hdiff0⟩ := hrel
    have hkey := hide hkey0
    have hdiff := hide hdiff0
    have hev := hide hk2'
    clear hkey0 hdiff0 hk2'
    have e0 := (l1.below hb hW1).cell 0
    have e2 := (l2.below hb hW2).cell 2
    simp at e0 e2
    by_cases hlt : k < n.kids.length
    · obtain ⟨b, off, b', off', x, m, rfl, hbl, rfl, hbl', hxl, hcx, hM, hkn, _⟩ := kid_at (hr2.below hb) (hk2.below hb) hin hlt
      obtain ⟨hm_k, hm_v, ⟨A1, c1, hm_s, hI1, _⟩, _, _⟩ := hM
      have hk1 : (0 : Int) ≤ (k : Int) := by omega
      have hk3 : (k : Int) < (n.kids.length : Int) := by omega
      have hx1 : (0 : Int) ≤ (x : Int) := by omega
      have hx3 : (x : Int) < (ns.length : Int) := by omega
      have hbd : Below W.heap.size W wr.drew := hb.drew
      go_wp2_with fail
      go_still_tail 9, (by kernel_rfl)
      change wpList _ _ _ _ _ wr.drew
      generalize wr.drew = w2 at hbd ⊢
      clear hb hcx hm_k hm_v hm_s hI1 e0 e2
      go_wp2_with fail
      refine (isKey_any _ m w2).mono ?_
      rintro e w' ⟨rfl, hb3⟩
      have hb4 := hbd.trans (hb3.mono hbd.size)
      clear hbd hb3
      by_cases hik : IsKey m
      · have t := tf_true hik
        rw [t]
        clear t
        go_wp2_with fail
        go_loopw [6] (fun i wr => ∃ j : Nat, j % 2 = 0 ∧ j ≤ k ∧ i = .int .i64 j ∧ Below W.heap.size W wr ∧ (∀ q m', q < j → q % 2 = 0 → KidNd ns n.kids q m' → ¬ SameKey m m')) (fun i _ => k + 2 - (intOf i).toNat)
        case atStart => exact ⟨0, rfl, Nat.zero_le _, rfl, hb4, fun q m' hq => absurd hq (by omega)⟩
        case round =>
          obtain ⟨j, hj2, hjk, rfl, hb5, hne0⟩ := hrel
          have hne := hide hne0
          have hjv := hide hj2
          clear hne0 hj2 hb4
          have e0 := (l1.below hb5 hW1).cell 0
          have e2 := (l2.below hb5 hW2).cell 2
          simp at e0 e2
          by_cases hjlt : j < k
          · obtain ⟨_, _, _, _, x1, _, he1, _, he2, _, hxl1, hcx1, hM1, hkn1, _⟩ := kid_at (hr2.below hb5) (hk2.below hb5) hin hlt
            obtain ⟨_, _, _, _, y, m2, he3, _, he4, _, hyl, hcy, hM2, hkn2, _⟩ := kid_at (hr2.below hb5) (hk2.below hb5) hin (p := j) (by omega)
            simp only [Option.some.injEq, Addr.mk.injEq, and_true] at he1 he2 he3 he4
            obtain ⟨rfl, rfl⟩ := he1
            obtain ⟨rfl, rfl⟩ := he2
            obtain ⟨rfl, rfl⟩ := he3
            obtain ⟨rfl, rfl⟩ := he4
            obtain rfl := hkn.eq hkn1
            obtain ⟨hm_k, hm_v, ⟨A1, c1, hm_s, hI1, _⟩, _, _⟩ := hM1
            obtain ⟨hn_k, hn_v, ⟨A2, c2, hn_s, hI2, _⟩, _, _⟩ := hM2
            have hj1 : (0 : Int) ≤ (j : Int) := by omega
            have hj3 : (j : Int) < (n.kids.length : Int) := by omega
            have hxx1 : (0 : Int) ≤ (x1 : Int) := by omega
            have hxx3 : (x1 : Int) < (ns.length : Int) := by omega
            have hy1 : (0 : Int) ≤ (y : Int) := by omega
            have hy3 : (y : Int) < (ns.length : Int) := by omega
            have hbd : Below W.heap.size W wr.drew := hb5.drew
            go_wp2_with fail
            go_still_tail 18, (by kernel_rfl)
            change wpList _ _ _ _ _ wr.drew
            generalize wr.drew = w3 at hbd ⊢
            clear hb5 hcx1 hcy hm_k hm_v hm_s hI1 hn_k hn_v hn_s hI2 e0 e2
            go_wp2_with fail
            refine (sameKey_any _ _ m m2 w3).mono ?_
            rintro e w' ⟨rfl, hb3⟩
            have hb4 := hbd.trans (hb3.mono hbd.size)
            clear hbd hb3
            by_cases hsk : SameKey m m2
            · have t := tf_true hsk
              rw [t]
              clear t
              have HF := hide (show tf (DictOk ns n.kids) = false from tf_false fun h => h.diff k j m m2 hev.out hjv.out hjlt hkn hkn2 hsk)
              go_wp2
              go_ret
              exact ⟨ret_bool HF.out.symm, hB.trans (hb4.mono hB.size)⟩
            · have t := tf_false hsk
              rw [t]
              clear t
              have hne2 : ∀ q m', q < j + 2 → q % 2 = 0 → KidNd ns n.kids q m' → ¬ SameKey m m' := by
                intro q m' hq hq2 hqn
                by_cases e : q = j
                · subst e
                  obtain rfl := hkn2.eq hqn
                  exact hsk
                · exact hne.out q m' (by have := hjv.out; omega) hq2 hqn
              have Hne := hide hne2
              have hj5 : j + 2 ≤ k := by have := hjv.out; have := hev.out; omega
              clear hne2 hne
              go_wp2
              go_roundw
              case rel => exact ⟨j + 2, by have := hjv.out; omega, hj5, by go_num, hb4, Hne.out⟩
              case measure => simp [intOf]; omega
          · obtain rfl : j = k := by omega
            clear hjlt e0 e2
            go_wp2
            go_roundw
            case rel => exact ⟨j + 2, by have := hev.out; omega, by omega, by go_num, hb5, fun p m' hp hp2 hpn => by
                by_cases e : p = j
                · subst e
                  obtain rfl := hkn.eq hpn
                  exact hik
                · exact hkey.out p m' (by have := hjv.out; omega) hp2 hpn, fun p q m1 m2 hp hp2 hq2 hqp h1 h2 => by
                by_cases e : p = j
                · subst e
                  obtain rfl := hkn.eq h1
                  exact hne.out q m2 hqp hq2 h2
                · exact hdiff.out p q m1 m2 (by have := hjv.out; omega) hp2 hq2 hqp h1 h2⟩
            case measure => simp [intOf]; omega
      · have t := tf_false hik
        rw [t]
        clear t
        have HF := hide (show tf (DictOk ns n.kids) = false from tf_false fun h => hik (h.key k m hev.out hkn))
        go_wp2
        go_ret
        exact ⟨ret_bool HF.out.symm, hB.trans (hb4.mono hB.size)⟩
    · by_cases hmod : n.kids.length % 2 = 0
      · have HF := hide (show tf (DictOk ns n.kids) = true from tf_true ⟨hmod, fun p m hp hn => hkey.out p m (by have := hn.lt; omega) hp hn, fun p q m m' hp hq hqp h1 h2 => hdiff.out p q m m' (by have := h1.lt; omega) hp hq hqp h1 h2⟩)
        have t : ((n.kids.length : Int) % 2 == 0) = true := by rw [beq_iff_eq]; omega
        clear hmod
        go_wp2
        go_ret
        exact ⟨ret_bool HF.out.symm, hB.trans (hb.mono hB.size)⟩
      · have HF := hide (show tf (DictOk ns n.kids) = false from tf_false fun h => hmod h.even)
        have t : ((n.kids.length : Int) % 2 == 0) = false := by rw [beq_eq_false_iff_ne]; omega
        clear hmod
        go_wp2
        go_ret
        exact ⟨ret_bool HF.out.symm, hB.trans (hb.mono hB.size)⟩

end Go.Proofs.YtckodifdbephgaaDoor

namespace Go.Proofs.YtckodifdbephgaaDoor
open Go.RowKit

theorem IntsAt.upto {w : World} {B : Nat} {A : Option Addr} {xs : List Int} (h : IntsAt w B A xs) (n : Nat) : IntsAt w B A (xs.take n) := by
  refine ⟨fun hx => ?_, fun x hx => h.wf x (List.mem_of_mem_take hx), Nat.le_trans (by simp; omega) h.len⟩
  obtain ⟨b, off, e, hlt, hc⟩ := h.row (by intro e; subst e; simp at hx)
  refine ⟨b, off, e, hlt, fun j x hj => hc j x ?_⟩
  rw [List.getElem?_take] at hj
  split at hj
  · exact hj
  · cases hj

theorem IntsAt.behind {w : World} {B b off : Nat} {xs : List Int} (h : IntsAt w B (some ⟨b, off, none⟩) xs) (k : Nat) : IntsAt w B (some ⟨b, off + k, none⟩) (xs.drop k) := by
  refine ⟨fun hx => ?_, fun x hx => h.wf x (List.mem_of_mem_drop hx), Nat.le_trans (by simp) h.len⟩
  obtain ⟨b', off', e, hlt, hc⟩ := h.row (by intro e; subst e; simp at hx)
  injection e with e
  injection e with e1 e2
  subst e1 e2
  refine ⟨b, off + k, rfl, hlt, fun j x hj => ?_⟩
  rw [List.getElem?_drop] at hj
  have := hc (k + j) x hj
  rwa [← Nat.add_assoc] at this

theorem IntsAt.empt {w : World} {B : Nat} (A : Option Addr) : IntsAt w B A [] := ⟨fun h => absurd rfl h, fun _ h => (by cases h), by simp⟩

end Go.Proofs.YtckodifdbephgaaDoor

namespace Go.Proofs.YtckodifdbephgaaDoor
open Go.RowKit
set_option linter.unusedVariables false

/-- an operation that only reads is taken first -/
theorem takeO {P : Program} {ops : Array Oper} {Q : Exit → Act → World → Prop} {md : Region.Mode} {S : World → Prop} (i d : Nat) {op ty pos af gd} {v : Value} {fuel : Nat} {listed : Array Bool} {a : Act} {w : World}
    (hi : ops[i]? = some { dst := some d, op := op, type := ty, pos := pos, after := af, guard := gd }) (hS : S w) (hs : Region.noSelect ops = true := by kernel_rfl) (hf : Region.free md ops listed i = true := by kernel_rfl) (hr : (Region.ready md ops listed).contains i = true := by kernel_rfl)
    (hw : Region.wanted { dst := some d, op := op, type := ty, pos := pos, after := af, guard := gd } (yielded ops a.tmps) = true := by rfl) (hQ : ∀ c a w, Q (.panic c) (a.put (some d) v) w → Q (.panic c) a w := by exact fun _ _ _ h => h)
    (hv : ∀ w, S w → (execOp a.eval { dst := some d, op := op, type := ty, pos := pos, after := af, guard := gd }).run P w = .ok (.value v) w) (h : wpAnyH P md ops Q S fuel (listed.setIfInBounds i true) (a.put (some d) v) w) : wpAnyH P md ops Q S (fuel + 1) listed a w :=
  wpAnyH_take hi hs hf hr hQ (.inl ⟨hw, hv⟩) hS h

/-- an operation whose guard is shut is taken first -/
theorem takeN {P : Program} {ops : Array Oper} {Q : Exit → Act → World → Prop} {md : Region.Mode} {S : World → Prop} (i d : Nat) {op ty pos af gd} {fuel : Nat} {listed : Array Bool} {a : Act} {w : World}
    (hi : ops[i]? = some { dst := some d, op := op, type := ty, pos := pos, after := af, guard := gd }) (hS : S w) (hs : Region.noSelect ops = true := by kernel_rfl) (hf : Region.free md ops listed i = true := by kernel_rfl) (hr : (Region.ready md ops listed).contains i = true := by kernel_rfl)
    (hw : Region.wanted { dst := some d, op := op, type := ty, pos := pos, after := af, guard := gd } (yielded ops a.tmps) = false := by rfl) (hQ : ∀ c a w, Q (.panic c) (a.put (some d) undef) w → Q (.panic c) a w := by exact fun _ _ _ h => h)
    (h : wpAnyH P md ops Q S fuel (listed.setIfInBounds i true) (a.put (some d) undef) w) : wpAnyH P md ops Q S (fuel + 1) listed a w :=
  wpAnyH_take hi hs hf hr hQ (.inr ⟨hw, rfl⟩) hS h

theorem Lies.five {w : World} {q : Nat} {v0 v1 v2 v3 v4 : Value} {t : TypeId} (h : Lies w q #[v0, v1, v2, v3, v4] t) : w.cell? ⟨q, 0, none⟩ = some v0 ∧ w.cell? ⟨q, 1, none⟩ = some v1 ∧ w.cell? ⟨q, 2, none⟩ = some v2 ∧ w.cell? ⟨q, 3, none⟩ = some v3 ∧ w.cell? ⟨q, 4, none⟩ = some v4 :=
  ⟨h.cell 0, h.cell 1, h.cell 2, h.cell 3, h.cell 4⟩
theorem Lies.zero {w : World} {q : Nat} {v0 v1 : Value} {t : TypeId} (h : Lies w q #[v0, v1] t) : w.cell? ⟨q, 0, none⟩ = some v0 := h.cell 0

/-- shapes in a box of which nothing is said but that they lie there -/
structure ShW (w0 w : World) (p0 : ShPtr) (B q q2 : Nat) (p : ShPtr) (s : Shp) : Prop where
  box : Lies w q (shCells p s) 50
  res : Lies w q2 zero5 50
  bel : Below B w0 w
  fr : FrSh w0 w p0
  ne : q ≠ q2
  hq2 : B ≤ q2
  sq2 : w0.heap.size ≤ q2

/-- the box is written anew, with what a call handed back -/
theorem ShSt.refillW {w0 X w5 : World} {base q q2 : Nat} {p p0 p5 : ShPtr} {s t : Shp} (h : ShSt w0 X p0 base base q q2 p s) (hb : Below base X w5) (hf : FrSh X w5 p) :
    Lies w5 q (shCells p s) 50 ∧ ShW w0 (set5 w5 q (.slice p5.K t.kinds.length p5.c1) (.slice p5.F t.full.length p5.c2) (.slice p5.S t.stack.length p5.c3) (.slice p5.M t.memo.length p5.c4) (.bool t.done)) p0 base q q2 p5 t := by
  have h1 : Lies w5 q (shCells p s) 50 := (hf q h.bx.box.lt h.bx.off).trans h.bx.box
  have h2 : Lies w5 q2 zero5 50 := (hf q2 h.res.lt h.off2).trans h.res
  have hs : w0.heap.size ≤ X.heap.size := by have := h.bx.box.lt; have := h.sq; omega
  refine ⟨h1, (Lies.set5 h1 _ _ _ _ _).2, (set5_block h.ne.symm).trans h2, set5_below (h.bel.trans hb) h.hq, fun k hk ho => ?_, h.ne, h.hq2, h.sq2⟩
  rw [set5_block (by have := h.sq; omega), hf k (by omega) (h.offs k hk ho)]
  exact h.fr k hk ho

theorem ShSt.refill {w0 X w5 : World} {base q q2 : Nat} {p p0 p5 : ShPtr} {s t : Shp} (h : ShSt w0 X p0 base base q q2 p s) (hb : Below base X w5) (hf : FrSh X w5 p) (ho : ShOwn w5 base p5 t) (hof : OffSh X p p5) :
    ShSt w0 (set5 w5 q (.slice p5.K t.kinds.length p5.c1) (.slice p5.F t.full.length p5.c2) (.slice p5.S t.stack.length p5.c3) (.slice p5.M t.memo.length p5.c4) (.bool t.done)) p0 base base q q2 p5 t := by
  have hW := (h.refillW (p5 := p5) (t := t) hb hf).2
  have hq : p5.Off q := hof q h.bx.box.lt h.bx.off
  have hs : w0.heap.size ≤ X.heap.size := by have := h.bx.box.lt; have := h.sq; omega
  have hz := hb.size
  have hB := h.hB
  exact ⟨⟨hW.box, ho.set5 hq, hq⟩, hW.res, hof q2 h.res.lt h.off2, hW.bel, h.ne, by rw [set5_size]; omega, h.hb, h.hq, h.hq2, hW.fr, fun k hk hk2 => hof k (by omega) (h.offs k hk hk2), h.sq, h.sq2⟩

theorem ShSt.toW {w0 w : World} {base q q2 : Nat} {p p0 : ShPtr} {s : Shp} (h : ShSt w0 w p0 base base q q2 p s) : ShW w0 w p0 base q q2 p s := ⟨h.bx.box, h.res, h.bel, h.fr, h.ne, h.hq2, h.sq2⟩

end Go.Proofs.YtckodifdbephgaaDoor

namespace Go.Proofs.YtckodifdbephgaaDoor
open Go.RowKit
set_option linter.unusedVariables false

set_option maxHeartbeats 1000000 in
theorem argOf_any (c : Int) (w : World) :
    Calls Tryd.prog 28 #[.int .i64 c] w fun e w' => e = .returned (.int .i64 (argMost c)) ∧ w = w' := by
  by_cases h0 : c = 0
  · subst h0
    go_enter Tryd.func28, Tryd.ntmps28
    go_wp2
    go_ret
    exact ⟨rfl, rfl⟩
  · by_cases h1 : c = 1
    · subst h1
      go_enter Tryd.func28, Tryd.ntmps28
      go_wp2
      go_ret
      exact ⟨rfl, rfl⟩
    · by_cases h13 : c = 13
      · subst h13
        go_enter Tryd.func28, Tryd.ntmps28
        go_wp2
        go_ret
        exact ⟨rfl, rfl⟩
      · by_cases h15 : c = 15
        · subst h15
          go_enter Tryd.func28, Tryd.ntmps28
          go_wp2
          go_ret
          exact ⟨rfl, rfl⟩
        · by_cases h16 : c = 16
          · subst h16
            go_enter Tryd.func28, Tryd.ntmps28
            go_wp2
            go_ret
            exact ⟨rfl, rfl⟩
          · have HF := hide (show argMost c = -1 by unfold argMost; simp [h0, h1, h13, h15, h16])
            have t0 : (c == 0) = false := by simpa using h0
            have t1 : (c == 1) = false := by simpa using h1
            have t2 : (c == 13) = false := by simpa using h13
            have t3 : (c == 15) = false := by simpa using h15
            have t4 : (c == 16) = false := by simpa using h16
            clear h0 h1 h13 h15 h16
            go_enter Tryd.func28, Tryd.ntmps28
            go_wp2
            go_ret
            exact ⟨ret_int HF.out.symm, rfl⟩

set_option maxHeartbeats 1000000 in
theorem validOp_any (o : Od) (w : World) :
    Calls Tryd.prog 17 #[.agg #[.int .i64 o.code, .int .i64 o.arg]] w fun e w' => e = .returned (.bool (tf (OdOk o))) ∧ Below w.heap.size w w' := by
  have hB : Below w.heap.size w (w.alloc (.cells #[.int .i64 o.code, .int .i64 o.arg] 31)) := (Below.refl _ _).alloc (Nat.le_refl _) _
  have l1 := Lies.new w #[.int .i64 o.code, .int .i64 o.arg] 31
  have hm := argMost_range o.code
  by_cases hc : 0 ≤ o.code ∧ o.code ≤ 19
  · by_cases hneg : argMost o.code < 0
    · by_cases ha : o.arg = 0
      · have HF := hide (show tf (OdOk o) = true from tf_true ⟨hc, .inl ⟨hneg, ha⟩⟩)
        have t : (o.arg == 0) = true := by simpa using ha
        obtain ⟨hc1, hc2⟩ := hc
        clear ha
        go_enter Tryd.func17, Tryd.ntmps17
        go_wp2_with fail
        refine (argOf_any o.code _).mono ?_
        rintro e w' ⟨rfl, rfl⟩
        generalize argMost o.code = M at hneg hm ⊢
        have d : decide (M < 0) = true := by simpa using hneg
        go_wp2_with fail
        refine (inRange_yes o.code 0 19 _ hc1 hc2).mono ?_
        rintro e w' ⟨rfl, rfl⟩
        go_wp2
        go_ret
        exact ⟨ret_bool HF.out.symm, hB⟩
      · have HF := hide (show tf (OdOk o) = false from tf_false fun h => by rcases h.2 with h | h; exact ha h.2; omega)
        have t : (o.arg == 0) = false := by simpa using ha
        obtain ⟨hc1, hc2⟩ := hc
        clear ha
        go_enter Tryd.func17, Tryd.ntmps17
        go_wp2_with fail
        refine (argOf_any o.code _).mono ?_
        rintro e w' ⟨rfl, rfl⟩
        generalize argMost o.code = M at hneg hm ⊢
        have d : decide (M < 0) = true := by simpa using hneg
        have d2 : decide (0 ≤ M) = false := by simpa using hneg
        go_wp2_with fail
        refine (inRange_yes o.code 0 19 _ hc1 hc2).mono ?_
        rintro e w' ⟨rfl, rfl⟩
        go_wp2
        go_ret
        exact ⟨ret_bool HF.out.symm, hB⟩
    · by_cases ha : 0 ≤ o.arg ∧ o.arg ≤ argMost o.code
      · have HF := hide (show tf (OdOk o) = true from tf_true ⟨hc, .inr ⟨by omega, ha⟩⟩)
        obtain ⟨hc1, hc2⟩ := hc
        obtain ⟨ha1, ha2⟩ := ha
        go_enter Tryd.func17, Tryd.ntmps17
        go_wp2_with fail
        refine (argOf_any o.code _).mono ?_
        rintro e w' ⟨rfl, rfl⟩
        generalize argMost o.code = M at hneg hm ha2 ⊢
        have d : decide (M < 0) = false := by simpa using hneg
        have d2 : decide (0 ≤ M) = true := by simpa using hneg
        go_wp2_with fail
        refine (inRange_yes o.code 0 19 _ hc1 hc2).mono ?_
        rintro e w' ⟨rfl, rfl⟩
        go_wp2_with fail
        refine (inRange_yes o.arg 0 M _ ha1 ha2).mono ?_
        rintro e w' ⟨rfl, rfl⟩
        go_wp2
        go_ret
        exact ⟨ret_bool HF.out.symm, hB⟩
      · have HF := hide (show tf (OdOk o) = false from tf_false fun h => by rcases h.2 with h | h; omega; exact ha h.2)
        obtain ⟨hc1, hc2⟩ := hc
        have ha' : o.arg < 0 ∨ argMost o.code < o.arg := by omega
        clear ha
        go_enter Tryd.func17, Tryd.ntmps17
        go_wp2_with fail
        refine (argOf_any o.code _).mono ?_
        rintro e w' ⟨rfl, rfl⟩
        generalize argMost o.code = M at hneg hm ha' ⊢
        have d : decide (M < 0) = false := by simpa using hneg
        have d2 : decide (0 ≤ M) = true := by simpa using hneg
        go_wp2_with fail
        refine (inRange_yes o.code 0 19 _ hc1 hc2).mono ?_
        rintro e w' ⟨rfl, rfl⟩
        go_wp2_with fail
        refine (inRange_no o.arg 0 M _ ha').mono ?_
        rintro e w' ⟨rfl, rfl⟩
        clear ha'
        go_wp2
        go_ret
        exact ⟨ret_bool HF.out.symm, hB⟩
  · have HF := hide (show tf (OdOk o) = false from tf_false fun h => hc h.1)
    have hc' : o.code < 0 ∨ 19 < o.code := by omega
    clear hc
    go_enter Tryd.func17, Tryd.ntmps17
    go_wp2_with fail
    refine (argOf_any o.code _).mono ?_
    rintro e w' ⟨rfl, rfl⟩
    generalize argMost o.code = M at hm ⊢
    go_wp2_with fail
    refine (inRange_no o.code 0 19 _ hc').mono ?_
    rintro e w' ⟨rfl, rfl⟩
    clear hc'
    go_wp2
    go_ret
    exact ⟨ret_bool HF.out.symm, hB⟩

end Go.Proofs.YtckodifdbephgaaDoor

namespace Go.Proofs.YtckodifdbephgaaDoor
open Go.RowKit
set_option linter.unusedVariables false

set_option maxHeartbeats 1000000 in
theorem specValidOps_any (A : Option Addr) (os : List Od) (c : Nat) (w : World) (h : OpsAt w w.heap.size A os) :
    Calls Tryd.prog 10 #[.slice A os.length c] w fun e w' => e = .returned (.bool (tf (OpsOk os))) ∧ Below w.heap.size w w' := by
  have hl := h.len
  go_enter Tryd.func10, Tryd.ntmps10
  go_wp2_with fail
  go_loopw [3] (fun i wr => ∃ k : Nat, k ≤ os.length ∧ i = .int .i64 k ∧ Below w.heap.size w wr ∧ ∀ j x, j < k → os[j]? = some x → OdOk x) (fun i _ => os.length - (intOf i).toNat)
  case atStart => exact ⟨0, Nat.zero_le _, rfl, Below.refl _ _, fun j _ hj => absurd hj (by omega)⟩
  case round =>
    obtain ⟨k, hk, rfl, hb, he0⟩ := hrel
    have he := hide he0
    clear he0
    by_cases hlt : k < os.length
    · obtain ⟨b, off, x, rfl, hbl, hx, hmem, hc0, hc1⟩ := (h.below hb).at_ hlt
      have Hx := hide hx
      clear hx
      by_cases hin : OdOk x
      · have He : Hid (∀ j y, j < k + 1 → os[j]? = some y → OdOk y) := by
          intro j y hj hy
          by_cases e : j = k
          · subst e
            have := Hx.out.symm.trans hy
            injection this with this
            subst this
            exact hin
          · exact he.out j y (by omega) hy
        have ht := hide (show tf (OdOk x) = true from tf_true hin)
        clear he hmem hin
        go_wp2_with fail
        refine (validOp_any x _).mono ?_
        rintro e w' ⟨rfl, hb2⟩
        rw [ht.out]
        go_wp2
        go_roundw
        case rel => exact ⟨k + 1, by omega, by go_num, hb.trans (hb2.mono hb.size), He.out⟩
        case measure => simp [intOf]; omega
      · have HF := hide (show tf (OpsOk os) = false from tf_false fun hall => hin (hall.2 x hmem))
        have ht := hide (show tf (OdOk x) = false from tf_false hin)
        clear he hmem hin
        go_wp2_with fail
        refine (validOp_any x _).mono ?_
        rintro e w' ⟨rfl, hb2⟩
        rw [ht.out]
        go_wp2
        go_ret
        exact ⟨ret_bool HF.out.symm, hb.trans (hb2.mono hb.size)⟩
    · obtain rfl : k = os.length := by omega
      have hall : ∀ x ∈ os, OdOk x := fun x hx => by
        obtain ⟨j, hj, rfl⟩ := List.getElem_of_mem hx
        exact he.out j _ hj (List.getElem?_eq_getElem hj)
      by_cases h3 : os.length ≤ 300
      · have HF := hide (show tf (OpsOk os) = true from tf_true ⟨h3, hall⟩)
        have d : decide ((os.length : Int) ≤ 300) = true := by simp; omega
        clear hlt hall
        go_wp2
        go_ret
        exact ⟨ret_bool HF.out.symm, hb⟩
      · have HF := hide (show tf (OpsOk os) = false from tf_false fun hh => h3 hh.1)
        have d : decide ((os.length : Int) ≤ 300) = false := by simp; omega
        clear hlt hall
        go_wp2
        go_ret
        exact ⟨ret_bool HF.out.symm, hb⟩

end Go.Proofs.YtckodifdbephgaaDoor

namespace Go.Proofs.YtckodifdbephgaaDoor
open Go.ChangeShapes Go.WideShapes Go.ChangeAt Go.RowKit Go.Deep
set_option linter.unusedVariables false

theorem readCellsB : Tryd.prog.cellsOf 5 = 1 := by kernel_rfl
theorem readOwnB : ownKnob Tryd.prog.godebug = none := by kernel_rfl
theorem readLaidB : laidOutB Tryd.prog = true := by kernel_rfl

theorem addr_add_b (b off j : Nat) : (⟨b, off, none⟩ : Addr).add j = ⟨b, off + j, none⟩ := by
  unfold Addr.add
  split
  · rename_i h0; subst h0; rfl
  · rfl

/-- a slice of bytes that came in -/
theorem read_bytes {H : Type} {enc : TypeId × Value → H} {w : World} {base : Nat} {spare : Nat → Bool} {held : Bool} {m : Nat} {v : Value} {y : DataW H × List MemPlace} (h : DataW.trod enc Tryd.prog w base spare held m 22 [v] = some y) :
    ∃ (A : Option Addr) (n c : Nat), v = .slice A n c ∧ BytesAt w w.heap.size A n ∧ n ≤ c ∧ n ≤ 9223372036854775807 := by
  rcases open_ints Tryd.underlying22 Tryd.underlying5 readCellsB h with ⟨hcs, _⟩ | ⟨a, len, cap, zs, hcs, _, hl, hm, hz, _, hcell, hwz⟩
  · simp at hcs
    subst hcs
    exact ⟨none, 0, 0, rfl, fun k hk => absurd hk (by omega), Nat.le_refl _, by omega⟩
  · simp at hcs
    subst hcs
    have hzl : len ≤ zs.length := by rw [hz]; split <;> omega
    refine ⟨some a, len, cap, rfl, fun k hk => ?_, hl, by unfold maxLen at hm; omega⟩
    have hz0 := hcell 0 (by omega)
    have hc0 := hcell k (by omega)
    obtain ⟨b, off, sp⟩ := a
    have hsp : sp = none := by simpa [Addr.add] using World.cell?_spot hz0
    subst hsp
    rw [addr_add_b] at hc0
    have hb := range_u8 hwz k
    rw [List.getD_eq_getElem?_getD] at hc0
    obtain ⟨x, hx⟩ := Int.eq_ofNat_of_zero_le hb.1
    refine ⟨b, off, x, rfl, World.block_lt_of_cell? w _ hc0, ?_, by omega⟩
    rw [hc0, hx]

end Go.Proofs.YtckodifdbephgaaDoor
