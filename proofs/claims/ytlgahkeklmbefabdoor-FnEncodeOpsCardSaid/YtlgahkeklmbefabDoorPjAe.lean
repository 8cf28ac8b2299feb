/-
  Lemmas, several texts in one: Forms, OwnS, PlIn, InR, AllIn, SpecA, SpecB, ShpW, VOp, EncM, HasA, ApA, DecM, FsA.
-/
import Derived.Test.YtlgahkeklmbefabDoorPjAa
import Derived.LaidMore
import Derived.Test.YtlgahkeklmbefabDoorOwn
import Derived.Deep.RegionLaw
import Derived.Deep.AppendLies
import Derived.Deep.QuietTactic
import Derived.BigQuiet
import Derived.Test.YtlgahkeklmbefabDoorPjAd
import Derived.StillTailTactics
import Derived.Test.YtlgahkeklmbefabDoorShpR
import Derived.Deep.RegionHeld
import Derived.Test.YtlgahkeklmbefabDoorPjAb
import Derived.Test.YtlgahkeklmbefabDoorPjAc
namespace Go.Proofs.YtlgahkeklmbefabDoor
open Go.RowKit Go.ChangeShapes

/-- how many things an order of a code takes, -1 for all above a mark -/
def takesOf (c : Nat) : Int := [0, 0, 0, -1, 0, 1, 2, 0, 1, -1, 0, 2, -1, 0, 1, 0, 0, 1, -1, 0].getD c 0

/-- how many things an order of a code pushes -/
def pushesOf (c : Nat) : Int := [1, 1, 1, 1, 1, 1, 1, 1, 0, 0, 1, 0, 0, 1, 0, 0, 1, 0, 0, 0].getD c 0

/-- the cells of the table -/
structure FormsAt (w : World) (B : Nat) : Prop where
  lt : 0 < B
  takes : ∀ c : Nat, c < 20 → w.cell? ⟨0, c * 3, none⟩ = some (.int .i64 (takesOf c))
  pushes : ∀ c : Nat, c < 20 → w.cell? ⟨0, c * 3 + 1, none⟩ = some (.int .i64 (pushesOf c))
  arg : ∀ c : Nat, c < 20 → w.cell? ⟨0, c * 3 + 2, none⟩ = some (.int .i64 (argTop c))

theorem FormsAt.below {w w' : World} {B : Nat} (h : FormsAt w B) (hb : Below B w w') : FormsAt w' B :=
  ⟨h.lt, fun c hc => (hb.cell (p := ⟨0, c * 3, none⟩) h.lt).trans (h.takes c hc), fun c hc => (hb.cell (p := ⟨0, c * 3 + 1, none⟩) h.lt).trans (h.pushes c hc), fun c hc => (hb.cell (p := ⟨0, c * 3 + 2, none⟩) h.lt).trans (h.arg c hc)⟩

theorem FormsAt.more {w : World} {B B' : Nat} (h : FormsAt w B) (hB : B ≤ B') : FormsAt w B' := ⟨Nat.lt_of_lt_of_le h.lt hB, h.takes, h.pushes, h.arg⟩

theorem FormsAt.later {w w' : World} {B : Nat} (h : FormsAt w B) (hb : Below B w w') (hB : B ≤ w.heap.size) : FormsAt w' w'.heap.size :=
  (h.below hb).more (Nat.le_trans hB hb.size)

end Go.Proofs.YtlgahkeklmbefabDoor

namespace Go.Proofs.YtlgahkeklmbefabDoor
open Go.RowKit

theorem IntsAt.lit (w : World) (xs : List Int) (hx : ∀ x ∈ xs, In64 x) (hl : xs.length ≤ 1048576) : IntsAt (w.alloc (.cells (xs.map (Value.int .i64)).toArray 3)) (w.heap.size + 1) (some ⟨w.heap.size, 0, none⟩) xs := by
  refine ⟨fun _ => ⟨w.heap.size, 0, rfl, Nat.lt_succ_self _, fun j y hj => ?_⟩, hx, by omega⟩
  rw [(Lies.new w (xs.map (Value.int .i64)).toArray 3).cell]
  simp [hj]

theorem IntsAt.hold {w : World} {b : Nat} {cs : Array Value} {t : TypeId} (h : Lies w b cs t) (xs : List Int) (hc : cs = (xs.map (Value.int .i64)).toArray) (hx : ∀ x ∈ xs, In64 x) (hl : xs.length ≤ 1048576) : IntsAt w w.heap.size (some ⟨b, 0, none⟩) xs := by
  subst hc
  refine ⟨fun _ => ⟨b, 0, rfl, h.lt, fun j y hj => ?_⟩, hx, by omega⟩
  rw [h.cell]
  simp [hj]

/-- append(s, t...) in a statement that draws its order, where s is the call's own and t is an int slice that is not empty -/
theorem step_append_ints {w : World} {ops : Array Oper} {o : Oper} {a : Act} {K : Act → World → Prop} {Q : Exit → Act → World → Prop} {E : Prop} (hgd : o.guard = none) (s x : Operand)
    (ho : o.op = .call { callee := .builtin .append, args := #[s, x], argTypes := #[25, 25] })
    (base : Nat) (A : Option Addr) (c : Nat) (xs : List Int) (hs : a.eval s = .slice A xs.length c) (hown : OwnI w base A c xs)
    (ad : Addr) (c2 : Nat) (ys : List Int) (hne : ys ≠ []) (hx : a.eval x = .slice (some ad) ys.length c2) (hr : IntsAt w w.heap.size (some ad) ys)
    (hsum : xs.length + ys.length ≤ 16777216) (hbase : base ≤ w.heap.size)
    (h : ∀ (zs : List Int) (A' : Option Addr) (c' : Nat) (w' : World), Hid (zs = xs ++ ys) → OwnI w' base A' c' zs → w.grownBy w' (blockOf A) → (blockOf A' = blockOf A ∨ blockOf A' = some w.heap.size) →
      K (a.put o.dst (.slice A' zs.length c')) w') :
    if Region.wanted o (yielded ops a.tmps) = true then Oper.wp Tryd.prog o a w K Q else E := by
  obtain ⟨i0, hi, hz0, hz1, hz2⟩ := info_parts infoI
  have hcells : ∀ j u, (ys.map (Value.int .i64))[j]? = some u → w.cell? (ad.add j) = some u := by
    intro j u hu
    rw [List.getElem?_map] at hu
    cases hy : ys[j]? with
    | none => rw [hy] at hu; cases hu
    | some y =>
      rw [hy] at hu
      simp at hu
      subst hu
      obtain ⟨b, off, e2, _, hc⟩ := hr.row hne
      obtain rfl : ad = ⟨b, off, none⟩ := Option.some.inj e2
      have hadd : (⟨b, off, none⟩ : Addr).add j = ⟨b, off + j, none⟩ := by
        unfold Addr.add
        split
        · rename_i h0; subst h0; rfl
        · rfl
      rw [hadd]
      exact hc j y hy
  refine step_append_lies w hgd s x 25 ho base 3 i0 _ 1 8 Tryd.underlying25 hi hz0 hz1 hz2 rfl (by omega) _ _ _ hs hown.own ad ys.length c2 (ys.map (Value.int .i64)) hx (by simp) hcells (ints_one ys)
    (List.length_pos_iff.2 hne) (by unfold maxLen; omega) (by omega) hbase w.heap.size rfl ?_
  intro g cap w' h2 h3 h4 _
  have hlen : xs.length + ys.length = (xs ++ ys).length := by simp
  rw [ownBlock_slice] at h3 h4
  rw [← List.map_append, hlen] at h2
  rw [hlen]
  refine h (xs ++ ys) (some ⟨g, 0, none⟩) cap w' (by simp [Hid]) ⟨h2⟩ h3 ?_
  rcases h4 with h4 | h4
  · exact .inl (by rw [h4]; rfl)
  · exact .inr (by rw [h4]; rfl)

end Go.Proofs.YtlgahkeklmbefabDoor

namespace Go.Proofs.YtlgahkeklmbefabDoor
open Go.RowKit

set_option maxHeartbeats 1000000 in
theorem placeIn_any (A : Option Addr) (xs : List Int) (c : Nat) (n : Int) (w : World) (h : IntsAt w w.heap.size A xs) :
    Calls Tryd.prog 56 #[.slice A xs.length c, .int .i64 n] w fun e w' => e = .returned (.int .i64 (place xs n)) ∧ w = w' := by
  have hl := h.len
  go_enter Tryd.func56, Tryd.ntmps56
  go_wp2_with fail
  go_loop [5] (fun i => ∃ k : Nat, k ≤ xs.length ∧ i = .int .i64 k ∧ ∀ j, j < k → xs[j]? ≠ some n) (fun i => xs.length - (intOf i).toNat)
  case atStart => exact ⟨0, Nat.zero_le _, rfl, fun j hj => absurd hj (by omega)⟩
  case round =>
    obtain ⟨k, hk, rfl, he0⟩ := hrel
    have he := hide he0
    clear he0
    by_cases hlt : k < xs.length
    · obtain ⟨b, off, x, rfl, hbl, hx, _, hc⟩ := h.at_ hlt
      have Hx := hide hx
      clear hx
      by_cases hxn : x = n
      · subst hxn
        have HF := hide (place_at Hx.out he.out)
        go_wp2
        go_ret
        exact ⟨ret_int HF.out.symm, rfl⟩
      · have t : (x == n) = false := by simpa using hxn
        have he2 : ∀ j, j < k + 1 → xs[j]? ≠ some n := by
          intro j hj
          by_cases e : j = k
          · subst e; rw [Hx.out]; intro e; injection e with e; exact hxn e
          · exact he.out j (by omega)
        have He := hide he2
        clear he2 he hxn
        go_wp2
        go_round
        case rel => exact ⟨k + 1, by omega, by go_num, He.out⟩
        case measure => simp [intOf]; omega
    · obtain rfl : k = xs.length := by omega
      have HF := hide (place_none he.out)
      clear hlt
      go_wp2
      go_ret
      exact ⟨ret_int HF.out.symm, rfl⟩

end Go.Proofs.YtlgahkeklmbefabDoor

namespace Go.Proofs.YtlgahkeklmbefabDoor
open Go.RowKit

theorem inRange_yes (n lo hi : Int) (w : World) (h1 : lo ≤ n) (h2 : n ≤ hi) :
    Calls Tryd.prog 39 #[.int .i64 n, .int .i64 lo, .int .i64 hi] w fun e w' => e = .returned (.bool true) ∧ w = w' := by
  have d1 : decide (lo ≤ n) = true := by simpa using h1
  have d2 : decide (n ≤ hi) = true := by simpa using h2
  go_enter Tryd.func39, Tryd.ntmps39
  go_wp2
  go_ret
  exact ⟨rfl, rfl⟩

theorem inRange_no (n lo hi : Int) (w : World) (h : n < lo ∨ hi < n) :
    Calls Tryd.prog 39 #[.int .i64 n, .int .i64 lo, .int .i64 hi] w fun e w' => e = .returned (.bool false) ∧ w = w' := by
  by_cases h1 : lo ≤ n
  · have h2 : ¬ n ≤ hi := by omega
    have d1 : decide (lo ≤ n) = true := by simpa using h1
    have d2 : decide (n ≤ hi) = false := by simpa using h2
    clear h
    go_enter Tryd.func39, Tryd.ntmps39
    go_wp2
    go_ret
    exact ⟨rfl, rfl⟩
  · have d1 : decide (lo ≤ n) = false := by simpa using h1
    clear h
    go_enter Tryd.func39, Tryd.ntmps39
    go_wp2
    go_ret
    exact ⟨rfl, rfl⟩

end Go.Proofs.YtlgahkeklmbefabDoor

namespace Go.Proofs.YtlgahkeklmbefabDoor
open Go.RowKit

/-- all numbers lie in a range -/
def AllIn (xs : List Int) (lo hi : Int) : Prop := ∀ x ∈ xs, lo ≤ x ∧ x ≤ hi

set_option maxHeartbeats 1000000 in
theorem allIn_any (A : Option Addr) (xs : List Int) (c : Nat) (lo hi : Int) (w : World) (h : IntsAt w w.heap.size A xs) :
    Calls Tryd.prog 58 #[.slice A xs.length c, .int .i64 lo, .int .i64 hi] w fun e w' => e = .returned (.bool (tf (AllIn xs lo hi))) ∧ w = w' := by
  have hl := h.len
  go_enter Tryd.func58, Tryd.ntmps58
  go_wp2_with fail
  go_loop [7] (fun i => ∃ k : Nat, k ≤ xs.length ∧ i = .int .i64 k ∧ ∀ j x, j < k → xs[j]? = some x → lo ≤ x ∧ x ≤ hi) (fun i => xs.length - (intOf i).toNat)
  case atStart => exact ⟨0, Nat.zero_le _, rfl, fun j _ hj => absurd hj (by omega)⟩
  case round =>
    obtain ⟨k, hk, rfl, he0⟩ := hrel
    have he := hide he0
    clear he0
    by_cases hlt : k < xs.length
    · obtain ⟨b, off, x, rfl, hbl, hx, hmem, hc⟩ := h.at_ hlt
      have Hx := hide hx
      clear hx
      by_cases hin : lo ≤ x ∧ x ≤ hi
      · have He : Hid (∀ j y, j < k + 1 → xs[j]? = some y → lo ≤ y ∧ y ≤ hi) := by
          intro j y hj hy
          by_cases e : j = k
          · subst e
            have := Hx.out.symm.trans hy
            injection this with this
            subst this
            exact hin
          · exact he.out j y (by omega) hy
        obtain ⟨h1, h2⟩ := hin
        clear he hmem
        go_wp2_with fail
        refine (inRange_yes x lo hi w h1 h2).mono ?_
        rintro e w' ⟨rfl, rfl⟩
        go_wp2
        go_round
        case rel => exact ⟨k + 1, by omega, by go_num, He.out⟩
        case measure => simp [intOf]; omega
      · have HF := hide (show tf (AllIn xs lo hi) = false from tf_false fun hall => hin (hall x hmem))
        have hno : x < lo ∨ hi < x := by omega
        clear he hmem
        go_wp2_with fail
        refine (inRange_no x lo hi w hno).mono ?_
        rintro e w' ⟨rfl, rfl⟩
        clear hno hin
        go_wp2
        go_ret
        exact ⟨ret_bool HF.out.symm, rfl⟩
    · obtain rfl : k = xs.length := by omega
      have HF := hide (show tf (AllIn xs lo hi) = true from tf_true fun x hx => by
        obtain ⟨j, hj, rfl⟩ := List.getElem_of_mem hx
        exact he.out j _ hj (List.getElem?_eq_getElem hj))
      clear hlt
      go_wp2
      go_ret
      exact ⟨ret_bool HF.out.symm, rfl⟩

end Go.Proofs.YtlgahkeklmbefabDoor

namespace Go.Proofs.YtlgahkeklmbefabDoor
open Go.RowKit

/-- a node that can be a key -/
def IsKey (n : Nd) : Prop := n.kind = 0 ∨ n.kind = 1

set_option maxHeartbeats 400000 in
theorem isKey_any (v : Value) (n : Nd) (w : World) :
    Calls Tryd.prog 51 #[.agg #[.int .i64 n.kind, .int .i64 n.value, v]] w fun e w' => e = .returned (.bool (tf (IsKey n))) ∧ Below w.heap.size w w' := by
  by_cases h0 : n.kind = 0
  · have HF := hide (show tf (IsKey n) = true from tf_true (.inl h0))
    have t : (n.kind == 0) = true := by simpa using h0
    clear h0
    go_enter Tryd.func51, Tryd.ntmps51
    go_wp2
    go_ret
    exact ⟨ret_bool HF.out.symm, (Below.refl _ _).alloc (Nat.le_refl _) _⟩
  · by_cases h1 : n.kind = 1
    · have HF := hide (show tf (IsKey n) = true from tf_true (.inr h1))
      have t : (n.kind == 0) = false := by simpa using h0
      have t1 : (n.kind == 1) = true := by simpa using h1
      clear h0 h1
      go_enter Tryd.func51, Tryd.ntmps51
      go_wp2
      go_ret
      exact ⟨ret_bool HF.out.symm, (Below.refl _ _).alloc (Nat.le_refl _) _⟩
    · have HF := hide (show tf (IsKey n) = false from tf_false (fun h => h.elim h0 h1))
      have t : (n.kind == 0) = false := by simpa using h0
      have t1 : (n.kind == 1) = false := by simpa using h1
      clear h0 h1
      go_enter Tryd.func51, Tryd.ntmps51
      go_wp2
      go_ret
      exact ⟨ret_bool HF.out.symm, (Below.refl _ _).alloc (Nat.le_refl _) _⟩

/-- equal keys -/
def SameKey (m n : Nd) : Prop := m.kind = n.kind ∧ m.value = n.value

set_option maxHeartbeats 400000 in
theorem sameKey_any (v v' : Value) (m n : Nd) (w : World) :
    Calls Tryd.prog 60 #[.agg #[.int .i64 m.kind, .int .i64 m.value, v], .agg #[.int .i64 n.kind, .int .i64 n.value, v']] w fun e w' => e = .returned (.bool (tf (SameKey m n))) ∧ Below w.heap.size w w' := by
  by_cases h0 : m.kind = n.kind
  · by_cases h1 : m.value = n.value
    · have HF := hide (show tf (SameKey m n) = true from tf_true ⟨h0, h1⟩)
      have t : (m.kind == n.kind) = true := by simpa using h0
      have t1 : (m.value == n.value) = true := by simpa using h1
      clear h0 h1
      go_enter Tryd.func60, Tryd.ntmps60
      go_wp2
      go_ret
      exact ⟨ret_bool HF.out.symm, ((Below.refl _ _).alloc (Nat.le_refl _) _).alloc (by simp) _⟩
    · have HF := hide (show tf (SameKey m n) = false from tf_false (fun h => h1 h.2))
      have t : (m.kind == n.kind) = true := by simpa using h0
      have t1 : (m.value == n.value) = false := by simpa using h1
      clear h0 h1
      go_enter Tryd.func60, Tryd.ntmps60
      go_wp2
      go_ret
      exact ⟨ret_bool HF.out.symm, ((Below.refl _ _).alloc (Nat.le_refl _) _).alloc (by simp) _⟩
  · have HF := hide (show tf (SameKey m n) = false from tf_false (fun h => h0 h.1))
    have t : (m.kind == n.kind) = false := by simpa using h0
    clear h0
    go_enter Tryd.func60, Tryd.ntmps60
    go_wp2
    go_ret
    exact ⟨ret_bool HF.out.symm, ((Below.refl _ _).alloc (Nat.le_refl _) _).alloc (by simp) _⟩

end Go.Proofs.YtlgahkeklmbefabDoor

namespace Go.Proofs.YtlgahkeklmbefabDoor
open Go.RowKit

/-- all kids are nodes -/
def InG (ns : List Nd) (kids : List Int) : Prop := ∀ x ∈ kids, 0 ≤ x ∧ x < ns.length

/-- the node that is the kid at place p -/
def KidNd (ns : List Nd) (kids : List Int) (p : Nat) (n : Nd) : Prop := ∃ k : Nat, kids[p]? = some (k : Int) ∧ ns[k]? = some n

/-- keys and values by turns, keys that can be keys, no two of them equal -/
structure DictOk (ns : List Nd) (kids : List Int) : Prop where
  even : kids.length % 2 = 0
  key : ∀ p n, p % 2 = 0 → KidNd ns kids p n → IsKey n
  diff : ∀ p q m n, p % 2 = 0 → q % 2 = 0 → q < p → KidNd ns kids p m → KidNd ns kids q n → ¬ SameKey m n

theorem KidNd.eq {ns : List Nd} {kids : List Int} {p : Nat} {m n : Nd} (h : KidNd ns kids p m) (h' : KidNd ns kids p n) : m = n := by
  obtain ⟨k, h1, h2⟩ := h
  obtain ⟨k', h3, h4⟩ := h'
  rw [h1] at h3
  have : k = k' := by injection h3 with h3; omega
  subst this
  rw [h2] at h4
  injection h4

theorem KidNd.lt {ns : List Nd} {kids : List Int} {p : Nat} {n : Nd} (h : KidNd ns kids p n) : p < kids.length := by
  obtain ⟨k, h1, _⟩ := h
  exact (List.getElem?_eq_some_iff.1 h1).1

/-- reading the kid at place p and its node -/
theorem kid_at {w : World} {B B' : Nat} {A A' : Option Addr} {ns : List Nd} {kids : List Int} (hr : NdsAt w B A ns) (hk : IntsAt w B' A' kids) (hin : InG ns kids) {p : Nat} (hp : p < kids.length) :
    ∃ (b off b' off' k : Nat) (n : Nd), A = some ⟨b, off, none⟩ ∧ b < B ∧ A' = some ⟨b', off', none⟩ ∧ b' < B' ∧ k < ns.length ∧ w.cell? ⟨b', off' + p, none⟩ = some (.int .i64 (k : Int)) ∧ NdAt w B b (off + k * 3) n ∧
      KidNd ns kids p n ∧ n ∈ ns := by
  obtain ⟨b', off', x, rfl, hb', hx, hmem, hc⟩ := hk.at_ hp
  obtain ⟨h0, h1⟩ := hin x hmem
  obtain ⟨k, rfl⟩ := Int.eq_ofNat_of_zero_le h0
  obtain ⟨b, off, n, rfl, hb, hat, hn, hN⟩ := hr.at_ (k := k) (by omega)
  exact ⟨b, off, b', off', k, n, rfl, hb, rfl, hb', by omega, hc, hN, ⟨k, hx, hat⟩, hn⟩

set_option maxRecDepth 100000 in
set_option maxHeartbeats 4000000 in
theorem validDict_any (A : Option Addr) (ns : List Nd) (c : Nat) (r : Int) (A' : Option Addr) (n : Nd) (c' : Nat) (w : World) (hr : NdsAt w w.heap.size A ns) (hk : IntsAt w w.heap.size A' n.kids) (hin : InG ns n.kids) (hsm : n.kids.length ≤ 1048576) :
    Calls Tryd.prog 59 #[.agg #[.slice A ns.length c, .int .i64 r], .agg #[.int .i64 n.kind, .int .i64 n.value, .slice A' n.kids.length c']] w fun e w' =>
      e = .returned (.bool (tf (DictOk ns n.kids))) ∧ Below w.heap.size w w' := by
  have hnl := hr.len
  have hB : Below w.heap.size w ((w.alloc (.cells #[.slice A ns.length c, .int .i64 r] 47)).alloc (.cells #[.int .i64 n.kind, .int .i64 n.value, .slice A' n.kids.length c'] 75)) :=
    ((Below.refl _ _).alloc (Nat.le_refl _) _).alloc (by simp) _
  have l1 := (Lies.new w #[.slice A ns.length c, .int .i64 r] 47).alloc (.cells #[.int .i64 n.kind, .int .i64 n.value, .slice A' n.kids.length c'] 75)
  have l2 := Lies.new (w.alloc (.cells #[.slice A ns.length c, .int .i64 r] 47)) #[.int .i64 n.kind, .int .i64 n.value, .slice A' n.kids.length c'] 75
  have hr2 := hr.later hB (Nat.le_refl _)
  have hk2 := hk.later hB (Nat.le_refl _)
  simp only [World.size_alloc] at l2
  clear hr hk
  go_enter Tryd.func59, Tryd.ntmps59
  go_wp2_with fail
  generalize (w.alloc (.cells #[.slice A ns.length c, .int .i64 r] 47)).alloc (.cells #[.int .i64 n.kind, .int .i64 n.value, .slice A' n.kids.length c'] 75) = W at hB l1 l2 hr2 hk2 ⊢
  have hW1 := l1.lt
  have hW2 := l2.lt
  go_loopw [5] (fun i wr => ∃ k : Nat, k % 2 = 0 ∧ k ≤ n.kids.length + 1 ∧ i = .int .i64 k ∧ Below W.heap.size W wr ∧ (∀ p m, p < k → p % 2 = 0 → KidNd ns n.kids p m → IsKey m) ∧
      (∀ p q m m', p < k → p % 2 = 0 → q % 2 = 0 → q < p → KidNd ns n.kids p m → KidNd ns n.kids q m' → ¬ SameKey m m')) (fun i _ => n.kids.length + 2 - (intOf i).toNat)
  case atStart => exact ⟨0, rfl, Nat.zero_le _, rfl, Below.refl _ _, fun p m hp => absurd hp (by omega), fun p q m m' hp => absurd hp (by omega)⟩
  case round =>
    obtain ⟨k, hk2', hkl, rfl, hb, hkey0, hdiff0⟩ := hrel
    have hkey := hide hkey0
    have hdiff := hide hdiff0
    have hev := hide hk2'
    clear hkey0 hdiff0 hk2'
    have e0 := (l1.below hb hW1).cell 0
    have e2 := (l2.below hb hW2).cell 2
    simp at e0 e2
    by_cases hlt : k < n.kids.length
    · obtain ⟨b, off, b', off', x, m, rfl, hbl, rfl, hbl', hxl, hcx, hM, hkn, _⟩ := kid_at (hr2.below hb) (hk2.below hb) hin hlt
      obtain ⟨hm_k, hm_v, ⟨A1, c1, hm_s, hI1, _⟩, _, _⟩ := hM
      have hk1 : (0 : Int) ≤ (k : Int) := by omega
      have hk3 : (k : Int) < (n.kids.length : Int) := by omega
      have hx1 : (0 : Int) ≤ (x : Int) := by omega
      have hx3 : (x : Int) < (ns.length : Int) := by omega
      have hbd : Below W.heap.size W wr.drew := hb.drew
      go_wp2_with fail
      go_still_tail 9, (by kernel_rfl)
      change wpList _ _ _ _ _ wr.drew
      generalize wr.drew = w2 at hbd ⊢
      clear hb hcx hm_k hm_v hm_s hI1 e0 e2
      go_wp2_with fail
      refine (isKey_any _ m w2).mono ?_
      rintro e w' ⟨rfl, hb3⟩
      have hb4 := hbd.trans (hb3.mono hbd.size)
      clear hbd hb3
      by_cases hik : IsKey m
      · have t := tf_true hik
        rw [t]
        clear t
        go_wp2_with fail
        go_loopw [6] (fun i wr => ∃ j : Nat, j % 2 = 0 ∧ j ≤ k ∧ i = .int .i64 j ∧ Below W.heap.size W wr ∧ (∀ q m', q < j → q % 2 = 0 → KidNd ns n.kids q m' → ¬ SameKey m m')) (fun i _ => k + 2 - (intOf i).toNat)
        case atStart => exact ⟨0, rfl, Nat.zero_le _, rfl, hb4, fun q m' hq => absurd hq (by omega)⟩
        case round =>
          obtain ⟨j, hj2, hjk, rfl, hb5, hne0⟩ := hrel
          have hne := hide hne0
          have hjv := hide hj2
          clear hne0 hj2 hb4
          have e0 := (l1.below hb5 hW1).cell 0
          have e2 := (l2.below hb5 hW2).cell 2
          simp at e0 e2
          by_cases hjlt : j < k
          · obtain ⟨_, _, _, _, x1, _, he1, _, he2, _, hxl1, hcx1, hM1, hkn1, _⟩ := kid_at (hr2.below hb5) (hk2.below hb5) hin hlt
            obtain ⟨_, _, _, _, y, m2, he3, _, he4, _, hyl, hcy, hM2, hkn2, _⟩ := kid_at (hr2.below hb5) (hk2.below hb5) hin (p := j) (by omega)
            simp only [Option.some.injEq, Addr.mk.injEq, and_true] at he1 he2 he3 he4
            obtain ⟨rfl, rfl⟩ := he1
            obtain ⟨rfl, rfl⟩ := he2
            obtain ⟨rfl, rfl⟩ := he3
            obtain ⟨rfl, rfl⟩ := he4
            obtain rfl := hkn.eq hkn1
            obtain ⟨hm_k, hm_v, ⟨A1, c1, hm_s, hI1, _⟩, _, _⟩ := hM1
            obtain ⟨hn_k, hn_v, ⟨A2, c2, hn_s, hI2, _⟩, _, _⟩ := hM2
            have hj1 : (0 : Int) ≤ (j : Int) := by omega
            have hj3 : (j : Int) < (n.kids.length : Int) := by omega
            have hxx1 : (0 : Int) ≤ (x1 : Int) := by omega
            have hxx3 : (x1 : Int) < (ns.length : Int) := by omega
            have hy1 : (0 : Int) ≤ (y : Int) := by omega
            have hy3 : (y : Int) < (ns.length : Int) := by omega
            have hbd : Below W.heap.size W wr.drew := hb5.drew
            go_wp2_with fail
            go_still_tail 18, (by kernel_rfl)
            change wpList _ _ _ _ _ wr.drew
            generalize wr.drew = w3 at hbd ⊢
            clear hb5 hcx1 hcy hm_k hm_v hm_s hI1 hn_k hn_v hn_s hI2 e0 e2
            go_wp2_with fail
            refine (sameKey_any _ _ m m2 w3).mono ?_
            rintro e w' ⟨rfl, hb3⟩
            have hb4 := hbd.trans (hb3.mono hbd.size)
            clear hbd hb3
            by_cases hsk : SameKey m m2
            · have t := tf_true hsk
              rw [t]
              clear t
              have HF := hide (show tf (DictOk ns n.kids) = false from tf_false fun h => h.diff k j m m2 hev.out hjv.out hjlt hkn hkn2 hsk)
              go_wp2
              go_ret
              exact ⟨ret_bool HF.out.symm, hB.trans (hb4.mono hB.size)⟩
            · have t := tf_false hsk
              rw [t]
              clear t
              have hne2 : ∀ q m', q < j + 2 → q % 2 = 0 → KidNd ns n.kids q m' → ¬ SameKey m m' := by
                intro q m' hq hq2 hqn
                by_cases e : q = j
                · subst e
                  obtain rfl := hkn2.eq hqn
                  exact hsk
                · exact hne.out q m' (by have := hjv.out; omega) hq2 hqn
              have Hne := hide hne2
              have hj5 : j + 2 ≤ k := by have := hjv.out; have := hev.out; omega
              clear hne2 hne
              go_wp2
              go_roundw
              case rel => exact ⟨j + 2, by have := hjv.out; omega, hj5, by go_num, hb4, Hne.out⟩
              case measure => simp [intOf]; omega
          · obtain rfl : j = k := by omega
            clear hjlt e0 e2
            go_wp2
            go_roundw
            case rel => exact ⟨j + 2, by have := hev.out; omega, by omega, by go_num, hb5, fun p m' hp hp2 hpn => by
                by_cases e : p = j
                · subst e
                  obtain rfl := hkn.eq hpn
                  exact hik
                · exact hkey.out p m' (by have := hjv.out; omega) hp2 hpn, fun p q m1 m2 hp hp2 hq2 hqp h1 h2 => by
                by_cases e : p = j
                · subst e
                  obtain rfl := hkn.eq h1
                  exact hne.out q m2 hqp hq2 h2
                · exact hdiff.out p q m1 m2 (by have := hjv.out; omega) hp2 hq2 hqp h1 h2⟩
            case measure => simp [intOf]; omega
      · have t := tf_false hik
        rw [t]
        clear t
        have HF := hide (show tf (DictOk ns n.kids) = false from tf_false fun h => hik (h.key k m hev.out hkn))
        go_wp2
        go_ret
        exact ⟨ret_bool HF.out.symm, hB.trans (hb4.mono hB.size)⟩
    · by_cases hmod : n.kids.length % 2 = 0
      · have HF := hide (show tf (DictOk ns n.kids) = true from tf_true ⟨hmod, fun p m hp hn => hkey.out p m (by have := hn.lt; omega) hp hn, fun p q m m' hp hq hqp h1 h2 => hdiff.out p q m m' (by have := h1.lt; omega) hp hq hqp h1 h2⟩)
        have t : ((n.kids.length : Int) % 2 == 0) = true := by rw [beq_iff_eq]; omega
        clear hmod
        go_wp2
        go_ret
        exact ⟨ret_bool HF.out.symm, hB.trans (hb.mono hB.size)⟩
      · have HF := hide (show tf (DictOk ns n.kids) = false from tf_false fun h => hmod h.even)
        have t : ((n.kids.length : Int) % 2 == 0) = false := by rw [beq_eq_false_iff_ne]; omega
        clear hmod
        go_wp2
        go_ret
        exact ⟨ret_bool HF.out.symm, hB.trans (hb.mono hB.size)⟩

end Go.Proofs.YtlgahkeklmbefabDoor

namespace Go.Proofs.YtlgahkeklmbefabDoor
open Go.RowKit
set_option linter.unusedVariables false

/-- an operation that only reads is taken first -/
theorem takeO {P : Program} {ops : Array Oper} {Q : Exit → Act → World → Prop} {md : Region.Mode} {S : World → Prop} (i d : Nat) {op ty pos af gd} {v : Value} {fuel : Nat} {listed : Array Bool} {a : Act} {w : World}
    (hi : ops[i]? = some { dst := some d, op := op, type := ty, pos := pos, after := af, guard := gd }) (hS : S w) (hs : Region.noSelect ops = true := by kernel_rfl) (hf : Region.free md ops listed i = true := by kernel_rfl) (hr : (Region.ready md ops listed).contains i = true := by kernel_rfl)
    (hw : Region.wanted { dst := some d, op := op, type := ty, pos := pos, after := af, guard := gd } (yielded ops a.tmps) = true := by rfl) (hQ : ∀ c a w, Q (.panic c) (a.put (some d) v) w → Q (.panic c) a w := by exact fun _ _ _ h => h)
    (hv : ∀ w, S w → (execOp a.eval { dst := some d, op := op, type := ty, pos := pos, after := af, guard := gd }).run P w = .ok (.value v) w) (h : wpAnyH P md ops Q S fuel (listed.setIfInBounds i true) (a.put (some d) v) w) : wpAnyH P md ops Q S (fuel + 1) listed a w :=
  wpAnyH_take hi hs hf hr hQ (.inl ⟨hw, hv⟩) hS h

/-- an operation whose guard is shut is taken first -/
theorem takeN {P : Program} {ops : Array Oper} {Q : Exit → Act → World → Prop} {md : Region.Mode} {S : World → Prop} (i d : Nat) {op ty pos af gd} {fuel : Nat} {listed : Array Bool} {a : Act} {w : World}
    (hi : ops[i]? = some { dst := some d, op := op, type := ty, pos := pos, after := af, guard := gd }) (hS : S w) (hs : Region.noSelect ops = true := by kernel_rfl) (hf : Region.free md ops listed i = true := by kernel_rfl) (hr : (Region.ready md ops listed).contains i = true := by kernel_rfl)
    (hw : Region.wanted { dst := some d, op := op, type := ty, pos := pos, after := af, guard := gd } (yielded ops a.tmps) = false := by rfl) (hQ : ∀ c a w, Q (.panic c) (a.put (some d) undef) w → Q (.panic c) a w := by exact fun _ _ _ h => h)
    (h : wpAnyH P md ops Q S fuel (listed.setIfInBounds i true) (a.put (some d) undef) w) : wpAnyH P md ops Q S (fuel + 1) listed a w :=
  wpAnyH_take hi hs hf hr hQ (.inr ⟨hw, rfl⟩) hS h

theorem Lies.five {w : World} {q : Nat} {v0 v1 v2 v3 v4 : Value} {t : TypeId} (h : Lies w q #[v0, v1, v2, v3, v4] t) : w.cell? ⟨q, 0, none⟩ = some v0 ∧ w.cell? ⟨q, 1, none⟩ = some v1 ∧ w.cell? ⟨q, 2, none⟩ = some v2 ∧ w.cell? ⟨q, 3, none⟩ = some v3 ∧ w.cell? ⟨q, 4, none⟩ = some v4 :=
  ⟨h.cell 0, h.cell 1, h.cell 2, h.cell 3, h.cell 4⟩
theorem Lies.zero {w : World} {q : Nat} {v0 v1 : Value} {t : TypeId} (h : Lies w q #[v0, v1] t) : w.cell? ⟨q, 0, none⟩ = some v0 := h.cell 0

/-- shapes in a box of which nothing is said but that they lie there -/
structure ShW (w0 w : World) (p0 : ShPtr) (B q q2 : Nat) (p : ShPtr) (s : Shp) : Prop where
  box : Lies w q (shCells p s) 63
  res : Lies w q2 zero5 63
  bel : Below B w0 w
  fr : FrSh w0 w p0
  ne : q ≠ q2
  hq2 : B ≤ q2
  sq2 : w0.heap.size ≤ q2

/-- the box is written anew, with what a call handed back -/
theorem ShSt.refillW {w0 X w5 : World} {base q q2 : Nat} {p p0 p5 : ShPtr} {s t : Shp} (h : ShSt w0 X p0 base base q q2 p s) (hb : Below base X w5) (hf : FrSh X w5 p) :
    Lies w5 q (shCells p s) 63 ∧ ShW w0 (set5 w5 q (.slice p5.K t.kinds.length p5.c1) (.slice p5.F t.full.length p5.c2) (.slice p5.S t.stack.length p5.c3) (.slice p5.M t.memo.length p5.c4) (.bool t.done)) p0 base q q2 p5 t := by
  have h1 : Lies w5 q (shCells p s) 63 := (hf q h.bx.box.lt h.bx.off).trans h.bx.box
  have h2 : Lies w5 q2 zero5 63 := (hf q2 h.res.lt h.off2).trans h.res
  have hs : w0.heap.size ≤ X.heap.size := by have := h.bx.box.lt; have := h.sq; omega
  refine ⟨h1, (Lies.set5 h1 _ _ _ _ _).2, (set5_block h.ne.symm).trans h2, set5_below (h.bel.trans hb) h.hq, fun k hk ho => ?_, h.ne, h.hq2, h.sq2⟩
  rw [set5_block (by have := h.sq; omega), hf k (by omega) (h.offs k hk ho)]
  exact h.fr k hk ho

theorem ShSt.refill {w0 X w5 : World} {base q q2 : Nat} {p p0 p5 : ShPtr} {s t : Shp} (h : ShSt w0 X p0 base base q q2 p s) (hb : Below base X w5) (hf : FrSh X w5 p) (ho : ShOwn w5 base p5 t) (hof : OffSh X p p5) :
    ShSt w0 (set5 w5 q (.slice p5.K t.kinds.length p5.c1) (.slice p5.F t.full.length p5.c2) (.slice p5.S t.stack.length p5.c3) (.slice p5.M t.memo.length p5.c4) (.bool t.done)) p0 base base q q2 p5 t := by
  have hW := (h.refillW (p5 := p5) (t := t) hb hf).2
  have hq : p5.Off q := hof q h.bx.box.lt h.bx.off
  have hs : w0.heap.size ≤ X.heap.size := by have := h.bx.box.lt; have := h.sq; omega
  have hz := hb.size
  have hB := h.hB
  exact ⟨⟨hW.box, ho.set5 hq, hq⟩, hW.res, hof q2 h.res.lt h.off2, hW.bel, h.ne, by rw [set5_size]; omega, h.hb, h.hq, h.hq2, hW.fr, fun k hk hk2 => hof k (by omega) (h.offs k hk hk2), h.sq, h.sq2⟩

theorem ShSt.toW {w0 w : World} {base q q2 : Nat} {p p0 : ShPtr} {s : Shp} (h : ShSt w0 w p0 base base q q2 p s) : ShW w0 w p0 base q q2 p s := ⟨h.bx.box, h.res, h.bel, h.fr, h.ne, h.hq2, h.sq2⟩

end Go.Proofs.YtlgahkeklmbefabDoor

namespace Go.Proofs.YtlgahkeklmbefabDoor
open Go.RowKit
set_option linter.unusedVariables false

set_option maxHeartbeats 1000000 in
theorem argOf_any (c : Int) (w : World) :
    Calls Tryd.prog 26 #[.int .i64 c] w fun e w' => e = .returned (.int .i64 (argMost c)) ∧ w = w' := by
  by_cases h0 : c = 0
  · subst h0
    go_enter Tryd.func26, Tryd.ntmps26
    go_wp2
    go_ret
    exact ⟨rfl, rfl⟩
  · by_cases h1 : c = 1
    · subst h1
      go_enter Tryd.func26, Tryd.ntmps26
      go_wp2
      go_ret
      exact ⟨rfl, rfl⟩
    · by_cases h13 : c = 13
      · subst h13
        go_enter Tryd.func26, Tryd.ntmps26
        go_wp2
        go_ret
        exact ⟨rfl, rfl⟩
      · by_cases h15 : c = 15
        · subst h15
          go_enter Tryd.func26, Tryd.ntmps26
          go_wp2
          go_ret
          exact ⟨rfl, rfl⟩
        · by_cases h16 : c = 16
          · subst h16
            go_enter Tryd.func26, Tryd.ntmps26
            go_wp2
            go_ret
            exact ⟨rfl, rfl⟩
          · have HF := hide (show argMost c = -1 by unfold argMost; simp [h0, h1, h13, h15, h16])
            have t0 : (c == 0) = false := by simpa using h0
            have t1 : (c == 1) = false := by simpa using h1
            have t2 : (c == 13) = false := by simpa using h13
            have t3 : (c == 15) = false := by simpa using h15
            have t4 : (c == 16) = false := by simpa using h16
            clear h0 h1 h13 h15 h16
            go_enter Tryd.func26, Tryd.ntmps26
            go_wp2
            go_ret
            exact ⟨ret_int HF.out.symm, rfl⟩

set_option maxHeartbeats 1000000 in
theorem validOp_any (o : Od) (w : World) :
    Calls Tryd.prog 25 #[.agg #[.int .i64 o.code, .int .i64 o.arg]] w fun e w' => e = .returned (.bool (tf (OdOk o))) ∧ Below w.heap.size w w' := by
  have hB : Below w.heap.size w (w.alloc (.cells #[.int .i64 o.code, .int .i64 o.arg] 37)) := (Below.refl _ _).alloc (Nat.le_refl _) _
  have l1 := Lies.new w #[.int .i64 o.code, .int .i64 o.arg] 37
  have hm := argMost_range o.code
  by_cases hc : 0 ≤ o.code ∧ o.code ≤ 19
  · by_cases hneg : argMost o.code < 0
    · by_cases ha : o.arg = 0
      · have HF := hide (show tf (OdOk o) = true from tf_true ⟨hc, .inl ⟨hneg, ha⟩⟩)
        have t : (o.arg == 0) = true := by simpa using ha
        obtain ⟨hc1, hc2⟩ := hc
        clear ha
        go_enter Tryd.func25, Tryd.ntmps25
        go_wp2_with fail
        refine (argOf_any o.code _).mono ?_
        rintro e w' ⟨rfl, rfl⟩
        generalize argMost o.code = M at hneg hm ⊢
        have d : decide (M < 0) = true := by simpa using hneg
        go_wp2_with fail
        refine (inRange_yes o.code 0 19 _ hc1 hc2).mono ?_
        rintro e w' ⟨rfl, rfl⟩
        go_wp2
        go_ret
        exact ⟨ret_bool HF.out.symm, hB⟩
      · have HF := hide (show tf (OdOk o) = false from tf_false fun h => by rcases h.2 with h | h; exact ha h.2; omega)
        have t : (o.arg == 0) = false := by simpa using ha
        obtain ⟨hc1, hc2⟩ := hc
        clear ha
        go_enter Tryd.func25, Tryd.ntmps25
        go_wp2_with fail
        refine (argOf_any o.code _).mono ?_
        rintro e w' ⟨rfl, rfl⟩
        generalize argMost o.code = M at hneg hm ⊢
        have d : decide (M < 0) = true := by simpa using hneg
        have d2 : decide (0 ≤ M) = false := by simpa using hneg
        go_wp2_with fail
        refine (inRange_yes o.code 0 19 _ hc1 hc2).mono ?_
        rintro e w' ⟨rfl, rfl⟩
        go_wp2
        go_ret
        exact ⟨ret_bool HF.out.symm, hB⟩
    · by_cases ha : 0 ≤ o.arg ∧ o.arg ≤ argMost o.code
      · have HF := hide (show tf (OdOk o) = true from tf_true ⟨hc, .inr ⟨by omega, ha⟩⟩)
        obtain ⟨hc1, hc2⟩ := hc
        obtain ⟨ha1, ha2⟩ := ha
        go_enter Tryd.func25, Tryd.ntmps25
        go_wp2_with fail
        refine (argOf_any o.code _).mono ?_
        rintro e w' ⟨rfl, rfl⟩
        generalize argMost o.code = M at hneg hm ha2 ⊢
        have d : decide (M < 0) = false := by simpa using hneg
        have d2 : decide (0 ≤ M) = true := by simpa using hneg
        go_wp2_with fail
        refine (inRange_yes o.code 0 19 _ hc1 hc2).mono ?_
        rintro e w' ⟨rfl, rfl⟩
        go_wp2_with fail
        refine (inRange_yes o.arg 0 M _ ha1 ha2).mono ?_
        rintro e w' ⟨rfl, rfl⟩
        go_wp2
        go_ret
        exact ⟨ret_bool HF.out.symm, hB⟩
      · have HF := hide (show tf (OdOk o) = false from tf_false fun h => by rcases h.2 with h | h; omega; exact ha h.2)
        obtain ⟨hc1, hc2⟩ := hc
        have ha' : o.arg < 0 ∨ argMost o.code < o.arg := by omega
        clear ha
        go_enter Tryd.func25, Tryd.ntmps25
        go_wp2_with fail
        refine (argOf_any o.code _).mono ?_
        rintro e w' ⟨rfl, rfl⟩
        generalize argMost o.code = M at hneg hm ha' ⊢
        have d : decide (M < 0) = false := by simpa using hneg
        have d2 : decide (0 ≤ M) = true := by simpa using hneg
        go_wp2_with fail
        refine (inRange_yes o.code 0 19 _ hc1 hc2).mono ?_
        rintro e w' ⟨rfl, rfl⟩
        go_wp2_with fail
        refine (inRange_no o.arg 0 M _ ha').mono ?_
        rintro e w' ⟨rfl, rfl⟩
        clear ha'
        go_wp2
        go_ret
        exact ⟨ret_bool HF.out.symm, hB⟩
  · have HF := hide (show tf (OdOk o) = false from tf_false fun h => hc h.1)
    have hc' : o.code < 0 ∨ 19 < o.code := by omega
    clear hc
    go_enter Tryd.func25, Tryd.ntmps25
    go_wp2_with fail
    refine (argOf_any o.code _).mono ?_
    rintro e w' ⟨rfl, rfl⟩
    generalize argMost o.code = M at hm ⊢
    go_wp2_with fail
    refine (inRange_no o.code 0 19 _ hc').mono ?_
    rintro e w' ⟨rfl, rfl⟩
    clear hc'
    go_wp2
    go_ret
    exact ⟨ret_bool HF.out.symm, hB⟩

end Go.Proofs.YtlgahkeklmbefabDoor

namespace Go.Proofs.YtlgahkeklmbefabDoor
set_option linter.unusedVariables false

/-- the bytes of an argument -/
def encA (a : Int) : List Int := if a < 128 then [a] else [128 + a % 128, a / 128]
/-- the bytes of an order -/
def encO (o : Od) : List Int := if argMost o.code < 0 then [o.code] else o.code :: encA o.arg
/-- the bytes of orders -/
def encs (os : List Od) : List Int := os.flatMap encO

theorem encA_short {a : Int} (h : a < 128) : encA a = [a] := by unfold encA; rw [if_pos h]
theorem encA_long {a : Int} (h : ¬ a < 128) : encA a = [128 + a % 128, a / 128] := by unfold encA; rw [if_neg h]
theorem encO_bare {o : Od} (h : argMost o.code < 0) : encO o = [o.code] := by unfold encO; rw [if_pos h]
theorem encO_arg {o : Od} (h : ¬ argMost o.code < 0) : encO o = o.code :: encA o.arg := by unfold encO; rw [if_neg h]

theorem encA_len (a : Int) : 1 ≤ (encA a).length ∧ (encA a).length ≤ 2 := by unfold encA; split <;> simp
theorem encO_len (o : Od) : 1 ≤ (encO o).length ∧ (encO o).length ≤ 3 := by
  have := encA_len o.arg
  unfold encO
  split
  · simp
  · simp only [List.length_cons]; omega

theorem encO_byte {o : Od} (h : OdOk o) : ∀ x ∈ encO o, 0 ≤ x ∧ x ≤ 255 := by
  obtain ⟨h1, h2⟩ := h
  have hm := argMost_range o.code
  intro x hx
  unfold encO encA at hx
  split at hx
  · simp at hx; omega
  · split at hx
    · simp at hx
      omega
    · simp at hx
      omega

theorem encs_nil : encs [] = [] := rfl
theorem encs_cons (o : Od) (os : List Od) : encs (o :: os) = encO o ++ encs os := by simp [encs]
theorem encs_append (os ps : List Od) : encs (os ++ ps) = encs os ++ encs ps := by simp [encs]

theorem encs_next {os : List Od} {k : Nat} {o : Od} (h : os[k]? = some o) : encs (os.take (k + 1)) = encs (os.take k) ++ encO o := by
  rw [List.take_add_one, h, encs_append]
  simp [encs]

theorem encs_len (os : List Od) : os.length ≤ (encs os).length ∧ (encs os).length ≤ 3 * os.length := by
  induction os with
  | nil => simp [encs]
  | cons o os ih =>
    have := encO_len o
    rw [encs_cons, List.length_append, List.length_cons]
    omega

theorem encs_byte {os : List Od} (h : ∀ o ∈ os, OdOk o) : ∀ x ∈ encs os, 0 ≤ x ∧ x ≤ 255 := by
  intro x hx
  obtain ⟨o, ho, hx⟩ := List.mem_flatMap.1 hx
  exact encO_byte (h o ho) x hx

open Classical in
/-- what EncodeOps returns -/
noncomputable def encodeOf (os : List Od) : List Int := if OpsOk os then encs os else []

theorem encodeOf_ok {os : List Od} (h : OpsOk os) : encodeOf os = encs os := by unfold encodeOf; rw [if_pos h]
theorem encodeOf_no {os : List Od} (h : ¬ OpsOk os) : encodeOf os = [] := by unfold encodeOf; rw [if_neg h]

theorem encodeOf_byte (os : List Od) : ∀ x ∈ encodeOf os, 0 ≤ x ∧ x ≤ 255 := by
  by_cases h : OpsOk os
  · rw [encodeOf_ok h]; exact encs_byte h.2
  · rw [encodeOf_no h]; intro x hx; cases hx
theorem encodeOf_few {os : List Od} : (encodeOf os).length ≤ 900 := by
  by_cases h : OpsOk os
  · rw [encodeOf_ok h]
    have := (encs_len os).2
    have := h.1
    omega
  · rw [encodeOf_no h]; simp
theorem encodeOf_64 {os : List Od} : ∀ x ∈ encodeOf os, In64 x := fun x hx => by
  have := encodeOf_byte os x hx
  constructor <;> omega

/-- what SizeOf returns -/
noncomputable def sizeOfOps (os : List Od) : Int := @ite _ (OpsOk os) (Classical.propDecidable _) ((encs os).length : Int) (-1)
theorem sizeOfOps_ok {os : List Od} (h : OpsOk os) : sizeOfOps os = ((encs os).length : Int) := by unfold sizeOfOps; rw [if_pos h]
theorem sizeOfOps_no {os : List Od} (h : ¬ OpsOk os) : sizeOfOps os = -1 := by unfold sizeOfOps; rw [if_neg h]

end Go.Proofs.YtlgahkeklmbefabDoor

namespace Go.Proofs.YtlgahkeklmbefabDoor
open Go.RowKit
set_option linter.unusedVariables false

set_option maxHeartbeats 1000000 in
theorem hasArg_yes (c : Int) (w : World) (hF : FormsAt w w.heap.size) (h1 : 0 ≤ c) (h2 : c < 20) (ha : ¬ argMost c < 0) :
    Calls Tryd.prog 13 #[.int .i64 c] w fun e w' => e = .returned (.bool true) ∧ w = w' := by
  obtain ⟨m, rfl⟩ := Int.eq_ofNat_of_zero_le h1
  have hm : m < 20 := by omega
  have hc := hF.arg m hm
  have ht : 0 < argTop (m : Int) := by
    unfold argTop
    rw [if_neg ha]
    unfold argMost at ha ⊢
    repeat' split
    all_goals first | omega | (exfalso; simp_all)
  have hr := argTop_range (m : Int)
  generalize argTop (m : Int) = T at hc ht hr
  have d : decide (0 < T) = true := by simpa using ht
  clear ha
  go_enter Tryd.func13, Tryd.ntmps13
  go_wp2
  go_ret
  exact ⟨rfl, rfl⟩

set_option maxHeartbeats 1000000 in
theorem hasArg_no (c : Int) (w : World) (hF : FormsAt w w.heap.size) (h1 : 0 ≤ c) (h2 : c < 20) (ha : argMost c < 0) :
    Calls Tryd.prog 13 #[.int .i64 c] w fun e w' => e = .returned (.bool false) ∧ w = w' := by
  obtain ⟨m, rfl⟩ := Int.eq_ofNat_of_zero_le h1
  have hm : m < 20 := by omega
  have hc := hF.arg m hm
  have ht : argTop (m : Int) = 0 := by unfold argTop; rw [if_pos ha]
  rw [ht] at hc
  clear ha ht
  go_enter Tryd.func13, Tryd.ntmps13
  go_wp2
  go_ret
  exact ⟨rfl, rfl⟩

end Go.Proofs.YtlgahkeklmbefabDoor

namespace Go.Proofs.YtlgahkeklmbefabDoor
open Go.RowKit
set_option linter.unusedVariables false

/-- a slice of the call's own has grown to zs -/
def GrowsI (base : Nat) (A : Option Addr) (w : World) (zs : List Int) (e : Ending) (w' : World) : Prop := ∃ A' c', e = .returned (.slice A' zs.length c') ∧ OwnI w' base A' c' zs ∧ Below base w w' ∧ (∀ k, k < w.heap.size → blockOf A ≠ some k → w'.heap[k]? = w.heap[k]?)

set_option maxHeartbeats 1000000 in
theorem appendArg_any (base : Nat) (A : Option Addr) (c : Nat) (xs : List Int) (a : Int) (w : World) (h : OwnI w base A c xs) (hbase : base ≤ w.heap.size) (h1 : 0 ≤ a) (h2 : a ≤ 999) (hl : xs.length ≤ 100000) :
    Calls Tryd.prog 14 #[.slice A xs.length c, .int .i64 a] w (GrowsI base A w (xs ++ encA a)) := by
  have HO := hide h
  have hbl := hide (h.blocks)
  clear h
  by_cases hs : a < 128
  · rw [encA_short hs]
    have d : decide (a < 128) = true := by simpa using hs
    go_enter Tryd.func14, Tryd.ntmps14
    go_wp2_with (at_builtin; refine append_ints rfl (.tmp 7) (.tmp 9) rfl base A c xs rfl (HO.out.alloc _) _ _ 1 [a] rfl (fun e => by cases e) (IntsAt.one w a (by constructor <;> omega)) (by simp; omega) (by simp; omega) ?_; intro zs A3 c3 w3 e3 own3 hg3 _; have HG3 := hide hg3; have HO3 := hide own3; clear hg3 own3)
    go_ret
    have e3 := e3.out
    subst e3
    exact ⟨A3, c3, rfl, HO3.out, below_grown ((Below.refl _ _).alloc hbase _) HG3.out (by simp; omega) (fun q hq => (hbl.out q hq).1), fun k hk hne => (HG3.out.block k (by simp; omega) (Ne.symm hne)).trans (Below.heap_alloc w _ k hk)⟩
  · rw [encA_long hs]
    have d : decide (a < 128) = false := by simpa using hs
    go_enter Tryd.func14, Tryd.ntmps14
    go_wp2_with (at_builtin; refine append_ints rfl (.tmp 11) (.tmp 17) rfl base A c xs rfl (HO.out.alloc _) _ _ 2 [128 + a % 128, a / 128] rfl (fun e => by cases e) (by simpa using IntsAt.lit w [128 + a % 128, a / 128] (by intro x hx; simp at hx; rcases hx with rfl | rfl <;> constructor <;> omega) (by simp)) (by simp; omega) (by simp; omega) ?_; intro zs A3 c3 w3 e3 own3 hg3 _; have HG3 := hide hg3; have HO3 := hide own3; clear hg3 own3)
    go_ret
    have e3 := e3.out
    subst e3
    exact ⟨A3, c3, rfl, HO3.out, below_grown ((Below.refl _ _).alloc hbase _) HG3.out (by simp; omega) (fun q hq => (hbl.out q hq).1), fun k hk hne => (HG3.out.block k (by simp; omega) (Ne.symm hne)).trans (Below.heap_alloc w _ k hk)⟩

end Go.Proofs.YtlgahkeklmbefabDoor

namespace Go.Proofs.YtlgahkeklmbefabDoor
set_option linter.unusedVariables false

/-- the argument at the beginning of bytes, and its number of bytes, 0 if there is none -/
def firstA : List Int → Int × Nat
  | [] => (0, 0)
  | a :: t => if a < 128 then (a, 1) else match t with
    | [] => (0, 0)
    | b :: _ => if 0 < b then (a - 128 + b * 128, 2) else (0, 0)

/-- the order at the beginning of bytes, and its number of bytes -/
def firstO : List Int → Option (Od × Nat)
  | [] => none
  | h :: t => if 19 < h then none else if argMost h < 0 then some (⟨h, 0⟩, 1) else
    if (firstA t).2 = 0 ∨ argMost h < (firstA t).1 then none else some (⟨h, (firstA t).1⟩, 1 + (firstA t).2)

/-- the same, the order 0 and 0 where there is none -/
def fstO (xs : List Int) : Od × Nat := (firstO xs).getD (⟨0, 0⟩, 0)

theorem firstA_bounds : ∀ {xs : List Int}, (∀ x ∈ xs, 0 ≤ x ∧ x ≤ 255) → 0 ≤ (firstA xs).1 ∧ (firstA xs).1 ≤ 40000 ∧ (firstA xs).2 ≤ xs.length ∧ (firstA xs).2 ≤ 2
  | [], _ => by simp [firstA]
  | [a], h => by
    have ha := h a (by simp)
    simp only [firstA]
    split <;> simp <;> omega
  | a :: b :: t, h => by
    have ha := h a (by simp)
    have hb := h b (by simp)
    simp only [firstA]
    split
    · simp; omega
    · split
      · simp only [List.length_cons]; omega
      · simp

theorem firstA_enc : ∀ {xs : List Int}, (∀ x ∈ xs, 0 ≤ x ∧ x ≤ 255) → 0 < (firstA xs).2 → (firstA xs).2 = (encA (firstA xs).1).length ∧ xs.take (firstA xs).2 = encA (firstA xs).1
  | [], _, h0 => by simp [firstA] at h0
  | [a], h, h0 => by
    have ha := h a (by simp)
    simp only [firstA] at h0 ⊢
    split at h0
    · rename_i hs
      rw [if_pos hs]
      simp [encA_short hs]
    · simp at h0
  | a :: b :: t, h, h0 => by
    have ha := h a (by simp)
    have hb := h b (by simp)
    simp only [firstA] at h0 ⊢
    split at h0
    · rename_i hs
      rw [if_pos hs]
      simp [encA_short hs]
    · rename_i hs
      rw [if_neg hs]
      split at h0
      · rename_i hb0
        rw [if_pos hb0]
        have e1 : ¬ (a - 128 + b * 128 < 128) := by omega
        have e2 : 128 + (a - 128 + b * 128) % 128 = a := by omega
        have e3 : (a - 128 + b * 128) / 128 = b := by omega
        simp only [encA_long e1, e2, e3]
        simp
      · simp at h0

theorem firstO_some {xs : List Int} {o : Od} {n : Nat} (h : ∀ x ∈ xs, 0 ≤ x ∧ x ≤ 255) (ho : firstO xs = some (o, n)) : OdOk o ∧ n = (encO o).length ∧ xs.take n = encO o ∧ 1 ≤ n ∧ n ≤ 3 ∧ n ≤ xs.length := by
  cases xs with
  | nil => simp [firstO] at ho
  | cons y t =>
    have hy := h y (by simp)
    have ht : ∀ x ∈ t, 0 ≤ x ∧ x ≤ 255 := fun x hx => h x (by simp [hx])
    simp only [firstO] at ho
    split at ho
    · cases ho
    · split at ho
      · rename_i h1 h2
        simp only [Option.some.injEq, Prod.mk.injEq] at ho
        obtain ⟨rfl, rfl⟩ := ho
        refine ⟨⟨by simp; omega, .inl ⟨h2, rfl⟩⟩, ?_, ?_, by omega, by omega, by simp⟩ <;> simp [encO_bare (o := ⟨y, 0⟩) h2]
      · split at ho
        · cases ho
        · rename_i h1 h2 h3
          simp only [Option.some.injEq, Prod.mk.injEq] at ho
          obtain ⟨rfl, rfl⟩ := ho
          have hb := firstA_bounds ht
          have he := firstA_enc ht (by omega)
          refine ⟨⟨by simp; omega, .inr ⟨by simp; omega, hb.1, by simp; omega⟩⟩, ?_, ?_, by omega, by omega, by simp only [List.length_cons]; omega⟩
          · rw [encO_arg (o := ⟨y, (firstA t).1⟩) h2, List.length_cons]
            simp only
            omega
          · rw [encO_arg (o := ⟨y, (firstA t).1⟩) h2, Nat.add_comm 1, List.take_succ_cons, he.2]

theorem fstO_none {xs : List Int} (h : firstO xs = none) : fstO xs = (⟨0, 0⟩, 0) := by unfold fstO; rw [h]; rfl
theorem fstO_some {xs : List Int} {p : Od × Nat} (h : firstO xs = some p) : fstO xs = p := by unfold fstO; rw [h]; rfl

/-- at most f orders at the beginning of bytes, and how many bytes they have -/
def decs : Nat → List Int → List Od × Nat
  | 0, _ => ([], 0)
  | f + 1, xs => match firstO xs with
    | none => ([], 0)
    | some (o, n) => (o :: (decs f (xs.drop n)).1, n + (decs f (xs.drop n)).2)

theorem decs_stop {f : Nat} {xs : List Int} (h : firstO xs = none) : decs f xs = ([], 0) := by
  cases f with
  | zero => rfl
  | succ f => simp only [decs, h]
theorem decs_step {f : Nat} {xs : List Int} {o : Od} {n : Nat} (h : firstO xs = some (o, n)) : decs (f + 1) xs = (o :: (decs f (xs.drop n)).1, n + (decs f (xs.drop n)).2) := by
  simp only [decs, h]

theorem decs_le : ∀ (f : Nat) (xs : List Int), (∀ x ∈ xs, 0 ≤ x ∧ x ≤ 255) → (decs f xs).2 ≤ xs.length ∧ (decs f xs).1.length ≤ f ∧ ∀ o ∈ (decs f xs).1, OdOk o
  | 0, xs, _ => by simp [decs]
  | f + 1, xs, h => by
    cases hx : firstO xs with
    | none => rw [decs_stop hx]; simp
    | some p =>
      obtain ⟨o, n⟩ := p
      obtain ⟨h1, h2, h3, h4, h5, h6⟩ := firstO_some h hx
      obtain ⟨i1, i2, i3⟩ := decs_le f (xs.drop n) (fun x hx => h x (List.mem_of_mem_drop hx))
      rw [decs_step hx]
      simp only [List.length_drop, List.length_cons, List.mem_cons] at i1 i2 i3 ⊢
      refine ⟨by omega, by omega, fun q hq => ?_⟩
      rcases hq with rfl | hq
      · exact h1
      · exact i3 q hq

/-- what DecodeTorn returns -/
def tornOps (xs : List Int) : List Od := if BytesOk 1000 xs then (decs 300 xs).1 else []
def tornSize (xs : List Int) : Int := if BytesOk 1000 xs then ((decs 300 xs).2 : Int) else -1
theorem tornOps_ok {xs : List Int} (h : BytesOk 1000 xs) : tornOps xs = (decs 300 xs).1 := by unfold tornOps; rw [if_pos h]
theorem tornOps_no {xs : List Int} (h : ¬ BytesOk 1000 xs) : tornOps xs = [] := by unfold tornOps; rw [if_neg h]
theorem tornSize_ok {xs : List Int} (h : BytesOk 1000 xs) : tornSize xs = ((decs 300 xs).2 : Int) := by unfold tornSize; rw [if_pos h]
theorem tornSize_no {xs : List Int} (h : ¬ BytesOk 1000 xs) : tornSize xs = -1 := by unfold tornSize; rw [if_neg h]

theorem od64 {o : Od} (h : OdOk o) : In64 o.code ∧ In64 o.arg := by
  obtain ⟨h1, h2⟩ := h
  have := argMost_range o.code
  constructor <;> constructor <;> omega

theorem tornOps_few (xs : List Int) : (tornOps xs).length ≤ 300 := by
  unfold tornOps
  split
  · rename_i h
    exact (decs_le 300 xs h.2).2.1
  · simp
theorem tornOps_64 (xs : List Int) : ∀ o ∈ tornOps xs, In64 o.code ∧ In64 o.arg := by
  unfold tornOps
  split
  · rename_i h
    exact fun o ho => od64 ((decs_le 300 xs h.2).2.2 o ho)
  · intro o ho; cases ho

/-- a list is the bytes of a program -/
def DecOk (xs : List Int) : Prop := BytesOk 1000 xs ∧ (decs 300 xs).2 = xs.length
instance (xs : List Int) : Decidable (DecOk xs) := inferInstanceAs (Decidable (_ ∧ _))
def decAll (xs : List Int) : List Od := if DecOk xs then (decs 300 xs).1 else []
theorem decAll_ok {xs : List Int} (h : DecOk xs) : decAll xs = (decs 300 xs).1 := by unfold decAll; rw [if_pos h]
theorem decAll_no {xs : List Int} (h : ¬ DecOk xs) : decAll xs = [] := by unfold decAll; rw [if_neg h]
theorem decAll_few (xs : List Int) : (decAll xs).length ≤ 300 := by
  unfold decAll
  split
  · rename_i h
    exact (decs_le 300 xs h.1.2).2.1
  · simp
theorem decAll_64 (xs : List Int) : ∀ o ∈ decAll xs, In64 o.code ∧ In64 o.arg := by
  unfold decAll
  split
  · rename_i h
    exact fun o ho => od64 ((decs_le 300 xs h.1.2).2.2 o ho)
  · intro o ho; cases ho

end Go.Proofs.YtlgahkeklmbefabDoor

namespace Go.Proofs.YtlgahkeklmbefabDoor
open Go.RowKit
set_option linter.unusedVariables false

set_option maxHeartbeats 1000000 in
theorem firstArg_any (A : Option Addr) (xs : List Int) (c : Nat) (w : World) (h : IntsAt w w.heap.size A xs) (hb : ∀ x ∈ xs, 0 ≤ x ∧ x ≤ 255) (hl : xs.length ≤ 1000) :
    Calls Tryd.prog 40 #[.slice A xs.length c] w fun e w' => e = .returned (.tuple #[.int .i64 (firstA xs).1, .int .i64 ((firstA xs).2 : Int)]) ∧ Below w.heap.size w w' := by
  match xs, h, hb, hl with
  | [], h, hb, hl =>
    clear h hb hl
    go_enter Tryd.func40, Tryd.ntmps40
    go_wp2
    go_ret2
    exact ⟨rfl, Below.refl _ _⟩
  | [a], h, hb, hl =>
    have ha := hb a (by simp)
    obtain ⟨b0, off, y, rfl, hbl, hy, _, hcell⟩ := h.at_ (k := 0) (by simp)
    obtain rfl : a = y := by simpa using hy
    rw [Nat.add_zero] at hcell
    clear h hy hb hl
    by_cases hs : a < 128
    · have HF := hide (show firstA [a] = (a, 1) by simp only [firstA]; rw [if_pos hs])
      have d : decide (a < 128) = true := by simpa using hs
      go_enter Tryd.func40, Tryd.ntmps40
      go_wp2
      go_ret2
      exact ⟨by rw [HF.out]; rfl, Below.refl _ _⟩
    · have HF := hide (show firstA [a] = (0, 0) by simp only [firstA]; rw [if_neg hs])
      have d : decide (a < 128) = false := by simpa using hs
      go_enter Tryd.func40, Tryd.ntmps40
      go_wp2
      go_ret2
      exact ⟨by rw [HF.out]; rfl, Below.refl _ _⟩
  | a :: b :: t, h, hb, hl =>
    have ha := hb a (by simp)
    have hbb := hb b (by simp)
    have h1 := h.at_ (k := 1) (by simp)
    obtain ⟨b0, off, y, rfl, hbl, hy, _, hcell⟩ := h.at_ (k := 0) (by simp)
    obtain ⟨b1, off1, y1, e1, _, hy1, _, hcell1⟩ := h1
    injection e1 with e1
    injection e1 with e1 e2
    subst e1 e2
    obtain rfl : a = y := by simpa using hy
    obtain rfl : b = y1 := by simpa using hy1
    rw [Nat.add_zero] at hcell
    have hn : (a :: b :: t).length = t.length + 2 := by simp
    simp only [List.length_cons] at hl
    have hl2 : (0 : Int) < (t.length : Int) + 2 := by omega
    by_cases hs : a < 128
    · have HF := hide (show firstA (a :: b :: t) = (a, 1) by simp only [firstA]; rw [if_pos hs])
      have d : decide (a < 128) = true := by simpa using hs
      rw [HF.out, hn]
      clear h hy hy1 hb hn
      go_enter Tryd.func40, Tryd.ntmps40
      go_wp2
      go_ret2
      exact ⟨rfl, Below.refl _ _⟩
    · by_cases hp : 0 < b
      · have HF := hide (show firstA (a :: b :: t) = (a - 128 + b * 128, 2) by simp only [firstA]; rw [if_neg hs, if_pos hp])
        have d : decide (a < 128) = false := by simpa using hs
        have d2 : decide (0 < b) = true := by simpa using hp
        have hl3 : (1 : Int) < (t.length : Int) + 2 := by omega
        rw [HF.out, hn]
        clear h hy hy1 hb hn
        go_enter Tryd.func40, Tryd.ntmps40
        go_wp2_with fail
        go_quiet (fail)
        go_wp2
        go_ret2
        exact ⟨rfl, below_drewN (Below.refl _ _) _⟩
      · have HF := hide (show firstA (a :: b :: t) = (0, 0) by simp only [firstA]; rw [if_neg hs, if_neg hp])
        have d : decide (a < 128) = false := by simpa using hs
        have d2 : decide (0 < b) = false := by simpa using hp
        have hl3 : (1 : Int) < (t.length : Int) + 2 := by omega
        rw [HF.out, hn]
        clear h hy hy1 hb hn
        go_enter Tryd.func40, Tryd.ntmps40
        go_wp2
        go_ret2
        exact ⟨rfl, Below.refl _ _⟩

end Go.Proofs.YtlgahkeklmbefabDoor
