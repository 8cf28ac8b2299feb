/-
  Lemmas, several texts in one: Dfs, AllIn, SpecA, SpecB, ShpW, VOp, UpTo, ImplO, ApA, EncI, Bof, ReadB.
-/
import Derived.Test.YtfigekdejocakacDoorPjAc
import Derived.Deep.QuietTactic
import Derived.BigQuiet
import Derived.Test.YtfigekdejocakacDoorPjAd
import Derived.StillTailTactics
import Derived.Test.YtfigekdejocakacDoorShpR
import Derived.Deep.RegionHeld
import Derived.Test.YtfigekdejocakacDoorPjAb
import Derived.Test.YtfigekdejocakacDoorMem
import Derived.Deep.LoopGhost
import Derived.Deep.Cut
import Derived.Test.YtfigekdejocakacDoorPjAa
import Derived.Test.YtfigekdejocakacDoorRows
import Derived.ProofKit
import Derived.OpenShut
import Derived.ShutString
import Derived.ChangeOld
import Derived.Deep.Slices
import Derived.Deep.Fields
import Derived.Lib.SmallJoins
namespace Go.Proofs.YtfigekdejocakacDoor

/-- the walk from x, where the nodes of L have been met; only nodes that may be entered are met -/
def dfs (ns : List Nd) (ent : Int → Bool) : Nat → Int → List Int → List Int
  | 0, _, L => L
  | f + 1, x, L => if ent x = false ∨ x ∈ L then L else (kidsOf ns x).foldl (fun M k => dfs ns ent f k M) (L ++ [x])

def dfsL (ns : List Nd) (ent : Int → Bool) (f : Nat) (xs : List Int) (L : List Int) : List Int := xs.foldl (fun M k => dfs ns ent f k M) L

theorem dfs_stop {ns : List Nd} {ent : Int → Bool} {f : Nat} {x : Int} {L : List Int} (h : ent x = false ∨ x ∈ L) : dfs ns ent (f + 1) x L = L := by
  rw [dfs, if_pos h]

theorem dfs_go {ns : List Nd} {ent : Int → Bool} {f : Nat} {x : Int} {L : List Int} (h1 : ent x = true) (h2 : x ∉ L) : dfs ns ent (f + 1) x L = dfsL ns ent f (kidsOf ns x) (L ++ [x]) := by
  rw [dfs, if_neg (by simp [h1, h2])]
  rfl

theorem dfsL_nil (ns : List Nd) (ent : Int → Bool) (f : Nat) (L : List Int) : dfsL ns ent f [] L = L := rfl
theorem dfsL_cons (ns : List Nd) (ent : Int → Bool) (f : Nat) (x : Int) (xs L : List Int) : dfsL ns ent f (x :: xs) L = dfsL ns ent f xs (dfs ns ent f x L) := rfl
theorem dfsL_snoc (ns : List Nd) (ent : Int → Bool) (f : Nat) (xs : List Int) (x : Int) (L : List Int) : dfsL ns ent f (xs ++ [x]) L = dfs ns ent f x (dfsL ns ent f xs L) := by
  simp [dfsL]

/-- the kids of each node are nodes -/
def KidsIn (ns : List Nd) : Prop := ∀ n ∈ ns, ∀ x ∈ n.kids, 0 ≤ x ∧ x < ns.length

theorem KidsIn.of {ns : List Nd} (h : KidsIn ns) (x : Int) : ∀ k ∈ kidsOf ns x, 0 ≤ k ∧ k < ns.length := by
  intro k hk
  unfold kidsOf at hk
  cases hn : ns[x.toNat]? with
  | none => rw [hn] at hk; simp at hk
  | some n =>
    rw [hn] at hk
    exact h n (List.mem_of_getElem? hn) k (by simpa using hk)

/-- what has been met: different nodes -/
structure Met (ns : List Nd) (L : List Int) : Prop where
  nodup : L.Nodup
  range : ∀ x ∈ L, 0 ≤ x ∧ x < ns.length

theorem Met.nil (ns : List Nd) : Met ns [] := ⟨List.nodup_nil, fun x hx => by cases hx⟩
theorem Met.len {ns : List Nd} {L : List Int} (h : Met ns L) : L.length ≤ ns.length := nodup_le _ _ h.nodup h.range
theorem Met.snoc {ns : List Nd} {L : List Int} {x : Int} (h : Met ns L) (hx : 0 ≤ x ∧ x < ns.length) (hno : x ∉ L) : Met ns (L ++ [x]) := by
  refine ⟨?_, fun y hy => ?_⟩
  · rw [List.nodup_append]
    exact ⟨h.nodup, by simp, fun a ha b hb => by simp at hb; subst hb; intro e; subst e; exact hno ha⟩
  · rcases List.mem_append.1 hy with hy | hy
    · exact h.range y hy
    · simp at hy; subst hy; exact hx

/-- all that the walk gives -/
structure Walked (ns : List Nd) (ent : Int → Bool) (xs : List Int) (L R : List Int) : Prop where
  met : Met ns R
  sub : ∀ y ∈ L, y ∈ R
  len : L.length ≤ R.length
  starts : ∀ x ∈ xs, ent x = true → x ∈ R
  closed : ∀ y ∈ R, y ∉ L → ∀ k ∈ kidsOf ns y, ent k = true → k ∈ R
  from_ : ∀ y ∈ R, y ∈ L ∨ (ent y = true ∧ (y ∈ xs ∨ ∃ z ∈ R, z ∉ L ∧ y ∈ kidsOf ns z))

theorem walkedL (ns : List Nd) (ent : Int → Bool) (f : Nat)
    (ih : ∀ (x : Int) (L : List Int), Met ns L → 0 ≤ x → x < ns.length → ns.length < f + L.length → Walked ns ent [x] L (dfs ns ent f x L)) :
    ∀ (xs : List Int) (L : List Int), Met ns L → (∀ x ∈ xs, 0 ≤ x ∧ x < ns.length) → ns.length < f + L.length → Walked ns ent xs L (dfsL ns ent f xs L)
  | [], L, hL, _, _ => ⟨hL, fun y hy => hy, Nat.le_refl _, fun x hx => (by cases hx), fun y hy hno => absurd hy hno, fun y hy => .inl hy⟩
  | x :: xs, L, hL, hx, hf => by
    have h1 := ih x L hL (hx x (by simp)).1 (hx x (by simp)).2 hf
    have h2 := walkedL ns ent f ih xs (dfs ns ent f x L) h1.met (fun y hy => hx y (by simp [hy])) (by have := h1.len; omega)
    rw [dfsL_cons]
    refine ⟨h2.met, fun y hy => h2.sub y (h1.sub y hy), Nat.le_trans h1.len h2.len, fun y hy he => ?_, fun y hy hno k hk he => ?_, fun y hy => ?_⟩
    · rcases List.mem_cons.1 hy with rfl | hy
      · exact h2.sub _ (h1.starts _ (by simp) he)
      · exact h2.starts y hy he
    · by_cases hm : y ∈ dfs ns ent f x L
      · exact h2.sub _ (h1.closed y hm hno k hk he)
      · exact h2.closed y hy hm k hk he
    · rcases h2.from_ y hy with h | ⟨he, h | ⟨z, hz, hzn, hk⟩⟩
      · rcases h1.from_ y h with h | ⟨he, h | ⟨z, hz, hzn, hk⟩⟩
        · exact .inl h
        · exact .inr ⟨he, .inl (by simp at h; simp [h])⟩
        · exact .inr ⟨he, .inr ⟨z, h2.sub z hz, hzn, hk⟩⟩
      · exact .inr ⟨he, .inl (by simp [h])⟩
      · exact .inr ⟨he, .inr ⟨z, hz, fun h => hzn (h1.sub z h), hk⟩⟩

theorem walked (ns : List Nd) (ent : Int → Bool) (hk : KidsIn ns) : ∀ (f : Nat) (x : Int) (L : List Int), Met ns L → 0 ≤ x → x < ns.length → ns.length < f + L.length → Walked ns ent [x] L (dfs ns ent f x L)
  | 0, x, L, hL, _, _, hf => by have := hL.len; omega
  | f + 1, x, L, hL, h0, h1, hf => by
    by_cases hs : ent x = false ∨ x ∈ L
    · rw [dfs_stop hs]
      exact ⟨hL, fun y hy => hy, Nat.le_refl _, fun y hy he => by
        simp at hy
        subst hy
        rcases hs with h | h
        · rw [h] at he; cases he
        · exact h, fun y hy hno => absurd hy hno, fun y hy => .inl hy⟩
    · have he : ent x = true := by
        cases h : ent x
        · exact absurd (.inl h) hs
        · rfl
      have hno : x ∉ L := fun h => hs (.inr h)
      rw [dfs_go he hno]
      have h := walkedL ns ent f (walked ns ent hk f) (kidsOf ns x) (L ++ [x]) (hL.snoc ⟨h0, h1⟩ hno) (hk.of x) (by simp; omega)
      refine ⟨h.met, fun y hy => h.sub y (List.mem_append_left _ hy), by have := h.len; simp at this; omega, fun y hy _ => ?_, fun y hy hyn k hkk hek => ?_, fun y hy => ?_⟩
      · simp at hy
        subst hy
        exact h.sub y (by simp)
      · by_cases hyx : y = x
        · subst hyx
          exact h.starts k hkk hek
        · exact h.closed y hy (by simp [hyn, hyx]) k hkk hek
      · by_cases hyL : y ∈ L
        · exact .inl hyL
        · refine .inr ?_
          by_cases hyx : y = x
          · subst hyx
            exact ⟨he, .inl (by simp)⟩
          · rcases h.from_ y hy with hm | ⟨hey, hm | ⟨z, hz, hzn, hm⟩⟩
            · exact absurd hm (by simp [hyL, hyx])
            · exact ⟨hey, .inr ⟨x, h.sub x (by simp), hno, hm⟩⟩
            · exact ⟨hey, .inr ⟨z, hz, fun hzL => hzn (List.mem_append_left _ hzL), hm⟩⟩

/-- a walk over all of a list of starts -/
theorem walkedAll (ns : List Nd) (ent : Int → Bool) (hk : KidsIn ns) (xs L : List Int) (f : Nat) (hL : Met ns L) (hx : ∀ x ∈ xs, 0 ≤ x ∧ x < ns.length) (hf : ns.length < f + L.length) : Walked ns ent xs L (dfsL ns ent f xs L) :=
  walkedL ns ent f (walked ns ent hk f) xs L hL hx hf

theorem dfs_met (ns : List Nd) (ent : Int → Bool) (hk : KidsIn ns) : ∀ (f : Nat) (x : Int) (L : List Int), Met ns L → (0 ≤ x ∧ x < ns.length) → Met ns (dfs ns ent f x L)
  | 0, x, L, hL, _ => hL
  | f + 1, x, L, hL, hx => by
    by_cases hs : ent x = false ∨ x ∈ L
    · rw [dfs_stop hs]; exact hL
    · have he : ent x = true := by
        cases h : ent x
        · exact absurd (.inl h) hs
        · rfl
      have hno : x ∉ L := fun h => hs (.inr h)
      rw [dfs_go he hno]
      have hl : ∀ (xs M : List Int), Met ns M → (∀ y ∈ xs, 0 ≤ y ∧ y < ns.length) → Met ns (dfsL ns ent f xs M) := by
        intro xs
        induction xs with
        | nil => intro M hM _; exact hM
        | cons a xs ih => intro M hM hr; rw [dfsL_cons]; exact ih _ (dfs_met ns ent hk f a M hM (hr a (by simp))) (fun y hy => hr y (by simp [hy]))
      exact hl _ _ (hL.snoc hx hno) (hk.of x)

/-- the nodes that are tuples -/
def isTup (ns : List Nd) (x : Int) : Bool := kindOf ns x == 2

/-- a walk over tuples from a tuple's kids comes back to it just if a way over tuples does -/
theorem tuple_back (ns : List Nd) (hk : KidsIn ns) (i : Int) (h2 : kindOf ns i = 2) (f : Nat) (hf : ns.length < f) : i ∈ dfsL ns (isTup ns) f (kidsOf ns i) [] ↔ TReach ns i i := by
  have h := walkedAll ns (isTup ns) hk (kidsOf ns i) [] f (Met.nil ns) (hk.of i) (by simpa using hf)
  have hall : ∀ x, TReach ns i x → isTup ns x = true → x ∈ dfsL ns (isTup ns) f (kidsOf ns i) [] := by
    intro x hx
    induction hx with
    | kid x hx => exact fun he => h.starts x hx he
    | step y x _ hy2 hx ih => exact fun he => h.closed y (ih (by simp [isTup, hy2])) (by simp) x hx he
  constructor
  · intro hi
    have hs : ∀ (g : Nat) (xs L : List Int), Met ns L → (∀ x ∈ xs, 0 ≤ x ∧ x < ns.length) → (∀ x ∈ xs, TReach ns i x) → (∀ x ∈ L, TReach ns i x) → ∀ x ∈ dfsL ns (isTup ns) g xs L, TReach ns i x := by
      intro g
      induction g with
      | zero =>
        intro xs
        induction xs with
        | nil => intro L _ _ _ hL x hx; exact hL x hx
        | cons a xs ihx => intro L hM hr hxs hL x hx; exact ihx L hM (fun y hy => hr y (by simp [hy])) (fun y hy => hxs y (by simp [hy])) hL x hx
      | succ g ihg =>
        intro xs
        induction xs with
        | nil => intro L _ _ _ hL x hx; exact hL x hx
        | cons a xs ihx =>
          intro L hM hr hxs hL x hx
          rw [dfsL_cons] at hx
          by_cases hst : isTup ns a = false ∨ a ∈ L
          · rw [dfs_stop hst] at hx
            exact ihx L hM (fun y hy => hr y (by simp [hy])) (fun y hy => hxs y (by simp [hy])) hL x hx
          · have hea : isTup ns a = true := by
              cases hq : isTup ns a
              · exact absurd (.inl hq) hst
              · rfl
            have hna : a ∉ L := fun hq => hst (.inr hq)
            have hMa := hM.snoc (hr a (by simp)) hna
            have hsub : ∀ y ∈ dfs ns (isTup ns) (g + 1) a L, TReach ns i y := by
              rw [dfs_go hea hna]
              refine ihg (kidsOf ns a) (L ++ [a]) hMa (hk.of a) (fun y hy => .step a y (hxs a (by simp)) (by simpa [isTup] using hea) hy) (fun y hy => ?_)
              rcases List.mem_append.1 hy with hy | hy
              · exact hL y hy
              · simp at hy; subst hy; exact hxs y (by simp)
            by_cases hlen : ns.length < (g + 1) + L.length
            · have hw := walked ns (isTup ns) hk (g + 1) a L hM (hr a (by simp)).1 (hr a (by simp)).2 hlen
              exact ihx _ hw.met (fun y hy => hr y (by simp [hy])) (fun y hy => hxs y (by simp [hy])) hsub x hx
            · exact ihx _ (dfs_met ns (isTup ns) hk (g + 1) a L hM (hr a (by simp))) (fun y hy => hr y (by simp [hy])) (fun y hy => hxs y (by simp [hy])) hsub x hx
    exact hs f (kidsOf ns i) [] (Met.nil ns) (hk.of i) (fun x hx => .kid x hx) (fun x hx => by cases hx) i hi
  · intro ht
    exact hall i ht (by simp [isTup, h2])

end Go.Proofs.YtfigekdejocakacDoor

namespace Go.Proofs.YtfigekdejocakacDoor
open Go.RowKit

/-- all numbers lie in a range -/
def AllIn (xs : List Int) (lo hi : Int) : Prop := ∀ x ∈ xs, lo ≤ x ∧ x ≤ hi

set_option maxHeartbeats 1000000 in
theorem allIn_any (A : Option Addr) (xs : List Int) (c : Nat) (lo hi : Int) (w : World) (h : IntsAt w w.heap.size A xs) :
    Calls Tryd.prog 54 #[.slice A xs.length c, .int .i64 lo, .int .i64 hi] w fun e w' => e = .returned (.bool (tf (AllIn xs lo hi))) ∧ w = w' := by
  have hl := h.len
  go_enter Tryd.func54, Tryd.ntmps54
  go_wp2_with fail
  go_loop [7] (fun i => ∃ k : Nat, k ≤ xs.length ∧ i = .int .i64 k ∧ ∀ j x, j < k → xs[j]? = some x → lo ≤ x ∧ x ≤ hi) (fun i => xs.length - (intOf i).toNat)
  case atStart => exact ⟨0, Nat.zero_le _, rfl, fun j _ hj => absurd hj (by omega)⟩
  case round =>
    obtain ⟨k, hk, rfl, he0⟩ := hrel
    have he := hide he0
    clear he0
    by_cases hlt : k < xs.length
    · obtain ⟨b, off, x, rfl, hbl, hx, hmem, hc⟩ := h.at_ hlt
      have Hx := hide hx
      clear hx
      by_cases hin : lo ≤ x ∧ x ≤ hi
      · have He : Hid (∀ j y, j < k + 1 → xs[j]? = some y → lo ≤ y ∧ y ≤ hi) := by
          intro j y hj hy
          by_cases e : j = k
          · subst e
            have := Hx.out.symm.trans hy
            injection this with this
            subst this
            exact hin
          · exact he.out j y (by omega) hy
        obtain ⟨h1, h2⟩ := hin
        clear he hmem
        go_wp2_with fail
        refine (inRange_yes x lo hi w h1 h2).mono ?_
        rintro e w' ⟨rfl, rfl⟩
        go_wp2
        go_round
        case rel => exact ⟨k + 1, by omega, by go_num, He.out⟩
        case measure => simp [intOf]; omega
      · have HF := hide (show tf (AllIn xs lo hi) = false from tf_false fun hall => hin (hall x hmem))
        have hno : x < lo ∨ hi < x := by omega
        clear he hmem
        go_wp2_with fail
        refine (inRange_no x lo hi w hno).mono ?_
        rintro e w' ⟨rfl, rfl⟩
        clear hno hin
        go_wp2
        go_ret
        exact ⟨ret_bool HF.out.symm, rfl⟩
    · obtain rfl : k = xs.length := by omega
      have HF := hide (show tf (AllIn xs lo hi) = true from tf_true fun x hx => by
        obtain ⟨j, hj, rfl⟩ := List.getElem_of_mem hx
        exact he.out j _ hj (List.getElem?_eq_getElem hj))
      clear hlt
      go_wp2
      go_ret
      exact ⟨ret_bool HF.out.symm, rfl⟩

end Go.Proofs.YtfigekdejocakacDoor

namespace Go.Proofs.YtfigekdejocakacDoor
open Go.RowKit

/-- a node that can be a key -/
def IsKey (n : Nd) : Prop := n.kind = 0 ∨ n.kind = 1

set_option maxHeartbeats 400000 in
theorem isKey_any (v : Value) (n : Nd) (w : World) :
    Calls Tryd.prog 47 #[.agg #[.int .i64 n.kind, .int .i64 n.value, v]] w fun e w' => e = .returned (.bool (tf (IsKey n))) ∧ Below w.heap.size w w' := by
  by_cases h0 : n.kind = 0
  · have HF := hide (show tf (IsKey n) = true from tf_true (.inl h0))
    have t : (n.kind == 0) = true := by simpa using h0
    clear h0
    go_enter Tryd.func47, Tryd.ntmps47
    go_wp2
    go_ret
    exact ⟨ret_bool HF.out.symm, (Below.refl _ _).alloc (Nat.le_refl _) _⟩
  · by_cases h1 : n.kind = 1
    · have HF := hide (show tf (IsKey n) = true from tf_true (.inr h1))
      have t : (n.kind == 0) = false := by simpa using h0
      have t1 : (n.kind == 1) = true := by simpa using h1
      clear h0 h1
      go_enter Tryd.func47, Tryd.ntmps47
      go_wp2
      go_ret
      exact ⟨ret_bool HF.out.symm, (Below.refl _ _).alloc (Nat.le_refl _) _⟩
    · have HF := hide (show tf (IsKey n) = false from tf_false (fun h => h.elim h0 h1))
      have t : (n.kind == 0) = false := by simpa using h0
      have t1 : (n.kind == 1) = false := by simpa using h1
      clear h0 h1
      go_enter Tryd.func47, Tryd.ntmps47
      go_wp2
      go_ret
      exact ⟨ret_bool HF.out.symm, (Below.refl _ _).alloc (Nat.le_refl _) _⟩

/-- equal keys -/
def SameKey (m n : Nd) : Prop := m.kind = n.kind ∧ m.value = n.value

set_option maxHeartbeats 400000 in
theorem sameKey_any (v v' : Value) (m n : Nd) (w : World) :
    Calls Tryd.prog 56 #[.agg #[.int .i64 m.kind, .int .i64 m.value, v], .agg #[.int .i64 n.kind, .int .i64 n.value, v']] w fun e w' => e = .returned (.bool (tf (SameKey m n))) ∧ Below w.heap.size w w' := by
  by_cases h0 : m.kind = n.kind
  · by_cases h1 : m.value = n.value
    · have HF := hide (show tf (SameKey m n) = true from tf_true ⟨h0, h1⟩)
      have t : (m.kind == n.kind) = true := by simpa using h0
      have t1 : (m.value == n.value) = true := by simpa using h1
      clear h0 h1
      go_enter Tryd.func56, Tryd.ntmps56
      go_wp2
      go_ret
      exact ⟨ret_bool HF.out.symm, ((Below.refl _ _).alloc (Nat.le_refl _) _).alloc (by simp) _⟩
    · have HF := hide (show tf (SameKey m n) = false from tf_false (fun h => h1 h.2))
      have t : (m.kind == n.kind) = true := by simpa using h0
      have t1 : (m.value == n.value) = false := by simpa using h1
      clear h0 h1
      go_enter Tryd.func56, Tryd.ntmps56
      go_wp2
      go_ret
      exact ⟨ret_bool HF.out.symm, ((Below.refl _ _).alloc (Nat.le_refl _) _).alloc (by simp) _⟩
  · have HF := hide (show tf (SameKey m n) = false from tf_false (fun h => h0 h.1))
    have t : (m.kind == n.kind) = false := by simpa using h0
    clear h0
    go_enter Tryd.func56, Tryd.ntmps56
    go_wp2
    go_ret
    exact ⟨ret_bool HF.out.symm, ((Below.refl _ _).alloc (Nat.le_refl _) _).alloc (by simp) _⟩

end Go.Proofs.YtfigekdejocakacDoor

namespace Go.Proofs.YtfigekdejocakacDoor
open Go.RowKit

/-- all kids are nodes -/
def InG (ns : List Nd) (kids : List Int) : Prop := ∀ x ∈ kids, 0 ≤ x ∧ x < ns.length

/-- the node that is the kid at place p -/
def KidNd (ns : List Nd) (kids : List Int) (p : Nat) (n : Nd) : Prop := ∃ k : Nat, kids[p]? = some (k : Int) ∧ ns[k]? = some n

/-- keys and values by turns, keys that can be keys, no two of them equal -/
structure DictOk (ns : List Nd) (kids : List Int) : Prop where
  even : kids.length % 2 = 0
  key : ∀ p n, p % 2 = 0 → KidNd ns kids p n → IsKey n
  diff : ∀ p q m n, p % 2 = 0 → q % 2 = 0 → q < p → KidNd ns kids p m → KidNd ns kids q n → ¬ SameKey m n

theorem KidNd.eq {ns : List Nd} {kids : List Int} {p : Nat} {m n : Nd} (h : KidNd ns kids p m) (h' : KidNd ns kids p n) : m = n := by
  obtain ⟨k, h1, h2⟩ := h
  obtain ⟨k', h3, h4⟩ := h'
  rw [h1] at h3
  have : k = k' := by injection h3 with h3; omega
  subst this
  rw [h2] at h4
  injection h4

theorem KidNd.lt {ns : List Nd} {kids : List Int} {p : Nat} {n : Nd} (h : KidNd ns kids p n) : p < kids.length := by
  obtain ⟨k, h1, _⟩ := h
  exact (List.getElem?_eq_some_iff.1 h1).1

/-- reading the kid at place p and its node -/
theorem kid_at {w : World} {B B' : Nat} {A A' : Option Addr} {ns : List Nd} {kids : List Int} (hr : NdsAt w B A ns) (hk : IntsAt w B' A' kids) (hin : InG ns kids) {p : Nat} (hp : p < kids.length) :
    ∃ (b off b' off' k : Nat) (n : Nd), A = some ⟨b, off, none⟩ ∧ b < B ∧ A' = some ⟨b', off', none⟩ ∧ b' < B' ∧ k < ns.length ∧ w.cell? ⟨b', off' + p, none⟩ = some (.int .i64 (k : Int)) ∧ NdAt w B b (off + k * 3) n ∧
      KidNd ns kids p n ∧ n ∈ ns := by
  obtain ⟨b', off', x, rfl, hb', hx, hmem, hc⟩ := hk.at_ hp
  obtain ⟨h0, h1⟩ := hin x hmem
  obtain ⟨k, rfl⟩ := Int.eq_ofNat_of_zero_le h0
  obtain ⟨b, off, n, rfl, hb, hat, hn, hN⟩ := hr.at_ (k := k) (by omega)
  exact ⟨b, off, b', off', k, n, rfl, hb, rfl, hb', by omega, hc, hN, ⟨k, hx, hat⟩, hn⟩

set_option maxRecDepth 100000 in
set_option maxHeartbeats 4000000 in
theorem validDict_any (A : Option Addr) (ns : List Nd) (c : Nat) (r : Int) (A' : Option Addr) (n : Nd) (c' : Nat) (w : World) (hr : NdsAt w w.heap.size A ns) (hk : IntsAt w w.heap.size A' n.kids) (hin : InG ns n.kids) (hsm : n.kids.length ≤ 1048576) :
    Calls Tryd.prog 55 #[.agg #[.slice A ns.length c, .int .i64 r], .agg #[.int .i64 n.kind, .int .i64 n.value, .slice A' n.kids.length c']] w fun e w' =>
      e = .returned (.bool (tf (DictOk ns n.kids))) ∧ Below w.heap.size w w' := by
  have hnl := hr.len
  have hB : Below w.heap.size w ((w.alloc (.cells #[.slice A ns.length c, .int .i64 r] 44)).alloc (.cells #[.int .i64 n.kind, .int .i64 n.value, .slice A' n.kids.length c'] 70)) :=
    ((Below.refl _ _).alloc (Nat.le_refl _) _).alloc (by simp) _
  have l1 := (Lies.new w #[.slice A ns.length c, .int .i64 r] 44).alloc (.cells #[.int .i64 n.kind, .int .i64 n.value, .slice A' n.kids.length c'] 70)
  have l2 := Lies.new (w.alloc (.cells #[.slice A ns.length c, .int .i64 r] 44)) #[.int .i64 n.kind, .int .i64 n.value, .slice A' n.kids.length c'] 70
  have hr2 := hr.later hB (Nat.le_refl _)
  have hk2 := hk.later hB (Nat.le_refl _)
  simp only [World.size_alloc] at l2
  clear hr hk
  go_enter Tryd.func55, Tryd.ntmps55
  go_wp2_with fail
  generalize (w.alloc (.cells #[.slice A ns.length c, .int .i64 r] 44)).alloc (.cells #[.int .i64 n.kind, .int .i64 n.value, .slice A' n.kids.length c'] 70) = W at hB l1 l2 hr2 hk2 ⊢
  have hW1 := l1.lt
  have hW2 := l2.lt
  go_loopw [5] (fun i wr => ∃ k : Nat, k % 2 = 0 ∧ k ≤ n.kids.length + 1 ∧ i = .int .i64 k ∧ Below W.heap.size W wr ∧ (∀ p m, p < k → p % 2 = 0 → KidNd ns n.kids p m → IsKey m) ∧
      (∀ p q m m', p < k → p % 2 = 0 → q % 2 = 0 → q < p → KidNd ns n.kids p m → KidNd ns n.kids q m' → ¬ SameKey m m')) (fun i _ => n.kids.length + 2 - (intOf i).toNat)
  case atStart => exact ⟨0, rfl, Nat.zero_le _, rfl, Below.refl _ _, fun p m hp => absurd hp (by omega), fun p q m m' hp => absurd hp (by omega)⟩
  case round =>
    obtain ⟨k, hk2', hkl, rfl, hb, hkey0, hdiff0⟩ := hrel
    have hkey := hide hkey0
    have hdiff := hide hdiff0
    have hev := hide hk2'
    clear hkey0 hdiff0 hk2'
    have e0 := (l1.below hb hW1).cell 0
    have e2 := (l2.below hb hW2).cell 2
    simp at e0 e2
    by_cases hlt : k < n.kids.length
    · obtain ⟨b, off, b', off', x, m, rfl, hbl, rfl, hbl', hxl, hcx, hM, hkn, _⟩ := kid_at (hr2.below hb) (hk2.below hb) hin hlt
      obtain ⟨hm_k, hm_v, ⟨A1, c1, hm_s, hI1, _⟩, _, _⟩ := hM
      have hk1 : (0 : Int) ≤ (k : Int) := by omega
      have hk3 : (k : Int) < (n.kids.length : Int) := by omega
      have hx1 : (0 : Int) ≤ (x : Int) := by omega
      have hx3 : (x : Int) < (ns.length : Int) := by omega
      have hbd : Below W.heap.size W wr.drew := hb.drew
      go_wp2_with fail
      go_still_tail 9, (by kernel_rfl)
      change wpList _ _ _ _ _ wr.drew
      generalize wr.drew = w2 at hbd ⊢
      clear hb hcx hm_k hm_v hm_s hI1 e0 e2
      go_wp2_with fail
      refine (isKey_any _ m w2).mono ?_
      rintro e w' ⟨rfl, hb3⟩
      have hb4 := hbd.trans (hb3.mono hbd.size)
      clear hbd hb3
      by_cases hik : IsKey m
      · have t := tf_true hik
        rw [t]
        clear t
        go_wp2_with fail
        go_loopw [6] (fun i wr => ∃ j : Nat, j % 2 = 0 ∧ j ≤ k ∧ i = .int .i64 j ∧ Below W.heap.size W wr ∧ (∀ q m', q < j → q % 2 = 0 → KidNd ns n.kids q m' → ¬ SameKey m m')) (fun i _ => k + 2 - (intOf i).toNat)
        case atStart => exact ⟨0, rfl, Nat.zero_le _, rfl, hb4, fun q m' hq => absurd hq (by omega)⟩
        case round =>
          obtain ⟨j, hj2, hjk, rfl, hb5, hne0⟩ := hrel
          have hne := hide hne0
          have hjv := hide hj2
          clear hne0 hj2 hb4
          have e0 := (l1.below hb5 hW1).cell 0
          have e2 := (l2.below hb5 hW2).cell 2
          simp at e0 e2
          by_cases hjlt : j < k
          · obtain ⟨_, _, _, _, x1, _, he1, _, he2, _, hxl1, hcx1, hM1, hkn1, _⟩ := kid_at (hr2.below hb5) (hk2.below hb5) hin hlt
            obtain ⟨_, _, _, _, y, m2, he3, _, he4, _, hyl, hcy, hM2, hkn2, _⟩ := kid_at (hr2.below hb5) (hk2.below hb5) hin (p := j) (by omega)
            simp only [Option.some.injEq, Addr.mk.injEq, and_true] at he1 he2 he3 he4
            obtain ⟨rfl, rfl⟩ := he1
            obtain ⟨rfl, rfl⟩ := he2
            obtain ⟨rfl, rfl⟩ := he3
            obtain ⟨rfl, rfl⟩ := he4
            obtain rfl := hkn.eq hkn1
            obtain ⟨hm_k, hm_v, ⟨A1, c1, hm_s, hI1, _⟩, _, _⟩ := hM1
            obtain ⟨hn_k, hn_v, ⟨A2, c2, hn_s, hI2, _⟩, _, _⟩ := hM2
            have hj1 : (0 : Int) ≤ (j : Int) := by omega
            have hj3 : (j : Int) < (n.kids.length : Int) := by omega
            have hxx1 : (0 : Int) ≤ (x1 : Int) := by omega
            have hxx3 : (x1 : Int) < (ns.length : Int) := by omega
            have hy1 : (0 : Int) ≤ (y : Int) := by omega
            have hy3 : (y : Int) < (ns.length : Int) := by omega
            have hbd : Below W.heap.size W wr.drew := hb5.drew
            go_wp2_with fail
            go_still_tail 18, (by kernel_rfl)
            change wpList _ _ _ _ _ wr.drew
            generalize wr.drew = w3 at hbd ⊢
            clear hb5 hcx1 hcy hm_k hm_v hm_s hI1 hn_k hn_v hn_s hI2 e0 e2
            go_wp2_with fail
            refine (sameKey_any _ _ m m2 w3).mono ?_
            rintro e w' ⟨rfl, hb3⟩
            have hb4 := hbd.trans (hb3.mono hbd.size)
            clear hbd hb3
            by_cases hsk : SameKey m m2
            · have t := tf_true hsk
              rw [t]
              clear t
              have HF := hide (show tf (DictOk ns n.kids) = false from tf_false fun h => h.diff k j m m2 hev.out hjv.out hjlt hkn hkn2 hsk)
              go_wp2
              go_ret
              exact ⟨ret_bool HF.out.symm, hB.trans (hb4.mono hB.size)⟩
            · have t := tf_false hsk
              rw [t]
              clear t
              have hne2 : ∀ q m', q < j + 2 → q % 2 = 0 → KidNd ns n.kids q m' → ¬ SameKey m m' := by
                intro q m' hq hq2 hqn
                by_cases e : q = j
                · subst e
                  obtain rfl := hkn2.eq hqn
                  exact hsk
                · exact hne.out q m' (by have := hjv.out; omega) hq2 hqn
              have Hne := hide hne2
              have hj5 : j + 2 ≤ k := by have := hjv.out; have := hev.out; omega
              clear hne2 hne
              go_wp2
              go_roundw
              case rel => exact ⟨j + 2, by have := hjv.out; omega, hj5, by go_num, hb4, Hne.out⟩
              case measure => simp [intOf]; omega
          · obtain rfl : j = k := by omega
            clear hjlt e0 e2
            go_wp2
            go_roundw
            case rel => exact ⟨j + 2, by have := hev.out; omega, by omega, by go_num, hb5, fun p m' hp hp2 hpn => by
                by_cases e : p = j
                · subst e
                  obtain rfl := hkn.eq hpn
                  exact hik
                · exact hkey.out p m' (by have := hjv.out; omega) hp2 hpn, fun p q m1 m2 hp hp2 hq2 hqp h1 h2 => by
                by_cases e : p = j
                · subst e
                  obtain rfl := hkn.eq h1
                  exact hne.out q m2 hqp hq2 h2
                · exact hdiff.out p q m1 m2 (by have := hjv.out; omega) hp2 hq2 hqp h1 h2⟩
            case measure => simp [intOf]; omega
      · have t := tf_false hik
        rw [t]
        clear t
        have HF := hide (show tf (DictOk ns n.kids) = false from tf_false fun h => hik (h.key k m hev.out hkn))
        go_wp2
        go_ret
        exact ⟨ret_bool HF.out.symm, hB.trans (hb4.mono hB.size)⟩
    · by_cases hmod : n.kids.length % 2 = 0
      · have HF := hide (show tf (DictOk ns n.kids) = true from tf_true ⟨hmod, fun p m hp hn => hkey.out p m (by have := hn.lt; omega) hp hn, fun p q m m' hp hq hqp h1 h2 => hdiff.out p q m m' (by have := h1.lt; omega) hp hq hqp h1 h2⟩)
        have t : ((n.kids.length : Int) % 2 == 0) = true := by rw [beq_iff_eq]; omega
        clear hmod
        go_wp2
        go_ret
        exact ⟨ret_bool HF.out.symm, hB.trans (hb.mono hB.size)⟩
      · have HF := hide (show tf (DictOk ns n.kids) = false from tf_false fun h => hmod h.even)
        have t : ((n.kids.length : Int) % 2 == 0) = false := by rw [beq_eq_false_iff_ne]; omega
        clear hmod
        go_wp2
        go_ret
        exact ⟨ret_bool HF.out.symm, hB.trans (hb.mono hB.size)⟩

end Go.Proofs.YtfigekdejocakacDoor

namespace Go.Proofs.YtfigekdejocakacDoor
open Go.RowKit
set_option linter.unusedVariables false

/-- an operation that only reads is taken first -/
theorem takeO {P : Program} {ops : Array Oper} {Q : Exit → Act → World → Prop} {md : Region.Mode} {S : World → Prop} (i d : Nat) {op ty pos af gd} {v : Value} {fuel : Nat} {listed : Array Bool} {a : Act} {w : World}
    (hi : ops[i]? = some { dst := some d, op := op, type := ty, pos := pos, after := af, guard := gd }) (hS : S w) (hs : Region.noSelect ops = true := by kernel_rfl) (hf : Region.free md ops listed i = true := by kernel_rfl) (hr : (Region.ready md ops listed).contains i = true := by kernel_rfl)
    (hw : Region.wanted { dst := some d, op := op, type := ty, pos := pos, after := af, guard := gd } (yielded ops a.tmps) = true := by rfl) (hQ : ∀ c a w, Q (.panic c) (a.put (some d) v) w → Q (.panic c) a w := by exact fun _ _ _ h => h)
    (hv : ∀ w, S w → (execOp a.eval { dst := some d, op := op, type := ty, pos := pos, after := af, guard := gd }).run P w = .ok (.value v) w) (h : wpAnyH P md ops Q S fuel (listed.setIfInBounds i true) (a.put (some d) v) w) : wpAnyH P md ops Q S (fuel + 1) listed a w :=
  wpAnyH_take hi hs hf hr hQ (.inl ⟨hw, hv⟩) hS h

/-- an operation whose guard is shut is taken first -/
theorem takeN {P : Program} {ops : Array Oper} {Q : Exit → Act → World → Prop} {md : Region.Mode} {S : World → Prop} (i d : Nat) {op ty pos af gd} {fuel : Nat} {listed : Array Bool} {a : Act} {w : World}
    (hi : ops[i]? = some { dst := some d, op := op, type := ty, pos := pos, after := af, guard := gd }) (hS : S w) (hs : Region.noSelect ops = true := by kernel_rfl) (hf : Region.free md ops listed i = true := by kernel_rfl) (hr : (Region.ready md ops listed).contains i = true := by kernel_rfl)
    (hw : Region.wanted { dst := some d, op := op, type := ty, pos := pos, after := af, guard := gd } (yielded ops a.tmps) = false := by rfl) (hQ : ∀ c a w, Q (.panic c) (a.put (some d) undef) w → Q (.panic c) a w := by exact fun _ _ _ h => h)
    (h : wpAnyH P md ops Q S fuel (listed.setIfInBounds i true) (a.put (some d) undef) w) : wpAnyH P md ops Q S (fuel + 1) listed a w :=
  wpAnyH_take hi hs hf hr hQ (.inr ⟨hw, rfl⟩) hS h

theorem Lies.five {w : World} {q : Nat} {v0 v1 v2 v3 v4 : Value} {t : TypeId} (h : Lies w q #[v0, v1, v2, v3, v4] t) : w.cell? ⟨q, 0, none⟩ = some v0 ∧ w.cell? ⟨q, 1, none⟩ = some v1 ∧ w.cell? ⟨q, 2, none⟩ = some v2 ∧ w.cell? ⟨q, 3, none⟩ = some v3 ∧ w.cell? ⟨q, 4, none⟩ = some v4 :=
  ⟨h.cell 0, h.cell 1, h.cell 2, h.cell 3, h.cell 4⟩
theorem Lies.zero {w : World} {q : Nat} {v0 v1 : Value} {t : TypeId} (h : Lies w q #[v0, v1] t) : w.cell? ⟨q, 0, none⟩ = some v0 := h.cell 0

/-- shapes in a box of which nothing is said but that they lie there -/
structure ShW (w0 w : World) (p0 : ShPtr) (B q q2 : Nat) (p : ShPtr) (s : Shp) : Prop where
  box : Lies w q (shCells p s) 57
  res : Lies w q2 zero5 57
  bel : Below B w0 w
  fr : FrSh w0 w p0
  ne : q ≠ q2
  hq2 : B ≤ q2
  sq2 : w0.heap.size ≤ q2

/-- the box is written anew, with what a call handed back -/
theorem ShSt.refillW {w0 X w5 : World} {base q q2 : Nat} {p p0 p5 : ShPtr} {s t : Shp} (h : ShSt w0 X p0 base base q q2 p s) (hb : Below base X w5) (hf : FrSh X w5 p) :
    Lies w5 q (shCells p s) 57 ∧ ShW w0 (set5 w5 q (.slice p5.K t.kinds.length p5.c1) (.slice p5.F t.full.length p5.c2) (.slice p5.S t.stack.length p5.c3) (.slice p5.M t.memo.length p5.c4) (.bool t.done)) p0 base q q2 p5 t := by
  have h1 : Lies w5 q (shCells p s) 57 := (hf q h.bx.box.lt h.bx.off).trans h.bx.box
  have h2 : Lies w5 q2 zero5 57 := (hf q2 h.res.lt h.off2).trans h.res
  have hs : w0.heap.size ≤ X.heap.size := by have := h.bx.box.lt; have := h.sq; omega
  refine ⟨h1, (Lies.set5 h1 _ _ _ _ _).2, (set5_block h.ne.symm).trans h2, set5_below (h.bel.trans hb) h.hq, fun k hk ho => ?_, h.ne, h.hq2, h.sq2⟩
  rw [set5_block (by have := h.sq; omega), hf k (by omega) (h.offs k hk ho)]
  exact h.fr k hk ho

theorem ShSt.refill {w0 X w5 : World} {base q q2 : Nat} {p p0 p5 : ShPtr} {s t : Shp} (h : ShSt w0 X p0 base base q q2 p s) (hb : Below base X w5) (hf : FrSh X w5 p) (ho : ShOwn w5 base p5 t) (hof : OffSh X p p5) :
    ShSt w0 (set5 w5 q (.slice p5.K t.kinds.length p5.c1) (.slice p5.F t.full.length p5.c2) (.slice p5.S t.stack.length p5.c3) (.slice p5.M t.memo.length p5.c4) (.bool t.done)) p0 base base q q2 p5 t := by
  have hW := (h.refillW (p5 := p5) (t := t) hb hf).2
  have hq : p5.Off q := hof q h.bx.box.lt h.bx.off
  have hs : w0.heap.size ≤ X.heap.size := by have := h.bx.box.lt; have := h.sq; omega
  have hz := hb.size
  have hB := h.hB
  exact ⟨⟨hW.box, ho.set5 hq, hq⟩, hW.res, hof q2 h.res.lt h.off2, hW.bel, h.ne, by rw [set5_size]; omega, h.hb, h.hq, h.hq2, hW.fr, fun k hk hk2 => hof k (by omega) (h.offs k hk hk2), h.sq, h.sq2⟩

theorem ShSt.toW {w0 w : World} {base q q2 : Nat} {p p0 : ShPtr} {s : Shp} (h : ShSt w0 w p0 base base q q2 p s) : ShW w0 w p0 base q q2 p s := ⟨h.bx.box, h.res, h.bel, h.fr, h.ne, h.hq2, h.sq2⟩

end Go.Proofs.YtfigekdejocakacDoor

namespace Go.Proofs.YtfigekdejocakacDoor
open Go.RowKit
set_option linter.unusedVariables false

set_option maxHeartbeats 1000000 in
theorem argOf_any (c : Int) (w : World) :
    Calls Tryd.prog 25 #[.int .i64 c] w fun e w' => e = .returned (.int .i64 (argMost c)) ∧ w = w' := by
  by_cases h0 : c = 0
  · subst h0
    go_enter Tryd.func25, Tryd.ntmps25
    go_wp2
    go_ret
    exact ⟨rfl, rfl⟩
  · by_cases h1 : c = 1
    · subst h1
      go_enter Tryd.func25, Tryd.ntmps25
      go_wp2
      go_ret
      exact ⟨rfl, rfl⟩
    · by_cases h13 : c = 13
      · subst h13
        go_enter Tryd.func25, Tryd.ntmps25
        go_wp2
        go_ret
        exact ⟨rfl, rfl⟩
      · by_cases h15 : c = 15
        · subst h15
          go_enter Tryd.func25, Tryd.ntmps25
          go_wp2
          go_ret
          exact ⟨rfl, rfl⟩
        · by_cases h16 : c = 16
          · subst h16
            go_enter Tryd.func25, Tryd.ntmps25
            go_wp2
            go_ret
            exact ⟨rfl, rfl⟩
          · have HF := hide (show argMost c = -1 by unfold argMost; simp [h0, h1, h13, h15, h16])
            have t0 : (c == 0) = false := by simpa using h0
            have t1 : (c == 1) = false := by simpa using h1
            have t2 : (c == 13) = false := by simpa using h13
            have t3 : (c == 15) = false := by simpa using h15
            have t4 : (c == 16) = false := by simpa using h16
            clear h0 h1 h13 h15 h16
            go_enter Tryd.func25, Tryd.ntmps25
            go_wp2
            go_ret
            exact ⟨ret_int HF.out.symm, rfl⟩

set_option maxHeartbeats 1000000 in
theorem validOp_any (o : Od) (w : World) :
    Calls Tryd.prog 24 #[.agg #[.int .i64 o.code, .int .i64 o.arg]] w fun e w' => e = .returned (.bool (tf (OdOk o))) ∧ Below w.heap.size w w' := by
  have hB : Below w.heap.size w (w.alloc (.cells #[.int .i64 o.code, .int .i64 o.arg] 36)) := (Below.refl _ _).alloc (Nat.le_refl _) _
  have l1 := Lies.new w #[.int .i64 o.code, .int .i64 o.arg] 36
  have hm := argMost_range o.code
  by_cases hc : 0 ≤ o.code ∧ o.code ≤ 19
  · by_cases hneg : argMost o.code < 0
    · by_cases ha : o.arg = 0
      · have HF := hide (show tf (OdOk o) = true from tf_true ⟨hc, .inl ⟨hneg, ha⟩⟩)
        have t : (o.arg == 0) = true := by simpa using ha
        obtain ⟨hc1, hc2⟩ := hc
        clear ha
        go_enter Tryd.func24, Tryd.ntmps24
        go_wp2_with fail
        refine (argOf_any o.code _).mono ?_
        rintro e w' ⟨rfl, rfl⟩
        generalize argMost o.code = M at hneg hm ⊢
        have d : decide (M < 0) = true := by simpa using hneg
        go_wp2_with fail
        refine (inRange_yes o.code 0 19 _ hc1 hc2).mono ?_
        rintro e w' ⟨rfl, rfl⟩
        go_wp2
        go_ret
        exact ⟨ret_bool HF.out.symm, hB⟩
      · have HF := hide (show tf (OdOk o) = false from tf_false fun h => by rcases h.2 with h | h; exact ha h.2; omega)
        have t : (o.arg == 0) = false := by simpa using ha
        obtain ⟨hc1, hc2⟩ := hc
        clear ha
        go_enter Tryd.func24, Tryd.ntmps24
        go_wp2_with fail
        refine (argOf_any o.code _).mono ?_
        rintro e w' ⟨rfl, rfl⟩
        generalize argMost o.code = M at hneg hm ⊢
        have d : decide (M < 0) = true := by simpa using hneg
        have d2 : decide (0 ≤ M) = false := by simpa using hneg
        go_wp2_with fail
        refine (inRange_yes o.code 0 19 _ hc1 hc2).mono ?_
        rintro e w' ⟨rfl, rfl⟩
        go_wp2
        go_ret
        exact ⟨ret_bool HF.out.symm, hB⟩
    · by_cases ha : 0 ≤ o.arg ∧ o.arg ≤ argMost o.code
      · have HF := hide (show tf (OdOk o) = true from tf_true ⟨hc, .inr ⟨by omega, ha⟩⟩)
        obtain ⟨hc1, hc2⟩ := hc
        obtain ⟨ha1, ha2⟩ := ha
        go_enter Tryd.func24, Tryd.ntmps24
        go_wp2_with fail
        refine (argOf_any o.code _).mono ?_
        rintro e w' ⟨rfl, rfl⟩
        generalize argMost o.code = M at hneg hm ha2 ⊢
        have d : decide (M < 0) = false := by simpa using hneg
        have d2 : decide (0 ≤ M) = true := by simpa using hneg
        go_wp2_with fail
        refine (inRange_yes o.code 0 19 _ hc1 hc2).mono ?_
        rintro e w' ⟨rfl, rfl⟩
        go_wp2_with fail
        refine (inRange_yes o.arg 0 M _ ha1 ha2).mono ?_
        rintro e w' ⟨rfl, rfl⟩
        go_wp2
        go_ret
        exact ⟨ret_bool HF.out.symm, hB⟩
      · have HF := hide (show tf (OdOk o) = false from tf_false fun h => by rcases h.2 with h | h; omega; exact ha h.2)
        obtain ⟨hc1, hc2⟩ := hc
        have ha' : o.arg < 0 ∨ argMost o.code < o.arg := by omega
        clear ha
        go_enter Tryd.func24, Tryd.ntmps24
        go_wp2_with fail
        refine (argOf_any o.code _).mono ?_
        rintro e w' ⟨rfl, rfl⟩
        generalize argMost o.code = M at hneg hm ha' ⊢
        have d : decide (M < 0) = false := by simpa using hneg
        have d2 : decide (0 ≤ M) = true := by simpa using hneg
        go_wp2_with fail
        refine (inRange_yes o.code 0 19 _ hc1 hc2).mono ?_
        rintro e w' ⟨rfl, rfl⟩
        go_wp2_with fail
        refine (inRange_no o.arg 0 M _ ha').mono ?_
        rintro e w' ⟨rfl, rfl⟩
        clear ha'
        go_wp2
        go_ret
        exact ⟨ret_bool HF.out.symm, hB⟩
  · have HF := hide (show tf (OdOk o) = false from tf_false fun h => hc h.1)
    have hc' : o.code < 0 ∨ 19 < o.code := by omega
    clear hc
    go_enter Tryd.func24, Tryd.ntmps24
    go_wp2_with fail
    refine (argOf_any o.code _).mono ?_
    rintro e w' ⟨rfl, rfl⟩
    generalize argMost o.code = M at hm ⊢
    go_wp2_with fail
    refine (inRange_no o.code 0 19 _ hc').mono ?_
    rintro e w' ⟨rfl, rfl⟩
    clear hc'
    go_wp2
    go_ret
    exact ⟨ret_bool HF.out.symm, hB⟩

end Go.Proofs.YtfigekdejocakacDoor

namespace Go.Proofs.YtfigekdejocakacDoor
open Go.RowKit

theorem isUpTo_yes (n hi : Int) (w : World) (h1 : 0 ≤ n) (h2 : n ≤ hi) :
    Calls Tryd.prog 23 #[.int .i64 n, .int .i64 hi] w fun e w' => e = .returned (.bool true) ∧ w = w' := by
  have d1 : decide (0 ≤ n) = true := by simpa using h1
  have d2 : decide (n ≤ hi) = true := by simpa using h2
  go_enter Tryd.func23, Tryd.ntmps23
  go_wp2
  go_ret
  exact ⟨rfl, rfl⟩

theorem isUpTo_no (n hi : Int) (w : World) (h : n < 0 ∨ hi < n) :
    Calls Tryd.prog 23 #[.int .i64 n, .int .i64 hi] w fun e w' => e = .returned (.bool false) ∧ w = w' := by
  by_cases h1 : 0 ≤ n
  · have h2 : ¬ n ≤ hi := by omega
    have d1 : decide (0 ≤ n) = true := by simpa using h1
    have d2 : decide (n ≤ hi) = false := by simpa using h2
    clear h
    go_enter Tryd.func23, Tryd.ntmps23
    go_wp2
    go_ret
    exact ⟨rfl, rfl⟩
  · have d1 : decide (0 ≤ n) = false := by simpa using h1
    clear h
    go_enter Tryd.func23, Tryd.ntmps23
    go_wp2
    go_ret
    exact ⟨rfl, rfl⟩

/-- whether a number is in 0..hi -/
def upB (n hi : Int) : Bool := decide (0 ≤ n ∧ n ≤ hi)
theorem upB_yes {n hi : Int} (h : 0 ≤ n ∧ n ≤ hi) : upB n hi = true := by unfold upB; simpa using h
theorem upB_no {n hi : Int} (h : ¬ (0 ≤ n ∧ n ≤ hi)) : upB n hi = false := by unfold upB; simpa using h

/-- the same for a region that only reads -/
theorem isUpTo_q (n hi : Int) (w : World) :
    Calls Tryd.prog 23 #[.int .i64 n, .int .i64 hi] w fun e w' => e = .returned (.bool (upB n hi)) ∧ w' = w := by
  by_cases h : 0 ≤ n ∧ n ≤ hi
  · rw [upB_yes h]
    exact (isUpTo_yes n hi w h.1 h.2).mono fun e w' ⟨a, b⟩ => ⟨a, b.symm⟩
  · rw [upB_no h]
    exact (isUpTo_no n hi w (by omega)).mono fun e w' ⟨a, b⟩ => ⟨a, b.symm⟩

end Go.Proofs.YtfigekdejocakacDoor

namespace Go.Proofs.YtfigekdejocakacDoor
open Go.RowKit
set_option linter.unusedVariables false

set_option maxRecDepth 100000 in
set_option maxHeartbeats 1000000 in
theorem implValidOps_any (A : Option Addr) (os : List Od) (c : Nat) (w : World) (h : OpsAt w w.heap.size A os) (hF : FormsAt w w.heap.size) :
    Calls Tryd.prog 12 #[.slice A os.length c] w fun e w' => e = .returned (.bool (tf (OpsOk os))) ∧ Below w.heap.size w w' := by
  have hl := h.len
  by_cases h3 : os.length ≤ 300
  · have t3 : decide ((300 : Int) < (os.length : Int)) = false := by simp; omega
    go_enter Tryd.func12, Tryd.ntmps12
    go_wp2_with fail
    go_loopw [10] (fun i wr => ∃ k : Nat, k ≤ os.length ∧ i = .int .i64 k ∧ Below w.heap.size w wr ∧ ∀ j x, j < k → os[j]? = some x → OdOk x) (fun i _ => os.length - (intOf i).toNat)
    case atStart => exact ⟨0, Nat.zero_le _, rfl, Below.refl _ _, fun j _ hj => absurd hj (by omega)⟩
    case round =>
      obtain ⟨k, hk, rfl, hb, he0⟩ := hrel
      have he := hide he0
      clear he0
      by_cases hlt : k < os.length
      · obtain ⟨b, off, x, rfl, hbl, hx, hmem, hc0, hc1⟩ := (h.below hb).at_ hlt
        have Hx := hide hx
        clear hx
        have hFr := hF.below hb
        have hb2 : Below w.heap.size w (wr.alloc (.cells #[.int .i64 x.code, .int .i64 x.arg] 36)) := hb.alloc hb.size _
        have lx := Lies.new wr #[.int .i64 x.code, .int .i64 x.arg] 36
        have hF2 := hF.below hb2
        clear hFr
        go_wp2_with fail
        generalize wr.alloc (.cells #[.int .i64 x.code, .int .i64 x.arg] 36) = w2 at hb2 lx hF2 ⊢
        have x0 := lx.cell 0
        have x1 := lx.cell 1
        simp at x0 x1
        by_cases hc : 0 ≤ x.code ∧ x.code ≤ 19
        · have u1 := upB_yes hc
          obtain ⟨m, hm⟩ := Int.eq_ofNat_of_zero_le hc.1
          have hm19 : m < 20 := by omega
          have harg := hF2.arg m hm19
          have hi1 : (0 : Int) ≤ x.code := hc.1
          have hi2 : x.code < 20 := by omega
          have hmn : x.code.toNat = m := by omega
          rw [← hm, ← hmn] at harg
          by_cases ha : 0 ≤ x.arg ∧ x.arg ≤ argTop x.code
          · have u2 := upB_yes ha
            have He : Hid (∀ j y, j < k + 1 → os[j]? = some y → OdOk y) := by
              intro j y hj hy
              by_cases e : j = k
              · subst e
                obtain rfl := Option.some.inj (Hx.out.symm.trans hy)
                exact (OdOk.iff _).2 ⟨hc, ha⟩
              · exact he.out j y (by omega) hy
            generalize argTop x.code = T at harg u2
            clear he hmem hm hmn ha hc hF2 lx
            go_quiet ((go_at_call 23; exact Calls.quiet_of_same (isUpTo_q _ _ _)))
            go_wp2
            go_roundw
            case rel => exact ⟨k + 1, by omega, by go_num, below_drewN hb2 _, He.out⟩
            case measure => simp [intOf]; omega
          · have u2 := upB_no ha
            have HF := hide (show tf (OpsOk os) = false from tf_false fun hall => ha ((OdOk.iff _).1 (hall.2 x hmem)).2)
            generalize argTop x.code = T at harg u2
            clear he hmem hm hmn ha hc hF2 lx
            go_quiet ((go_at_call 23; exact Calls.quiet_of_same (isUpTo_q _ _ _)))
            go_wp2
            go_ret
            exact ⟨ret_bool HF.out.symm, below_drewN hb2 _⟩
        · have u1 := upB_no hc
          have HF := hide (show tf (OpsOk os) = false from tf_false fun hall => hc (hall.2 x hmem).1)
          clear he hmem hc hF2 lx
          go_quiet ((go_at_call 23; exact Calls.quiet_of_same (isUpTo_q _ _ _)))
          go_wp2
          go_ret
          exact ⟨ret_bool HF.out.symm, below_drewN hb2 _⟩
      · obtain rfl : k = os.length := by omega
        have HF := hide (show tf (OpsOk os) = true from tf_true ⟨h3, fun x hx => by
          obtain ⟨j, hj, rfl⟩ := List.getElem_of_mem hx
          exact he.out j _ hj (List.getElem?_eq_getElem hj)⟩)
        clear hlt
        go_wp2
        go_ret
        exact ⟨ret_bool HF.out.symm, hb⟩
  · have t3 : decide ((300 : Int) < (os.length : Int)) = true := by simp; omega
    have HF := hide (show tf (OpsOk os) = false from tf_false fun hh => h3 hh.1)
    clear h3
    go_enter Tryd.func12, Tryd.ntmps12
    go_wp2
    go_ret
    exact ⟨ret_bool HF.out.symm, Below.refl _ _⟩

end Go.Proofs.YtfigekdejocakacDoor

namespace Go.Proofs.YtfigekdejocakacDoor
open Go.RowKit
set_option linter.unusedVariables false

/-- a slice of the call's own has grown to zs -/
def GrowsI (base : Nat) (A : Option Addr) (w : World) (zs : List Int) (e : Ending) (w' : World) : Prop := ∃ A' c', e = .returned (.slice A' zs.length c') ∧ OwnI w' base A' c' zs ∧ Below base w w' ∧ (∀ k, k < w.heap.size → blockOf A ≠ some k → w'.heap[k]? = w.heap[k]?)

set_option maxHeartbeats 1000000 in
theorem appendArg_any (base : Nat) (A : Option Addr) (c : Nat) (xs : List Int) (a : Int) (w : World) (h : OwnI w base A c xs) (hbase : base ≤ w.heap.size) (h1 : 0 ≤ a) (h2 : a ≤ 999) (hl : xs.length ≤ 100000) :
    Calls Tryd.prog 14 #[.slice A xs.length c, .int .i64 a] w (GrowsI base A w (xs ++ encA a)) := by
  have HO := hide h
  have hbl := hide (h.blocks)
  clear h
  by_cases hs : a < 128
  · rw [encA_short hs]
    have d : decide (a < 128) = true := by simpa using hs
    go_enter Tryd.func14, Tryd.ntmps14
    go_wp2_with (at_builtin; refine append_ints rfl (.tmp 7) (.tmp 9) rfl base A c xs rfl (HO.out.alloc _) _ _ 1 [a] rfl (fun e => by cases e) (IntsAt.one w a (by constructor <;> omega)) (by simp; omega) (by simp; omega) ?_; intro zs A3 c3 w3 e3 own3 hg3 _; have HG3 := hide hg3; have HO3 := hide own3; clear hg3 own3)
    go_ret
    have e3 := e3.out
    subst e3
    exact ⟨A3, c3, rfl, HO3.out, below_grown ((Below.refl _ _).alloc hbase _) HG3.out (by simp; omega) (fun q hq => (hbl.out q hq).1), fun k hk hne => (HG3.out.block k (by simp; omega) (Ne.symm hne)).trans (Below.heap_alloc w _ k hk)⟩
  · rw [encA_long hs]
    have d : decide (a < 128) = false := by simpa using hs
    go_enter Tryd.func14, Tryd.ntmps14
    go_wp2_with (at_builtin; refine append_ints rfl (.tmp 11) (.tmp 17) rfl base A c xs rfl (HO.out.alloc _) _ _ 2 [128 + a % 128, a / 128] rfl (fun e => by cases e) (by simpa using IntsAt.lit w [128 + a % 128, a / 128] (by intro x hx; simp at hx; rcases hx with rfl | rfl <;> constructor <;> omega) (by simp)) (by simp; omega) (by simp; omega) ?_; intro zs A3 c3 w3 e3 own3 hg3 _; have HG3 := hide hg3; have HO3 := hide own3; clear hg3 own3)
    go_ret
    have e3 := e3.out
    subst e3
    exact ⟨A3, c3, rfl, HO3.out, below_grown ((Below.refl _ _).alloc hbase _) HG3.out (by simp; omega) (fun q hq => (hbl.out q hq).1), fun k hk hne => (HG3.out.block k (by simp; omega) (Ne.symm hne)).trans (Below.heap_alloc w _ k hk)⟩

end Go.Proofs.YtfigekdejocakacDoor

namespace Go.Proofs.YtfigekdejocakacDoor
open Go.RowKit
set_option linter.unusedVariables false

/-- the memory while the bytes of k orders lie behind each other -/
structure EnT (w wr : World) (os : List Od) (k : Nat) (Ao : Option Addr) (co : Nat) (acc : List Int) : Prop where
  bel : Below w.heap.size w wr
  own : OwnI wr w.heap.size Ao co acc
  eq : acc = encs (os.take k)

theorem EnT.few {w wr : World} {os : List Od} {k : Nat} {Ao : Option Addr} {co : Nat} {acc : List Int} (h : EnT w wr os k Ao co acc) : acc.length ≤ 3 * k := by
  rw [h.eq]
  have := (encs_len (os.take k)).2
  simp only [List.length_take] at this
  omega

set_option maxRecDepth 100000 in
set_option maxHeartbeats 2000000 in
theorem implEncodeOps_any (A : Option Addr) (os : List Od) (c : Nat) (w : World) (h : OpsAt w w.heap.size A os) (hF : FormsAt w w.heap.size) :
    Calls Tryd.prog 5 #[.slice A os.length c] w (GivesInts w (encodeOf os)) := by
  have hl := h.len
  by_cases hok : OpsOk os
  · rw [encodeOf_ok hok]
    have Hok := hide hok
    have ht := hide (tf_true hok)
    have hl3 := hok.1
    clear hok
    go_enter Tryd.func5, Tryd.ntmps5
    go_wp2_with fail
    refine (implValidOps_any A os c w h hF).mono ?_
    rintro e w1 ⟨rfl, hb1⟩
    rw [ht.out]
    have HS0 := hide (show EnT w w1 os 0 none 0 [] from ⟨hb1, OwnI.empty _ _, rfl⟩)
    clear hb1
    go_wp2_with fail
    go_loopg [3, 5, 11] os.length (fun gk ov _ iv wr => ∃ (k : Nat) (Ao : Option Addr) (co : Nat) (acc : List Int), k ≤ os.length ∧ gk = os.length - k ∧ iv = .int .i64 (k : Int) ∧ ov = .slice Ao acc.length co ∧ EnT w wr os k Ao co acc)
    case atStart => exact ⟨0, none, 0, [], Nat.zero_le _, rfl, rfl, rfl, HS0.out⟩
    case round =>
      clear HS0
      obtain ⟨k, Ao, co, acc, hk, rfl, rfl, rfl, hS⟩ := hrel
      have HS := hide hS
      have hfew := hS.few
      have hbs := hS.bel.size
      by_cases hlt : k < os.length
      · obtain ⟨b, off, o, rfl, hbl, hx, hmem, hc0, hc1⟩ := (h.below hS.bel).at_ hlt
        have Hx := hide hx
        have hin := Hok.out.2 o hmem
        obtain ⟨⟨hq1, hq2⟩, hqa⟩ := hin
        have HA := hide hqa
        have hm := argMost_range o.code
        have lo := Lies.new wr #[.int .i64 o.code, .int .i64 o.arg] 36
        have HOb := hide (HS.out.own.alloc (.cells #[.int .i64 o.code, .int .i64 o.arg] 36))
        have HBb := hide (HS.out.bel.alloc HS.out.bel.size (.cells #[.int .i64 o.code, .int .i64 o.arg] 36))
        have Hne := hide (fun (g : Nat) (e : some wr.heap.size = blockOf Ao) => (by have := (HS.out.own.blocks _ e.symm).2; omega : False))
        clear hS hx hmem hqa
        go_upto_region 7 with fail
        have hgb : wr.heap.size < (wr.alloc (.cells #[.int .i64 o.code, .int .i64 o.arg] 36)).heap.size := lo.lt
        generalize wr.heap.size = gb at *
        generalize wr.alloc (.cells #[.int .i64 o.code, .int .i64 o.arg] 36) = wb at *
        have c0 := lo.cell 0
        simp at c0
        have Lo := hide lo
        clear hc0 hc1 lo
        have hg3f : ∀ (w3 : World), (wb.alloc (.cells #[.int .i64 o.code] 3)).grownBy w3 (blockOf Ao) → Below w.heap.size w w3 ∧ Lies w3 gb #[.int .i64 o.code, .int .i64 o.arg] 36 := fun w3 hg3 =>
          ⟨below_grown (HBb.out.alloc HBb.out.size _) hg3 (by have := HBb.out.size; simp; omega) (fun q hq => (HOb.out.blocks q hq).1),
            (hg3.block gb (by simp; omega) (fun e => Hne.out gb e)).trans (Lo.out.alloc _)⟩
        have Hg3f := hide hg3f
        clear hg3f
        go_wp2_with (at_builtin; refine append_ints rfl (.tmp 15) (.tmp 18) rfl w.heap.size Ao co acc rfl (HOb.out.alloc _) _ _ 1 [o.code] rfl (fun e => by cases e) (IntsAt.one wb o.code (by constructor <;> omega)) (by simp; omega) (by simp; omega) ?_; intro zs A3 c3 w3 e3 own3 hg3 _; obtain ⟨hb3, lo3⟩ := Hg3f.out w3 hg3; have HO3 := hide own3; have HB3 := hide hb3; have HL3 := hide lo3; have d0 := lo3.cell 0; have d1 := lo3.cell 1; simp at d0 d1; have HF3 := hide (hF.later hb3 (Nat.le_refl _)); have hs3 := hb3.size; clear hg3 own3 hb3 lo3)
        by_cases hneg : argMost o.code < 0
        · have HE := hide (encO_bare hneg)
          refine (hasArg_no o.code w3 HF3.out hq1 (by omega) hneg).mono ?_
          rintro e w' ⟨rfl, rfl⟩
          clear hneg
          go_wp2
          go_roundg (os.length - (k + 1))
          case measure => omega
          case rel => exact ⟨k + 1, A3, c3, zs, by omega, rfl, by go_num, rfl, HB3.out, HO3.out, by rw [e3.out, HS.out.eq, encs_next Hx.out, HE.out]⟩
        · have HE := hide (encO_arg hneg)
          have hr : 0 ≤ o.arg ∧ o.arg ≤ 999 := by have := HA.out; omega
          obtain ⟨hr1, hr2⟩ := hr
          have hzl : zs.length ≤ 3 * k + 1 := by rw [e3.out]; simp; omega
          refine (hasArg_yes o.code w3 HF3.out hq1 (by omega) hneg).mono ?_
          rintro e w' ⟨rfl, rfl⟩
          clear hneg
          go_wp2_with fail
          refine (appendArg_any w.heap.size A3 c3 zs o.arg w3 HO3.out hs3 hr1 hr2 (by omega)).mono ?_
          rintro e w4 ⟨A4, c4, rfl, own4, hb4, _⟩
          go_wp2
          go_roundg (os.length - (k + 1))
          case measure => omega
          case rel => exact ⟨k + 1, A4, c4, zs ++ encA o.arg, by omega, rfl, by go_num, by rw [List.length_append], HB3.out.trans hb4, own4, by rw [e3.out, HS.out.eq, encs_next Hx.out, HE.out]; simp⟩
      · obtain rfl : k = os.length := by omega
        have hE : acc = encs os := by have := hS.eq; rw [List.take_length] at this; exact this
        subst hE
        clear hS hlt
        go_wp2
        go_ret
        exact ⟨Ao, co, rfl, HS.out.own, HS.out.bel⟩
  · rw [encodeOf_no hok]
    have ht := hide (tf_false hok)
    clear hok
    go_enter Tryd.func5, Tryd.ntmps5
    go_wp2_with fail
    refine (implValidOps_any A os c w h hF).mono ?_
    rintro e w1 ⟨rfl, hb1⟩
    rw [ht.out]
    go_wp2
    go_ret
    exact ⟨none, 0, rfl, OwnI.empty _ _, hb1⟩

end Go.Proofs.YtfigekdejocakacDoor

namespace Go.Proofs.YtfigekdejocakacDoor
open Go.RowKit
set_option linter.unusedVariables false

/-- an int slice in new memory comes back that reads as ys -/
def GivesRead (w : World) (ys : List Int) (e : Ending) (w' : World) : Prop := ∃ A c, e = .returned (.slice A ys.length c) ∧ (A = none → c = 0) ∧ IntsAt w' w'.heap.size A ys ∧ Below w.heap.size w w'

theorem GivesRead.lit {w w' : World} {e : Ending} (ys : List Int) (h64 : ∀ x ∈ ys, In64 x) (hl : ys.length ≤ 1048576) (W : World) (he : e = .returned (.slice (some ⟨W.heap.size, 0, none⟩) ys.length ys.length))
    (hw : w' = W.alloc (.cells (ys.map (Value.int .i64)).toArray 3)) (hb : Below w.heap.size w W) : GivesRead w ys e w' := by
  subst hw
  exact ⟨_, _, he, (fun e => by cases e), (IntsAt.lit W ys h64 hl).more (by simp), hb.alloc hb.size _⟩

set_option maxHeartbeats 1000000 in
theorem bytesOf_any (o : Od) (w : World) (ho : OdOk o) :
    Calls Tryd.prog 16 #[.agg #[.int .i64 o.code, .int .i64 o.arg]] w (GivesRead w (encO o)) := by
  have hb := encO_byte ho
  have H64 := hide (fun x hx => (by have := hb x hx; constructor <;> omega : In64 x))
  have hbel := hide (show Below w.heap.size w (w.alloc (.cells #[.int .i64 o.code, .int .i64 o.arg] 36)) from (Below.refl _ _).alloc (Nat.le_refl _) _)
  obtain ⟨⟨hc1, hc2⟩, ha⟩ := ho
  have hm := argMost_range o.code
  have l1 := Lies.new w #[.int .i64 o.code, .int .i64 o.arg] 36
  by_cases hneg : argMost o.code < 0
  · rw [encO_bare hneg] at H64 ⊢
    clear hb ha
    go_enter Tryd.func16, Tryd.ntmps16
    go_wp2_with fail
    refine (argOf_any o.code _).mono ?_
    rintro e w' ⟨rfl, rfl⟩
    generalize argMost o.code = M at hneg hm ⊢
    have d : decide (M < 0) = true := by simpa using hneg
    generalize hW : w.alloc (.cells #[.int .i64 o.code, .int .i64 o.arg] 36) = W at hbel l1 ⊢
    clear hW
    have x0 := l1.cell 0
    have x1 := l1.cell 1
    simp at x0 x1
    go_wp2
    go_ret
    exact GivesRead.lit _ H64.out (by simp) W rfl rfl hbel.out
  · have ha' : 0 ≤ o.arg ∧ o.arg ≤ 999 := by omega
    obtain ⟨ha1, ha2⟩ := ha'
    have Hneg := hide hneg
    rw [encO_arg hneg] at H64 ⊢
    by_cases hs : o.arg < 128
    · rw [encA_short hs] at H64 ⊢
      have d2 : decide (o.arg < 128) = true := by simpa using hs
      clear hb ha
      go_enter Tryd.func16, Tryd.ntmps16
      go_wp2_with fail
      refine (argOf_any o.code _).mono ?_
      rintro e w' ⟨rfl, rfl⟩
      generalize argMost o.code = M at hneg hm ⊢
      have d : decide (M < 0) = false := by simpa using hneg
      generalize hW : w.alloc (.cells #[.int .i64 o.code, .int .i64 o.arg] 36) = W at hbel l1 ⊢
      clear hW
      have x0 := l1.cell 0
      have x1 := l1.cell 1
      simp at x0 x1
      go_wp2
      go_ret
      exact GivesRead.lit _ H64.out (by simp) W rfl rfl hbel.out
    · rw [encA_long hs] at H64 ⊢
      have d2 : decide (o.arg < 128) = false := by simpa using hs
      clear hb ha
      go_enter Tryd.func16, Tryd.ntmps16
      go_wp2_with fail
      refine (argOf_any o.code _).mono ?_
      rintro e w' ⟨rfl, rfl⟩
      generalize argMost o.code = M at hneg hm ⊢
      have d : decide (M < 0) = false := by simpa using hneg
      generalize hW : w.alloc (.cells #[.int .i64 o.code, .int .i64 o.arg] 36) = W at hbel l1 ⊢
      clear hW
      have x0 := l1.cell 0
      have x1 := l1.cell 1
      simp at x0 x1
      go_wp2
      go_ret
      exact GivesRead.lit _ H64.out (by simp) W rfl rfl hbel.out

end Go.Proofs.YtfigekdejocakacDoor

namespace Go.Proofs.YtfigekdejocakacDoor
open Go.ChangeShapes Go.WideShapes Go.ChangeAt Go.RowKit Go.Deep
set_option linter.unusedVariables false

theorem readCellsB : Tryd.prog.cellsOf 5 = 1 := by kernel_rfl
theorem readOwnB : ownKnob Tryd.prog.godebug = none := by kernel_rfl
theorem readLaidB : laidOutB Tryd.prog = true := by kernel_rfl

theorem addr_add_b (b off j : Nat) : (⟨b, off, none⟩ : Addr).add j = ⟨b, off + j, none⟩ := by
  unfold Addr.add
  split
  · rename_i h0; subst h0; rfl
  · rfl

/-- a slice of bytes that came in -/
theorem read_bytes {H : Type} {enc : TypeId × Value → H} {w : World} {base : Nat} {spare : Nat → Bool} {held : Bool} {m : Nat} {v : Value} {y : DataW H × List MemPlace} (h : DataW.trod enc Tryd.prog w base spare held m 22 [v] = some y) :
    ∃ (A : Option Addr) (n c : Nat), v = .slice A n c ∧ BytesAt w w.heap.size A n ∧ n ≤ c ∧ n ≤ 9223372036854775807 := by
  rcases open_ints Tryd.underlying22 Tryd.underlying5 readCellsB h with ⟨hcs, _⟩ | ⟨a, len, cap, zs, hcs, _, hl, hm, hz, _, hcell, hwz⟩
  · simp at hcs
    subst hcs
    exact ⟨none, 0, 0, rfl, fun k hk => absurd hk (by omega), Nat.le_refl _, by omega⟩
  · simp at hcs
    subst hcs
    have hzl : len ≤ zs.length := by rw [hz]; split <;> omega
    refine ⟨some a, len, cap, rfl, fun k hk => ?_, hl, by unfold maxLen at hm; omega⟩
    have hz0 := hcell 0 (by omega)
    have hc0 := hcell k (by omega)
    obtain ⟨b, off, sp⟩ := a
    have hsp : sp = none := by simpa [Addr.add] using World.cell?_spot hz0
    subst hsp
    rw [addr_add_b] at hc0
    have hb := range_u8 hwz k
    rw [List.getD_eq_getElem?_getD] at hc0
    obtain ⟨x, hx⟩ := Int.eq_ofNat_of_zero_le hb.1
    refine ⟨b, off, x, rfl, World.block_lt_of_cell? w _ hc0, ?_, by omega⟩
    rw [hc0, hx]

end Go.Proofs.YtfigekdejocakacDoor
