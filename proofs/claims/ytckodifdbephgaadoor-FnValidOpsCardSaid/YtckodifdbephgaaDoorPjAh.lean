/-
  Lemmas, several texts in one: Dfs, OwnOO, Emit, ShpUa.
-/
import Derived.Test.YtckodifdbephgaaDoorPjAd
import Derived.Test.YtckodifdbephgaaDoorPjAg
import Derived.Maps.AppendAt
import Derived.Laws.AppendOwnNone
import Derived.Test.YtckodifdbephgaaDoorShpT
import Derived.Test.YtckodifdbephgaaDoorPjAf
import Derived.Test.YtckodifdbephgaaDoorPjAe
import Derived.Deep.QuietTactic
import Derived.Deep.RegionLaw
import Derived.Deep.RegionHeld
import Derived.Deep.Cut
import Derived.BigQuiet
namespace Go.Proofs.YtckodifdbephgaaDoor

/-- the walk from x, where the nodes of L have been met; only nodes that may be entered are met -/
def dfs (ns : List Nd) (ent : Int → Bool) : Nat → Int → List Int → List Int
  | 0, _, L => L
  | f + 1, x, L => if ent x = false ∨ x ∈ L then L else (kidsOf ns x).foldl (fun M k => dfs ns ent f k M) (L ++ [x])

def dfsL (ns : List Nd) (ent : Int → Bool) (f : Nat) (xs : List Int) (L : List Int) : List Int := xs.foldl (fun M k => dfs ns ent f k M) L

theorem dfs_stop {ns : List Nd} {ent : Int → Bool} {f : Nat} {x : Int} {L : List Int} (h : ent x = false ∨ x ∈ L) : dfs ns ent (f + 1) x L = L := by
  rw [dfs, if_pos h]

theorem dfs_go {ns : List Nd} {ent : Int → Bool} {f : Nat} {x : Int} {L : List Int} (h1 : ent x = true) (h2 : x ∉ L) : dfs ns ent (f + 1) x L = dfsL ns ent f (kidsOf ns x) (L ++ [x]) := by
  rw [dfs, if_neg (by simp [h1, h2])]
  rfl

theorem dfsL_nil (ns : List Nd) (ent : Int → Bool) (f : Nat) (L : List Int) : dfsL ns ent f [] L = L := rfl
theorem dfsL_cons (ns : List Nd) (ent : Int → Bool) (f : Nat) (x : Int) (xs L : List Int) : dfsL ns ent f (x :: xs) L = dfsL ns ent f xs (dfs ns ent f x L) := rfl
theorem dfsL_snoc (ns : List Nd) (ent : Int → Bool) (f : Nat) (xs : List Int) (x : Int) (L : List Int) : dfsL ns ent f (xs ++ [x]) L = dfs ns ent f x (dfsL ns ent f xs L) := by
  simp [dfsL]

/-- the kids of each node are nodes -/
def KidsIn (ns : List Nd) : Prop := ∀ n ∈ ns, ∀ x ∈ n.kids, 0 ≤ x ∧ x < ns.length

theorem KidsIn.of {ns : List Nd} (h : KidsIn ns) (x : Int) : ∀ k ∈ kidsOf ns x, 0 ≤ k ∧ k < ns.length := by
  intro k hk
  unfold kidsOf at hk
  cases hn : ns[x.toNat]? with
  | none => rw [hn] at hk; simp at hk
  | some n =>
    rw [hn] at hk
    exact h n (List.mem_of_getElem? hn) k (by simpa using hk)

/-- what has been met: different nodes -/
structure Met (ns : List Nd) (L : List Int) : Prop where
  nodup : L.Nodup
  range : ∀ x ∈ L, 0 ≤ x ∧ x < ns.length

theorem Met.nil (ns : List Nd) : Met ns [] := ⟨List.nodup_nil, fun x hx => by cases hx⟩
theorem Met.len {ns : List Nd} {L : List Int} (h : Met ns L) : L.length ≤ ns.length := nodup_le _ _ h.nodup h.range
theorem Met.snoc {ns : List Nd} {L : List Int} {x : Int} (h : Met ns L) (hx : 0 ≤ x ∧ x < ns.length) (hno : x ∉ L) : Met ns (L ++ [x]) := by
  refine ⟨?_, fun y hy => ?_⟩
  · rw [List.nodup_append]
    exact ⟨h.nodup, by simp, fun a ha b hb => by simp at hb; subst hb; intro e; subst e; exact hno ha⟩
  · rcases List.mem_append.1 hy with hy | hy
    · exact h.range y hy
    · simp at hy; subst hy; exact hx

/-- all that the walk gives -/
structure Walked (ns : List Nd) (ent : Int → Bool) (xs : List Int) (L R : List Int) : Prop where
  met : Met ns R
  sub : ∀ y ∈ L, y ∈ R
  len : L.length ≤ R.length
  starts : ∀ x ∈ xs, ent x = true → x ∈ R
  closed : ∀ y ∈ R, y ∉ L → ∀ k ∈ kidsOf ns y, ent k = true → k ∈ R
  from_ : ∀ y ∈ R, y ∈ L ∨ (ent y = true ∧ (y ∈ xs ∨ ∃ z ∈ R, z ∉ L ∧ y ∈ kidsOf ns z))

theorem walkedL (ns : List Nd) (ent : Int → Bool) (f : Nat)
    (ih : ∀ (x : Int) (L : List Int), Met ns L → 0 ≤ x → x < ns.length → ns.length < f + L.length → Walked ns ent [x] L (dfs ns ent f x L)) :
    ∀ (xs : List Int) (L : List Int), Met ns L → (∀ x ∈ xs, 0 ≤ x ∧ x < ns.length) → ns.length < f + L.length → Walked ns ent xs L (dfsL ns ent f xs L)
  | [], L, hL, _, _ => ⟨hL, fun y hy => hy, Nat.le_refl _, fun x hx => (by cases hx), fun y hy hno => absurd hy hno, fun y hy => .inl hy⟩
  | x :: xs, L, hL, hx, hf => by
    have h1 := ih x L hL (hx x (by simp)).1 (hx x (by simp)).2 hf
    have h2 := walkedL ns ent f ih xs (dfs ns ent f x L) h1.met (fun y hy => hx y (by simp [hy])) (by have := h1.len; omega)
    rw [dfsL_cons]
    refine ⟨h2.met, fun y hy => h2.sub y (h1.sub y hy), Nat.le_trans h1.len h2.len, fun y hy he => ?_, fun y hy hno k hk he => ?_, fun y hy => ?_⟩
    · rcases List.mem_cons.1 hy with rfl | hy
      · exact h2.sub _ (h1.starts _ (by simp) he)
      · exact h2.starts y hy he
    · by_cases hm : y ∈ dfs ns ent f x L
      · exact h2.sub _ (h1.closed y hm hno k hk he)
      · exact h2.closed y hy hm k hk he
    · rcases h2.from_ y hy with h | ⟨he, h | ⟨z, hz, hzn, hk⟩⟩
      · rcases h1.from_ y h with h | ⟨he, h | ⟨z, hz, hzn, hk⟩⟩
        · exact .inl h
        · exact .inr ⟨he, .inl (by simp at h; simp [h])⟩
        · exact .inr ⟨he, .inr ⟨z, h2.sub z hz, hzn, hk⟩⟩
      · exact .inr ⟨he, .inl (by simp [h])⟩
      · exact .inr ⟨he, .inr ⟨z, hz, fun h => hzn (h1.sub z h), hk⟩⟩

theorem walked (ns : List Nd) (ent : Int → Bool) (hk : KidsIn ns) : ∀ (f : Nat) (x : Int) (L : List Int), Met ns L → 0 ≤ x → x < ns.length → ns.length < f + L.length → Walked ns ent [x] L (dfs ns ent f x L)
  | 0, x, L, hL, _, _, hf => by have := hL.len; omega
  | f + 1, x, L, hL, h0, h1, hf => by
    by_cases hs : ent x = false ∨ x ∈ L
    · rw [dfs_stop hs]
      exact ⟨hL, fun y hy => hy, Nat.le_refl _, fun y hy he => by
        simp at hy
        subst hy
        rcases hs with h | h
        · rw [h] at he; cases he
        · exact h, fun y hy hno => absurd hy hno, fun y hy => .inl hy⟩
    · have he : ent x = true := by
        cases h : ent x
        · exact absurd (.inl h) hs
        · rfl
      have hno : x ∉ L := fun h => hs (.inr h)
      rw [dfs_go he hno]
      have h := walkedL ns ent f (walked ns ent hk f) (kidsOf ns x) (L ++ [x]) (hL.snoc ⟨h0, h1⟩ hno) (hk.of x) (by simp; omega)
      refine ⟨h.met, fun y hy => h.sub y (List.mem_append_left _ hy), by have := h.len; simp at this; omega, fun y hy _ => ?_, fun y hy hyn k hkk hek => ?_, fun y hy => ?_⟩
      · simp at hy
        subst hy
        exact h.sub y (by simp)
      · by_cases hyx : y = x
        · subst hyx
          exact h.starts k hkk hek
        · exact h.closed y hy (by simp [hyn, hyx]) k hkk hek
      · by_cases hyL : y ∈ L
        · exact .inl hyL
        · refine .inr ?_
          by_cases hyx : y = x
          · subst hyx
            exact ⟨he, .inl (by simp)⟩
          · rcases h.from_ y hy with hm | ⟨hey, hm | ⟨z, hz, hzn, hm⟩⟩
            · exact absurd hm (by simp [hyL, hyx])
            · exact ⟨hey, .inr ⟨x, h.sub x (by simp), hno, hm⟩⟩
            · exact ⟨hey, .inr ⟨z, hz, fun hzL => hzn (List.mem_append_left _ hzL), hm⟩⟩

/-- a walk over all of a list of starts -/
theorem walkedAll (ns : List Nd) (ent : Int → Bool) (hk : KidsIn ns) (xs L : List Int) (f : Nat) (hL : Met ns L) (hx : ∀ x ∈ xs, 0 ≤ x ∧ x < ns.length) (hf : ns.length < f + L.length) : Walked ns ent xs L (dfsL ns ent f xs L) :=
  walkedL ns ent f (walked ns ent hk f) xs L hL hx hf

theorem dfs_met (ns : List Nd) (ent : Int → Bool) (hk : KidsIn ns) : ∀ (f : Nat) (x : Int) (L : List Int), Met ns L → (0 ≤ x ∧ x < ns.length) → Met ns (dfs ns ent f x L)
  | 0, x, L, hL, _ => hL
  | f + 1, x, L, hL, hx => by
    by_cases hs : ent x = false ∨ x ∈ L
    · rw [dfs_stop hs]; exact hL
    · have he : ent x = true := by
        cases h : ent x
        · exact absurd (.inl h) hs
        · rfl
      have hno : x ∉ L := fun h => hs (.inr h)
      rw [dfs_go he hno]
      have hl : ∀ (xs M : List Int), Met ns M → (∀ y ∈ xs, 0 ≤ y ∧ y < ns.length) → Met ns (dfsL ns ent f xs M) := by
        intro xs
        induction xs with
        | nil => intro M hM _; exact hM
        | cons a xs ih => intro M hM hr; rw [dfsL_cons]; exact ih _ (dfs_met ns ent hk f a M hM (hr a (by simp))) (fun y hy => hr y (by simp [hy]))
      exact hl _ _ (hL.snoc hx hno) (hk.of x)

/-- the nodes that are tuples -/
def isTup (ns : List Nd) (x : Int) : Bool := kindOf ns x == 2

/-- a walk over tuples from a tuple's kids comes back to it just if a way over tuples does -/
theorem tuple_back (ns : List Nd) (hk : KidsIn ns) (i : Int) (h2 : kindOf ns i = 2) (f : Nat) (hf : ns.length < f) : i ∈ dfsL ns (isTup ns) f (kidsOf ns i) [] ↔ TReach ns i i := by
  have h := walkedAll ns (isTup ns) hk (kidsOf ns i) [] f (Met.nil ns) (hk.of i) (by simpa using hf)
  have hall : ∀ x, TReach ns i x → isTup ns x = true → x ∈ dfsL ns (isTup ns) f (kidsOf ns i) [] := by
    intro x hx
    induction hx with
    | kid x hx => exact fun he => h.starts x hx he
    | step y x _ hy2 hx ih => exact fun he => h.closed y (ih (by simp [isTup, hy2])) (by simp) x hx he
  constructor
  · intro hi
    have hs : ∀ (g : Nat) (xs L : List Int), Met ns L → (∀ x ∈ xs, 0 ≤ x ∧ x < ns.length) → (∀ x ∈ xs, TReach ns i x) → (∀ x ∈ L, TReach ns i x) → ∀ x ∈ dfsL ns (isTup ns) g xs L, TReach ns i x := by
      intro g
      induction g with
      | zero =>
        intro xs
        induction xs with
        | nil => intro L _ _ _ hL x hx; exact hL x hx
        | cons a xs ihx => intro L hM hr hxs hL x hx; exact ihx L hM (fun y hy => hr y (by simp [hy])) (fun y hy => hxs y (by simp [hy])) hL x hx
      | succ g ihg =>
        intro xs
        induction xs with
        | nil => intro L _ _ _ hL x hx; exact hL x hx
        | cons a xs ihx =>
          intro L hM hr hxs hL x hx
          rw [dfsL_cons] at hx
          by_cases hst : isTup ns a = false ∨ a ∈ L
          · rw [dfs_stop hst] at hx
            exact ihx L hM (fun y hy => hr y (by simp [hy])) (fun y hy => hxs y (by simp [hy])) hL x hx
          · have hea : isTup ns a = true := by
              cases hq : isTup ns a
              · exact absurd (.inl hq) hst
              · rfl
            have hna : a ∉ L := fun hq => hst (.inr hq)
            have hMa := hM.snoc (hr a (by simp)) hna
            have hsub : ∀ y ∈ dfs ns (isTup ns) (g + 1) a L, TReach ns i y := by
              rw [dfs_go hea hna]
              refine ihg (kidsOf ns a) (L ++ [a]) hMa (hk.of a) (fun y hy => .step a y (hxs a (by simp)) (by simpa [isTup] using hea) hy) (fun y hy => ?_)
              rcases List.mem_append.1 hy with hy | hy
              · exact hL y hy
              · simp at hy; subst hy; exact hxs y (by simp)
            by_cases hlen : ns.length < (g + 1) + L.length
            · have hw := walked ns (isTup ns) hk (g + 1) a L hM (hr a (by simp)).1 (hr a (by simp)).2 hlen
              exact ihx _ hw.met (fun y hy => hr y (by simp [hy])) (fun y hy => hxs y (by simp [hy])) hsub x hx
            · exact ihx _ (dfs_met ns (isTup ns) hk (g + 1) a L hM (hr a (by simp))) (fun y hy => hr y (by simp [hy])) (fun y hy => hxs y (by simp [hy])) hsub x hx
    exact hs f (kidsOf ns i) [] (Met.nil ns) (hk.of i) (fun x hx => .kid x hx) (fun x hx => by cases hx) i hi
  · intro ht
    exact hall i ht (by simp [isTup, h2])

end Go.Proofs.YtckodifdbephgaaDoor

namespace Go.Proofs.YtckodifdbephgaaDoor
open Go.RowKit
set_option linter.unusedVariables false

theorem opVals_one (os : List Od) : ∀ u ∈ opVals os, u.oneCell' = true := by
  intro u hu
  obtain ⟨o, _, hu⟩ := List.mem_flatMap.1 hu
  simp at hu
  rcases hu with rfl | rfl <;> rfl

theorem opVals_append (os ps : List Od) : opVals (os ++ ps) = opVals os ++ opVals ps := by simp [opVals]

theorem OpsAt.vals {w : World} {B b off : Nat} {os : List Od} (h : OpsAt w B (some ⟨b, off, none⟩) os) : ∀ j u, (opVals os)[j]? = some u → w.cell? ⟨b, off + j, none⟩ = some u := by
  intro j u hu
  have hj : j < os.length * 2 := by have := (List.getElem?_eq_some_iff.1 hu).1; rwa [opVals_len] at this
  have hk : j / 2 < os.length := by omega
  obtain ⟨b', off', o, e, _, ho, _, hc0, hc1⟩ := h.at_ hk
  injection e with e
  injection e with e1 e2
  subst e1 e2
  rcases Nat.mod_two_eq_zero_or_one j with hm | hm
  · have ej : j = j / 2 * 2 := by omega
    have := opVals_code ho
    rw [← ej] at this hc0
    rw [this] at hu
    injection hu with hu
    rw [← hu]
    exact hc0
  · have ej : j = j / 2 * 2 + 1 := by omega
    have := opVals_arg ho
    rw [← ej] at this
    rw [Nat.add_assoc, ← ej] at hc1
    rw [this] at hu
    injection hu with hu
    rw [← hu]
    exact hc1

/-- append(s, t...) where s is the call's own and t is any slice of orders that reads as ys -/
theorem append_ops {w : World} {ops : Array Oper} {rest : List Oper} {o : Oper} {a : Act} {Q : Exit → Act → World → Prop} (hgd : o.guard = none) (s x : Operand)
    (ho : o.op = .call { callee := .builtin .append, args := #[s, x], argTypes := #[23, 23] })
    (base : Nat) (A : Option Addr) (c : Nat) (xs : List Od) (hs : a.eval s = .slice A xs.length c) (hown : OwnO w base A c xs)
    (B : Nat) (A2 : Option Addr) (c2 : Nat) (ys : List Od) (hx : a.eval x = .slice A2 ys.length c2) (hnil : A2 = none → c2 = 0) (hr : OpsAt w B A2 ys)
    (hsum : xs.length + ys.length ≤ 8388608) (hbase : base ≤ w.heap.size)
    (h : ∀ (zs : List Od) (A' : Option Addr) (c' : Nat) (w' : World), Hid (zs = xs ++ ys) → OwnO w' base A' c' zs → w.grownBy w' (blockOf A) → (blockOf A' = blockOf A ∨ blockOf A' = some w.heap.size) →
      wpList Tryd.prog ops Q rest (a.put o.dst (.slice A' zs.length c')) w') : wpList Tryd.prog ops Q (o :: rest) a w := by
  obtain ⟨i0, hi, hz0, hz1, hz2⟩ := info_parts infoOp
  have hempty : A2 = none → ys = [] := by
    intro e
    cases ys with
    | nil => rfl
    | cons y ys =>
      obtain ⟨b, off, e2, _⟩ := hr.row (by simp)
      rw [e] at e2; cases e2
  rcases A2 with _ | ad
  · obtain rfl := hnil rfl
    obtain rfl := hempty rfl
    exact wpList_append_own_none hgd s x 23 ho base 31 i0 2 Tryd.underlying23 hi _ _ _ hs hown.own hx
      (h xs A c w (by simp [Hid]) hown (World.grownBy.refl w _) (.inl rfl))
  · have hcells : ∀ j u, (opVals ys)[j]? = some u → w.cell? (ad.add j) = some u := by
      intro j u hu
      have hy : ys ≠ [] := by intro e; subst e; simp [opVals] at hu
      obtain ⟨b, off, e2, _⟩ := hr.row hy
      obtain rfl : ad = ⟨b, off, none⟩ := Option.some.inj e2
      have hadd : (⟨b, off, none⟩ : Addr).add j = ⟨b, off + j, none⟩ := by
        unfold Addr.add
        split
        · rename_i h0; subst h0; rfl
        · rfl
      rw [hadd]
      exact hr.vals j u hu
    refine wpList_append_own_at w hgd s x 23 ho base 31 i0 _ 2 16 Tryd.underlying23 hi hz0 hz1 hz2 rfl (by omega) _ _ _ hs hown.own ad ys.length c2 (opVals ys) hx (by rw [opVals_len]) hcells (opVals_one ys)
      (by unfold maxLen; omega) (by omega) hbase ?_
    intro v' w' h2 h3 _ h5
    have hlen : xs.length + ys.length = (xs ++ ys).length := by simp
    rw [ownBlock_slice] at h3 h5
    rw [← opVals_append, hlen] at h2
    rcases h2.2 with ⟨rfl, h6⟩ | ⟨g, cap, cur, rfl, _⟩
    · have hzs : xs ++ ys = [] := List.eq_nil_of_length_eq_zero h6
      have := h (xs ++ ys) none 0 w' (by simp [Hid]) ⟨by rw [h6] at h2 ⊢; exact h2⟩ h3 (by simpa [blockOf, Value.ownBlock] using h5)
      rw [h6] at this
      exact this
    · exact h (xs ++ ys) _ _ w' (by simp [Hid]) ⟨h2⟩ h3 (by simpa [ownBlock_slice] using h5)

theorem OpsAt.upto {w : World} {B : Nat} {A : Option Addr} {os : List Od} (h : OpsAt w B A os) (n : Nat) : OpsAt w B A (os.take n) := by
  refine ⟨fun hx => ?_, fun x hx => h.wf x (List.mem_of_mem_take hx), Nat.le_trans (by simp; omega) h.len⟩
  obtain ⟨b, off, e, hlt, hc⟩ := h.row (by intro e; subst e; simp at hx)
  refine ⟨b, off, e, hlt, fun j x hj => hc j x ?_⟩
  rw [List.getElem?_take] at hj
  split at hj
  · exact hj
  · cases hj

end Go.Proofs.YtckodifdbephgaaDoor

namespace Go.Proofs.YtckodifdbephgaaDoor
open Go.RowKit
set_option linter.unusedVariables false

/-- the one order that the translation lays for emit(ops, o) -/
theorem OpsAt.one {w : World} {b : Nat} {o : Od} {t : TypeId} (h : Lies w b #[.int .i64 o.code, .int .i64 o.arg] t) (h64 : In64 o.code ∧ In64 o.arg) : OpsAt w w.heap.size (some ⟨b, 0, none⟩) [o] := by
  have c0 := h.cell 0
  have c1 := h.cell 1
  simp only [List.getElem?_toArray, List.getElem?_cons_zero, List.getElem?_cons_succ] at c0 c1
  refine ⟨fun _ => ⟨b, 0, rfl, h.lt, fun j x hj => ?_⟩, fun x hx => ?_, by simp⟩
  · match j, hj with
    | 0, hj =>
      simp at hj
      subst hj
      exact ⟨c0, c1⟩
  · rw [List.mem_singleton.1 hx]
    exact h64

set_option maxHeartbeats 1000000 in
theorem emit_any (A : Option Addr) (os : List Od) (c : Nat) (B : Option Addr) (ps : List Od) (d : Nat) (w : World) (h : OpsAt w w.heap.size A os) (hn : A = none → c = 0) (h2 : OpsAt w w.heap.size B ps) (hn2 : B = none → d = 0) (hl : os.length + ps.length ≤ 8000000) :
    Calls Tryd.prog 25 #[.slice A os.length c, .slice B ps.length d] w (GivesOps w (os ++ ps)) := by
  have Hn := hide hn
  have Hn2 := hide hn2
  have HE := hide (OwnO.bare w)
  have HB := hide ((Below.refl w.heap.size w).alloc (Nat.le_refl _) (.cells #[] 31))
  clear hn hn2
  go_enter Tryd.func25, Tryd.ntmps25
  go_wp2_with (at_builtin; first
    | (refine append_ops rfl (.tmp 5) (.tmp 6) rfl w.heap.size _ 0 [] rfl HE.out w.heap.size A c os rfl Hn.out (h.below HB.out) (by simp; omega) HB.out.size ?_; intro zs A5 c5 w6 e5 own5 hg5 _; have HB6 := hide (below_grown HB.out hg5 HB.out.size (fun q hq => (HE.out.blocks q hq).1)); have HO6 := hide own5; have hz6 : zs.length = os.length := (by rw [e5.out, List.nil_append]); have hz7 : zs.length ≤ os.length := (by omega); clear own5 hg5 hz6)
    | (refine append_ops rfl (.tmp 7) (.tmp 8) rfl w.heap.size A5 c5 zs rfl HO6.out w.heap.size B d ps rfl Hn2.out (h2.below HB6.out) (by omega) HB6.out.size ?_; intro ys A7 c7 w8 e7 own7 hg7 _; have HB8 := hide (below_grown HB6.out hg7 HB6.out.size (fun q hq => (HO6.out.blocks q hq).1)); have HO8 := hide own7; clear own7 hg7))
  go_ret
  have e8 : ys = os ++ ps := by rw [e7.out, e5.out, List.nil_append]
  subst e8
  exact ⟨A7, c7, rfl, HO8.out, HB8.out⟩

end Go.Proofs.YtckodifdbephgaaDoor

namespace Go.Proofs.YtckodifdbephgaaDoor
open Go.RowKit
set_option linter.unusedVariables false
set_option linter.unusedSimpArgs false
set_option maxRecDepth 100000 in
set_option maxHeartbeats 4000000 in
theorem stepShapes_done (p : ShPtr) (s : Shp) (cd ar : Int) (hd : s.done = true) (base : Nat) (w : World) (h : ShOwn w base p s) (hbase : base ≤ w.heap.size) (hs : s.Small) :
    Calls Tryd.prog 19 #[shVal p s, .agg #[.int .i64 cd, .int .i64 ar]] w (TriesSh w p base (stepShp s ⟨cd, ar⟩)) := by
  obtain ⟨K, c1, F, c2, S, c3, M, c4⟩ := p
  have hS := ShSt.enter3 h hbase (.cells #[.int .i64 cd, .int .i64 ar] 31)
  have lo : Lies (((w.alloc (.cells (shCells ⟨K, c1, F, c2, S, c3, M, c4⟩ s) 50)).alloc (.cells #[.int .i64 cd, .int .i64 ar] 31)).alloc (.cells zero5 50)) (w.heap.size + 1) #[.int .i64 cd, .int .i64 ar] 31 := by
    have := (Lies.new (w.alloc (.cells (shCells ⟨K, c1, F, c2, S, c3, M, c4⟩ s) 50)) #[.int .i64 cd, .int .i64 ar] 31).alloc (.cells zero5 50)
    simpa using this
  have hst := hs.t
  have hkl := hs.k
  have Hs := hide hs
  have Hd := hide hd
  have hoffo := h.off (q := w.heap.size + 1) (.inr (by omega))
  clear h hs hd
  unfold shVal
  unfold shCells zero5 at *
  dsimp only at hS lo ⊢
  go_enter Tryd.func19, Tryd.ntmps19
  go_upto_region 1 with fail
  generalize ((w.alloc (.cells #[.slice K s.kinds.length c1, .slice F s.full.length c2, .slice S s.stack.length c3, .slice M s.memo.length c4, .bool s.done] 50)).alloc (.cells #[.int .i64 cd, .int .i64 ar] 31)).alloc (.cells #[.slice none 0 0, .slice none 0 0, .slice none 0 0, .slice none 0 0, .bool false] 50) = W at hS lo ⊢
  obtain ⟨e0, e1, e2, e3, e4⟩ := hS.bx.cells
  dsimp only at e0 e1 e2 e3 e4
  have d0 := lo.cell 0
  have d1 := lo.cell 1
  simp only [List.getElem?_toArray, List.getElem?_cons_zero, List.getElem?_cons_succ] at d0 d1
  have hd := Hd.out
  rw [hd] at e4
  have HN := hide (show stepShp s ⟨cd, ar⟩ = none from stepShp_none (by unfold stepFree; rw [if_pos hd]))
  obtain ⟨_, hs5, _, hbel, hfr⟩ := hS.ret
  obtain ⟨r0, r1, r2, r3, r4, f0, f1, f2, f3, f4, s0, s1, s2, s3, s4⟩ := hs5
  have HR := hide (And.intro hbel hfr)
  clear hbel hfr hS d0 d1 lo
  dsimp only at r0 r1 r2 r3 r4 s0 s1 s2 s3 s4
  rw [hd] at s0 s1 s2 s3 s4 HR
  go_wp2
  refine bodyPost_ret (v := .tuple #[shVal ⟨K, c1, F, c2, S, c3, M, c4⟩ s, .bool false]) (by simp [shVal, shCells, hd, results, Tryd.results19, go_sem, s0, s1, s2, s3, s4]) rfl ?_
  exact ⟨_, _, _, rfl, HR.out.1, HR.out.2, fun t ht => by (rw [HN.out] at ht; cases ht), fun _ => rfl⟩
end Go.Proofs.YtckodifdbephgaaDoor
