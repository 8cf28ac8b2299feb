/-
  Lemmas, several texts in one: ClaD, ClsO, ClaO, Ord.
-/
import Derived.Test.YtkgnijbdbkopkaaClaI
import Derived.Test.YtkgnijbdbkopkaaEqvM
import Derived.Test.YtkgnijbdbkopkaaSpecE
import Derived.Test.YtkgnijbdbkopkaaImplD
import Derived.Test.YtkgnijbdbkopkaaPjAj
namespace Go.Proofs.Ytkgnijbdbkopkaa
open Go.RowKit Go.Maps
set_option linter.unusedVariables false

set_option maxHeartbeats 1000000 in
theorem deepClasses_any (A : Option Addr) (ns : List Nd) (c : Nat) (w : World) (hr : NdsAt w w.heap.size A ns) (hK : KidsIn ns) (hn : ns.length ≤ 1000) (hc : ns.length ≤ c) :
    Calls Try.prog 12 #[.slice A ns.length c] w (GivesInts w (clsN ns ns.length)) := by
  have HC := hide (classesUpTo_any A ns c ns.length w hr hK hn hn hc)
  clear hr hK
  generalize clsN ns ns.length = R at HC ⊢
  go_enter Try.func12, Try.ntmps12
  go_wp2_with fail
  refine HC.out.mono ?_
  rintro e w2 ⟨Ag, cg, rfl, ho, hb⟩
  have H := hide (And.intro ho hb)
  clear ho hb
  go_wp2
  go_ret
  exact ⟨Ag, cg, rfl, H.out.1, H.out.2⟩

end Go.Proofs.Ytkgnijbdbkopkaa

namespace Go.Proofs.Ytkgnijbdbkopkaa
open Go.RowKit Go.Maps
set_option linter.unusedVariables false

open Classical in
/-- the class of each node of a valid graph; nothing for another one -/
noncomputable def clsOf (ns : List Nd) (r : Int) : List Int := if ValidG ns r then clsN ns ns.length else []
theorem cls_yes {ns : List Nd} {r : Int} (h : ValidG ns r) : clsOf ns r = clsN ns ns.length := by unfold clsOf; rw [if_pos h]
theorem cls_no {ns : List Nd} {r : Int} (h : ¬ ValidG ns r) : clsOf ns r = [] := by unfold clsOf; rw [if_neg h]
theorem validG_kids {ns : List Nd} {r : Int} (h : ValidG ns r) : KidsIn ns := fun n hn => (h.nodes n hn).inn
theorem clsOf_few {ns : List Nd} {r : Int} : (clsOf ns r).length ≤ 12 := by
  by_cases h : ValidG ns r
  · rw [cls_yes h, clsN_len]; exact h.few
  · rw [cls_no h]; simp
theorem clsOf_64 {ns : List Nd} {r : Int} : ∀ x ∈ clsOf ns r, In64 x := by
  by_cases h : ValidG ns r
  · rw [cls_yes h]
    intro x hx
    have := clsN_in ns _ x hx
    have := h.few
    constructor <;> omega
  · rw [cls_no h]; simp

end Go.Proofs.Ytkgnijbdbkopkaa

namespace Go.Proofs.Ytkgnijbdbkopkaa
open Go.RowKit Go.Maps
set_option linter.unusedVariables false

set_option maxHeartbeats 1000000 in
theorem implClassesOf_any (A : Option Addr) (ns : List Nd) (c : Nat) (r : Int) (w : World) (hr : NdsAt w w.heap.size A ns) (hc : ns.length ≤ c) :
    Calls Try.prog 5 #[.agg #[.slice A ns.length c, .int .i64 r]] w (GivesInts w (clsOf ns r)) := by
  have hB : Below w.heap.size w (w.alloc (.cells #[.slice A ns.length c, .int .i64 r] 25)) := (Below.refl _ _).alloc (Nat.le_refl _) _
  have l1 := Lies.new w #[.slice A ns.length c, .int .i64 r] 25
  have hr2 := hr.later hB (Nat.le_refl _)
  clear hr
  go_enter Try.func5, Try.ntmps5
  go_wp2_with fail
  generalize w.alloc (.cells #[.slice A ns.length c, .int .i64 r] 25) = W at hB l1 hr2 ⊢
  refine (implValid_any A ns c r W hr2).mono ?_
  rintro e w1 ⟨rfl, hb1⟩
  have l2 := l1.below hb1 l1.lt
  have hr3 := hr2.later hb1 (Nat.le_refl _)
  have hB1 := hB.trans (hb1.mono hB.size)
  have e0 := l2.cell 0
  simp at e0
  clear l1 hr2 hb1 hB l2
  by_cases hv : ValidG ns r
  · have HE := hide (cls_yes hv)
    have hK := validG_kids hv
    have h12 := hv.few
    rw [tf_true hv]
    clear hv
    go_wp2_with fail
    refine (deepClasses_any A ns c w1 hr3 hK (by omega) hc).mono ?_
    rintro e w2 ⟨Ag, cg, rfl, ho, hb⟩
    have H := hide (And.intro (ho.mono hB1.size) (hB1.trans (hb.mono hB1.size)))
    rw [← HE.out] at H ⊢
    clear ho hb e0 hr3 hK
    go_wp2
    go_ret
    exact ⟨Ag, cg, rfl, H.out.1, H.out.2⟩
  · have HE := hide (cls_no hv)
    rw [tf_false hv]
    have HB := hide hB1
    clear hv e0 hr3 hB1
    go_wp2
    go_ret
    rw [HE.out]
    exact ⟨none, 0, rfl, OwnI.empty _ _, HB.out⟩

end Go.Proofs.Ytkgnijbdbkopkaa

namespace Go.Proofs.Ytkgnijbdbkopkaa

/-- each but the first is a kid of one before it, and the first is r -/
structure Ord (ns : List Nd) (r : Int) (L : List Int) : Prop where
  first : ∀ x, L[0]? = some x → x = r
  later : ∀ i x, 0 < i → L[i]? = some x → ∃ k y, k < i ∧ L[k]? = some y ∧ x ∈ kidsOf ns y

theorem Ord.snoc {ns : List Nd} {r x y : Int} {L : List Int} (h : Ord ns r L) (hy : y ∈ L) (hk : x ∈ kidsOf ns y) : Ord ns r (L ++ [x]) := by
  have hl : 0 < L.length := List.length_pos_of_mem hy
  refine ⟨fun z hz => h.first z (by rw [List.getElem?_append_left hl] at hz; exact hz), fun i z hi hz => ?_⟩
  by_cases e : i < L.length
  · rw [List.getElem?_append_left e] at hz
    obtain ⟨k, v, h1, h2, h3⟩ := h.later i z hi hz
    exact ⟨k, v, h1, by rw [List.getElem?_append_left (by omega)]; exact h2, h3⟩
  · have hie : i = L.length := by
      have := (List.getElem?_eq_some_iff.1 hz).1
      simp at this
      omega
    subst hie
    rw [List.getElem?_concat_length] at hz
    injection hz with hz
    subst hz
    obtain ⟨k, hk2, rfl⟩ := List.getElem_of_mem hy
    exact ⟨k, L[k], hk2, by rw [List.getElem?_append_left hk2]; exact List.getElem?_eq_getElem hk2, hk⟩

theorem ord_dfs (ns : List Nd) (ent : Int → Bool) (r : Int) : ∀ (f : Nat) (x y : Int) (L : List Int), Ord ns r L → y ∈ L → x ∈ kidsOf ns y → Ord ns r (dfs ns ent f x L) ∧ ∀ z ∈ L, z ∈ dfs ns ent f x L
  | 0, x, y, L, h, _, _ => ⟨h, fun _ hz => hz⟩
  | f + 1, x, y, L, h, hy, hk => by
    by_cases hs : ent x = false ∨ x ∈ L
    · rw [dfs_stop hs]
      exact ⟨h, fun _ hz => hz⟩
    · have he : ent x = true := by
        cases hx : ent x
        · exact absurd (.inl hx) hs
        · rfl
      rw [dfs_go he (fun hm => hs (.inr hm))]
      have key : ∀ (ks M : List Int), Ord ns r M → x ∈ M → (∀ k ∈ ks, k ∈ kidsOf ns x) → Ord ns r (dfsL ns ent f ks M) ∧ ∀ z ∈ M, z ∈ dfsL ns ent f ks M := by
        intro ks
        induction ks with
        | nil => intro M hM _ _; exact ⟨hM, fun _ hz => hz⟩
        | cons k ks ih =>
          intro M hM hx hks
          rw [dfsL_cons]
          have h1 := ord_dfs ns ent r f k x M hM hx (hks k (by simp))
          have h2 := ih (dfs ns ent f k M) h1.1 (h1.2 x hx) (fun k' hk' => hks k' (by simp [hk']))
          exact ⟨h2.1, fun z hz => h2.2 z (h1.2 z hz)⟩
      have h2 := key (kidsOf ns x) (L ++ [x]) (h.snoc hy hk) (by simp) (fun _ hk' => hk')
      exact ⟨h2.1, fun z hz => h2.2 z (List.mem_append_left _ hz)⟩

/-- the walk from a node in an empty list -/
theorem ord_start (ns : List Nd) (ent : Int → Bool) (r : Int) (f : Nat) (he : ent r = true) : Ord ns r (dfs ns ent (f + 1) r []) := by
  rw [dfs_go he (by simp), List.nil_append]
  have key : ∀ (ks M : List Int), Ord ns r M → r ∈ M → (∀ k ∈ ks, k ∈ kidsOf ns r) → Ord ns r (dfsL ns ent f ks M) := by
    intro ks
    induction ks with
    | nil => intro M hM _ _; exact hM
    | cons k ks ih =>
      intro M hM hx hks
      rw [dfsL_cons]
      have h1 := ord_dfs ns ent r f k r M hM hx (hks k (by simp))
      exact ih (dfs ns ent f k M) h1.1 (h1.2 r hx) (fun k' hk' => hks k' (by simp [hk']))
  refine key (kidsOf ns r) [r] ⟨fun x hx => by simp at hx; exact hx.symm, fun i x hi hx => ?_⟩ (by simp) (fun _ h => h)
  have := (List.getElem?_eq_some_iff.1 hx).1
  simp at this
  omega

/-- all that the law says of the nodes that are reached -/
structure Reached (ns : List Nd) (r : Int) (L : List Int) : Prop where
  met : Met ns L
  closed : ∀ y ∈ L, ∀ k ∈ kidsOf ns y, k ∈ L
  ord : Ord ns r L

theorem reachOf_reached {ns : List Nd} {r : Int} (h : ValidG ns r) : Reached ns r (reachOf ns r) := by
  unfold reachOf
  rw [if_pos h]
  have w := walked ns anyB (kidsIn_of_valid h) (ns.length + 1) r [] (Met.nil ns) h.root0 h.root (by simp)
  exact ⟨w.met, fun y hy k hk => w.closed y hy (by simp) k hk rfl, ord_start ns anyB r ns.length rfl⟩

theorem reachOf_none {ns : List Nd} {r : Int} (h : ¬ ValidG ns r) : reachOf ns r = [] := by
  unfold reachOf
  rw [if_neg h]

theorem reachOf_some {ns : List Nd} {r : Int} (h : ValidG ns r) : 0 < (reachOf ns r).length := by
  unfold reachOf
  rw [if_pos h]
  have w := walked ns anyB (kidsIn_of_valid h) (ns.length + 1) r [] (Met.nil ns) h.root0 h.root (by simp)
  exact List.length_pos_of_mem (w.starts r (by simp) rfl)

end Go.Proofs.Ytkgnijbdbkopkaa
