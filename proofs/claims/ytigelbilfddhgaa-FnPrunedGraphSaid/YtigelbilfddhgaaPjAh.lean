/-
  Lemmas, several texts in one: GivG, Ord, Reach2, CodG.
-/
import Derived.Test.YtigelbilfddhgaaPickG
import Derived.Test.YtigelbilfddhgaaPjAf
import Derived.Test.YtigelbilfddhgaaReach
import Derived.Test.YtigelbilfddhgaaCod
namespace Go.Proofs.Ytigelbilfddhgaa
open Go.RowKit Go.Maps
set_option linter.unusedVariables false

theorem GivesG.zero (w w' : World) (hb : Below w.heap.size w w') : GivesG w [] 0 (.returned (.agg #[.slice none 0 0, .int .i64 0])) w' :=
  ⟨none, 0, rfl, .inl ⟨rfl, rfl, rfl⟩, hb⟩

theorem OwnNs.lowB {w : World} {lo lo2 hi : Nat} {A : Option Addr} {c : Nat} {ns : List Nd} (h : OwnNs w lo hi A c ns) (h2 : lo2 ≤ lo) : OwnNs w lo2 hi A c ns := by
  rcases h with h | ⟨g, e, h⟩
  · exact .inl h
  · exact .inr ⟨g, e, h.low h2⟩

/-- the result is stored -/
theorem GivesG.put {w wd w2 w3 : World} {A : Option Addr} {c : Nat} {ms : List Nd} {r : Int} (hw : w.heap.size + 1 < wd.heap.size) (h0 : Below w.heap.size w wd) (h2 : Below wd.heap.size wd w2) (h3 : Below w2.heap.size w2 w3) (h : OwnNs w3 w2.heap.size w3.heap.size A c ms) :
    GivesG w ms r (.returned (.agg #[.slice A ms.length c, .int .i64 r])) ((w3.setCell ⟨w.heap.size + 1, 0, none⟩ (.slice A ms.length c)).setCell ⟨w.heap.size + 1, 1, none⟩ (.int .i64 r)) := by
  have hs2 := h2.size
  refine ⟨A, c, rfl, ?_, ((h0.trans ((h2.mono (by omega)).trans (h3.mono (by omega)))).setCell (p := ⟨w.heap.size + 1, 0, none⟩) (by show w.heap.size ≤ w.heap.size + 1; omega) _).setCell (p := ⟨w.heap.size + 1, 1, none⟩) (by show w.heap.size ≤ w.heap.size + 1; omega) _⟩
  have := (h.kept (w' := (w3.setCell ⟨w.heap.size + 1, 0, none⟩ (.slice A ms.length c)).setCell ⟨w.heap.size + 1, 1, none⟩ (.int .i64 r)) (fun b hb _ => (Below.heap_setCell _ _ _ _ (by show b ≠ w.heap.size + 1; omega)).trans (Below.heap_setCell _ _ _ _ (by show b ≠ w.heap.size + 1; omega)))).lowB (lo2 := w.heap.size) (by omega)
  simpa using this

end Go.Proofs.Ytigelbilfddhgaa

namespace Go.Proofs.Ytigelbilfddhgaa

/-- each but the first is a kid of one before it, and the first is r -/
structure Ord (ns : List Nd) (r : Int) (L : List Int) : Prop where
  first : ∀ x, L[0]? = some x → x = r
  later : ∀ i x, 0 < i → L[i]? = some x → ∃ k y, k < i ∧ L[k]? = some y ∧ x ∈ kidsOf ns y

theorem Ord.snoc {ns : List Nd} {r x y : Int} {L : List Int} (h : Ord ns r L) (hy : y ∈ L) (hk : x ∈ kidsOf ns y) : Ord ns r (L ++ [x]) := by
  have hl : 0 < L.length := List.length_pos_of_mem hy
  refine ⟨fun z hz => h.first z (by rw [List.getElem?_append_left hl] at hz; exact hz), fun i z hi hz => ?_⟩
  by_cases e : i < L.length
  · rw [List.getElem?_append_left e] at hz
    obtain ⟨k, v, h1, h2, h3⟩ := h.later i z hi hz
    exact ⟨k, v, h1, by rw [List.getElem?_append_left (by omega)]; exact h2, h3⟩
  · have hie : i = L.length := by
      have := (List.getElem?_eq_some_iff.1 hz).1
      simp at this
      omega
    subst hie
    rw [List.getElem?_concat_length] at hz
    injection hz with hz
    subst hz
    obtain ⟨k, hk2, rfl⟩ := List.getElem_of_mem hy
    exact ⟨k, L[k], hk2, by rw [List.getElem?_append_left hk2]; exact List.getElem?_eq_getElem hk2, hk⟩

theorem ord_dfs (ns : List Nd) (ent : Int → Bool) (r : Int) : ∀ (f : Nat) (x y : Int) (L : List Int), Ord ns r L → y ∈ L → x ∈ kidsOf ns y → Ord ns r (dfs ns ent f x L) ∧ ∀ z ∈ L, z ∈ dfs ns ent f x L
  | 0, x, y, L, h, _, _ => ⟨h, fun _ hz => hz⟩
  | f + 1, x, y, L, h, hy, hk => by
    by_cases hs : ent x = false ∨ x ∈ L
    · rw [dfs_stop hs]
      exact ⟨h, fun _ hz => hz⟩
    · have he : ent x = true := by
        cases hx : ent x
        · exact absurd (.inl hx) hs
        · rfl
      rw [dfs_go he (fun hm => hs (.inr hm))]
      have key : ∀ (ks M : List Int), Ord ns r M → x ∈ M → (∀ k ∈ ks, k ∈ kidsOf ns x) → Ord ns r (dfsL ns ent f ks M) ∧ ∀ z ∈ M, z ∈ dfsL ns ent f ks M := by
        intro ks
        induction ks with
        | nil => intro M hM _ _; exact ⟨hM, fun _ hz => hz⟩
        | cons k ks ih =>
          intro M hM hx hks
          rw [dfsL_cons]
          have h1 := ord_dfs ns ent r f k x M hM hx (hks k (by simp))
          have h2 := ih (dfs ns ent f k M) h1.1 (h1.2 x hx) (fun k' hk' => hks k' (by simp [hk']))
          exact ⟨h2.1, fun z hz => h2.2 z (h1.2 z hz)⟩
      have h2 := key (kidsOf ns x) (L ++ [x]) (h.snoc hy hk) (by simp) (fun _ hk' => hk')
      exact ⟨h2.1, fun z hz => h2.2 z (List.mem_append_left _ hz)⟩

/-- the walk from a node in an empty list -/
theorem ord_start (ns : List Nd) (ent : Int → Bool) (r : Int) (f : Nat) (he : ent r = true) : Ord ns r (dfs ns ent (f + 1) r []) := by
  rw [dfs_go he (by simp), List.nil_append]
  have key : ∀ (ks M : List Int), Ord ns r M → r ∈ M → (∀ k ∈ ks, k ∈ kidsOf ns r) → Ord ns r (dfsL ns ent f ks M) := by
    intro ks
    induction ks with
    | nil => intro M hM _ _; exact hM
    | cons k ks ih =>
      intro M hM hx hks
      rw [dfsL_cons]
      have h1 := ord_dfs ns ent r f k r M hM hx (hks k (by simp))
      exact ih (dfs ns ent f k M) h1.1 (h1.2 r hx) (fun k' hk' => hks k' (by simp [hk']))
  refine key (kidsOf ns r) [r] ⟨fun x hx => by simp at hx; exact hx.symm, fun i x hi hx => ?_⟩ (by simp) (fun _ h => h)
  have := (List.getElem?_eq_some_iff.1 hx).1
  simp at this
  omega

/-- all that the law says of the nodes that are reached -/
structure Reached (ns : List Nd) (r : Int) (L : List Int) : Prop where
  met : Met ns L
  closed : ∀ y ∈ L, ∀ k ∈ kidsOf ns y, k ∈ L
  ord : Ord ns r L

theorem reachOf_reached {ns : List Nd} {r : Int} (h : ValidG ns r) : Reached ns r (reachOf ns r) := by
  unfold reachOf
  rw [if_pos h]
  have w := walked ns anyB (kidsIn_of_valid h) (ns.length + 1) r [] (Met.nil ns) h.root0 h.root (by simp)
  exact ⟨w.met, fun y hy k hk => w.closed y hy (by simp) k hk rfl, ord_start ns anyB r ns.length rfl⟩

theorem reachOf_none {ns : List Nd} {r : Int} (h : ¬ ValidG ns r) : reachOf ns r = [] := by
  unfold reachOf
  rw [if_neg h]

theorem reachOf_some {ns : List Nd} {r : Int} (h : ValidG ns r) : 0 < (reachOf ns r).length := by
  unfold reachOf
  rw [if_pos h]
  have w := walked ns anyB (kidsIn_of_valid h) (ns.length + 1) r [] (Met.nil ns) h.root0 h.root (by simp)
  exact List.length_pos_of_mem (w.starts r (by simp) rfl)

end Go.Proofs.Ytigelbilfddhgaa

namespace Go.Proofs.Ytigelbilfddhgaa
open Go.RowKit
set_option linter.unusedVariables false

theorem reach_any (ns : List Nd) (hk : KidsIn ns) (h6 : ∀ n ∈ ns, n.kids.length ≤ 6) (h12 : ns.length ≤ 12) (A : Option Addr) (c : Nat) (r : Int) : ∀ (f i : Nat) (L : List Int) (A2 : Option Addr) (c2 : Nat) (w : World), i < ns.length → Met ns L → NdsAt w w.heap.size A ns → IntsAt w w.heap.size A2 L → (A2 = none → c2 = 0) → ns.length < f + L.length →
    Calls Try.prog 35 #[.agg #[.slice A ns.length c, .int .i64 r], .int .i64 (i : Int), .slice A2 L.length c2] w (GivesReachI w A2 c2 L (dfs ns anyB f i L))
  | 0, _, _, _, _, _, _, hL, _, _, _, hf => by have := hL.len; omega
  | f + 1, i, L, A2, c2, w, hi, hL, hr, hI, hn, hf => reach1_any ns hk h6 h12 A c r f (fun i L A2 c2 w h1 h2 h3 h4 h5 h6' => reach_any ns hk h6 h12 A c r f i L A2 c2 w h1 h2 h3 h4 h5 h6') i L A2 c2 w hi hL hr hI hn hf

end Go.Proofs.Ytigelbilfddhgaa

namespace Go.Proofs.Ytigelbilfddhgaa
open Go.RowKit Go.Maps
set_option linter.unusedVariables false

theorem cod_grows {ns : List Nd} : ∀ (f : Nat) (x : Int) (p : CM), ∃ l, (cod ns f x p).1 = p.1 ++ l
  | 0, _, _ => ⟨[], by simp [cod]⟩
  | f + 1, x, p => by
    by_cases hs : x ∈ p.2
    · rw [cod_seen hs]
      exact ⟨_, rfl⟩
    · rw [cod_new hs]
      have key : ∀ (xs : List Int) (q : CM), ∃ l, (codL ns f xs q).1 = q.1 ++ l := by
        intro xs
        induction xs with
        | nil => intro q; exact ⟨[], by simp [codL]⟩
        | cons a xs ih =>
          intro q
          obtain ⟨l1, h1⟩ := cod_grows f a q
          obtain ⟨l2, h2⟩ := ih (cod ns f a q)
          refine ⟨l1 ++ l2, ?_⟩
          show (codL ns f xs (cod ns f a q)).1 = _
          rw [h2, h1, List.append_assoc]
      obtain ⟨l, h⟩ := key (kidsOf ns x) (codPut ns x p)
      refine ⟨[kindOf ns x, valueOf ns x, ((kidsOf ns x).length : Int)] ++ l, ?_⟩
      rw [h]
      unfold codPut
      simp

end Go.Proofs.Ytigelbilfddhgaa
