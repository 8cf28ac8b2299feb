/-
  Lemmas, several texts in one: Ord, EqualI.
-/
import Derived.Test.YtdgmohebnkcohabPjAj
import Derived.Deep.QuietTactic
import Derived.BigQuiet
namespace Go.Proofs.Ytdgmohebnkcohab

/-- each but the first is a kid of one before it, and the first is r -/
structure Ord (ns : List Nd) (r : Int) (L : List Int) : Prop where
  first : ∀ x, L[0]? = some x → x = r
  later : ∀ i x, 0 < i → L[i]? = some x → ∃ k y, k < i ∧ L[k]? = some y ∧ x ∈ kidsOf ns y

theorem Ord.snoc {ns : List Nd} {r x y : Int} {L : List Int} (h : Ord ns r L) (hy : y ∈ L) (hk : x ∈ kidsOf ns y) : Ord ns r (L ++ [x]) := by
  have hl : 0 < L.length := List.length_pos_of_mem hy
  refine ⟨fun z hz => h.first z (by rw [List.getElem?_append_left hl] at hz; exact hz), fun i z hi hz => ?_⟩
  by_cases e : i < L.length
  · rw [List.getElem?_append_left e] at hz
    obtain ⟨k, v, h1, h2, h3⟩ := h.later i z hi hz
    exact ⟨k, v, h1, by rw [List.getElem?_append_left (by omega)]; exact h2, h3⟩
  · have hie : i = L.length := by
      have := (List.getElem?_eq_some_iff.1 hz).1
      simp at this
      omega
    subst hie
    rw [List.getElem?_concat_length] at hz
    injection hz with hz
    subst hz
    obtain ⟨k, hk2, rfl⟩ := List.getElem_of_mem hy
    exact ⟨k, L[k], hk2, by rw [List.getElem?_append_left hk2]; exact List.getElem?_eq_getElem hk2, hk⟩

theorem ord_dfs (ns : List Nd) (ent : Int → Bool) (r : Int) : ∀ (f : Nat) (x y : Int) (L : List Int), Ord ns r L → y ∈ L → x ∈ kidsOf ns y → Ord ns r (dfs ns ent f x L) ∧ ∀ z ∈ L, z ∈ dfs ns ent f x L
  | 0, x, y, L, h, _, _ => ⟨h, fun _ hz => hz⟩
  | f + 1, x, y, L, h, hy, hk => by
    by_cases hs : ent x = false ∨ x ∈ L
    · rw [dfs_stop hs]
      exact ⟨h, fun _ hz => hz⟩
    · have he : ent x = true := by
        cases hx : ent x
        · exact absurd (.inl hx) hs
        · rfl
      rw [dfs_go he (fun hm => hs (.inr hm))]
      have key : ∀ (ks M : List Int), Ord ns r M → x ∈ M → (∀ k ∈ ks, k ∈ kidsOf ns x) → Ord ns r (dfsL ns ent f ks M) ∧ ∀ z ∈ M, z ∈ dfsL ns ent f ks M := by
        intro ks
        induction ks with
        | nil => intro M hM _ _; exact ⟨hM, fun _ hz => hz⟩
        | cons k ks ih =>
          intro M hM hx hks
          rw [dfsL_cons]
          have h1 := ord_dfs ns ent r f k x M hM hx (hks k (by simp))
          have h2 := ih (dfs ns ent f k M) h1.1 (h1.2 x hx) (fun k' hk' => hks k' (by simp [hk']))
          exact ⟨h2.1, fun z hz => h2.2 z (h1.2 z hz)⟩
      have h2 := key (kidsOf ns x) (L ++ [x]) (h.snoc hy hk) (by simp) (fun _ hk' => hk')
      exact ⟨h2.1, fun z hz => h2.2 z (List.mem_append_left _ hz)⟩

/-- the walk from a node in an empty list -/
theorem ord_start (ns : List Nd) (ent : Int → Bool) (r : Int) (f : Nat) (he : ent r = true) : Ord ns r (dfs ns ent (f + 1) r []) := by
  rw [dfs_go he (by simp), List.nil_append]
  have key : ∀ (ks M : List Int), Ord ns r M → r ∈ M → (∀ k ∈ ks, k ∈ kidsOf ns r) → Ord ns r (dfsL ns ent f ks M) := by
    intro ks
    induction ks with
    | nil => intro M hM _ _; exact hM
    | cons k ks ih =>
      intro M hM hx hks
      rw [dfsL_cons]
      have h1 := ord_dfs ns ent r f k r M hM hx (hks k (by simp))
      exact ih (dfs ns ent f k M) h1.1 (h1.2 r hx) (fun k' hk' => hks k' (by simp [hk']))
  refine key (kidsOf ns r) [r] ⟨fun x hx => by simp at hx; exact hx.symm, fun i x hi hx => ?_⟩ (by simp) (fun _ h => h)
  have := (List.getElem?_eq_some_iff.1 hx).1
  simp at this
  omega

/-- all that the law says of the nodes that are reached -/
structure Reached (ns : List Nd) (r : Int) (L : List Int) : Prop where
  met : Met ns L
  closed : ∀ y ∈ L, ∀ k ∈ kidsOf ns y, k ∈ L
  ord : Ord ns r L

theorem reachOf_reached {ns : List Nd} {r : Int} (h : ValidG ns r) : Reached ns r (reachOf ns r) := by
  unfold reachOf
  rw [if_pos h]
  have w := walked ns anyB (kidsIn_of_valid h) (ns.length + 1) r [] (Met.nil ns) h.root0 h.root (by simp)
  exact ⟨w.met, fun y hy k hk => w.closed y hy (by simp) k hk rfl, ord_start ns anyB r ns.length rfl⟩

theorem reachOf_none {ns : List Nd} {r : Int} (h : ¬ ValidG ns r) : reachOf ns r = [] := by
  unfold reachOf
  rw [if_neg h]

theorem reachOf_some {ns : List Nd} {r : Int} (h : ValidG ns r) : 0 < (reachOf ns r).length := by
  unfold reachOf
  rw [if_pos h]
  have w := walked ns anyB (kidsIn_of_valid h) (ns.length + 1) r [] (Met.nil ns) h.root0 h.root (by simp)
  exact List.length_pos_of_mem (w.starts r (by simp) rfl)

end Go.Proofs.Ytdgmohebnkcohab

namespace Go.Proofs.Ytdgmohebnkcohab
open Go.RowKit

set_option maxHeartbeats 1000000 in
theorem equalI_any (A A' : Option Addr) (xs ys : List Int) (c c' : Nat) (w : World) (h : IntsAt w w.heap.size A xs) (h' : IntsAt w w.heap.size A' ys) :
    Calls Try.prog 69 #[.slice A xs.length c, .slice A' ys.length c'] w fun e w' => e = .returned (.bool (decide (xs = ys))) ∧ Below w.heap.size w w' := by
  have hl := h.len
  by_cases hne : xs.length = ys.length
  · have hb0 : ((xs.length : Int) != (ys.length : Int)) = false := by simp [hne]
    go_enter Try.func69, Try.ntmps69
    go_wp2_with fail
    go_loopw [13] (fun i wr => ∃ k : Nat, k ≤ xs.length ∧ i = .int .i64 k ∧ Below w.heap.size w wr ∧ ∀ j, j < k → xs[j]? = ys[j]?) (fun i _ => xs.length - (intOf i).toNat)
    case atStart => exact ⟨0, Nat.zero_le _, rfl, Below.refl _ _, fun j hj => absurd hj (by omega)⟩
    case round =>
      obtain ⟨k, hk, rfl, hb, he0⟩ := hrel
      have he := hide he0
      clear he0
      by_cases hlt : k < xs.length
      · obtain ⟨b, off, x, rfl, hbl, hx, _, hcx⟩ := (h.below hb).at_ hlt
        obtain ⟨b', off', y, rfl, hbl', hy, _, hcy⟩ := (h'.below hb).at_ (k := k) (by omega)
        have Hx := hide hx
        have Hy := hide hy
        clear hx hy
        have hk1 : (0 : Int) ≤ (k : Int) := by omega
        have hk2 : (k : Int) < (xs.length : Int) := by omega
        have hk3 : (k : Int) < (ys.length : Int) := by omega
        by_cases hxy : x = y
        · subst hxy
          go_wp2_with fail
          go_quiet (fail)
          go_wp2
          go_roundw
          case rel => exact ⟨k + 1, by omega, by go_num, below_drewN hb _, fun j hj => by
            by_cases e : j = k
            · subst e; rw [Hx.out, Hy.out]
            · exact he.out j (by omega)⟩
          case measure => simp [intOf]; omega
        · have hn1 : (x != y) = true := by simpa using hxy
          have hF : decide (xs = ys) = false := by
            simp only [decide_eq_false_iff_not]
            intro e
            subst e
            have := Hx.out.symm.trans Hy.out
            injection this with this
            exact hxy this
          have HF := hide hF
          clear hF
          go_wp2_with fail
          go_quiet (fail)
          go_wp2
          go_ret
          exact ⟨ret_bool HF.out.symm, below_drewN hb _⟩
      · obtain rfl : k = xs.length := by omega
        have hF : decide (xs = ys) = true := by
          simp only [decide_eq_true_eq]
          exact eq_of_prefix hne rfl he.out
        have HF := hide hF
        clear hF hlt
        go_wp2
        go_ret
        exact ⟨ret_bool HF.out.symm, hb⟩
  · have hb1 : ((xs.length : Int) != (ys.length : Int)) = true := by simp; omega
    have hF : decide (xs = ys) = false := by
      simp only [decide_eq_false_iff_not]
      intro e
      exact hne (by rw [e])
    have HF := hide hF
    clear hF
    go_enter Try.func69, Try.ntmps69
    go_wp2
    go_ret
    exact ⟨ret_bool HF.out.symm, Below.refl _ _⟩

end Go.Proofs.Ytdgmohebnkcohab
