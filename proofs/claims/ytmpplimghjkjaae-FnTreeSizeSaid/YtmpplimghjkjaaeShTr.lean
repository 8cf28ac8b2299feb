/-
  Trees share nothing, cycles are shared, and trees are at least as great as graphs: mathematics only.
-/
import Derived.Test.YtmpplimghjkjaaeTree
import Derived.Test.YtmpplimghjkjaaeOrd
import Derived.Test.YtmpplimghjkjaaeShDef
namespace Go.Proofs.Ytmpplimghjkjaae
open Go.RowKit
set_option linter.unusedVariables false

/-- the number of kids of all of these -/
def kidSum (ns : List Nd) (L : List Int) : Nat := (L.map fun y => (kidsOf ns y).length).sum

theorem kidSum_append (ns : List Nd) (L M : List Int) : kidSum ns (L ++ M) = kidSum ns L + kidSum ns M := by
  simp [kidSum]

theorem flat_len (ns : List Nd) (L : List Int) : (L.flatMap (kidsOf ns)).length = kidSum ns L := by
  induction L with
  | nil => rfl
  | cons a L ih => simp [kidSum, List.flatMap_cons] at ih ⊢; try omega

/-- a walk calls no more often than the tree has nodes -/
theorem dfs_calls (ns : List Nd) : ∀ (f : Nat) (x : Int) (L : List Int), Hgt ns f x → 1 + kidSum ns (dfs ns anyB f x L) ≤ kidSum ns L + unf ns f x
  | 0, _, _, h => h.elim
  | f + 1, x, L, h => by
    by_cases hs : x ∈ L
    · rw [dfs_stop (.inr hs)]
      have := unf_pos ns (d := f + 1) (by omega) x
      omega
    · rw [dfs_go rfl hs]
      have key : ∀ (xs M : List Int), (∀ k ∈ xs, Hgt ns f k) → xs.length + kidSum ns (dfsL ns anyB f xs M) ≤ kidSum ns M + (xs.map (unf ns f)).sum := by
        intro xs
        induction xs with
        | nil => intro M _; simp [dfsL_nil]
        | cons a xs ih =>
          intro M hx
          rw [dfsL_cons]
          have h1 := dfs_calls ns f a M (hx a (by simp))
          have h2 := ih (dfs ns anyB f a M) (fun k hk => hx k (by simp [hk]))
          rw [List.length_cons, List.map_cons, List.sum_cons]
          omega
      have h1 := key (kidsOf ns x) (L ++ [x]) h
      rw [kidSum_append] at h1
      rw [unf_succ]
      unfold unfTo
      have : kidSum ns [x] = (kidsOf ns x).length := by simp [kidSum]
      omega

theorem hgt_len {ns : List Nd} {r : Int} (hv : ValidG ns r) (h : cyclesOf ns r = []) : Hgt ns (ns.length + 1) r := by
  have hlen : (List.range ns.length).countP (fun (i : Nat) => tf (Rch ns r (i : Int))) ≤ ns.length := by
    refine Nat.le_trans (List.countP_le_length) ?_
    rw [List.length_range]
    exact Nat.le_refl _
  exact hgt_of (kidsIn_of_valid hv) ns.length r hv.root0 hv.root hlen (cycles_none hv h)

/-- the uses of nodes, one after the other: the root, and all kids of nodes that are reached -/
noncomputable def useList (ns : List Nd) (r : Int) : List Int := r :: (reachOf ns r).flatMap (kidsOf ns)

theorem useList_len (ns : List Nd) (r : Int) : (useList ns r).length = 1 + kidSum ns (reachOf ns r) := by
  unfold useList
  rw [List.length_cons, flat_len]
  omega

theorem uses_tree {ns : List Nd} {r : Int} (hv : ValidG ns r) (h : cyclesOf ns r = []) : (useList ns r).length ≤ unf ns 5000 r := by
  have hh := hgt_len hv h
  have h1 := dfs_calls ns (ns.length + 1) r [] hh
  have h2 := unf_still (ns.length + 1) 5000 r hh (by have := hv.few; omega)
  rw [useList_len, h2]
  unfold reachOf
  rw [if_pos hv]
  simpa [kidSum] using h1

theorem reach_used {ns : List Nd} {r : Int} (hv : ValidG ns r) : ∀ x ∈ reachOf ns r, x ∈ useList ns r := by
  intro x hx
  have hR := reachOf_reached hv
  obtain ⟨i, hi, rfl⟩ := List.getElem_of_mem hx
  have hat := List.getElem?_eq_getElem hi
  unfold useList
  by_cases h0 : 0 < i
  · obtain ⟨k, y, _, hy, hk⟩ := hR.ord.later i _ h0 hat
    exact List.mem_cons_of_mem _ (List.mem_flatMap.2 ⟨y, List.mem_of_getElem? hy, hk⟩)
  · obtain rfl : i = 0 := by omega
    rw [hR.ord.first _ hat]
    simp

theorem used_reach {ns : List Nd} {r : Int} (hv : ValidG ns r) : ∀ x ∈ useList ns r, x ∈ reachOf ns r := by
  intro x hx
  have hR := reachOf_reached hv
  rcases List.mem_cons.1 hx with h | h
  · rw [h, reach_iff hv]
    exact .refl _
  · obtain ⟨y, hy, hk⟩ := List.mem_flatMap.1 h
    exact hR.closed y hy x hk

theorem nodup_le_len : ∀ (R D : List Int), R.Nodup → (∀ x ∈ R, x ∈ D) → R.length ≤ D.length
  | [], _, _, _ => by simp
  | a :: R, D, hn, hs => by
    rw [List.nodup_cons] at hn
    have h1 := nodup_le_len R (D.erase a) hn.2 (fun x hx => (List.mem_erase_of_ne (by intro e; subst e; exact hn.1 hx)).2 (hs x (by simp [hx])))
    have h2 := List.length_erase_of_mem (hs a (by simp))
    have h3 : 0 < D.length := List.length_pos_of_mem (hs a (by simp))
    rw [List.length_cons]
    omega

theorem nodup_lt_len {R D : List Int} (hn : R.Nodup) (hs : ∀ x ∈ R, x ∈ D) {x : Int} (hc : 2 ≤ D.count x) : R.length < D.length := by
  have hx : x ∈ D := List.count_pos_iff.1 (by omega)
  have h1 := nodup_le_len R (D.erase x) hn (fun y hy => by
    by_cases e : y = x
    · subst e
      have : 0 < (D.erase y).count y := by rw [List.count_erase_self]; omega
      exact List.count_pos_iff.1 this
    · exact (List.mem_erase_of_ne e).2 (hs y hy))
  have h2 := List.length_erase_of_mem hx
  have h3 : 0 < D.length := List.length_pos_of_mem hx
  omega

theorem reach_le_tree {ns : List Nd} {r : Int} (hv : ValidG ns r) : (reachOf ns r).length ≤ treeN ns r := by
  have h12 := @reachOf_few ns r
  unfold treeN
  by_cases h : cyclesOf ns r = []
  · have h1 := uses_tree hv h
    have h2 := nodup_le_len _ _ (reachOf_reached hv).met.nodup (reach_used hv)
    omega
  · have := unf_cyclic hv h 5000
    omega

theorem bumps_count (xs : List Int) : ∀ (us : List Int) (i : Nat), i < us.length → (∀ x ∈ xs, 0 ≤ x) → (bumps us xs).getD i 0 = us.getD i 0 + (xs.count (i : Int) : Int) := by
  induction xs with
  | nil => intro us i _ _; simp [bumps_nil]
  | cons a xs ih =>
    intro us i hi hx
    show (bumps (bump us a) xs).getD i 0 = _
    rw [ih (bump us a) i (by rw [bump_len]; exact hi) (fun x h => hx x (by simp [h]))]
    obtain ⟨k, rfl⟩ := Int.eq_ofNat_of_zero_le (hx a (by simp))
    unfold bump
    rw [Int.toNat_natCast]
    by_cases e : k = i
    · subst e
      simp [List.getD, hi]
      omega
    · have e2 : ((k : Int) == (i : Int)) = false := beq_eq_false_iff_ne.2 (by omega)
      rw [List.count_cons, e2]
      simp [List.getD, e]

theorem usesOf_count {ns : List Nd} {r : Int} (hv : ValidG ns r) {i : Nat} (hi : i < ns.length) : (usesOf ns r (reachOf ns r)).getD i 0 = ((useList ns r).count (i : Int) : Int) := by
  have hR := reachOf_reached hv
  have h1 := bumps_count (useList ns r) (List.replicate ns.length 0) i (by simpa using hi) (fun x hx => (hR.met.range x (used_reach hv x hx)).1)
  unfold usesOf
  have e : bumps (bump (List.replicate ns.length 0) r) ((reachOf ns r).flatMap (kidsOf ns)) = bumps (List.replicate ns.length 0) (useList ns r) := rfl
  rw [e, h1]
  simp [List.getD, hi]

theorem mem_shared {ns : List Nd} {r x : Int} (hv : ValidG ns r) : x ∈ sharedOf ns r ↔ x ∈ reachOf ns r ∧ 2 ≤ (useList ns r).count x ∧ kindOf ns x ≠ 0 := by
  unfold sharedOf
  rw [if_pos hv]
  unfold sharedTo
  constructor
  · intro h
    obtain ⟨i, hi, rfl⟩ := List.mem_map.1 h
    obtain ⟨h1, h2⟩ := List.mem_filter.1 hi
    have hi2 := List.mem_range.1 h1
    unfold isShared at h2
    rw [usesOf_count hv hi2, Bool.and_eq_true, decide_eq_true_eq] at h2
    have hc : 2 ≤ (useList ns r).count (i : Int) := by omega
    exact ⟨used_reach hv _ (List.count_pos_iff.1 (by omega)), hc, by simpa using h2.2⟩
  · rintro ⟨h1, h2, h3⟩
    obtain ⟨h4, h5⟩ := (reachOf_reached hv).met.range x h1
    obtain ⟨i, rfl⟩ := Int.eq_ofNat_of_zero_le h4
    have hi2 : i < ns.length := by omega
    refine List.mem_map.2 ⟨i, List.mem_filter.2 ⟨List.mem_range.2 hi2, ?_⟩, rfl⟩
    unfold isShared
    rw [usesOf_count hv hi2, Bool.and_eq_true, decide_eq_true_eq]
    exact ⟨by omega, by simpa using h3⟩

/-- trees share nothing -/
theorem tree_shares {ns : List Nd} {r : Int} (hv : ValidG ns r) (h : treeN ns r = (reachOf ns r).length) : sharedOf ns r = [] := by
  have h12 := @reachOf_few ns r
  have hc : cyclesOf ns r = [] := by
    by_cases hc : cyclesOf ns r = []
    · exact hc
    · have := unf_cyclic hv hc 5000
      unfold treeN at h
      omega
  have h1 := uses_tree hv hc
  unfold treeN at h
  cases hS : sharedOf ns r with
  | nil => rfl
  | cons x xs =>
    exfalso
    have hx : x ∈ sharedOf ns r := by rw [hS]; simp
    obtain ⟨_, h2, _⟩ := (mem_shared hv).1 hx
    have := nodup_lt_len (reachOf_reached hv).met.nodup (reach_used hv) h2
    omega

theorem shared_asc (ns : List Nd) (r : Int) : (sharedOf ns r).Pairwise (· < ·) := by
  unfold sharedOf
  split
  · exact pickTo_asc (isShared ns (usesOf ns r (reachOf ns r))) ns.length
  · simp

/-- the nodes on cycles -/
theorem mem_cycles {ns : List Nd} {r x : Int} (hv : ValidG ns r) : x ∈ cyclesOf ns r ↔ Rch ns r x ∧ ∃ k ∈ kidsOf ns x, Rch ns k x := by
  unfold cyclesOf
  rw [if_pos hv, mem_pickTo]
  constructor
  · rintro ⟨i, hi, hp, rfl⟩
    unfold isCyc at hp
    rw [Bool.and_eq_true] at hp
    exact ⟨(reach_iff hv _).1 (tf_iff.1 hp.1), (onCyc_iff (kidsIn_of_valid hv) _).1 (tf_iff.1 hp.2)⟩
  · rintro ⟨h1, h2⟩
    have hm := (reach_iff hv x).2 h1
    obtain ⟨h4, h5⟩ := (reachOf_met (ns := ns) (r := r)).range x hm
    obtain ⟨i, rfl⟩ := Int.eq_ofNat_of_zero_le h4
    refine ⟨i, by omega, ?_, rfl⟩
    unfold isCyc
    rw [tf_true hm, tf_true ((onCyc_iff (kidsIn_of_valid hv) _).2 h2)]
    rfl

theorem kind_kids {ns : List Nd} {r x k : Int} (hv : ValidG ns r) (hk : k ∈ kidsOf ns x) : kindOf ns x ≠ 0 ∧ kindOf ns x ≠ 1 := by
  unfold kidsOf at hk
  cases hn : ns[x.toNat]? with
  | none => rw [hn] at hk; simp at hk
  | some n =>
    rw [hn] at hk
    have hk' : k ∈ n.kids := by simpa using hk
    have hpos := List.length_pos_of_mem hk'
    have hok := (hv.nodes n (List.mem_of_getElem? hn)).kind
    unfold KindOk at hok
    unfold kindOf
    rw [hn]
    simp only [Option.map_some, Option.getD_some]
    omega

/-- a node lies on a cycle -/
def OnC (ns : List Nd) (x : Int) : Prop := ∃ k ∈ kidsOf ns x, Rch ns k x

theorem rch_pred {ns : List Nd} {k y : Int} (h : Rch ns k y) : ∀ x, k ∈ kidsOf ns x → ∃ p, Rch ns x p ∧ y ∈ kidsOf ns p := by
  induction h with
  | refl z => intro x hk; exact ⟨x, .refl _, hk⟩
  | kid z j y hj _ ih =>
    intro x hk
    obtain ⟨p, h1, h2⟩ := ih z hj
    exact ⟨p, .kid x z p hk h1, h2⟩

theorem rch_enter {ns : List Nd} {a c : Int} (h : Rch ns a c) : OnC ns c → ¬ OnC ns a → ∃ u v, Rch ns a u ∧ ¬ OnC ns u ∧ v ∈ kidsOf ns u ∧ OnC ns v := by
  induction h with
  | refl z => intro h1 h2; exact absurd h1 h2
  | kid z j y hj _ ih =>
    intro h1 h2
    by_cases hc : OnC ns j
    · exact ⟨z, j, .refl _, h2, hj, hc⟩
    · obtain ⟨u, v, g1, g2⟩ := ih h1 hc
      exact ⟨u, v, .kid z j u hj g1, g2⟩

theorem count_flat_one {ns : List Nd} {R : List Int} {u v : Int} (hu : u ∈ R) (hv : v ∈ kidsOf ns u) : 1 ≤ (R.flatMap (kidsOf ns)).count v :=
  List.count_pos_iff.2 (List.mem_flatMap.2 ⟨u, hu, hv⟩)

theorem count_flat_two {ns : List Nd} {u p v : Int} (hup : u ≠ p) (h1 : v ∈ kidsOf ns u) (h2 : v ∈ kidsOf ns p) : ∀ R : List Int, u ∈ R → p ∈ R → 2 ≤ (R.flatMap (kidsOf ns)).count v
  | [], h, _ => by cases h
  | a :: R, hu, hp => by
    rw [List.flatMap_cons, List.count_append]
    rcases List.mem_cons.1 hu with rfl | hu'
    · rcases List.mem_cons.1 hp with e | hp'
      · exact absurd e.symm hup
      · have g1 : 1 ≤ (kidsOf ns u).count v := List.count_pos_iff.2 h1
        have g2 := count_flat_one (R := R) hp' h2
        omega
    · rcases List.mem_cons.1 hp with rfl | hp'
      · have g1 : 1 ≤ (kidsOf ns p).count v := List.count_pos_iff.2 h2
        have g2 := count_flat_one (R := R) hu' h1
        omega
      · have := count_flat_two hup h1 h2 R hu' hp'
        omega

/-- cycles are shared -/
theorem cycle_shared {ns : List Nd} {r : Int} (hv : ValidG ns r) (h : cyclesOf ns r ≠ []) : ∃ x ∈ cyclesOf ns r, x ∈ sharedOf ns r := by
  obtain ⟨c, hr, hc⟩ := cycles_some hv h
  have fin : ∀ x, Rch ns r x → OnC ns x → 2 ≤ (useList ns r).count x → ∃ x ∈ cyclesOf ns r, x ∈ sharedOf ns r := fun x h1 h2 h3 => by
    obtain ⟨k, hk, _⟩ := id h2
    exact ⟨x, (mem_cycles hv).2 ⟨h1, h2⟩, (mem_shared hv).2 ⟨(reach_iff hv x).2 h1, h3, (kind_kids hv hk).1⟩⟩
  by_cases h0 : OnC ns r
  · obtain ⟨k, hk, hkr⟩ := id h0
    obtain ⟨p, g1, g2⟩ := rch_pred hkr r hk
    refine fin r (.refl _) h0 ?_
    have := count_flat_one (R := reachOf ns r) ((reach_iff hv p).2 g1) g2
    unfold useList
    rw [List.count_cons_self]
    omega
  · obtain ⟨u, v, g1, g2, g3, g4⟩ := rch_enter hr hc h0
    obtain ⟨k, hk, hkv⟩ := id g4
    obtain ⟨p, p1, p2⟩ := rch_pred hkv v hk
    have hrv : Rch ns r v := g1.trans (.kid u v v g3 (.refl _))
    have hne : u ≠ p := by
      intro e
      subst e
      exact g2 ⟨v, g3, p1⟩
    refine fin v hrv g4 ?_
    have := count_flat_two hne g3 p2 (reachOf ns r) ((reach_iff hv u).2 g1) ((reach_iff hv p).2 (hrv.trans p1))
    unfold useList
    rw [List.count_cons]
    omega

theorem rch_of_t {ns : List Nd} {c a : Int} (h : TReach ns c a) : Rch ns c a := by
  induction h with
  | kid x hx => exact .kid c x x hx (.refl _)
  | step y x _ _ hx ih => exact ih.trans (.kid y x x hx (.refl _))

/-- not all nodes on cycles are tuples -/
theorem cycle_changes {ns : List Nd} {r : Int} (hv : ValidG ns r) (h : cyclesOf ns r ≠ []) : ∃ x ∈ cyclesOf ns r, kindOf ns x = 3 ∨ kindOf ns x = 4 ∨ kindOf ns x = 5 := by
  obtain ⟨c, hr, k0, hk0, hc⟩ := cycles_some hv h
  by_cases hall : ∃ x ∈ cyclesOf ns r, kindOf ns x = 3 ∨ kindOf ns x = 4 ∨ kindOf ns x = 5
  · exact hall
  exfalso
  have htup : ∀ x, Rch ns r x → OnC ns x → kindOf ns x = 2 := by
    intro x h1 h2
    have hno : ¬ (kindOf ns x = 3 ∨ kindOf ns x = 4 ∨ kindOf ns x = 5) := fun h3 => hall ⟨x, (mem_cycles hv).2 ⟨h1, h2⟩, h3⟩
    obtain ⟨k, hk, _⟩ := h2
    have h01 := kind_kids hv hk
    unfold kidsOf at hk
    cases hn : ns[x.toNat]? with
    | none => rw [hn] at hk; simp at hk
    | some n =>
      have hok := (hv.nodes n (List.mem_of_getElem? hn)).kind
      unfold KindOk at hok
      unfold kindOf at hno h01 ⊢
      rw [hn] at hno h01 ⊢
      simp only [Option.map_some, Option.getD_some] at hno h01 ⊢
      omega
  have walk : ∀ a b, Rch ns a b → b = c → TReach ns c a → TReach ns c c := by
    intro a b hab
    induction hab with
    | refl z => intro e h2; subst e; exact h2
    | kid z j y hj hjy ih =>
      intro e h2
      subst e
      have hcz := rch_of_t h2
      exact ih rfl (.step z j h2 (htup z (hr.trans hcz) ⟨j, hj, hjy.trans hcz⟩) hj)
  have ht := walk k0 c hc rfl (.kid k0 hk0)
  have hrange := (reachOf_met (ns := ns) (r := r)).range c ((reach_iff hv c).2 hr)
  obtain ⟨i, rfl⟩ := Int.eq_ofNat_of_zero_le hrange.1
  have hi : i < ns.length := by omega
  have hk2 := htup (i : Int) hr ⟨k0, hk0, hc⟩
  rw [kindOf_at (List.getElem?_eq_getElem hi)] at hk2
  exact hv.tuples i _ (List.getElem?_eq_getElem hi) hk2 ht

theorem cycle_tree {ns : List Nd} {r : Int} (hv : ValidG ns r) (h : cyclesOf ns r ≠ []) : treeN ns r = 5000 := by
  have := unf_cyclic hv h 5000
  unfold treeN
  omega

theorem min_sum (f : Int → Nat) : ∀ (xs : List Int) (a : Nat), min (a + (xs.map f).sum) 5000 = min (a + (xs.map fun x => min (f x) 5000).sum) 5000
  | [], a => by simp
  | x :: xs, a => by
    have h := min_sum f xs (a + f x)
    rw [List.map_cons, List.sum_cons, List.map_cons, List.sum_cons]
    omega

/-- a tree is its root and the trees of its kids -/
theorem tree_sum {ns : List Nd} {r : Int} (hv : ValidG ns r) : treeN ns r = min (1 + ((kidsOf ns r).map (treeN ns)).sum) 5000 := by
  by_cases h : cyclesOf ns r = []
  · have h1 := unf_kids (hgt_acyclic hv h) (by omega)
    show min (unf ns 5000 r) 5000 = _
    rw [h1]
    exact min_sum (unf ns 5000) (kidsOf ns r) 1
  · rw [cycle_tree hv h]
    obtain ⟨c, hr, k0, hk0, hc⟩ := cycles_some hv h
    have hS : ∀ y, Rch ns y c → ∃ k ∈ kidsOf ns y, Rch ns k c := by
      intro y hy
      cases hy with
      | refl => exact ⟨k0, hk0, hc⟩
      | kid _ k _ hk h => exact ⟨k, hk, h⟩
    obtain ⟨k, hk, hkc⟩ := hS r hr
    have h1 := unf_deep (S := fun y => Rch ns y c) hS 5000 k hkc
    have h2 := mem_le_sum (f := treeN ns) hk
    have h3 : treeN ns k = 5000 := by unfold treeN; omega
    omega

end Go.Proofs.Ytmpplimghjkjaae
