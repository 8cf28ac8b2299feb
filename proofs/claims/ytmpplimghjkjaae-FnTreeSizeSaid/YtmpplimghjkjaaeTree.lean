/-
  How great a graph is when it is unfolded to a tree: mathematics only.
-/
import Derived.Test.YtmpplimghjkjaaeCycM
namespace Go.Proofs.Ytmpplimghjkjaae
open Go.RowKit
set_option linter.unusedVariables false

/-- ways: y is come to from x -/
inductive Rch (ns : List Nd) : Int → Int → Prop
  | refl (x : Int) : Rch ns x x
  | kid (x k y : Int) : k ∈ kidsOf ns x → Rch ns k y → Rch ns x y

theorem Rch.trans {ns : List Nd} {a b c : Int} (h : Rch ns a b) (k : Rch ns b c) : Rch ns a c := by
  induction h with
  | refl x => exact k
  | kid x j y hj _ ih => exact .kid x j c hj (ih k)

theorem dfs_rch (ns : List Nd) : ∀ (f : Nat) (x : Int) (L : List Int), ∀ y ∈ dfs ns anyB f x L, y ∈ L ∨ Rch ns x y
  | 0, _, _, _, hy => .inl hy
  | f + 1, x, L, y, hy => by
    by_cases hs : x ∈ L
    · rw [dfs_stop (.inr hs)] at hy; exact .inl hy
    · rw [dfs_go rfl hs] at hy
      have hl : ∀ (xs M : List Int), ∀ y ∈ dfsL ns anyB f xs M, y ∈ M ∨ ∃ k ∈ xs, Rch ns k y := by
        intro xs
        induction xs with
        | nil => intro M y hy; exact .inl hy
        | cons a xs ih =>
          intro M y hy
          rw [dfsL_cons] at hy
          rcases ih _ y hy with h | ⟨k, hk, h⟩
          · rcases dfs_rch ns f a M y h with h | h
            · exact .inl h
            · exact .inr ⟨a, by simp, h⟩
          · exact .inr ⟨k, by simp [hk], h⟩
      rcases hl _ _ y hy with h | ⟨k, hk, h⟩
      · rcases List.mem_append.1 h with h | h
        · exact .inl h
        · simp at h; subst h; exact .inr (.refl _)
      · exact .inr (.kid x k y hk h)

theorem dfsL_rch (ns : List Nd) (f : Nat) : ∀ (xs M : List Int), ∀ y ∈ dfsL ns anyB f xs M, y ∈ M ∨ ∃ k ∈ xs, Rch ns k y := by
  intro xs
  induction xs with
  | nil => intro M y hy; exact .inl hy
  | cons a xs ih =>
    intro M y hy
    rw [dfsL_cons] at hy
    rcases ih _ y hy with h | ⟨k, hk, h⟩
    · rcases dfs_rch ns f a M y h with h | h
      · exact .inl h
      · exact .inr ⟨a, by simp, h⟩
    · exact .inr ⟨k, by simp [hk], h⟩

theorem closed_rch {ns : List Nd} {R : List Int} (hc : ∀ y ∈ R, ∀ k ∈ kidsOf ns y, k ∈ R) {a b : Int} (h : Rch ns a b) (ha : a ∈ R) : b ∈ R := by
  induction h with
  | refl x => exact ha
  | kid x k y hk _ ih => exact ih (hc x ha k hk)

theorem onCyc_iff {ns : List Nd} (hk : KidsIn ns) (i : Int) : OnCyc ns i ↔ ∃ k ∈ kidsOf ns i, Rch ns k i := by
  unfold OnCyc
  constructor
  · intro h
    rcases dfsL_rch ns _ _ _ i h with h | h
    · cases h
    · exact h
  · rintro ⟨k, hkm, h⟩
    have hw := walkedAll ns anyB hk (kidsOf ns i) [] (ns.length + 1) (Met.nil ns) (hk.of i) (by simp)
    exact closed_rch (fun y hy k hk => hw.closed y hy (by simp) k hk rfl) h (hw.starts k hkm rfl)

theorem reach_iff {ns : List Nd} {r : Int} (hv : ValidG ns r) (y : Int) : y ∈ reachOf ns r ↔ Rch ns r y := by
  unfold reachOf
  rw [if_pos hv]
  constructor
  · intro h
    rcases dfs_rch ns _ _ _ y h with h | h
    · cases h
    · exact h
  · intro h
    have hw := walked ns anyB (kidsIn_of_valid hv) (ns.length + 1) r [] (Met.nil ns) hv.root0 hv.root (by simp)
    exact closed_rch (fun y hy k hk => hw.closed y hy (by simp) k hk rfl) h (hw.starts r (by simp) rfl)

theorem cycles_some {ns : List Nd} {r : Int} (hv : ValidG ns r) (h : cyclesOf ns r ≠ []) : ∃ x, Rch ns r x ∧ ∃ k ∈ kidsOf ns x, Rch ns k x := by
  unfold cyclesOf at h
  rw [if_pos hv] at h
  obtain ⟨z, hz⟩ := List.exists_mem_of_ne_nil _ h
  obtain ⟨i, hi, hp, rfl⟩ := mem_pickTo.1 hz
  unfold isCyc at hp
  rw [Bool.and_eq_true] at hp
  refine ⟨i, ?_, ?_⟩
  · rw [← reach_iff hv]
    by_cases hm : (i : Int) ∈ reachOf ns r
    · exact hm
    · rw [tf_false hm] at hp; cases hp.1
  · rw [← onCyc_iff (kidsIn_of_valid hv)]
    by_cases hm : OnCyc ns (i : Int)
    · exact hm
    · rw [tf_false hm] at hp; cases hp.2

theorem cycles_none {ns : List Nd} {r : Int} (hv : ValidG ns r) (h : cyclesOf ns r = []) : ∀ x, Rch ns r x → ¬ ∃ k ∈ kidsOf ns x, Rch ns k x := by
  intro x hx hc
  unfold cyclesOf at h
  rw [if_pos hv] at h
  have hm := (reach_iff hv x).2 hx
  have hr := (reachOf_met (ns := ns) (r := r)).range x hm
  obtain ⟨i, rfl⟩ := Int.eq_ofNat_of_zero_le hr.1
  have : (i : Int) ∈ pickTo (isCyc ns r) ns.length := by
    rw [mem_pickTo]
    refine ⟨i, by omega, ?_, rfl⟩
    unfold isCyc
    rw [tf_true hm, tf_true ((onCyc_iff (kidsIn_of_valid hv) _).2 hc)]
    rfl
  rw [h] at this
  cases this

/-- the number of nodes of the tree to depth d -/
def unf (ns : List Nd) : Nat → Int → Nat
  | 0, _ => 0
  | d + 1, x => 1 + ((kidsOf ns x).map (unf ns d)).sum

/-- the number of nodes over the trees of xs, and one -/
def unfTo (ns : List Nd) (d : Nat) (xs : List Int) : Nat := 1 + (xs.map (unf ns d)).sum
theorem unfTo_nil (ns : List Nd) (d : Nat) : unfTo ns d [] = 1 := rfl
theorem unfTo_snoc (ns : List Nd) (d : Nat) (xs : List Int) (x : Int) : unfTo ns d (xs ++ [x]) = unfTo ns d xs + unf ns d x := by
  simp [unfTo]; omega
theorem unf_succ (ns : List Nd) (d : Nat) (x : Int) : unf ns (d + 1) x = unfTo ns d (kidsOf ns x) := rfl
theorem unfTo_pos (ns : List Nd) (d : Nat) (xs : List Int) : 1 ≤ unfTo ns d xs := by unfold unfTo; omega
theorem unf_pos (ns : List Nd) {d : Nat} (hd : 1 ≤ d) (x : Int) : 1 ≤ unf ns d x := by
  obtain ⟨e, rfl⟩ := Nat.exists_eq_add_of_le hd
  rw [Nat.add_comm, unf_succ]
  exact unfTo_pos _ _ _
theorem mem_le_sum {f : Int → Nat} : ∀ {xs : List Int} {x : Int}, x ∈ xs → f x ≤ (xs.map f).sum
  | [], _, h => by cases h
  | a :: xs, x, h => by
    rw [List.map_cons, List.sum_cons]
    rcases List.mem_cons.1 h with rfl | h
    · omega
    · have := mem_le_sum (f := f) h; omega
theorem unfTo_part (ns : List Nd) (d : Nat) (xs : List Int) (k : Nat) : unfTo ns d (xs.take k) ≤ unfTo ns d xs := by
  have h : (xs.map (unf ns d)).sum = ((xs.take k).map (unf ns d)).sum + ((xs.drop k).map (unf ns d)).sum := by
    conv => lhs; rw [← List.take_append_drop k xs]
    rw [List.map_append, List.sum_append]
  unfold unfTo
  omega

theorem unf_deep {ns : List Nd} {S : Int → Prop} (hS : ∀ y, S y → ∃ k ∈ kidsOf ns y, S k) : ∀ (d : Nat) (x : Int), S x → d ≤ unf ns d x
  | 0, _, _ => Nat.zero_le _
  | d + 1, x, hx => by
    obtain ⟨k, hk, hs⟩ := hS x hx
    have h1 := unf_deep hS d k hs
    have h2 := mem_le_sum (f := unf ns d) hk
    rw [unf_succ]
    unfold unfTo
    omega

theorem unf_cyclic {ns : List Nd} {r : Int} (hv : ValidG ns r) (h : cyclesOf ns r ≠ []) (d : Nat) : d ≤ unf ns d r := by
  obtain ⟨c, hr, k0, hk0, hc⟩ := cycles_some hv h
  refine unf_deep (S := fun y => Rch ns y c) ?_ d r hr
  intro y hy
  cases hy with
  | refl => exact ⟨k0, hk0, hc⟩
  | kid _ k _ hk h => exact ⟨k, hk, h⟩

/-- every way from x ends before it has d nodes -/
def Hgt (ns : List Nd) : Nat → Int → Prop
  | 0, _ => False
  | d + 1, x => ∀ k ∈ kidsOf ns x, Hgt ns d k

theorem unf_still {ns : List Nd} : ∀ (d e : Nat) (x : Int), Hgt ns d x → d ≤ e → unf ns e x = unf ns d x
  | 0, _, _, h, _ => h.elim
  | d + 1, 0, _, _, h => by omega
  | d + 1, e + 1, x, h, he => by
    rw [unf_succ, unf_succ]
    unfold unfTo
    rw [List.map_congr_left fun k hk => unf_still d e k (h k hk) (by omega)]

theorem cnt_lt {p q : Nat → Bool} : ∀ {l : List Nat}, (∀ a ∈ l, p a = true → q a = true) → (∃ a ∈ l, q a = true ∧ p a = false) → l.countP p < l.countP q
  | [], _, h => by obtain ⟨a, h, _⟩ := h; cases h
  | b :: l, hpq, h => by
    have hle : l.countP p ≤ l.countP q := List.countP_mono_left fun a ha => hpq a (by simp [ha])
    rw [List.countP_cons, List.countP_cons]
    obtain ⟨a, ha, hqa, hpa⟩ := h
    rcases List.mem_cons.1 ha with rfl | ha
    · simp [hqa, hpa]; omega
    · have := cnt_lt (p := p) (q := q) (fun a ha => hpq a (by simp [ha])) ⟨a, ha, hqa, hpa⟩
      have hb := hpq b (by simp)
      cases hpb : p b
      · simp; split <;> omega
      · simp [hb hpb]; omega

theorem tf_iff {p : Prop} : tf p = true ↔ p := by
  constructor
  · intro h
    by_cases hp : p
    · exact hp
    · rw [tf_false hp] at h; cases h
  · exact tf_true

theorem hgt_of {ns : List Nd} (hk : KidsIn ns) : ∀ (m : Nat) (x : Int), 0 ≤ x → x < ns.length → (List.range ns.length).countP (fun (i : Nat) => tf (Rch ns x (i : Int))) ≤ m → (∀ y, Rch ns x y → ¬ ∃ k ∈ kidsOf ns y, Rch ns k y) → Hgt ns (m + 1) x := by
  intro m
  induction m with
  | zero =>
    intro x h0 h1 hc _
    obtain ⟨i, rfl⟩ := Int.eq_ofNat_of_zero_le h0
    have : 0 < (List.range ns.length).countP (fun (j : Nat) => tf (Rch ns (i : Int) (j : Int))) := List.countP_pos_iff.2 ⟨i, List.mem_range.2 (by omega), tf_true (.refl _)⟩
    omega
  | succ m ih =>
    intro x h0 h1 hc ha k hkm
    obtain ⟨hk0, hk1⟩ := hk.of x k hkm
    refine ih k hk0 hk1 ?_ (fun y hy => ha y (.kid x k y hkm hy))
    obtain ⟨i, rfl⟩ := Int.eq_ofNat_of_zero_le h0
    have := cnt_lt (p := fun (j : Nat) => tf (Rch ns k (j : Int))) (q := fun (j : Nat) => tf (Rch ns (i : Int) (j : Int))) (l := List.range ns.length) (fun a _ h => tf_true (.kid _ k _ hkm (tf_iff.1 h))) ⟨i, List.mem_range.2 (by omega), tf_true (.refl _), tf_false fun h => ha i (.refl _) ⟨k, hkm, h⟩⟩
    omega

theorem hgt_acyclic {ns : List Nd} {r : Int} (hv : ValidG ns r) (h : cyclesOf ns r = []) : Hgt ns 13 r := by
  have hlen : (List.range ns.length).countP (fun (i : Nat) => tf (Rch ns r (i : Int))) ≤ 12 := by
    refine Nat.le_trans (List.countP_le_length) ?_
    rw [List.length_range]
    exact hv.few
  exact hgt_of (kidsIn_of_valid hv) 12 r hv.root0 hv.root hlen (cycles_none hv h)

/-- a node's size, cut at 5000 -/
def treeN (ns : List Nd) (x : Int) : Nat := min (unf ns 5000 x) 5000
theorem treeN_pos (ns : List Nd) (x : Int) : 1 ≤ treeN ns x := by
  have := unf_pos ns (d := 5000) (by omega) x
  unfold treeN
  omega
theorem treeN_le (ns : List Nd) (x : Int) : treeN ns x ≤ 5000 := by unfold treeN; omega

open Classical in
noncomputable def treeSizeOf (ns : List Nd) (r : Int) : Int := if ValidG ns r then (treeN ns r : Int) else -1

theorem unf_kids {ns : List Nd} {d : Nat} {x : Int} (h : Hgt ns (d + 1) x) (hd : d + 1 ≤ 5000) : unf ns 5000 x = unfTo ns 5000 (kidsOf ns x) := by
  rw [unf_still (d + 1) 5000 x h hd, unf_succ]
  unfold unfTo
  rw [List.map_congr_left fun k hk => (unf_still d 5000 k (h k hk) (by omega)).symm]

/-- the sum over the first kids, cut at 5000 -/
def cutTo (ns : List Nd) (xs : List Int) : Nat := min (unfTo ns 5000 xs) 5000
theorem cutTo_nil (ns : List Nd) : cutTo ns [] = 1 := by unfold cutTo; rw [unfTo_nil]; rfl
theorem cutTo_snoc (ns : List Nd) (xs : List Int) (x : Int) : cutTo ns (xs ++ [x]) = min (cutTo ns xs + treeN ns x) 5000 := by
  unfold cutTo treeN
  rw [unfTo_snoc]
  omega
theorem cutTo_le (ns : List Nd) (xs : List Int) : cutTo ns xs ≤ 5000 := by unfold cutTo; omega
theorem cutTo_kids {ns : List Nd} {d : Nat} {x : Int} (h : Hgt ns (d + 1) x) (hd : d + 1 ≤ 5000) : cutTo ns (kidsOf ns x) = treeN ns x := by
  unfold cutTo treeN
  rw [unf_kids h hd]

/-- sizes that are kept: 0, or the node's size -/
structure Memo (ns : List Nd) (Z : List Int) : Prop where
  len : Z.length = ns.length
  at_ : ∀ j : Nat, j < ns.length → Z.getD j 0 = 0 ∨ Z.getD j 0 = (treeN ns (j : Int) : Int)
theorem Memo.zeros (ns : List Nd) : Memo ns (List.replicate ns.length 0) := ⟨by simp, fun j hj => .inl (by simp [List.getD, hj])⟩
theorem Memo.set {ns : List Nd} {Z : List Int} (h : Memo ns Z) (i : Nat) : Memo ns (Z.set i (treeN ns (i : Int) : Int)) := by
  refine ⟨by rw [List.length_set, h.len], fun j hj => ?_⟩
  by_cases e : i = j
  · subst e
    refine .inr ?_
    simp [List.getD, h.len, hj]
  · rw [show (Z.set i (treeN ns (i : Int) : Int)).getD j 0 = Z.getD j 0 by simp [List.getD, e]]
    exact h.at_ j hj
theorem intCell_set (us : List Int) (y : Nat) (v : Int) (hy : y < us.length) (i : Nat) : intCell (us.set y v) i = if i = y then .int .i64 v else intCell us i := by
  unfold intCell
  by_cases e : i = y
  · subst e
    simp [List.getD, hy]
  · rw [if_neg e]
    simp [List.getD, Ne.symm e]

end Go.Proofs.Ytmpplimghjkjaae
