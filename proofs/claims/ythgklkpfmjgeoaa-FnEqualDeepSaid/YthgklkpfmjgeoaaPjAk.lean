/-
  Lemmas, several texts in one: NewR, Ord, AlkI, Keys.
-/
import Derived.Test.YthgklkpfmjgeoaaPjAb
import Derived.Test.YthgklkpfmjgeoaaPjAf
import Derived.Test.YthgklkpfmjgeoaaPjAe
import Derived.Test.YthgklkpfmjgeoaaMem
import Derived.Deep.LoopGhost
import Derived.Deep.QuietTactic
import Derived.Deep.Cut
import Derived.BigQuiet
import Derived.DeepKeys4
import Derived.Maps.OwnSet
import Derived.WalkSpells
namespace Go.Proofs.Ythgklkpfmjgeoaa
open Go.RowKit
set_option linter.unusedVariables false

theorem BytesAt.less {w : World} {B : Nat} {A : Option Addr} {n m : Nat} (h : BytesAt w B A n) (hm : m ≤ n) : BytesAt w B A m := fun k hk => h k (by omega)
theorem BytesAt.more {w : World} {B B' : Nat} {A : Option Addr} {n : Nat} (h : BytesAt w B A n) (hB : B ≤ B') : BytesAt w B' A n := fun k hk => by
  obtain ⟨b, off, x, h1, h2, h3⟩ := h k hk
  exact ⟨b, off, x, h1, by omega, h3⟩

set_option maxHeartbeats 1000000 in
theorem newReader_any (A : Option Addr) (n c : Nat) (w : World) (h : BytesAt w w.heap.size A n) (hc : n ≤ c) (hn : n ≤ 9223372036854775807) :
    Calls Try.prog 11 #[.slice A n c] w fun e w' => e = .returned (.pointer (some ⟨w.heap.size, 0, none⟩)) ∧ (∃ n' c', Rd w' w.heap.size A n' c' 0) ∧ Below w.heap.size w w' := by
  by_cases h2 : n ≤ 2000
  · have d : decide ((2000 : Int) < (n : Int)) = false := by simp; omega
    have hB : Below w.heap.size w (w.alloc (.cells #[.slice A n c, .int .i64 0] 54)) := (Below.refl _ _).alloc (Nat.le_refl _) _
    have HR : Hid (Rd (w.alloc (.cells #[.slice A n c, .int .i64 0] 54)) w.heap.size A n c 0) := hide ⟨Lies.new w _ _, h.later hB, h2⟩
    clear h
    go_enter Try.func11, Try.ntmps11
    go_wp2
    go_ret
    exact ⟨rfl, ⟨n, c, HR.out⟩, hB⟩
  · have d : decide ((2000 : Int) < (n : Int)) = true := by simp; omega
    obtain ⟨b, off, _, rfl, _⟩ := h 0 (by omega)
    have hcap : ¬ ((c : Int) < 2000) := by omega
    have hB : Below w.heap.size w (w.alloc (.cells #[.slice (some ⟨b, off, none⟩) 2000 c, .int .i64 0] 54)) := (Below.refl _ _).alloc (Nat.le_refl _) _
    have HR : Hid (Rd (w.alloc (.cells #[.slice (some ⟨b, off, none⟩) 2000 c, .int .i64 0] 54)) w.heap.size (some ⟨b, off, none⟩) 2000 c 0) := hide ⟨Lies.new w _ _, (h.less (by omega)).later hB, Nat.le_refl _⟩
    clear h
    go_enter Try.func11, Try.ntmps11
    go_wp2
    go_ret
    exact ⟨rfl, ⟨2000, c, HR.out⟩, hB⟩

end Go.Proofs.Ythgklkpfmjgeoaa

namespace Go.Proofs.Ythgklkpfmjgeoaa

/-- each but the first is a kid of one before it, and the first is r -/
structure Ord (ns : List Nd) (r : Int) (L : List Int) : Prop where
  first : ∀ x, L[0]? = some x → x = r
  later : ∀ i x, 0 < i → L[i]? = some x → ∃ k y, k < i ∧ L[k]? = some y ∧ x ∈ kidsOf ns y

theorem Ord.snoc {ns : List Nd} {r x y : Int} {L : List Int} (h : Ord ns r L) (hy : y ∈ L) (hk : x ∈ kidsOf ns y) : Ord ns r (L ++ [x]) := by
  have hl : 0 < L.length := List.length_pos_of_mem hy
  refine ⟨fun z hz => h.first z (by rw [List.getElem?_append_left hl] at hz; exact hz), fun i z hi hz => ?_⟩
  by_cases e : i < L.length
  · rw [List.getElem?_append_left e] at hz
    obtain ⟨k, v, h1, h2, h3⟩ := h.later i z hi hz
    exact ⟨k, v, h1, by rw [List.getElem?_append_left (by omega)]; exact h2, h3⟩
  · have hie : i = L.length := by
      have := (List.getElem?_eq_some_iff.1 hz).1
      simp at this
      omega
    subst hie
    rw [List.getElem?_concat_length] at hz
    injection hz with hz
    subst hz
    obtain ⟨k, hk2, rfl⟩ := List.getElem_of_mem hy
    exact ⟨k, L[k], hk2, by rw [List.getElem?_append_left hk2]; exact List.getElem?_eq_getElem hk2, hk⟩

theorem ord_dfs (ns : List Nd) (ent : Int → Bool) (r : Int) : ∀ (f : Nat) (x y : Int) (L : List Int), Ord ns r L → y ∈ L → x ∈ kidsOf ns y → Ord ns r (dfs ns ent f x L) ∧ ∀ z ∈ L, z ∈ dfs ns ent f x L
  | 0, x, y, L, h, _, _ => ⟨h, fun _ hz => hz⟩
  | f + 1, x, y, L, h, hy, hk => by
    by_cases hs : ent x = false ∨ x ∈ L
    · rw [dfs_stop hs]
      exact ⟨h, fun _ hz => hz⟩
    · have he : ent x = true := by
        cases hx : ent x
        · exact absurd (.inl hx) hs
        · rfl
      rw [dfs_go he (fun hm => hs (.inr hm))]
      have key : ∀ (ks M : List Int), Ord ns r M → x ∈ M → (∀ k ∈ ks, k ∈ kidsOf ns x) → Ord ns r (dfsL ns ent f ks M) ∧ ∀ z ∈ M, z ∈ dfsL ns ent f ks M := by
        intro ks
        induction ks with
        | nil => intro M hM _ _; exact ⟨hM, fun _ hz => hz⟩
        | cons k ks ih =>
          intro M hM hx hks
          rw [dfsL_cons]
          have h1 := ord_dfs ns ent r f k x M hM hx (hks k (by simp))
          have h2 := ih (dfs ns ent f k M) h1.1 (h1.2 x hx) (fun k' hk' => hks k' (by simp [hk']))
          exact ⟨h2.1, fun z hz => h2.2 z (h1.2 z hz)⟩
      have h2 := key (kidsOf ns x) (L ++ [x]) (h.snoc hy hk) (by simp) (fun _ hk' => hk')
      exact ⟨h2.1, fun z hz => h2.2 z (List.mem_append_left _ hz)⟩

/-- the walk from a node in an empty list -/
theorem ord_start (ns : List Nd) (ent : Int → Bool) (r : Int) (f : Nat) (he : ent r = true) : Ord ns r (dfs ns ent (f + 1) r []) := by
  rw [dfs_go he (by simp), List.nil_append]
  have key : ∀ (ks M : List Int), Ord ns r M → r ∈ M → (∀ k ∈ ks, k ∈ kidsOf ns r) → Ord ns r (dfsL ns ent f ks M) := by
    intro ks
    induction ks with
    | nil => intro M hM _ _; exact hM
    | cons k ks ih =>
      intro M hM hx hks
      rw [dfsL_cons]
      have h1 := ord_dfs ns ent r f k r M hM hx (hks k (by simp))
      exact ih (dfs ns ent f k M) h1.1 (h1.2 r hx) (fun k' hk' => hks k' (by simp [hk']))
  refine key (kidsOf ns r) [r] ⟨fun x hx => by simp at hx; exact hx.symm, fun i x hi hx => ?_⟩ (by simp) (fun _ h => h)
  have := (List.getElem?_eq_some_iff.1 hx).1
  simp at this
  omega

/-- all that the law says of the nodes that are reached -/
structure Reached (ns : List Nd) (r : Int) (L : List Int) : Prop where
  met : Met ns L
  closed : ∀ y ∈ L, ∀ k ∈ kidsOf ns y, k ∈ L
  ord : Ord ns r L

theorem reachOf_reached {ns : List Nd} {r : Int} (h : ValidG ns r) : Reached ns r (reachOf ns r) := by
  unfold reachOf
  rw [if_pos h]
  have w := walked ns anyB (kidsIn_of_valid h) (ns.length + 1) r [] (Met.nil ns) h.root0 h.root (by simp)
  exact ⟨w.met, fun y hy k hk => w.closed y hy (by simp) k hk rfl, ord_start ns anyB r ns.length rfl⟩

theorem reachOf_none {ns : List Nd} {r : Int} (h : ¬ ValidG ns r) : reachOf ns r = [] := by
  unfold reachOf
  rw [if_neg h]

theorem reachOf_some {ns : List Nd} {r : Int} (h : ValidG ns r) : 0 < (reachOf ns r).length := by
  unfold reachOf
  rw [if_pos h]
  have w := walked ns anyB (kidsIn_of_valid h) (ns.length + 1) r [] (Met.nil ns) h.root0 h.root (by simp)
  exact List.length_pos_of_mem (w.starts r (by simp) rfl)

end Go.Proofs.Ythgklkpfmjgeoaa

namespace Go.Proofs.Ythgklkpfmjgeoaa
open Go.RowKit
set_option linter.unusedVariables false

theorem look_cell {w : World} {b o : Nat} {cl : List Int} {x : Int} (h : IntsAt w w.heap.size (some ⟨b, o, none⟩) cl) (h0 : 0 ≤ x) (h1 : x < cl.length) : ∃ i : Nat, x = (i : Int) ∧ w.cell? ⟨b, o + i, none⟩ = some (.int .i64 (look cl x)) := by
  obtain ⟨i, rfl⟩ := Int.eq_ofNat_of_zero_le h0
  obtain ⟨b', o', u, e1, _, hu, _, hc⟩ := h.at_ (k := i) (by omega)
  injection e1 with e1
  injection e1 with e2 e3
  subst e2 e3
  exact ⟨i, rfl, by rw [look_at hu]; exact hc⟩

set_option maxHeartbeats 1000000 in
theorem oneClass_any (bc : Nat) (Ac : Option Addr) (cl : List Int) (cc : Nat) (x y : Int) (w : World) (hb : w.cell? ⟨bc, 0, none⟩ = some (.slice Ac cl.length cc)) (hC : IntsAt w w.heap.size Ac cl) (hx : 0 ≤ x ∧ x < cl.length) (hy : 0 ≤ y ∧ y < cl.length) :
    Calls Try.prog 73 #[.int .i64 x, .int .i64 y, .pointer (some ⟨bc, 0, none⟩)] w fun e w' => e = .returned (.bool (tf (look cl x = look cl y))) ∧ Below w.heap.size w w' := by
  obtain ⟨b, o, z, rfl, _⟩ := hC.at_ (k := 0) (by omega)
  obtain ⟨i, rfl, hi⟩ := look_cell hC hx.1 hx.2
  obtain ⟨j, rfl, hj⟩ := look_cell hC hy.1 hy.2
  have x0 := hx.1
  have x1 := hx.2
  have y0 := hy.1
  have y1 := hy.2
  clear hx hy hC
  generalize look cl (i : Int) = u at hi ⊢
  generalize look cl (j : Int) = v at hj ⊢
  by_cases huv : u = v
  · have HF := hide (show tf (u = v) = true from tf_true huv)
    have t : (u == v) = true := by simpa using huv
    clear huv
    go_enter Try.func73, Try.ntmps73
    go_wp2_with fail
    go_quiet (fail)
    go_wp2
    go_ret
    exact ⟨ret_bool HF.out.symm, below_drewN (Below.refl _ _) _⟩
  · have HF := hide (show tf (u = v) = false from tf_false huv)
    have t : (u == v) = false := by simpa using huv
    clear huv
    go_enter Try.func73, Try.ntmps73
    go_wp2_with fail
    go_quiet (fail)
    go_wp2
    go_ret
    exact ⟨ret_bool HF.out.symm, below_drewN (Below.refl _ _) _⟩

theorem map_eq_iff {f : Int → Int} {xs ys : List Int} (hl : xs.length = ys.length) : xs.map f = ys.map f ↔ ∀ (j : Nat) (x y : Int), xs[j]? = some x → ys[j]? = some y → f x = f y := by
  constructor
  · intro h j x y hx hy
    have := congrArg (fun l => l[j]?) h
    simp only [List.getElem?_map, hx, hy, Option.map_some] at this
    injection this
  · intro h
    apply List.ext_getElem?
    intro j
    rw [List.getElem?_map, List.getElem?_map]
    by_cases hj : j < xs.length
    · have hx : xs[j]? = some xs[j] := List.getElem?_eq_getElem hj
      have hy : ys[j]? = some ys[j] := List.getElem?_eq_getElem (by omega)
      rw [hx, hy]
      simp only [Option.map_some]
      rw [h j _ _ hx hy]
    · rw [List.getElem?_eq_none (by omega), List.getElem?_eq_none (by omega)]

set_option maxRecDepth 100000 in
set_option maxHeartbeats 1000000 in
theorem equalFunc_any (bc : Nat) (Ac : Option Addr) (cl : List Int) (cc : Nat) (A A' : Option Addr) (xs ys : List Int) (c c' : Nat) (w : World) (hb : w.cell? ⟨bc, 0, none⟩ = some (.slice Ac cl.length cc)) (hbc : bc < w.heap.size) (hC : IntsAt w w.heap.size Ac cl)
    (h : IntsAt w w.heap.size A xs) (h' : IntsAt w w.heap.size A' ys) (hx : ∀ x ∈ xs, 0 ≤ x ∧ x < cl.length) (hy : ∀ x ∈ ys, 0 ≤ x ∧ x < cl.length) :
    Calls Try.prog 74 #[.slice A xs.length c, .slice A' ys.length c', .func (.func 73) #[] #[.pointer (some ⟨bc, 0, none⟩)]] w fun e w' => e = .returned (.bool (tf (xs.map (look cl) = ys.map (look cl)))) ∧ Below w.heap.size w w' := by
  have hl := h.len
  have Hb := hide hb
  have HC := hide hC
  have H := hide h
  have H' := hide h'
  have HX := hide hx
  have HY := hide hy
  clear hb hC h h' hx hy
  by_cases hne : xs.length = ys.length
  · have hb0 : ((xs.length : Int) != (ys.length : Int)) = false := by simp [hne]
    have HM := hide (map_eq_iff (f := look cl) hne)
    have Hne := hide hne
    clear hne
    go_enter Try.func74, Try.ntmps74
    go_wp2_with fail
    go_loopg [7, 8, 9, 17] xs.length (fun gk _ _ _ i wr => ∃ k : Nat, k ≤ xs.length ∧ gk = xs.length - k ∧ i = .int .i64 k ∧ Below w.heap.size w wr ∧ ∀ (j : Nat) (x y : Int), j < k → xs[j]? = some x → ys[j]? = some y → look cl x = look cl y)
    case atStart => exact ⟨0, Nat.zero_le _, rfl, rfl, Below.refl _ _, fun j x y hj => absurd hj (by omega)⟩
    case round =>
      obtain ⟨k, hk, rfl, rfl, hb, he0⟩ := hrel
      have he := hide he0
      have HB := hide hb
      clear he0 hb
      by_cases hlt : k < xs.length
      · obtain ⟨b, off, x, rfl, hbl, hx, hxm, hcx⟩ := (H.out.below HB.out).at_ hlt
        obtain ⟨b', off', y, rfl, hbl', hy, hym, hcy⟩ := (H'.out.below HB.out).at_ (k := k) (by have := Hne.out; omega)
        have Hx := hide hx
        have Hy := hide hy
        have hk1 : (0 : Int) ≤ (k : Int) := by omega
        have hk2 : (k : Int) < (xs.length : Int) := by omega
        have hk3 : (k : Int) < (ys.length : Int) := by have := Hne.out; omega
        have hcall := oneClass_any bc Ac cl cc x y wr ((HB.out.cell (p := ⟨bc, 0, none⟩) hbc).trans Hb.out) (HC.out.later HB.out (Nat.le_refl _)) (HX.out x hxm) (HY.out y hym)
        have Hcall := hide hcall
        clear hx hy hxm hym hcall hbl hbl'
        by_cases hxy : look cl x = look cl y
        · have HXY := hide hxy
          rw [tf_true hxy] at Hcall
          clear hxy
          go_wp2_with fail
          refine Hcall.out.mono ?_
          rintro e w2 ⟨rfl, hb2⟩
          have HB2 := hide (HB.out.trans (hb2.mono HB.out.size))
          clear hb2 Hcall hcx hcy
          go_wp2
          go_roundg (xs.length - (k + 1))
          case measure => omega
          case rel => exact ⟨k + 1, by omega, rfl, by go_num, HB2.out, fun j a b hj ha hb => by
            by_cases e : j = k
            · subst e
              rw [Hx.out] at ha
              rw [Hy.out] at hb
              injection ha with ha
              injection hb with hb
              rw [← ha, ← hb]
              exact HXY.out
            · exact he.out j a b (by omega) ha hb⟩
        · have HF := hide (show tf (xs.map (look cl) = ys.map (look cl)) = false from tf_false fun h => hxy (HM.out.1 h k x y Hx.out Hy.out))
          rw [tf_false hxy] at Hcall
          clear hxy
          go_wp2_with fail
          refine Hcall.out.mono ?_
          rintro e w2 ⟨rfl, hb2⟩
          have HB2 := hide (HB.out.trans (hb2.mono HB.out.size))
          clear hb2 Hcall hcx hcy
          go_wp2
          go_ret
          exact ⟨ret_bool HF.out.symm, HB2.out⟩
      · obtain rfl : k = xs.length := by omega
        have HF := hide (show tf (xs.map (look cl) = ys.map (look cl)) = true from tf_true (HM.out.2 fun j x y hx hy => he.out j x y (List.getElem?_eq_some_iff.1 hx).1 hx hy))
        have hk3 : decide ((xs.length : Int) < (xs.length : Int)) = false := by simp
        go_wp2
        go_ret
        exact ⟨ret_bool HF.out.symm, HB.out⟩
  · have hb0 : ((xs.length : Int) != (ys.length : Int)) = true := bne_iff_ne.2 (by omega)
    have HF := hide (show tf (xs.map (look cl) = ys.map (look cl)) = false from tf_false fun h => hne (by have := congrArg List.length h; simpa using this))
    clear hne
    go_enter Try.func74, Try.ntmps74
    go_wp2
    go_ret
    exact ⟨ret_bool HF.out.symm, Below.refl _ _⟩

set_option maxRecDepth 100000 in
set_option maxHeartbeats 1000000 in
theorem areAlike_any (A A' : Option Addr) (m n : Nd) (c c' : Nat) (Ac : Option Addr) (cl : List Int) (cc : Nat) (w : World) (hC : IntsAt w w.heap.size Ac cl) (hm : IntsAt w w.heap.size A m.kids) (hn : IntsAt w w.heap.size A' n.kids) (hx : ∀ x ∈ m.kids, 0 ≤ x ∧ x < cl.length) (hy : ∀ x ∈ n.kids, 0 ≤ x ∧ x < cl.length) :
    Calls Try.prog 59 #[.agg #[.int .i64 m.kind, .int .i64 m.value, .slice A m.kids.length c], .agg #[.int .i64 n.kind, .int .i64 n.value, .slice A' n.kids.length c'], .slice Ac cl.length cc] w fun e w' => e = .returned (.bool (tf (sigOf cl m = sigOf cl n))) ∧ Below w.heap.size w w' := by
  have hB : Below w.heap.size w (((w.alloc (.cells #[.int .i64 m.kind, .int .i64 m.value, .slice A m.kids.length c] 43)).alloc (.cells #[.int .i64 n.kind, .int .i64 n.value, .slice A' n.kids.length c'] 43)).alloc (.cells #[.slice Ac cl.length cc] 35)) := (((Below.refl _ _).alloc (Nat.le_refl _) _).alloc (by simp) _).alloc (by simp; omega) _
  have l1 := ((Lies.new w #[.int .i64 m.kind, .int .i64 m.value, .slice A m.kids.length c] 43).alloc (.cells #[.int .i64 n.kind, .int .i64 n.value, .slice A' n.kids.length c'] 43)).alloc (.cells #[.slice Ac cl.length cc] 35)
  have l2 := (Lies.new (w.alloc (.cells #[.int .i64 m.kind, .int .i64 m.value, .slice A m.kids.length c] 43)) #[.int .i64 n.kind, .int .i64 n.value, .slice A' n.kids.length c'] 43).alloc (.cells #[.slice Ac cl.length cc] 35)
  have l3 := Lies.new ((w.alloc (.cells #[.int .i64 m.kind, .int .i64 m.value, .slice A m.kids.length c] 43)).alloc (.cells #[.int .i64 n.kind, .int .i64 n.value, .slice A' n.kids.length c'] 43)) #[.slice Ac cl.length cc] 35
  simp only [World.size_alloc] at l2 l3
  have HC := hide (hC.later hB (Nat.le_refl _))
  have Hm := hide (hm.later hB (Nat.le_refl _))
  have Hn := hide (hn.later hB (Nat.le_refl _))
  have HX := hide hx
  have HY := hide hy
  clear hC hm hn hx hy
  go_enter Try.func59, Try.ntmps59
  go_upto_region 1 with fail
  generalize ((w.alloc (.cells #[.int .i64 m.kind, .int .i64 m.value, .slice A m.kids.length c] 43)).alloc (.cells #[.int .i64 n.kind, .int .i64 n.value, .slice A' n.kids.length c'] 43)).alloc (.cells #[.slice Ac cl.length cc] 35) = W at hB l1 l2 l3 HC Hm Hn ⊢
  have a0 := l1.cell 0
  have a1 := l1.cell 1
  have a2 := l1.cell 2
  have b0 := l2.cell 0
  have b1 := l2.cell 1
  have b2 := l2.cell 2
  have c0 := l3.cell 0
  simp only [List.getElem?_toArray, List.getElem?_cons_zero, List.getElem?_cons_succ] at a0 a1 a2 b0 b1 b2 c0
  have HB := hide hB
  have hl3 := l3.lt
  clear l1 l2 l3 hB
  by_cases h0 : m.kind = n.kind
  · have t0 : (m.kind == n.kind) = true := by simpa using h0
    by_cases h1 : m.value = n.value
    · have t1 : (m.value == n.value) = true := by simpa using h1
      have HF := hide (show tf (sigOf cl m = sigOf cl n) = tf (m.kids.map (look cl) = n.kids.map (look cl)) from tf_congr (by unfold sigOf; simp [h0, h1]))
      clear h0 h1
      go_wp2_with fail
      refine (equalFunc_any (w.heap.size + 1 + 1) Ac cl cc A A' m.kids n.kids c c' W c0 hl3 HC.out Hm.out Hn.out HX.out HY.out).mono ?_
      rintro e w2 ⟨rfl, hb2⟩
      have HB2 := hide (HB.out.trans (hb2.mono HB.out.size))
      clear hb2 a0 a1 a2 b0 b1 b2 c0
      go_wp2
      go_ret
      exact ⟨ret_bool HF.out.symm, HB2.out⟩
    · have t1 : (m.value == n.value) = false := by simpa using h1
      have HF := hide (show tf (sigOf cl m = sigOf cl n) = false from tf_false fun h => h1 (by unfold sigOf at h; simp only [Prod.mk.injEq] at h; exact h.2.1))
      clear h0 h1
      go_wp2
      go_ret
      exact ⟨ret_bool HF.out.symm, HB.out⟩
  · have t0 : (m.kind == n.kind) = false := by simpa using h0
    have HF := hide (show tf (sigOf cl m = sigOf cl n) = false from tf_false fun h => h0 (by unfold sigOf at h; simp only [Prod.mk.injEq] at h; exact h.1))
    clear h0
    go_wp2
    go_ret
    exact ⟨ret_bool HF.out.symm, HB.out⟩

end Go.Proofs.Ythgklkpfmjgeoaa

namespace Go.Proofs.Ythgklkpfmjgeoaa
open Go.RowKit Go.Maps

theorem rowK : 82 < Try.prog.types.size := of_decide_eq_true (by kernel_rfl)
theorem lawK : Keyed Try.prog 82 := Keyed.of_law (deep_law_laid laidOutP (m := 2) (by omega) rowK (by kernel_rfl) (by kernel_rfl))
theorem typeK : Try.prog.keyType 82 = true := by kernel_rfl
theorem cellsK : Try.prog.cellsOf 82 = 2 := by kernel_rfl

def keyLit (k v : Int) : Lit := .string (keyBytes [.int .i64 k, .int .i64 v])

theorem size_succ : ∃ m, Try.prog.types.size + 1 = m + 3 := ⟨Try.prog.types.size - 2, by have := rowK; omega⟩

theorem lits_int {x : Int} (h : In64 x) (m : Nat) : Try.prog.keyLits (m + 1) 3 [.int .i64 x] = some [.int .i64 x] := by
  unfold Program.keyLits
  simp only [Try.underlying3]
  rw [if_pos ⟨trivial, wf_of_in64 h⟩]

theorem lits_key {k v : Int} (hk : In64 k) (hv : In64 v) (m : Nat) : Try.prog.keyLits (m + 2) 82 [.int .i64 k, .int .i64 v] = some [.int .i64 k, .int .i64 v] := by
  unfold Program.keyLits
  simp only [Try.underlying82]
  rw [if_pos ⟨cellsK.symm, by decide +kernel⟩]
  simp [cellsI, lits_int hk, lits_int hv]

theorem keyOf_key {k v : Int} (hk : In64 k) (hv : In64 v) : keyOf Try.prog 82 (.agg #[.int .i64 k, .int .i64 v]) = some (keyLit k v) := by
  have hf : (Value.agg #[.int .i64 k, .int .i64 v]).formed Try.prog 82 = true := by
    unfold Value.formed
    simp only [Try.underlying82, cellsK]
    rfl
  obtain ⟨m, hm⟩ := size_succ
  unfold keyOf
  simp only [Try.underlying82, typeK, hf, Bool.and_self, if_true, hm]
  rw [show (Value.agg #[.int .i64 k, .int .i64 v]).cells.toList = [.int .i64 k, .int .i64 v] from rfl, lits_key hk hv (m + 1)]
  rfl

theorem keyLit_inj {k v k' v' : Int} (hk : In64 k) (hv : In64 v) (hk' : In64 k') (hv' : In64 v') (h : keyLit k v = keyLit k' v') : k = k' ∧ v = v' := by
  have h1 := keyOf_key hk hv
  rw [h] at h1
  have := lawK.inj h1 (keyOf_key hk' hv')
  simp at this
  exact this

end Go.Proofs.Ythgklkpfmjgeoaa
