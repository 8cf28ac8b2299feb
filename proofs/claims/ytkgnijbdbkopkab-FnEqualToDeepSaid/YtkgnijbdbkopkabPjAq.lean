/-
  Lemmas, several texts in one: InpM, CodM, Iso, EqdB, HerI.
-/
import Derived.Test.YtkgnijbdbkopkabPjAi
import Derived.Test.YtkgnijbdbkopkabPjAd
import Derived.Test.YtkgnijbdbkopkabPjAc
import Derived.Test.YtkgnijbdbkopkabPjAm
import Derived.Test.YtkgnijbdbkopkabPjAh
import Derived.Test.YtkgnijbdbkopkabPjAa
import Derived.IntWalk
import Derived.Deep.Cut
import Derived.Deep.QuietTactic
import Derived.BigQuiet
namespace Go.Proofs.Ytkgnijbdbkopkab
open Go.RowKit Go.Maps
set_option linter.unusedVariables false

/-- a node of which the first k kids are written -/
def halfK (cl : List Int) (ks : List Int) (k : Nat) : List Int := (ks.take k).map (look cl) ++ ks.drop k
theorem halfK_len (cl ks : List Int) (k : Nat) : (halfK cl ks k).length = ks.length := by
  unfold halfK
  simp
  omega
theorem halfK_zero (cl ks : List Int) : halfK cl ks 0 = ks := by simp [halfK]
theorem halfK_all (cl ks : List Int) : halfK cl ks ks.length = ks.map (look cl) := by simp [halfK]
theorem halfK_at {cl ks : List Int} {k : Nat} {x : Int} (h : ks[k]? = some x) : (halfK cl ks k)[k]? = some x := by
  have hk := (List.getElem?_eq_some_iff.1 h).1
  unfold halfK
  rw [List.getElem?_append_right (by simp; omega)]
  simp only [List.length_map, List.length_take]
  rw [Nat.min_eq_left (by omega), Nat.sub_self, List.getElem?_drop, Nat.add_zero, h]
theorem halfK_set {cl ks : List Int} {k : Nat} {x : Int} (h : ks[k]? = some x) : (halfK cl ks k).set k (look cl x) = halfK cl ks (k + 1) := by
  have hk := (List.getElem?_eq_some_iff.1 h).1
  have hd : ks.drop k = x :: ks.drop (k + 1) := drop_at h
  have hl : ((ks.take k).map (look cl)).length = k := by simp; omega
  unfold halfK
  rw [List.set_append, if_neg (by omega), hl, Nat.sub_self, hd, List.set_cons_zero, List.take_add_one, h]
  simp

/-- the nodes when those before i are written, and the first k kids of i -/
def stNd (cl : List Int) (i k j : Nat) (n : Nd) : Nd := if j < i then replNd cl n else if j = i then ⟨n.kind, n.value, halfK cl n.kids k⟩ else n
def stN (ns : List Nd) (cl : List Int) (i k : Nat) : List Nd := ns.mapIdx (stNd cl i k)
theorem stN_len (ns : List Nd) (cl : List Int) (i k : Nat) : (stN ns cl i k).length = ns.length := by simp [stN]
theorem stN_get (ns : List Nd) (cl : List Int) (i k j : Nat) : (stN ns cl i k)[j]? = (ns[j]?).map (stNd cl i k j) := by
  unfold stN
  rw [List.getElem?_mapIdx]
theorem stN_at {ns : List Nd} {cl : List Int} {i k : Nat} {n : Nd} (h : ns[i]? = some n) : (stN ns cl i k)[i]? = some ⟨n.kind, n.value, halfK cl n.kids k⟩ := by
  rw [stN_get, h]
  simp [stNd]
theorem stN_zero (ns : List Nd) (cl : List Int) : stN ns cl 0 0 = ns := by
  apply List.ext_getElem?
  intro j
  rw [stN_get]
  cases h : ns[j]? with
  | none => rfl
  | some n =>
    simp only [Option.map_some, stNd, Nat.not_lt_zero, if_false, halfK_zero]
    split <;> rfl
theorem stN_all (ns : List Nd) (cl : List Int) (k : Nat) : stN ns cl ns.length k = replNs ns cl := by
  apply List.ext_getElem?
  intro j
  rw [stN_get]
  unfold replNs
  rw [List.getElem?_map]
  cases h : ns[j]? with
  | none => rfl
  | some n =>
    have := (List.getElem?_eq_some_iff.1 h).1
    simp only [Option.map_some, stNd, if_pos this]
theorem stN_next {ns : List Nd} {cl : List Int} {i : Nat} {n : Nd} (h : ns[i]? = some n) : stN ns cl i n.kids.length = stN ns cl (i + 1) 0 := by
  apply List.ext_getElem?
  intro j
  rw [stN_get, stN_get]
  cases hj : ns[j]? with
  | none => rfl
  | some m =>
    simp only [Option.map_some, stNd, halfK_zero]
    by_cases h1 : j < i
    · rw [if_pos h1, if_pos (by omega)]
    · by_cases h2 : j = i
      · subst h2
        rw [h] at hj
        injection hj with hj
        subst hj
        rw [if_neg h1, if_pos rfl, if_pos (by omega), halfK_all]
        rfl
      · rw [if_neg h1, if_neg h2, if_neg (by omega)]
        split <;> rfl
theorem stN_set {ns : List Nd} {cl : List Int} {i k : Nat} {n : Nd} {x : Int} (h : ns[i]? = some n) (hx : n.kids[k]? = some x) : (stN ns cl i k).set i ⟨n.kind, n.value, (halfK cl n.kids k).set k (look cl x)⟩ = stN ns cl i (k + 1) := by
  apply List.ext_getElem?
  intro j
  have hi := (List.getElem?_eq_some_iff.1 h).1
  rw [List.getElem?_set, stN_get, stN_get]
  by_cases e : i = j
  · subst e
    rw [if_pos rfl, if_pos (by rw [stN_len]; exact hi), h, halfK_set hx]
    simp [stNd]
  · rw [if_neg e]
    cases hj : ns[j]? with
    | none => rfl
    | some m =>
      simp only [Option.map_some, stNd]
      by_cases h1 : j < i
      · rw [if_pos h1, if_pos h1]
      · rw [if_neg h1, if_neg h1, if_neg (by omega), if_neg (by omega)]

/-- the memory: old memory stays; the graph's box; its row -/
structure InpA (w wr : World) (hi gr cap q : Nat) (ns : List Nd) (cl : List Int) (r : Int) (i k : Nat) : Prop where
  bel : Below w.heap.size w wr
  box : Lies wr q #[.slice (some ⟨gr, 0, none⟩) ns.length cap, .int .i64 r] 25
  row : OwnRow wr w.heap.size hi gr cap (stN ns cl i k)
  hq : hi ≤ q

theorem InpA.below {w wr w' : World} {hi gr cap q i k : Nat} {ns : List Nd} {cl : List Int} {r : Int} (h : InpA w wr hi gr cap q ns cl r i k) (hb : Below wr.heap.size wr w') : InpA w w' hi gr cap q ns cl r i k :=
  ⟨h.bel.trans (hb.mono h.bel.size), h.box.below hb h.box.lt, h.row.kept (fun b _ hb2 => hb.block b (by have := h.box.lt; have := h.hq; omega)), h.hq⟩

theorem InpA.next {w wr : World} {hi gr cap q i : Nat} {ns : List Nd} {cl : List Int} {r : Int} {n : Nd} (hn : ns[i]? = some n) (h : InpA w wr hi gr cap q ns cl r i n.kids.length) : InpA w wr hi gr cap q ns cl r (i + 1) 0 :=
  ⟨h.bel, h.box, by rw [← stN_next hn]; exact h.row, h.hq⟩

/-- the kids of the node i -/
theorem InpA.kids {w wr : World} {hi gr cap q i k : Nat} {ns : List Nd} {cl : List Int} {r : Int} {n : Nd} (hn : ns[i]? = some n) (h : InpA w wr hi gr cap q ns cl r i k) :
    ∃ (A : Option Addr) (c : Nat), wr.cell? ⟨gr, i * 3 + 2, none⟩ = some (.slice A n.kids.length c) ∧ OwnI wr w.heap.size A c (halfK cl n.kids k) ∧ ∀ b, blockOf A = some b → b < hi ∧ b ≠ gr := by
  obtain ⟨A, c, h1, h2, h3⟩ := (h.row.nd i _ (stN_at hn)).kids
  simp only [halfK_len] at h1
  exact ⟨A, c, h1, h2, h3⟩

/-- a kid is written -/
theorem InpA.store {w wr : World} {hi gr cap q i k b c : Nat} {ns : List Nd} {cl : List Int} {r : Int} {n : Nd} {x : Int} (h : InpA w wr hi gr cap q ns cl r i k) (hn : ns[i]? = some n) (hx : n.kids[k]? = some x)
    (hc : wr.cell? ⟨gr, i * 3 + 2, none⟩ = some (.slice (some ⟨b, 0, none⟩) n.kids.length c)) (ho : OwnI wr w.heap.size (some ⟨b, 0, none⟩) c (halfK cl n.kids k)) (hb : b < hi) :
    InpA w (wr.setCell ⟨b, k, none⟩ (.int .i64 (look cl x))) hi gr cap q ns cl r i (k + 1) := by
  have hbl := (ho.blocks b rfl).1
  refine ⟨h.bel.setCell (p := ⟨b, k, none⟩) hbl _, h.box.far (p := ⟨b, k, none⟩) (by have := h.hq; show q ≠ b; omega) _, ?_, h.hq⟩
  have hs := ho.setAt k (look cl x)
  have h2 := h.row.setKids (w' := wr.setCell ⟨b, k, none⟩ (.int .i64 (look cl x))) (stN_at hn) (cj := c) (Aj := some ⟨b, 0, none⟩) (ks := (halfK cl n.kids k).set k (look cl x)) (by simp only [halfK_len]; exact hc) (by simp) hs (fun q hq => Below.heap_setCell _ _ _ _ (by intro e; exact hq (by rw [e]; rfl)))
  simp only at h2
  rw [stN_set hn hx] at h2
  exact h2

theorem OwnNs.rowI {w : World} {lo hi : Nat} {A : Option Addr} {c : Nat} {ns : List Nd} (h : OwnNs w lo hi A c ns) (hne : 0 < ns.length) : ∃ g, A = some ⟨g, 0, none⟩ ∧ OwnRow w lo hi g c ns := by
  rcases h with ⟨_, _, h⟩ | h
  · subst h; simp at hne
  · exact h

end Go.Proofs.Ytkgnijbdbkopkab

namespace Go.Proofs.Ytkgnijbdbkopkab
open Go.RowKit Go.Maps
set_option linter.unusedVariables false

theorem CInv.start (ns : List Nd) : CInv ns ([], []) := ⟨Met.nil ns, fun x hx => (by cases hx), fun x hx => (by cases hx)⟩

open Classical in
/-- the code of a valid graph; nothing for another one -/
noncomputable def codeOf (ns : List Nd) (r : Int) : List Int := if ValidG ns r then (cod ns (ns.length + 1) r ([], [])).1 else []

theorem codG_of_valid {ns : List Nd} {r : Int} (h : ValidG ns r) (hwf : Wf ns) : CodG ns 6 := by
  refine ⟨fun n hn => (h.nodes n hn).inn, fun n hn => (h.nodes n hn).few, fun n hn h0 => ?_, hwf⟩
  have hk := (h.nodes n hn).kind
  apply List.eq_nil_of_length_eq_zero
  rcases hk with hk | hk | hk | hk | hk | hk
  · exact hk.2.2.2
  · omega
  · omega
  · omega
  · omega
  · omega

theorem codeOf_few {ns : List Nd} {r : Int} (hwf : Wf ns) : (codeOf ns r).length ≤ 300 := by
  unfold codeOf
  split
  next h =>
    have hc := (coded ns 6 (codG_of_valid h hwf) (by have := h.few; omega) (ns.length + 1) r ([], []) (CInv.start ns) h.root0 h.root (by simp))
    have h1 := hc.len
    have h2 := hc.inv.met.len
    have := h.few
    simp at h1
    omega
  next => simp

theorem codeOf_64 {ns : List Nd} {r : Int} (hwf : Wf ns) : ∀ x ∈ codeOf ns r, In64 x := by
  unfold codeOf
  split
  next h => exact (coded ns 6 (codG_of_valid h hwf) (by have := h.few; omega) (ns.length + 1) r ([], []) (CInv.start ns) h.root0 h.root (by simp)).inv.wf
  next => simp

end Go.Proofs.Ytkgnijbdbkopkab

namespace Go.Proofs.Ytkgnijbdbkopkab
open Go.RowKit
set_option linter.unusedVariables false

/-- the nodes of ns that D names lie in ms at the places that g tells -/
structure Iso (ns ms : List Nd) (D : Int → Prop) (g : Int → Int) : Prop where
  dom : ∀ x, D x → 0 ≤ x ∧ x < ns.length
  rng : ∀ x, D x → 0 ≤ g x ∧ g x < ms.length
  inj : ∀ x y, D x → D y → g x = g y → x = y
  node : ∀ (i : Nat) (n : Nd), D (i : Int) → ns[i]? = some n → ms[(g (i : Int)).toNat]? = some ⟨n.kind, n.value, n.kids.map g⟩
  closed : ∀ (i : Nat) (n : Nd), D (i : Int) → ns[i]? = some n → ∀ k ∈ n.kids, D k

theorem Iso.get {ns ms : List Nd} {D : Int → Prop} {g : Int → Int} (h : Iso ns ms D g) {x : Int} (hx : D x) : ∃ (i : Nat) (n : Nd), x = (i : Int) ∧ ns[i]? = some n ∧ ms[(g x).toNat]? = some ⟨n.kind, n.value, n.kids.map g⟩ := by
  obtain ⟨h0, h1⟩ := h.dom x hx
  obtain ⟨i, rfl⟩ := Int.eq_ofNat_of_zero_le h0
  have hi : i < ns.length := by omega
  exact ⟨i, ns[i], rfl, List.getElem?_eq_getElem hi, h.node i _ hx (List.getElem?_eq_getElem hi)⟩

theorem Iso.kids {ns ms : List Nd} {D : Int → Prop} {g : Int → Int} (h : Iso ns ms D g) {x : Int} (hx : D x) : kidsOf ms (g x) = (kidsOf ns x).map g := by
  obtain ⟨i, n, rfl, h1, h2⟩ := h.get hx
  rw [kidsOf_at h1]
  unfold kidsOf
  rw [h2]; rfl
theorem Iso.kind {ns ms : List Nd} {D : Int → Prop} {g : Int → Int} (h : Iso ns ms D g) {x : Int} (hx : D x) : kindOf ms (g x) = kindOf ns x := by
  obtain ⟨i, n, rfl, h1, h2⟩ := h.get hx
  rw [kindOf_at h1]
  unfold kindOf
  rw [h2]; rfl
theorem Iso.value {ns ms : List Nd} {D : Int → Prop} {g : Int → Int} (h : Iso ns ms D g) {x : Int} (hx : D x) : valueOf ms (g x) = valueOf ns x := by
  obtain ⟨i, n, rfl, h1, h2⟩ := h.get hx
  rw [valueOf_at h1]
  unfold valueOf
  rw [h2]; rfl
theorem Iso.kidsD {ns ms : List Nd} {D : Int → Prop} {g : Int → Int} (h : Iso ns ms D g) {x : Int} (hx : D x) : ∀ k ∈ kidsOf ns x, D k := by
  obtain ⟨i, n, rfl, h1, h2⟩ := h.get hx
  rw [kidsOf_at h1]
  exact h.closed i n hx h1

theorem map_mem {D : Int → Prop} {g : Int → Int} (hi : ∀ x y, D x → D y → g x = g y → x = y) {L : List Int} (hL : ∀ y ∈ L, D y) {x : Int} (hx : D x) : g x ∈ L.map g ↔ x ∈ L := by
  constructor
  · intro h
    obtain ⟨y, hy, e⟩ := List.mem_map.1 h
    have := hi y x (hL y hy) hx e
    subst this
    exact hy
  · exact fun h => List.mem_map.2 ⟨x, h, rfl⟩

theorem idx_map {D : Int → Prop} {g : Int → Int} (hi : ∀ x y, D x → D y → g x = g y → x = y) {x : Int} (hx : D x) : ∀ L : List Int, (∀ y ∈ L, D y) → (L.map g).idxOf (g x) = L.idxOf x
  | [], _ => rfl
  | a :: L, h => by
    rw [List.map_cons, List.idxOf_cons, List.idxOf_cons, idx_map hi hx L (fun y hy => h y (by simp [hy]))]
    by_cases e : a = x
    · subst e; simp
    · have e2 : g a ≠ g x := fun e2 => e (hi a x (h a (by simp)) hx e2)
      have b1 : (a == x) = false := beq_eq_false_iff_ne.2 e
      have b2 : (g a == g x) = false := beq_eq_false_iff_ne.2 e2
      rw [b1, b2]

theorem place_map {D : Int → Prop} {g : Int → Int} (hi : ∀ x y, D x → D y → g x = g y → x = y) {L : List Int} (hL : ∀ y ∈ L, D y) {x : Int} (hx : D x) : place (L.map g) (g x) = place L x := by
  by_cases h : x ∈ L
  · rw [place_pos h, place_pos ((map_mem hi hL hx).2 h), idx_map hi hx L hL]
  · rw [place_neg h, place_neg (fun h2 => h ((map_mem hi hL hx).1 h2))]

/-- the walk meets the same nodes, by their new names -/
theorem dfs_iso {ns ms : List Nd} {D : Int → Prop} {g : Int → Int} (h : Iso ns ms D g) : ∀ (f : Nat) (x : Int) (L : List Int), D x → (∀ y ∈ L, D y) → dfs ms anyB f (g x) (L.map g) = (dfs ns anyB f x L).map g ∧ ∀ y ∈ dfs ns anyB f x L, D y
  | 0, _, _, _, hL => ⟨rfl, hL⟩
  | f + 1, x, L, hx, hL => by
    by_cases hs : x ∈ L
    · rw [dfs_stop (.inr hs), dfs_stop (.inr ((map_mem h.inj hL hx).2 hs))]
      exact ⟨rfl, hL⟩
    · have hs2 : g x ∉ L.map g := fun h2 => hs ((map_mem h.inj hL hx).1 h2)
      rw [dfs_go rfl hs, dfs_go rfl hs2, h.kids hx]
      have key : ∀ (xs M : List Int), (∀ k ∈ xs, D k) → (∀ y ∈ M, D y) → dfsL ms anyB f (xs.map g) (M.map g) = (dfsL ns anyB f xs M).map g ∧ ∀ y ∈ dfsL ns anyB f xs M, D y := by
        intro xs
        induction xs with
        | nil => intro M _ hM; exact ⟨rfl, hM⟩
        | cons a xs ih =>
          intro M hxs hM
          have h1 := dfs_iso h f a M (hxs a (by simp)) hM
          rw [List.map_cons, dfsL_cons, dfsL_cons, h1.1]
          exact ih _ (fun k hk => hxs k (by simp [hk])) h1.2
      have := key (kidsOf ns x) (L ++ [x]) (h.kidsD hx) (fun y hy => by
        rcases List.mem_append.1 hy with hy | hy
        · exact hL y hy
        · simp at hy; subst hy; exact hx)
      rw [List.map_append] at this
      exact this

/-- the walk writes the same -/
theorem cod_iso {ns ms : List Nd} {D : Int → Prop} {g : Int → Int} (h : Iso ns ms D g) : ∀ (f : Nat) (x : Int) (p : CM), D x → (∀ y ∈ p.2, D y) → cod ms f (g x) (p.1, p.2.map g) = ((cod ns f x p).1, (cod ns f x p).2.map g) ∧ ∀ y ∈ (cod ns f x p).2, D y
  | 0, _, _, _, hL => ⟨rfl, hL⟩
  | f + 1, x, p, hx, hL => by
    by_cases hs : x ∈ p.2
    · rw [cod_seen hs, cod_seen (p := (p.1, p.2.map g)) ((map_mem h.inj hL hx).2 hs), place_map h.inj hL hx]
      exact ⟨rfl, hL⟩
    · have hs2 : g x ∉ p.2.map g := fun h2 => hs ((map_mem h.inj hL hx).1 h2)
      rw [cod_new hs, cod_new (p := (p.1, p.2.map g)) hs2, h.kids hx]
      have key : ∀ (xs : List Int) (q : CM), (∀ k ∈ xs, D k) → (∀ y ∈ q.2, D y) → codL ms f (xs.map g) (q.1, q.2.map g) = ((codL ns f xs q).1, (codL ns f xs q).2.map g) ∧ ∀ y ∈ (codL ns f xs q).2, D y := by
        intro xs
        induction xs with
        | nil => intro q _ hq; exact ⟨rfl, hq⟩
        | cons a xs ih =>
          intro q hxs hq
          have h1 := cod_iso h f a q (hxs a (by simp)) hq
          show codL ms f (xs.map g) (cod ms f (g a) (q.1, q.2.map g)) = ((codL ns f xs (cod ns f a q)).1, (codL ns f xs (cod ns f a q)).2.map g) ∧ ∀ y ∈ (codL ns f xs (cod ns f a q)).2, D y
          rw [h1.1]
          exact ih _ (fun k hk => hxs k (by simp [hk])) h1.2
      have hput : codPut ms (g x) (p.1, p.2.map g) = ((codPut ns x p).1, (codPut ns x p).2.map g) := by
        unfold codPut
        rw [h.kind hx, h.value hx, h.kids hx, List.length_map]
        simp only
        split <;> simp
      rw [hput]
      refine key (kidsOf ns x) (codPut ns x p) (h.kidsD hx) (fun y hy => ?_)
      replace hy : y ∈ (if kindOf ns x = 0 then p.2 else p.2 ++ [x]) := hy
      split at hy
      · exact hL y hy
      · rcases List.mem_append.1 hy with hy | hy
        · exact hL y hy
        · simp at hy; subst hy; exact hx

/-- more fuel writes nothing else -/
theorem cod_fuel {ns : List Nd} {K : Nat} (hg : CodG ns K) (hl : ns.length ≤ 1048576) : ∀ (f : Nat) (x : Int) (p : CM), CInv ns p → 0 ≤ x → x < ns.length → ns.length < f + p.2.length → cod ns (f + 1) x p = cod ns f x p
  | 0, _, p, hp, _, _, hf => by have := hp.met.len; omega
  | f + 1, x, p, hp, h0, h1, hf => by
    by_cases hs : x ∈ p.2
    · rw [cod_seen hs, cod_seen hs]
    · rw [cod_new hs, cod_new hs]
      obtain ⟨k, rfl⟩ := Int.eq_ofNat_of_zero_le h0
      have hk : k < ns.length := by omega
      have hat := List.getElem?_eq_getElem hk
      have hput := CInv.put hg hp hat hs
      have key : ∀ (xs : List Int) (q : CM), CInv ns q → (∀ y ∈ xs, 0 ≤ y ∧ y < ns.length) → ns.length < f + q.2.length → codL ns (f + 1) xs q = codL ns f xs q := by
        intro xs
        induction xs with
        | nil => intro q _ _ _; rfl
        | cons a xs ih =>
          intro q hq hxs hf2
          have e := cod_fuel hg hl f a q hq (hxs a (by simp)).1 (hxs a (by simp)).2 hf2
          have hc := coded ns K hg hl f a q hq (hxs a (by simp)).1 (hxs a (by simp)).2 hf2
          show codL ns (f + 1) xs (cod ns (f + 1) a q) = codL ns f xs (cod ns f a q)
          rw [e]
          exact ih _ hc.inv (fun y hy => hxs y (by simp [hy])) (by have := hc.grow; omega)
      by_cases hz : kindOf ns (k : Int) = 0
      · have hk0 : kidsOf ns (k : Int) = [] := by
          rw [kindOf_at hat] at hz
          rw [kidsOf_at hat]
          exact hg.leaf _ (List.getElem_mem hk) hz
        rw [hk0]; rfl
      · refine key _ _ hput (hg.kin.of _) ?_
        have : (codPut ns (k : Int) p).2.length = p.2.length + 1 := by
          unfold codPut
          rw [if_neg hz]
          simp
        omega

theorem cod_fuels {ns : List Nd} {K : Nat} (hg : CodG ns K) (hl : ns.length ≤ 1048576) (f : Nat) (x : Int) (p : CM) (hp : CInv ns p) (h0 : 0 ≤ x) (h1 : x < ns.length) (hf : ns.length < f + p.2.length) : ∀ d, cod ns (f + d) x p = cod ns f x p
  | 0 => rfl
  | d + 1 => by
    rw [← Nat.add_assoc, cod_fuel hg hl (f + d) x p hp h0 h1 (by omega)]
    exact cod_fuels hg hl f x p hp h0 h1 hf d

/-- more fuel meets nothing else -/
theorem dfs_fuel {ns : List Nd} (hk : KidsIn ns) : ∀ (f : Nat) (x : Int) (L : List Int), Met ns L → 0 ≤ x → x < ns.length → ns.length < f + L.length → dfs ns anyB (f + 1) x L = dfs ns anyB f x L
  | 0, x, L, hL, _, _, hf => by have := hL.len; omega
  | f + 1, x, L, hL, h0, h1, hf => by
    by_cases hs : x ∈ L
    · rw [dfs_stop (.inr hs), dfs_stop (.inr hs)]
    · rw [dfs_go rfl hs, dfs_go rfl hs]
      have key : ∀ (xs M : List Int), Met ns M → (∀ y ∈ xs, 0 ≤ y ∧ y < ns.length) → ns.length < f + M.length → dfsL ns anyB (f + 1) xs M = dfsL ns anyB f xs M := by
        intro xs
        induction xs with
        | nil => intro M _ _ _; rfl
        | cons a xs ih =>
          intro M hM hxs hf2
          have e := dfs_fuel hk f a M hM (hxs a (by simp)).1 (hxs a (by simp)).2 hf2
          have hw := walked ns anyB hk f a M hM (hxs a (by simp)).1 (hxs a (by simp)).2 hf2
          rw [dfsL_cons, dfsL_cons, e]
          exact ih _ hw.met (fun y hy => hxs y (by simp [hy])) (by have := hw.len; omega)
      exact key _ _ (hL.snoc ⟨h0, h1⟩ hs) (hk.of x) (by simp; omega)

theorem dfs_fuels {ns : List Nd} (hk : KidsIn ns) (f : Nat) (x : Int) (L : List Int) (hL : Met ns L) (h0 : 0 ≤ x) (h1 : x < ns.length) (hf : ns.length < f + L.length) : ∀ d, dfs ns anyB (f + d) x L = dfs ns anyB f x L
  | 0 => rfl
  | d + 1 => by
    rw [← Nat.add_assoc, dfs_fuel hk (f + d) x L hL h0 h1 (by omega)]
    exact dfs_fuels hk f x L hL h0 h1 hf d

theorem treach_iso {ns ms : List Nd} {D : Int → Prop} {g : Int → Int} (h : Iso ns ms D g) {x : Int} (hx : D x) {z : Int} (ht : TReach ms (g x) z) : ∃ y, D y ∧ z = g y ∧ TReach ns x y := by
  induction ht with
  | kid z hz =>
    rw [h.kids hx] at hz
    obtain ⟨k, hk, rfl⟩ := List.mem_map.1 hz
    exact ⟨k, h.kidsD hx k hk, rfl, .kid k hk⟩
  | step y z _ hy2 hz ih =>
    obtain ⟨u, hu, rfl, hxu⟩ := ih
    rw [h.kids hu] at hz
    rw [h.kind hu] at hy2
    obtain ⟨k, hk, rfl⟩ := List.mem_map.1 hz
    exact ⟨k, h.kidsD hu k hk, rfl, .step u k hxu hy2 hk⟩

theorem dict_iso {ns ms : List Nd} {D : Int → Prop} {g : Int → Int} (h : Iso ns ms D g) {kids : List Int} (hk : ∀ k ∈ kids, D k) (hd : DictOk ns kids) : DictOk ms (kids.map g) := by
  have back : ∀ (p : Nat) (m : Nd), KidNd ms (kids.map g) p m → ∃ n, KidNd ns kids p n ∧ m.kind = n.kind ∧ m.value = n.value := by
    rintro p m ⟨k, h1, h2⟩
    rw [List.getElem?_map] at h1
    cases hx : kids[p]? with
    | none => rw [hx] at h1; cases h1
    | some x =>
      rw [hx] at h1
      have e : g x = (k : Int) := by simpa using h1
      obtain ⟨i, n, rfl, g1, g2⟩ := h.get (hk x (List.mem_of_getElem? hx))
      rw [e, Int.toNat_natCast, h2] at g2
      injection g2 with g2
      subst g2
      exact ⟨n, ⟨i, hx, g1⟩, rfl, rfl⟩
  refine ⟨by rw [List.length_map]; exact hd.even, fun p m hp hm => ?_, fun p q m n hp hq hlt hm hn => ?_⟩
  · obtain ⟨n, h1, h2, _⟩ := back p m hm
    have := hd.key p n hp h1
    unfold IsKey at this ⊢
    rw [h2]
    exact this
  · obtain ⟨m', h1, h2, h3⟩ := back p m hm
    obtain ⟨n', h4, h5, h6⟩ := back q n hn
    have := hd.diff p q m' n' hp hq hlt h1 h4
    unfold SameKey at this ⊢
    rw [h2, h3, h5, h6]
    exact this

theorem Iso.valid {ns ms : List Nd} {D : Int → Prop} {g : Int → Int} (h : Iso ns ms D g) {r : Int} (hv : ValidG ns r) (hr : D r) (hon : ∀ j : Nat, j < ms.length → ∃ x, D x ∧ g x = (j : Int)) (h12 : ms.length ≤ 12) : ValidG ms (g r) := by
  have hrr := h.rng r hr
  have hat : ∀ (j : Nat) (m : Nd), ms[j]? = some m → ∃ (i : Nat) (n : Nd), D (i : Int) ∧ g (i : Int) = (j : Int) ∧ ns[i]? = some n ∧ m = ⟨n.kind, n.value, n.kids.map g⟩ := by
    intro j m hj
    obtain ⟨x, hx, hgx⟩ := hon j (List.getElem?_eq_some_iff.1 hj).1
    obtain ⟨i, n, rfl, g1, g2⟩ := h.get hx
    rw [hgx, Int.toNat_natCast, hj] at g2
    injection g2 with g2
    exact ⟨i, n, hx, hgx, g1, g2⟩
  refine ⟨by omega, h12, hrr.1, hrr.2, fun m hm => ?_, fun j m hj hk2 ht => ?_⟩
  · obtain ⟨j, hj, rfl⟩ := List.getElem_of_mem hm
    obtain ⟨i, n, hi, _, g1, g2⟩ := hat j _ (List.getElem?_eq_getElem hj)
    rw [g2]
    have hok := hv.nodes n (List.mem_of_getElem? g1)
    have hkD := h.closed i n hi g1
    refine ⟨by simpa using hok.few, fun y hy => ?_, ?_⟩
    · obtain ⟨k, hk, rfl⟩ := List.mem_map.1 hy
      exact h.rng k (hkD k hk)
    · have := hok.kind
      unfold KindOk at this ⊢
      simp only [List.length_map]
      rcases this with h1 | h1 | h1 | h1 | h1 | h1
      · exact .inl h1
      · exact .inr (.inl h1)
      · exact .inr (.inr (.inl h1))
      · exact .inr (.inr (.inr (.inl h1)))
      · exact .inr (.inr (.inr (.inr (.inl ⟨h1.1, h1.2.1, dict_iso h hkD h1.2.2⟩))))
      · exact .inr (.inr (.inr (.inr (.inr h1))))
  · obtain ⟨i, n, hi, hgi, g1, g2⟩ := hat j m hj
    subst g2
    rw [← hgi] at ht
    obtain ⟨y, hy, e, hty⟩ := treach_iso h hi ht
    have := h.inj _ _ hi hy e
    subst this
    exact hv.tuples i n g1 hk2 hty

/-- the codes are equal, whatever the numbers of nodes -/
theorem Iso.code {ns ms : List Nd} {D : Int → Prop} {g : Int → Int} (h : Iso ns ms D g) {r : Int} (hv : ValidG ns r) (hw : ValidG ms (g r)) (hwf : Wf ms) (hr : D r) (hle : ms.length ≤ ns.length) : (cod ms (ms.length + 1) (g r) ([], [])).1 = (cod ns (ns.length + 1) r ([], [])).1 := by
  obtain ⟨d, hd⟩ := Nat.exists_eq_add_of_le hle
  have h1 := cod_fuels (codG_of_valid hw hwf) (by have := hw.few; omega) (ms.length + 1) (g r) ([], []) (CInv.start _) hw.root0 hw.root (by simp) d
  have h2 := (cod_iso h (ns.length + 1) r ([], []) hr (fun y hy => by cases hy)).1
  have e : ms.length + 1 + d = ns.length + 1 := by omega
  rw [e] at h1
  rw [← h1]
  have h3 := congrArg Prod.fst h2
  simpa using h3

end Go.Proofs.Ytkgnijbdbkopkab

namespace Go.Proofs.Ytkgnijbdbkopkab
open Go.RowKit Go.Maps
set_option linter.unusedVariables false

theorem validG_bounds {ns : List Nd} {r : Int} (hv : ValidG ns r) : ns.length ≤ 12 ∧ (∀ n ∈ ns, n.kids.length ≤ 1000 ∧ ∀ k ∈ n.kids, 0 ≤ k ∧ k ≤ 1000000) := by
  refine ⟨hv.few, fun n hn => ⟨by have := (hv.nodes n hn).few; omega, fun k hk => ?_⟩⟩
  have h1 := validG_kids hv n hn k hk
  have h2 := hv.few
  omega

theorem RowN.wfJ {ns ms : List Nd} {r s : Int} {w : World} {B B2 : Nat} {A A2 : Option Addr} (hv : ValidG ns r) (hw : ValidG ms s) (h1 : NdsAt w B A ns) (h2 : NdsAt w B2 A2 ms) : WfN (joinNs ns ms) := by
  have w1 := h1.wf
  have w2 := h2.wf
  intro n hn
  unfold joinNs at hn
  rcases List.mem_append.1 hn with hn | hn
  · exact w1 n hn
  · obtain ⟨m, hm, rfl⟩ := List.mem_map.1 hn
    obtain ⟨a1, a2, a3, a4⟩ := w2 m hm
    refine ⟨a1, a2, fun x hx => ?_, by simpa [shiftNd] using a4⟩
    obtain ⟨k, hk, rfl⟩ := List.mem_map.1 (show x ∈ m.kids.map (fun k => (ns.length : Int) + k) from hx)
    have h3 := (validG_bounds hw).2 m hm
    have h4 := h3.2 k hk
    have h5 := hv.few
    constructor <;> omega

theorem RowN.capJ {w : World} {base : Nat} {A : Option Addr} {c : Nat} {ns : List Nd} (h : RowN w base A c ns) : ns.length ≤ c := by
  obtain ⟨cs, h1, _⟩ := h.row
  rcases h1.2 with ⟨_, h2⟩ | ⟨g, cap, cur, hv, _, _, hle, _⟩
  · omega
  · injection hv with _ _ hv
    omega

end Go.Proofs.Ytkgnijbdbkopkab

namespace Go.Proofs.Ytkgnijbdbkopkab
open Go.RowKit Go.Maps
set_option linter.unusedVariables false

set_option maxHeartbeats 1000000 in
theorem haveEqualRoots_any (A B C : Option Addr) (nl ml ca cb cc : Nat) (r s : Int) (cls : List Int) (w : World) (hC : IntsAt w w.heap.size C cls) (hr0 : 0 ≤ r) (hr1 : r < cls.length) (hs0 : 0 ≤ s) (hs1 : nl + s < cls.length) (hl : cls.length ≤ 1000) :
    Calls Try.prog 15 #[.agg #[.slice A nl ca, .int .i64 r], .agg #[.slice B ml cb, .int .i64 s], .slice C cls.length cc] w fun e w' => e = .returned (.bool (decide (look cls r = look cls ((nl : Int) + s)))) ∧ Below w.heap.size w w' := by
  obtain ⟨i, rfl⟩ := Int.eq_ofNat_of_zero_le hr0
  obtain ⟨j, rfl⟩ := Int.eq_ofNat_of_zero_le hs0
  obtain ⟨b, off, x, rfl, hbl, hx, _, cx⟩ := hC.at_ (k := i) (by omega)
  obtain ⟨b2, off2, y, hb2, _, hy, _, cy⟩ := hC.at_ (k := nl + j) (by omega)
  injection hb2 with hb2
  injection hb2 with e1 e2 _
  subst e1
  subst e2
  have hB2 : Below w.heap.size w ((w.alloc (.cells #[.slice A nl ca, .int .i64 (i : Int)] 25)).alloc (.cells #[.slice B ml cb, .int .i64 (j : Int)] 25)) := ((Below.refl _ _).alloc (Nat.le_refl _) _).alloc (by simp) _
  have lA := (Lies.new w #[.slice A nl ca, .int .i64 (i : Int)] 25).alloc (.cells #[.slice B ml cb, .int .i64 (j : Int)] 25)
  have lB := Lies.new (w.alloc (.cells #[.slice A nl ca, .int .i64 (i : Int)] 25)) #[.slice B ml cb, .int .i64 (j : Int)] 25
  simp only [World.size_alloc] at lB
  have hx2 : look cls (i : Int) = x := look_at hx
  have hy2 : look cls ((nl : Int) + (j : Int)) = y := by
    have := look_at hy
    rwa [Int.natCast_add] at this
  have cx := (hB2.cell (p := ⟨b, off + i, none⟩) hbl).trans cx
  have cy := (hB2.cell (p := ⟨b, off + (nl + j), none⟩) hbl).trans cy
  have H1 := hide hx2
  have H2 := hide hy2
  clear hC hx hy hx2 hy2
  go_enter Try.func15, Try.ntmps15
  go_upto_region 1 with fail
  generalize (w.alloc (.cells #[.slice A nl ca, .int .i64 (i : Int)] 25)).alloc (.cells #[.slice B ml cb, .int .i64 (j : Int)] 25) = W at hB2 lA lB cx cy ⊢
  have e0 := lA.cell 0
  have e1 := lA.cell 1
  have d1 := lB.cell 1
  simp only [List.getElem?_toArray, List.getElem?_cons_zero, List.getElem?_cons_succ] at e0 e1 d1
  have HB := hide hB2
  have q1 : (0 : Int) ≤ (i : Int) := by omega
  have q2 : (i : Int) < (cls.length : Int) := by omega
  have q3 : (0 : Int) ≤ (nl : Int) + (j : Int) := by omega
  have q4 : (nl : Int) + (j : Int) < (cls.length : Int) := by omega
  have q5 : IntKind.i64.wrap ((nl : Int) + (j : Int)) = (nl : Int) + (j : Int) := by rw [IntKind.wrap_i64]; omega
  have q6 : ((nl : Int) + (j : Int)).toNat = nl + j := by omega
  clear lA lB hB2
  go_quiet (fail)
  go_wp2
  go_ret
  exact ⟨ret_bool (by rw [H1.out, H2.out]; first | rfl | simp), below_drewN HB.out _⟩

end Go.Proofs.Ytkgnijbdbkopkab
