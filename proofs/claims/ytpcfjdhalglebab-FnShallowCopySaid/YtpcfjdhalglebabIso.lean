/-
  Graphs that differ by the names of their nodes alone: what is reached, what is written and what is valid does not tell them apart. Mathematics only.
-/
import Derived.Test.YtpcfjdhalglebabPjAk
import Derived.Test.YtpcfjdhalglebabPjAm
namespace Go.Proofs.Ytpcfjdhalglebab
open Go.RowKit
set_option linter.unusedVariables false

/-- the nodes of ns that D names lie in ms at the places that g tells -/
structure Iso (ns ms : List Nd) (D : Int → Prop) (g : Int → Int) : Prop where
  dom : ∀ x, D x → 0 ≤ x ∧ x < ns.length
  rng : ∀ x, D x → 0 ≤ g x ∧ g x < ms.length
  inj : ∀ x y, D x → D y → g x = g y → x = y
  node : ∀ (i : Nat) (n : Nd), D (i : Int) → ns[i]? = some n → ms[(g (i : Int)).toNat]? = some ⟨n.kind, n.value, n.kids.map g⟩
  closed : ∀ (i : Nat) (n : Nd), D (i : Int) → ns[i]? = some n → ∀ k ∈ n.kids, D k

theorem Iso.get {ns ms : List Nd} {D : Int → Prop} {g : Int → Int} (h : Iso ns ms D g) {x : Int} (hx : D x) : ∃ (i : Nat) (n : Nd), x = (i : Int) ∧ ns[i]? = some n ∧ ms[(g x).toNat]? = some ⟨n.kind, n.value, n.kids.map g⟩ := by
  obtain ⟨h0, h1⟩ := h.dom x hx
  obtain ⟨i, rfl⟩ := Int.eq_ofNat_of_zero_le h0
  have hi : i < ns.length := by omega
  exact ⟨i, ns[i], rfl, List.getElem?_eq_getElem hi, h.node i _ hx (List.getElem?_eq_getElem hi)⟩

theorem Iso.kids {ns ms : List Nd} {D : Int → Prop} {g : Int → Int} (h : Iso ns ms D g) {x : Int} (hx : D x) : kidsOf ms (g x) = (kidsOf ns x).map g := by
  obtain ⟨i, n, rfl, h1, h2⟩ := h.get hx
  rw [kidsOf_at h1]
  unfold kidsOf
  rw [h2]; rfl
theorem Iso.kind {ns ms : List Nd} {D : Int → Prop} {g : Int → Int} (h : Iso ns ms D g) {x : Int} (hx : D x) : kindOf ms (g x) = kindOf ns x := by
  obtain ⟨i, n, rfl, h1, h2⟩ := h.get hx
  rw [kindOf_at h1]
  unfold kindOf
  rw [h2]; rfl
theorem Iso.value {ns ms : List Nd} {D : Int → Prop} {g : Int → Int} (h : Iso ns ms D g) {x : Int} (hx : D x) : valueOf ms (g x) = valueOf ns x := by
  obtain ⟨i, n, rfl, h1, h2⟩ := h.get hx
  rw [valueOf_at h1]
  unfold valueOf
  rw [h2]; rfl
theorem Iso.kidsD {ns ms : List Nd} {D : Int → Prop} {g : Int → Int} (h : Iso ns ms D g) {x : Int} (hx : D x) : ∀ k ∈ kidsOf ns x, D k := by
  obtain ⟨i, n, rfl, h1, h2⟩ := h.get hx
  rw [kidsOf_at h1]
  exact h.closed i n hx h1

theorem map_mem {D : Int → Prop} {g : Int → Int} (hi : ∀ x y, D x → D y → g x = g y → x = y) {L : List Int} (hL : ∀ y ∈ L, D y) {x : Int} (hx : D x) : g x ∈ L.map g ↔ x ∈ L := by
  constructor
  · intro h
    obtain ⟨y, hy, e⟩ := List.mem_map.1 h
    have := hi y x (hL y hy) hx e
    subst this
    exact hy
  · exact fun h => List.mem_map.2 ⟨x, h, rfl⟩

theorem idx_map {D : Int → Prop} {g : Int → Int} (hi : ∀ x y, D x → D y → g x = g y → x = y) {x : Int} (hx : D x) : ∀ L : List Int, (∀ y ∈ L, D y) → (L.map g).idxOf (g x) = L.idxOf x
  | [], _ => rfl
  | a :: L, h => by
    rw [List.map_cons, List.idxOf_cons, List.idxOf_cons, idx_map hi hx L (fun y hy => h y (by simp [hy]))]
    by_cases e : a = x
    · subst e; simp
    · have e2 : g a ≠ g x := fun e2 => e (hi a x (h a (by simp)) hx e2)
      have b1 : (a == x) = false := beq_eq_false_iff_ne.2 e
      have b2 : (g a == g x) = false := beq_eq_false_iff_ne.2 e2
      rw [b1, b2]

theorem place_map {D : Int → Prop} {g : Int → Int} (hi : ∀ x y, D x → D y → g x = g y → x = y) {L : List Int} (hL : ∀ y ∈ L, D y) {x : Int} (hx : D x) : place (L.map g) (g x) = place L x := by
  by_cases h : x ∈ L
  · rw [place_pos h, place_pos ((map_mem hi hL hx).2 h), idx_map hi hx L hL]
  · rw [place_neg h, place_neg (fun h2 => h ((map_mem hi hL hx).1 h2))]

/-- the walk meets the same nodes, by their new names -/
theorem dfs_iso {ns ms : List Nd} {D : Int → Prop} {g : Int → Int} (h : Iso ns ms D g) : ∀ (f : Nat) (x : Int) (L : List Int), D x → (∀ y ∈ L, D y) → dfs ms anyB f (g x) (L.map g) = (dfs ns anyB f x L).map g ∧ ∀ y ∈ dfs ns anyB f x L, D y
  | 0, _, _, _, hL => ⟨rfl, hL⟩
  | f + 1, x, L, hx, hL => by
    by_cases hs : x ∈ L
    · rw [dfs_stop (.inr hs), dfs_stop (.inr ((map_mem h.inj hL hx).2 hs))]
      exact ⟨rfl, hL⟩
    · have hs2 : g x ∉ L.map g := fun h2 => hs ((map_mem h.inj hL hx).1 h2)
      rw [dfs_go rfl hs, dfs_go rfl hs2, h.kids hx]
      have key : ∀ (xs M : List Int), (∀ k ∈ xs, D k) → (∀ y ∈ M, D y) → dfsL ms anyB f (xs.map g) (M.map g) = (dfsL ns anyB f xs M).map g ∧ ∀ y ∈ dfsL ns anyB f xs M, D y := by
        intro xs
        induction xs with
        | nil => intro M _ hM; exact ⟨rfl, hM⟩
        | cons a xs ih =>
          intro M hxs hM
          have h1 := dfs_iso h f a M (hxs a (by simp)) hM
          rw [List.map_cons, dfsL_cons, dfsL_cons, h1.1]
          exact ih _ (fun k hk => hxs k (by simp [hk])) h1.2
      have := key (kidsOf ns x) (L ++ [x]) (h.kidsD hx) (fun y hy => by
        rcases List.mem_append.1 hy with hy | hy
        · exact hL y hy
        · simp at hy; subst hy; exact hx)
      rw [List.map_append] at this
      exact this

/-- the walk writes the same -/
theorem cod_iso {ns ms : List Nd} {D : Int → Prop} {g : Int → Int} (h : Iso ns ms D g) : ∀ (f : Nat) (x : Int) (p : CM), D x → (∀ y ∈ p.2, D y) → cod ms f (g x) (p.1, p.2.map g) = ((cod ns f x p).1, (cod ns f x p).2.map g) ∧ ∀ y ∈ (cod ns f x p).2, D y
  | 0, _, _, _, hL => ⟨rfl, hL⟩
  | f + 1, x, p, hx, hL => by
    by_cases hs : x ∈ p.2
    · rw [cod_seen hs, cod_seen (p := (p.1, p.2.map g)) ((map_mem h.inj hL hx).2 hs), place_map h.inj hL hx]
      exact ⟨rfl, hL⟩
    · have hs2 : g x ∉ p.2.map g := fun h2 => hs ((map_mem h.inj hL hx).1 h2)
      rw [cod_new hs, cod_new (p := (p.1, p.2.map g)) hs2, h.kids hx]
      have key : ∀ (xs : List Int) (q : CM), (∀ k ∈ xs, D k) → (∀ y ∈ q.2, D y) → codL ms f (xs.map g) (q.1, q.2.map g) = ((codL ns f xs q).1, (codL ns f xs q).2.map g) ∧ ∀ y ∈ (codL ns f xs q).2, D y := by
        intro xs
        induction xs with
        | nil => intro q _ hq; exact ⟨rfl, hq⟩
        | cons a xs ih =>
          intro q hxs hq
          have h1 := cod_iso h f a q (hxs a (by simp)) hq
          show codL ms f (xs.map g) (cod ms f (g a) (q.1, q.2.map g)) = ((codL ns f xs (cod ns f a q)).1, (codL ns f xs (cod ns f a q)).2.map g) ∧ ∀ y ∈ (codL ns f xs (cod ns f a q)).2, D y
          rw [h1.1]
          exact ih _ (fun k hk => hxs k (by simp [hk])) h1.2
      have hput : codPut ms (g x) (p.1, p.2.map g) = ((codPut ns x p).1, (codPut ns x p).2.map g) := by
        unfold codPut
        rw [h.kind hx, h.value hx, h.kids hx, List.length_map]
        simp only
        split <;> simp
      rw [hput]
      refine key (kidsOf ns x) (codPut ns x p) (h.kidsD hx) (fun y hy => ?_)
      replace hy : y ∈ (if kindOf ns x = 0 then p.2 else p.2 ++ [x]) := hy
      split at hy
      · exact hL y hy
      · rcases List.mem_append.1 hy with hy | hy
        · exact hL y hy
        · simp at hy; subst hy; exact hx

/-- more fuel writes nothing else -/
theorem cod_fuel {ns : List Nd} {K : Nat} (hg : CodG ns K) (hl : ns.length ≤ 1048576) : ∀ (f : Nat) (x : Int) (p : CM), CInv ns p → 0 ≤ x → x < ns.length → ns.length < f + p.2.length → cod ns (f + 1) x p = cod ns f x p
  | 0, _, p, hp, _, _, hf => by have := hp.met.len; omega
  | f + 1, x, p, hp, h0, h1, hf => by
    by_cases hs : x ∈ p.2
    · rw [cod_seen hs, cod_seen hs]
    · rw [cod_new hs, cod_new hs]
      obtain ⟨k, rfl⟩ := Int.eq_ofNat_of_zero_le h0
      have hk : k < ns.length := by omega
      have hat := List.getElem?_eq_getElem hk
      have hput := CInv.put hg hp hat hs
      have key : ∀ (xs : List Int) (q : CM), CInv ns q → (∀ y ∈ xs, 0 ≤ y ∧ y < ns.length) → ns.length < f + q.2.length → codL ns (f + 1) xs q = codL ns f xs q := by
        intro xs
        induction xs with
        | nil => intro q _ _ _; rfl
        | cons a xs ih =>
          intro q hq hxs hf2
          have e := cod_fuel hg hl f a q hq (hxs a (by simp)).1 (hxs a (by simp)).2 hf2
          have hc := coded ns K hg hl f a q hq (hxs a (by simp)).1 (hxs a (by simp)).2 hf2
          show codL ns (f + 1) xs (cod ns (f + 1) a q) = codL ns f xs (cod ns f a q)
          rw [e]
          exact ih _ hc.inv (fun y hy => hxs y (by simp [hy])) (by have := hc.grow; omega)
      by_cases hz : kindOf ns (k : Int) = 0
      · have hk0 : kidsOf ns (k : Int) = [] := by
          rw [kindOf_at hat] at hz
          rw [kidsOf_at hat]
          exact hg.leaf _ (List.getElem_mem hk) hz
        rw [hk0]; rfl
      · refine key _ _ hput (hg.kin.of _) ?_
        have : (codPut ns (k : Int) p).2.length = p.2.length + 1 := by
          unfold codPut
          rw [if_neg hz]
          simp
        omega

theorem cod_fuels {ns : List Nd} {K : Nat} (hg : CodG ns K) (hl : ns.length ≤ 1048576) (f : Nat) (x : Int) (p : CM) (hp : CInv ns p) (h0 : 0 ≤ x) (h1 : x < ns.length) (hf : ns.length < f + p.2.length) : ∀ d, cod ns (f + d) x p = cod ns f x p
  | 0 => rfl
  | d + 1 => by
    rw [← Nat.add_assoc, cod_fuel hg hl (f + d) x p hp h0 h1 (by omega)]
    exact cod_fuels hg hl f x p hp h0 h1 hf d

/-- more fuel meets nothing else -/
theorem dfs_fuel {ns : List Nd} (hk : KidsIn ns) : ∀ (f : Nat) (x : Int) (L : List Int), Met ns L → 0 ≤ x → x < ns.length → ns.length < f + L.length → dfs ns anyB (f + 1) x L = dfs ns anyB f x L
  | 0, x, L, hL, _, _, hf => by have := hL.len; omega
  | f + 1, x, L, hL, h0, h1, hf => by
    by_cases hs : x ∈ L
    · rw [dfs_stop (.inr hs), dfs_stop (.inr hs)]
    · rw [dfs_go rfl hs, dfs_go rfl hs]
      have key : ∀ (xs M : List Int), Met ns M → (∀ y ∈ xs, 0 ≤ y ∧ y < ns.length) → ns.length < f + M.length → dfsL ns anyB (f + 1) xs M = dfsL ns anyB f xs M := by
        intro xs
        induction xs with
        | nil => intro M _ _ _; rfl
        | cons a xs ih =>
          intro M hM hxs hf2
          have e := dfs_fuel hk f a M hM (hxs a (by simp)).1 (hxs a (by simp)).2 hf2
          have hw := walked ns anyB hk f a M hM (hxs a (by simp)).1 (hxs a (by simp)).2 hf2
          rw [dfsL_cons, dfsL_cons, e]
          exact ih _ hw.met (fun y hy => hxs y (by simp [hy])) (by have := hw.len; omega)
      exact key _ _ (hL.snoc ⟨h0, h1⟩ hs) (hk.of x) (by simp; omega)

theorem dfs_fuels {ns : List Nd} (hk : KidsIn ns) (f : Nat) (x : Int) (L : List Int) (hL : Met ns L) (h0 : 0 ≤ x) (h1 : x < ns.length) (hf : ns.length < f + L.length) : ∀ d, dfs ns anyB (f + d) x L = dfs ns anyB f x L
  | 0 => rfl
  | d + 1 => by
    rw [← Nat.add_assoc, dfs_fuel hk (f + d) x L hL h0 h1 (by omega)]
    exact dfs_fuels hk f x L hL h0 h1 hf d

theorem treach_iso {ns ms : List Nd} {D : Int → Prop} {g : Int → Int} (h : Iso ns ms D g) {x : Int} (hx : D x) {z : Int} (ht : TReach ms (g x) z) : ∃ y, D y ∧ z = g y ∧ TReach ns x y := by
  induction ht with
  | kid z hz =>
    rw [h.kids hx] at hz
    obtain ⟨k, hk, rfl⟩ := List.mem_map.1 hz
    exact ⟨k, h.kidsD hx k hk, rfl, .kid k hk⟩
  | step y z _ hy2 hz ih =>
    obtain ⟨u, hu, rfl, hxu⟩ := ih
    rw [h.kids hu] at hz
    rw [h.kind hu] at hy2
    obtain ⟨k, hk, rfl⟩ := List.mem_map.1 hz
    exact ⟨k, h.kidsD hu k hk, rfl, .step u k hxu hy2 hk⟩

theorem dict_iso {ns ms : List Nd} {D : Int → Prop} {g : Int → Int} (h : Iso ns ms D g) {kids : List Int} (hk : ∀ k ∈ kids, D k) (hd : DictOk ns kids) : DictOk ms (kids.map g) := by
  have back : ∀ (p : Nat) (m : Nd), KidNd ms (kids.map g) p m → ∃ n, KidNd ns kids p n ∧ m.kind = n.kind ∧ m.value = n.value := by
    rintro p m ⟨k, h1, h2⟩
    rw [List.getElem?_map] at h1
    cases hx : kids[p]? with
    | none => rw [hx] at h1; cases h1
    | some x =>
      rw [hx] at h1
      have e : g x = (k : Int) := by simpa using h1
      obtain ⟨i, n, rfl, g1, g2⟩ := h.get (hk x (List.mem_of_getElem? hx))
      rw [e, Int.toNat_natCast, h2] at g2
      injection g2 with g2
      subst g2
      exact ⟨n, ⟨i, hx, g1⟩, rfl, rfl⟩
  refine ⟨by rw [List.length_map]; exact hd.even, fun p m hp hm => ?_, fun p q m n hp hq hlt hm hn => ?_⟩
  · obtain ⟨n, h1, h2, _⟩ := back p m hm
    have := hd.key p n hp h1
    unfold IsKey at this ⊢
    rw [h2]
    exact this
  · obtain ⟨m', h1, h2, h3⟩ := back p m hm
    obtain ⟨n', h4, h5, h6⟩ := back q n hn
    have := hd.diff p q m' n' hp hq hlt h1 h4
    unfold SameKey at this ⊢
    rw [h2, h3, h5, h6]
    exact this

theorem Iso.valid {ns ms : List Nd} {D : Int → Prop} {g : Int → Int} (h : Iso ns ms D g) {r : Int} (hv : ValidG ns r) (hr : D r) (hon : ∀ j : Nat, j < ms.length → ∃ x, D x ∧ g x = (j : Int)) (h12 : ms.length ≤ 12) : ValidG ms (g r) := by
  have hrr := h.rng r hr
  have hat : ∀ (j : Nat) (m : Nd), ms[j]? = some m → ∃ (i : Nat) (n : Nd), D (i : Int) ∧ g (i : Int) = (j : Int) ∧ ns[i]? = some n ∧ m = ⟨n.kind, n.value, n.kids.map g⟩ := by
    intro j m hj
    obtain ⟨x, hx, hgx⟩ := hon j (List.getElem?_eq_some_iff.1 hj).1
    obtain ⟨i, n, rfl, g1, g2⟩ := h.get hx
    rw [hgx, Int.toNat_natCast, hj] at g2
    injection g2 with g2
    exact ⟨i, n, hx, hgx, g1, g2⟩
  refine ⟨by omega, h12, hrr.1, hrr.2, fun m hm => ?_, fun j m hj hk2 ht => ?_⟩
  · obtain ⟨j, hj, rfl⟩ := List.getElem_of_mem hm
    obtain ⟨i, n, hi, _, g1, g2⟩ := hat j _ (List.getElem?_eq_getElem hj)
    rw [g2]
    have hok := hv.nodes n (List.mem_of_getElem? g1)
    have hkD := h.closed i n hi g1
    refine ⟨by simpa using hok.few, fun y hy => ?_, ?_⟩
    · obtain ⟨k, hk, rfl⟩ := List.mem_map.1 hy
      exact h.rng k (hkD k hk)
    · have := hok.kind
      unfold KindOk at this ⊢
      simp only [List.length_map]
      rcases this with h1 | h1 | h1 | h1 | h1 | h1
      · exact .inl h1
      · exact .inr (.inl h1)
      · exact .inr (.inr (.inl h1))
      · exact .inr (.inr (.inr (.inl h1)))
      · exact .inr (.inr (.inr (.inr (.inl ⟨h1.1, h1.2.1, dict_iso h hkD h1.2.2⟩))))
      · exact .inr (.inr (.inr (.inr (.inr h1))))
  · obtain ⟨i, n, hi, hgi, g1, g2⟩ := hat j m hj
    subst g2
    rw [← hgi] at ht
    obtain ⟨y, hy, e, hty⟩ := treach_iso h hi ht
    have := h.inj _ _ hi hy e
    subst this
    exact hv.tuples i n g1 hk2 hty

/-- the codes are equal, whatever the numbers of nodes -/
theorem Iso.code {ns ms : List Nd} {D : Int → Prop} {g : Int → Int} (h : Iso ns ms D g) {r : Int} (hv : ValidG ns r) (hw : ValidG ms (g r)) (hwf : Wf ms) (hr : D r) (hle : ms.length ≤ ns.length) : (cod ms (ms.length + 1) (g r) ([], [])).1 = (cod ns (ns.length + 1) r ([], [])).1 := by
  obtain ⟨d, hd⟩ := Nat.exists_eq_add_of_le hle
  have h1 := cod_fuels (codG_of_valid hw hwf) (by have := hw.few; omega) (ms.length + 1) (g r) ([], []) (CInv.start _) hw.root0 hw.root (by simp) d
  have h2 := (cod_iso h (ns.length + 1) r ([], []) hr (fun y hy => by cases hy)).1
  have e : ms.length + 1 + d = ns.length + 1 := by omega
  rw [e] at h1
  rw [← h1]
  have h3 := congrArg Prod.fst h2
  simpa using h3

end Go.Proofs.Ytpcfjdhalglebab
