/-
  Lemmas, several texts in one: Iso, WalkT.
-/
import Derived.Test.YthgklkpfmjgeoaaPjAf
import Derived.Test.YthgklkpfmjgeoaaPjAh
import Derived.Test.YthgklkpfmjgeoaaPjAg
import Derived.Test.YthgklkpfmjgeoaaPjAb
import Derived.Test.YthgklkpfmjgeoaaPjAd
import Derived.Laws.EntriesVeiled
namespace Go.Proofs.Ythgklkpfmjgeoaa
open Go.RowKit
set_option linter.unusedVariables false

/-- the nodes of ns that D names lie in ms at the places that g tells -/
structure Iso (ns ms : List Nd) (D : Int → Prop) (g : Int → Int) : Prop where
  dom : ∀ x, D x → 0 ≤ x ∧ x < ns.length
  rng : ∀ x, D x → 0 ≤ g x ∧ g x < ms.length
  inj : ∀ x y, D x → D y → g x = g y → x = y
  node : ∀ (i : Nat) (n : Nd), D (i : Int) → ns[i]? = some n → ms[(g (i : Int)).toNat]? = some ⟨n.kind, n.value, n.kids.map g⟩
  closed : ∀ (i : Nat) (n : Nd), D (i : Int) → ns[i]? = some n → ∀ k ∈ n.kids, D k

theorem Iso.get {ns ms : List Nd} {D : Int → Prop} {g : Int → Int} (h : Iso ns ms D g) {x : Int} (hx : D x) : ∃ (i : Nat) (n : Nd), x = (i : Int) ∧ ns[i]? = some n ∧ ms[(g x).toNat]? = some ⟨n.kind, n.value, n.kids.map g⟩ := by
  obtain ⟨h0, h1⟩ := h.dom x hx
  obtain ⟨i, rfl⟩ := Int.eq_ofNat_of_zero_le h0
  have hi : i < ns.length := by omega
  exact ⟨i, ns[i], rfl, List.getElem?_eq_getElem hi, h.node i _ hx (List.getElem?_eq_getElem hi)⟩

theorem Iso.kids {ns ms : List Nd} {D : Int → Prop} {g : Int → Int} (h : Iso ns ms D g) {x : Int} (hx : D x) : kidsOf ms (g x) = (kidsOf ns x).map g := by
  obtain ⟨i, n, rfl, h1, h2⟩ := h.get hx
  rw [kidsOf_at h1]
  unfold kidsOf
  rw [h2]; rfl
theorem Iso.kind {ns ms : List Nd} {D : Int → Prop} {g : Int → Int} (h : Iso ns ms D g) {x : Int} (hx : D x) : kindOf ms (g x) = kindOf ns x := by
  obtain ⟨i, n, rfl, h1, h2⟩ := h.get hx
  rw [kindOf_at h1]
  unfold kindOf
  rw [h2]; rfl
theorem Iso.value {ns ms : List Nd} {D : Int → Prop} {g : Int → Int} (h : Iso ns ms D g) {x : Int} (hx : D x) : valueOf ms (g x) = valueOf ns x := by
  obtain ⟨i, n, rfl, h1, h2⟩ := h.get hx
  rw [valueOf_at h1]
  unfold valueOf
  rw [h2]; rfl
theorem Iso.kidsD {ns ms : List Nd} {D : Int → Prop} {g : Int → Int} (h : Iso ns ms D g) {x : Int} (hx : D x) : ∀ k ∈ kidsOf ns x, D k := by
  obtain ⟨i, n, rfl, h1, h2⟩ := h.get hx
  rw [kidsOf_at h1]
  exact h.closed i n hx h1

theorem map_mem {D : Int → Prop} {g : Int → Int} (hi : ∀ x y, D x → D y → g x = g y → x = y) {L : List Int} (hL : ∀ y ∈ L, D y) {x : Int} (hx : D x) : g x ∈ L.map g ↔ x ∈ L := by
  constructor
  · intro h
    obtain ⟨y, hy, e⟩ := List.mem_map.1 h
    have := hi y x (hL y hy) hx e
    subst this
    exact hy
  · exact fun h => List.mem_map.2 ⟨x, h, rfl⟩

theorem idx_map {D : Int → Prop} {g : Int → Int} (hi : ∀ x y, D x → D y → g x = g y → x = y) {x : Int} (hx : D x) : ∀ L : List Int, (∀ y ∈ L, D y) → (L.map g).idxOf (g x) = L.idxOf x
  | [], _ => rfl
  | a :: L, h => by
    rw [List.map_cons, List.idxOf_cons, List.idxOf_cons, idx_map hi hx L (fun y hy => h y (by simp [hy]))]
    by_cases e : a = x
    · subst e; simp
    · have e2 : g a ≠ g x := fun e2 => e (hi a x (h a (by simp)) hx e2)
      have b1 : (a == x) = false := beq_eq_false_iff_ne.2 e
      have b2 : (g a == g x) = false := beq_eq_false_iff_ne.2 e2
      rw [b1, b2]

theorem place_map {D : Int → Prop} {g : Int → Int} (hi : ∀ x y, D x → D y → g x = g y → x = y) {L : List Int} (hL : ∀ y ∈ L, D y) {x : Int} (hx : D x) : place (L.map g) (g x) = place L x := by
  by_cases h : x ∈ L
  · rw [place_pos h, place_pos ((map_mem hi hL hx).2 h), idx_map hi hx L hL]
  · rw [place_neg h, place_neg (fun h2 => h ((map_mem hi hL hx).1 h2))]

/-- the walk meets the same nodes, by their new names -/
theorem dfs_iso {ns ms : List Nd} {D : Int → Prop} {g : Int → Int} (h : Iso ns ms D g) : ∀ (f : Nat) (x : Int) (L : List Int), D x → (∀ y ∈ L, D y) → dfs ms anyB f (g x) (L.map g) = (dfs ns anyB f x L).map g ∧ ∀ y ∈ dfs ns anyB f x L, D y
  | 0, _, _, _, hL => ⟨rfl, hL⟩
  | f + 1, x, L, hx, hL => by
    by_cases hs : x ∈ L
    · rw [dfs_stop (.inr hs), dfs_stop (.inr ((map_mem h.inj hL hx).2 hs))]
      exact ⟨rfl, hL⟩
    · have hs2 : g x ∉ L.map g := fun h2 => hs ((map_mem h.inj hL hx).1 h2)
      rw [dfs_go rfl hs, dfs_go rfl hs2, h.kids hx]
      have key : ∀ (xs M : List Int), (∀ k ∈ xs, D k) → (∀ y ∈ M, D y) → dfsL ms anyB f (xs.map g) (M.map g) = (dfsL ns anyB f xs M).map g ∧ ∀ y ∈ dfsL ns anyB f xs M, D y := by
        intro xs
        induction xs with
        | nil => intro M _ hM; exact ⟨rfl, hM⟩
        | cons a xs ih =>
          intro M hxs hM
          have h1 := dfs_iso h f a M (hxs a (by simp)) hM
          rw [List.map_cons, dfsL_cons, dfsL_cons, h1.1]
          exact ih _ (fun k hk => hxs k (by simp [hk])) h1.2
      have := key (kidsOf ns x) (L ++ [x]) (h.kidsD hx) (fun y hy => by
        rcases List.mem_append.1 hy with hy | hy
        · exact hL y hy
        · simp at hy; subst hy; exact hx)
      rw [List.map_append] at this
      exact this

/-- the walk writes the same -/
theorem cod_iso {ns ms : List Nd} {D : Int → Prop} {g : Int → Int} (h : Iso ns ms D g) : ∀ (f : Nat) (x : Int) (p : CM), D x → (∀ y ∈ p.2, D y) → cod ms f (g x) (p.1, p.2.map g) = ((cod ns f x p).1, (cod ns f x p).2.map g) ∧ ∀ y ∈ (cod ns f x p).2, D y
  | 0, _, _, _, hL => ⟨rfl, hL⟩
  | f + 1, x, p, hx, hL => by
    by_cases hs : x ∈ p.2
    · rw [cod_seen hs, cod_seen (p := (p.1, p.2.map g)) ((map_mem h.inj hL hx).2 hs), place_map h.inj hL hx]
      exact ⟨rfl, hL⟩
    · have hs2 : g x ∉ p.2.map g := fun h2 => hs ((map_mem h.inj hL hx).1 h2)
      rw [cod_new hs, cod_new (p := (p.1, p.2.map g)) hs2, h.kids hx]
      have key : ∀ (xs : List Int) (q : CM), (∀ k ∈ xs, D k) → (∀ y ∈ q.2, D y) → codL ms f (xs.map g) (q.1, q.2.map g) = ((codL ns f xs q).1, (codL ns f xs q).2.map g) ∧ ∀ y ∈ (codL ns f xs q).2, D y := by
        intro xs
        induction xs with
        | nil => intro q _ hq; exact ⟨rfl, hq⟩
        | cons a xs ih =>
          intro q hxs hq
          have h1 := cod_iso h f a q (hxs a (by simp)) hq
          show codL ms f (xs.map g) (cod ms f (g a) (q.1, q.2.map g)) = ((codL ns f xs (cod ns f a q)).1, (codL ns f xs (cod ns f a q)).2.map g) ∧ ∀ y ∈ (codL ns f xs (cod ns f a q)).2, D y
          rw [h1.1]
          exact ih _ (fun k hk => hxs k (by simp [hk])) h1.2
      have hput : codPut ms (g x) (p.1, p.2.map g) = ((codPut ns x p).1, (codPut ns x p).2.map g) := by
        unfold codPut
        rw [h.kind hx, h.value hx, h.kids hx, List.length_map]
        simp only
        split <;> simp
      rw [hput]
      refine key (kidsOf ns x) (codPut ns x p) (h.kidsD hx) (fun y hy => ?_)
      replace hy : y ∈ (if kindOf ns x = 0 then p.2 else p.2 ++ [x]) := hy
      split at hy
      · exact hL y hy
      · rcases List.mem_append.1 hy with hy | hy
        · exact hL y hy
        · simp at hy; subst hy; exact hx

/-- more fuel writes nothing else -/
theorem cod_fuel {ns : List Nd} {K : Nat} (hg : CodG ns K) (hl : ns.length ≤ 1048576) : ∀ (f : Nat) (x : Int) (p : CM), CInv ns p → 0 ≤ x → x < ns.length → ns.length < f + p.2.length → cod ns (f + 1) x p = cod ns f x p
  | 0, _, p, hp, _, _, hf => by have := hp.met.len; omega
  | f + 1, x, p, hp, h0, h1, hf => by
    by_cases hs : x ∈ p.2
    · rw [cod_seen hs, cod_seen hs]
    · rw [cod_new hs, cod_new hs]
      obtain ⟨k, rfl⟩ := Int.eq_ofNat_of_zero_le h0
      have hk : k < ns.length := by omega
      have hat := List.getElem?_eq_getElem hk
      have hput := CInv.put hg hp hat hs
      have key : ∀ (xs : List Int) (q : CM), CInv ns q → (∀ y ∈ xs, 0 ≤ y ∧ y < ns.length) → ns.length < f + q.2.length → codL ns (f + 1) xs q = codL ns f xs q := by
        intro xs
        induction xs with
        | nil => intro q _ _ _; rfl
        | cons a xs ih =>
          intro q hq hxs hf2
          have e := cod_fuel hg hl f a q hq (hxs a (by simp)).1 (hxs a (by simp)).2 hf2
          have hc := coded ns K hg hl f a q hq (hxs a (by simp)).1 (hxs a (by simp)).2 hf2
          show codL ns (f + 1) xs (cod ns (f + 1) a q) = codL ns f xs (cod ns f a q)
          rw [e]
          exact ih _ hc.inv (fun y hy => hxs y (by simp [hy])) (by have := hc.grow; omega)
      by_cases hz : kindOf ns (k : Int) = 0
      · have hk0 : kidsOf ns (k : Int) = [] := by
          rw [kindOf_at hat] at hz
          rw [kidsOf_at hat]
          exact hg.leaf _ (List.getElem_mem hk) hz
        rw [hk0]; rfl
      · refine key _ _ hput (hg.kin.of _) ?_
        have : (codPut ns (k : Int) p).2.length = p.2.length + 1 := by
          unfold codPut
          rw [if_neg hz]
          simp
        omega

theorem cod_fuels {ns : List Nd} {K : Nat} (hg : CodG ns K) (hl : ns.length ≤ 1048576) (f : Nat) (x : Int) (p : CM) (hp : CInv ns p) (h0 : 0 ≤ x) (h1 : x < ns.length) (hf : ns.length < f + p.2.length) : ∀ d, cod ns (f + d) x p = cod ns f x p
  | 0 => rfl
  | d + 1 => by
    rw [← Nat.add_assoc, cod_fuel hg hl (f + d) x p hp h0 h1 (by omega)]
    exact cod_fuels hg hl f x p hp h0 h1 hf d

/-- more fuel meets nothing else -/
theorem dfs_fuel {ns : List Nd} (hk : KidsIn ns) : ∀ (f : Nat) (x : Int) (L : List Int), Met ns L → 0 ≤ x → x < ns.length → ns.length < f + L.length → dfs ns anyB (f + 1) x L = dfs ns anyB f x L
  | 0, x, L, hL, _, _, hf => by have := hL.len; omega
  | f + 1, x, L, hL, h0, h1, hf => by
    by_cases hs : x ∈ L
    · rw [dfs_stop (.inr hs), dfs_stop (.inr hs)]
    · rw [dfs_go rfl hs, dfs_go rfl hs]
      have key : ∀ (xs M : List Int), Met ns M → (∀ y ∈ xs, 0 ≤ y ∧ y < ns.length) → ns.length < f + M.length → dfsL ns anyB (f + 1) xs M = dfsL ns anyB f xs M := by
        intro xs
        induction xs with
        | nil => intro M _ _ _; rfl
        | cons a xs ih =>
          intro M hM hxs hf2
          have e := dfs_fuel hk f a M hM (hxs a (by simp)).1 (hxs a (by simp)).2 hf2
          have hw := walked ns anyB hk f a M hM (hxs a (by simp)).1 (hxs a (by simp)).2 hf2
          rw [dfsL_cons, dfsL_cons, e]
          exact ih _ hw.met (fun y hy => hxs y (by simp [hy])) (by have := hw.len; omega)
      exact key _ _ (hL.snoc ⟨h0, h1⟩ hs) (hk.of x) (by simp; omega)

theorem dfs_fuels {ns : List Nd} (hk : KidsIn ns) (f : Nat) (x : Int) (L : List Int) (hL : Met ns L) (h0 : 0 ≤ x) (h1 : x < ns.length) (hf : ns.length < f + L.length) : ∀ d, dfs ns anyB (f + d) x L = dfs ns anyB f x L
  | 0 => rfl
  | d + 1 => by
    rw [← Nat.add_assoc, dfs_fuel hk (f + d) x L hL h0 h1 (by omega)]
    exact dfs_fuels hk f x L hL h0 h1 hf d

theorem treach_iso {ns ms : List Nd} {D : Int → Prop} {g : Int → Int} (h : Iso ns ms D g) {x : Int} (hx : D x) {z : Int} (ht : TReach ms (g x) z) : ∃ y, D y ∧ z = g y ∧ TReach ns x y := by
  induction ht with
  | kid z hz =>
    rw [h.kids hx] at hz
    obtain ⟨k, hk, rfl⟩ := List.mem_map.1 hz
    exact ⟨k, h.kidsD hx k hk, rfl, .kid k hk⟩
  | step y z _ hy2 hz ih =>
    obtain ⟨u, hu, rfl, hxu⟩ := ih
    rw [h.kids hu] at hz
    rw [h.kind hu] at hy2
    obtain ⟨k, hk, rfl⟩ := List.mem_map.1 hz
    exact ⟨k, h.kidsD hu k hk, rfl, .step u k hxu hy2 hk⟩

theorem dict_iso {ns ms : List Nd} {D : Int → Prop} {g : Int → Int} (h : Iso ns ms D g) {kids : List Int} (hk : ∀ k ∈ kids, D k) (hd : DictOk ns kids) : DictOk ms (kids.map g) := by
  have back : ∀ (p : Nat) (m : Nd), KidNd ms (kids.map g) p m → ∃ n, KidNd ns kids p n ∧ m.kind = n.kind ∧ m.value = n.value := by
    rintro p m ⟨k, h1, h2⟩
    rw [List.getElem?_map] at h1
    cases hx : kids[p]? with
    | none => rw [hx] at h1; cases h1
    | some x =>
      rw [hx] at h1
      have e : g x = (k : Int) := by simpa using h1
      obtain ⟨i, n, rfl, g1, g2⟩ := h.get (hk x (List.mem_of_getElem? hx))
      rw [e, Int.toNat_natCast, h2] at g2
      injection g2 with g2
      subst g2
      exact ⟨n, ⟨i, hx, g1⟩, rfl, rfl⟩
  refine ⟨by rw [List.length_map]; exact hd.even, fun p m hp hm => ?_, fun p q m n hp hq hlt hm hn => ?_⟩
  · obtain ⟨n, h1, h2, _⟩ := back p m hm
    have := hd.key p n hp h1
    unfold IsKey at this ⊢
    rw [h2]
    exact this
  · obtain ⟨m', h1, h2, h3⟩ := back p m hm
    obtain ⟨n', h4, h5, h6⟩ := back q n hn
    have := hd.diff p q m' n' hp hq hlt h1 h4
    unfold SameKey at this ⊢
    rw [h2, h3, h5, h6]
    exact this

theorem Iso.valid {ns ms : List Nd} {D : Int → Prop} {g : Int → Int} (h : Iso ns ms D g) {r : Int} (hv : ValidG ns r) (hr : D r) (hon : ∀ j : Nat, j < ms.length → ∃ x, D x ∧ g x = (j : Int)) (h12 : ms.length ≤ 12) : ValidG ms (g r) := by
  have hrr := h.rng r hr
  have hat : ∀ (j : Nat) (m : Nd), ms[j]? = some m → ∃ (i : Nat) (n : Nd), D (i : Int) ∧ g (i : Int) = (j : Int) ∧ ns[i]? = some n ∧ m = ⟨n.kind, n.value, n.kids.map g⟩ := by
    intro j m hj
    obtain ⟨x, hx, hgx⟩ := hon j (List.getElem?_eq_some_iff.1 hj).1
    obtain ⟨i, n, rfl, g1, g2⟩ := h.get hx
    rw [hgx, Int.toNat_natCast, hj] at g2
    injection g2 with g2
    exact ⟨i, n, hx, hgx, g1, g2⟩
  refine ⟨by omega, h12, hrr.1, hrr.2, fun m hm => ?_, fun j m hj hk2 ht => ?_⟩
  · obtain ⟨j, hj, rfl⟩ := List.getElem_of_mem hm
    obtain ⟨i, n, hi, _, g1, g2⟩ := hat j _ (List.getElem?_eq_getElem hj)
    rw [g2]
    have hok := hv.nodes n (List.mem_of_getElem? g1)
    have hkD := h.closed i n hi g1
    refine ⟨by simpa using hok.few, fun y hy => ?_, ?_⟩
    · obtain ⟨k, hk, rfl⟩ := List.mem_map.1 hy
      exact h.rng k (hkD k hk)
    · have := hok.kind
      unfold KindOk at this ⊢
      simp only [List.length_map]
      rcases this with h1 | h1 | h1 | h1 | h1 | h1
      · exact .inl h1
      · exact .inr (.inl h1)
      · exact .inr (.inr (.inl h1))
      · exact .inr (.inr (.inr (.inl h1)))
      · exact .inr (.inr (.inr (.inr (.inl ⟨h1.1, h1.2.1, dict_iso h hkD h1.2.2⟩))))
      · exact .inr (.inr (.inr (.inr (.inr h1))))
  · obtain ⟨i, n, hi, hgi, g1, g2⟩ := hat j m hj
    subst g2
    rw [← hgi] at ht
    obtain ⟨y, hy, e, hty⟩ := treach_iso h hi ht
    have := h.inj _ _ hi hy e
    subst this
    exact hv.tuples i n g1 hk2 hty

/-- the codes are equal, whatever the numbers of nodes -/
theorem Iso.code {ns ms : List Nd} {D : Int → Prop} {g : Int → Int} (h : Iso ns ms D g) {r : Int} (hv : ValidG ns r) (hw : ValidG ms (g r)) (hwf : Wf ms) (hr : D r) (hle : ms.length ≤ ns.length) : (cod ms (ms.length + 1) (g r) ([], [])).1 = (cod ns (ns.length + 1) r ([], [])).1 := by
  obtain ⟨d, hd⟩ := Nat.exists_eq_add_of_le hle
  have h1 := cod_fuels (codG_of_valid hw hwf) (by have := hw.few; omega) (ms.length + 1) (g r) ([], []) (CInv.start _) hw.root0 hw.root (by simp) d
  have h2 := (cod_iso h (ns.length + 1) r ([], []) hr (fun y hy => by cases hy)).1
  have e : ms.length + 1 + d = ns.length + 1 := by omega
  rw [e] at h1
  rw [← h1]
  have h3 := congrArg Prod.fst h2
  simpa using h3

end Go.Proofs.Ythgklkpfmjgeoaa

namespace Go.Proofs.Ythgklkpfmjgeoaa.WalkT
open Go.RowKit Go.Maps Go.Proofs.Ythgklkpfmjgeoaa
set_option linter.unusedVariables false

/-- the function F tells whether a node may be entered -/
def Enters (ns : List Nd) (ent : Int → Bool) : Prop :=
  ∀ (k : Nat) (n : Nd) (A : Option Addr) (c : Nat) (w : World), ns[k]? = some n →
    Calls Try.prog 47 #[.agg #[.int .i64 n.kind, .int .i64 n.value, .slice A n.kids.length c]] w fun e w' => e = .returned (.bool (ent (k : Int))) ∧ Below w.heap.size w w'

/-- what the closure of walkFrom finds in memory -/
structure Env (w : World) (base b3 b5 b7 b8 : Nat) (A : Option Addr) (c : Nat) (ns : List Nd) (L : List Int) : Prop where
  enter : Lies w b5 #[.func (.func 47) #[] #[]] 64
  nodes : Lies w b3 #[.slice A ns.length c] 23
  set : ∃ m Am cm, SetI w b7 base m Am cm L
  self : Lies w b8 #[.func (.func 78) #[] #[.pointer (some ⟨b5, 0, none⟩), .pointer (some ⟨b3, 0, none⟩), .pointer (some ⟨b7, 0, none⟩), .pointer (some ⟨b8, 0, none⟩)]] 88
  read : NdsAt w b3 A ns
  n3 : b3 < b5
  n5 : b5 < b7
  n7 : b7 < b8
  n8 : b8 < base
  hb : base ≤ w.heap.size

theorem Env.later {w w' : World} {base b3 b5 b7 b8 : Nat} {A : Option Addr} {c : Nat} {ns : List Nd} {L : List Int} (h : Env w base b3 b5 b7 b8 A c ns L) (hb : Below w.heap.size w w') : Env w' base b3 b5 b7 b8 A c ns L := by
  obtain ⟨m, Am, cm, hs⟩ := h.set
  have h1 := h.n3
  have h2 := h.n5
  have h3 := h.n7
  have h4 := h.n8
  have h5 := h.hb
  exact ⟨h.enter.below hb (by omega), h.nodes.below hb (by omega), ⟨m, Am, cm, hs.below hb⟩, h.self.below hb (by omega), h.read.below (hb.mono (by omega)), h1, h2, h3, h4, Nat.le_trans h5 hb.size⟩

/-- the environment behind an add -/
theorem Env.added {w w' : World} {base b3 b5 b7 b8 : Nat} {A : Option Addr} {c : Nat} {ns : List Nd} {L L' : List Int} (h : Env w base b3 b5 b7 b8 A c ns L) (hs : ∃ m Am cm, SetI w' b7 base m Am cm L') (hb : But base b7 w w') : Env w' base b3 b5 b7 b8 A c ns L' := by
  have h1 := h.n3
  have h2 := h.n5
  have h3 := h.n7
  have h4 := h.n8
  have h5 := h.hb
  have hl : ∀ {g : Nat} {cs : Array Value} {t : TypeId}, Lies w g cs t → g < base → g ≠ b7 → Lies w' g cs t := fun hg hlt hne => (hb.block _ hlt hne).trans hg
  refine ⟨hl h.enter (by omega) (by omega), hl h.nodes (by omega) (by omega), hs, hl h.self (by omega) (by omega), h.read.below (B := b3) ⟨hb.os, hb.tape, hb.output, hb.size, fun k hk => hb.block k (by omega) (by omega)⟩, h1, h2, h3, h4, Nat.le_trans h5 hb.size⟩

theorem Env.below3 {w w' : World} {base b3 b5 b7 b8 : Nat} {A : Option Addr} {c : Nat} {ns : List Nd} {L : List Int} (h : Env w base b3 b5 b7 b8 A c ns L) (hb : But base b7 w w') : Below b3 w w' := by
  have h1 := h.n3
  have h2 := h.n5
  have h3 := h.n7
  have h4 := h.n8
  exact ⟨hb.os, hb.tape, hb.output, hb.size, fun k hk => hb.block k (by omega) (by omega)⟩

theorem But.refl (base g : Nat) (w : World) : But base g w w := ⟨rfl, rfl, rfl, Nat.le_refl _, fun _ _ _ => rfl⟩
theorem But.of_below {base g : Nat} {w w' : World} (h : Below w.heap.size w w') (hb : base ≤ w.heap.size) : But base g w w' := ⟨h.os, h.tape, h.output, h.size, fun k hk _ => h.block k (by omega)⟩

def WalkDone (base b3 b5 b7 b8 : Nat) (A : Option Addr) (c : Nat) (ns : List Nd) (R : List Int) (w : World) (e : Ending) (w' : World) : Prop :=
  e = .returned (.tuple #[]) ∧ Env w' base b3 b5 b7 b8 A c ns R ∧ But base b7 w w'

set_option maxRecDepth 100000 in
set_option maxHeartbeats 4000000 in
theorem walk1_any (ns : List Nd) (ent : Int → Bool) (hF : Enters ns ent) (hk : KidsIn ns) (hsm : ns.length ≤ 1048576) (base b3 b5 b7 b8 : Nat) (A : Option Addr) (c : Nat) (f : Nat)
    (ih : ∀ (i : Nat) (L : List Int) (w : World), i < ns.length → Met ns L → Env w base b3 b5 b7 b8 A c ns L → ns.length < f + L.length →
      Calls Try.prog 78 #[.int .i64 (i : Int), .pointer (some ⟨b5, 0, none⟩), .pointer (some ⟨b3, 0, none⟩), .pointer (some ⟨b7, 0, none⟩), .pointer (some ⟨b8, 0, none⟩)] w (WalkDone base b3 b5 b7 b8 A c ns (dfs ns ent f i L) w))
    (i : Nat) (L : List Int) (w : World) (hi : i < ns.length) (hL : Met ns L) (he : Env w base b3 b5 b7 b8 A c ns L) (hf : ns.length < f + 1 + L.length) :
      Calls Try.prog 78 #[.int .i64 (i : Int), .pointer (some ⟨b5, 0, none⟩), .pointer (some ⟨b3, 0, none⟩), .pointer (some ⟨b7, 0, none⟩), .pointer (some ⟨b8, 0, none⟩)] w (WalkDone base b3 b5 b7 b8 A c ns (dfs ns ent (f + 1) i L) w) := by
  have x5 := he.enter.cell 0
  have x3 := he.nodes.cell 0
  simp at x5 x3
  obtain ⟨b, off, n, rfl, hbl, hat, hmem, hN⟩ := he.read.at_ hi
  obtain ⟨hn_k, hn_v, ⟨A1, c1, hn_s, hI1, _⟩, _, _⟩ := hN
  have hi1 : (0 : Int) ≤ (i : Int) := by omega
  have hi2 : (i : Int) < (ns.length : Int) := by omega
  have hin64 : In64 (i : Int) := by constructor <;> omega
  have HIn := hide hin64
  have Hat := hide hat
  have Hih := hide ih
  have HF := hide hF
  have HL := hide hL
  have hlL := hL.len
  have hhb := he.hb
  have hn3 := he.n3
  have hn5 := he.n5
  have hn7 := he.n7
  have hn8 := he.n8
  have hkids : Hid (kidsOf ns (i : Int) = n.kids) := kidsOf_at hat
  have hI2 : IntsAt w.drew b3 A1 n.kids := hI1.below (Below.refl _ _).drew
  have hr2 : NdsAt w.drew b3 (some ⟨b, off, none⟩) ns := he.read.below (Below.refl _ _).drew
  have He := hide (he.later (Below.refl _ w).drew)
  have hbt : But base b7 w w.drew := But.of_below (Below.refl _ w).drew he.hb
  have hsz2 : w.drew.heap.size = w.heap.size := rfl
  clear hat ih hF he hmem hin64 hL hI1
  go_enter Try.func78, Try.ntmps78
  go_wp2_with fail
  go_still_tail 5, (by kernel_rfl)
  change wpList _ _ _ _ _ w.drew
  generalize hwd : w.drew = w2 at He hI2 hr2 hbt hsz2 ⊢
  clear hwd x5 x3 hn_k hn_v hn_s
  go_wp2_with fail
  refine (HF.out i n A1 c1 w2 Hat.out).mono ?_
  rintro e w3 ⟨rfl, hb3⟩
  have He3 := hide (He.out.later hb3)
  have hI3 : IntsAt w3 b3 A1 n.kids := hI2.below (hb3.mono (by omega))
  have hr3 : NdsAt w3 b3 (some ⟨b, off, none⟩) ns := hr2.below (hb3.mono (by omega))
  have hbt3 : But base b7 w w3 := hbt.trans (But.of_below hb3 (by omega))
  have hsz3 : base ≤ w3.heap.size := by have := hb3.size; omega
  clear hb3 He hI2 hr2 hbt hsz2
  cases hent : ent (i : Int) with
  | false =>
    have Hd := hide (show dfs ns ent (f + 1) i L = L from dfs_stop (.inl hent))
    clear hent hI3 hr3
    go_wp2
    go_end0
    exact ⟨rfl, by rw [Hd.out]; exact He3.out, hbt3⟩
  | true =>
    obtain ⟨m, Am, cm, hset⟩ := He3.out.set
    by_cases hmem : (i : Int) ∈ L
    · have Hd := hide (show dfs ns ent (f + 1) i L = L from dfs_stop (.inr hmem))
      clear hent hI3 hr3
      go_wp2_with fail
      refine (addI_seen b7 base m Am cm L i w3 hset HIn.out hmem).mono ?_
      rintro e w' ⟨rfl, rfl⟩
      clear hset hmem
      go_wp2
      go_end0
      exact ⟨rfl, by rw [Hd.out]; exact He3.out, hbt3⟩
    · have Hd := hide (show dfs ns ent (f + 1) i L = dfsL ns ent f n.kids (L ++ [(i : Int)]) from (dfs_go hent hmem).trans (by rw [hkids.out]))
      have HM := hide (HL.out.snoc ⟨hi1, hi2⟩ hmem)
      clear hent
      go_wp2_with fail
      refine (addI_new b7 base m cm Am L i w3 hset HIn.out hsz3 hmem (by omega)).mono ?_
      rintro e w4 ⟨rfl, hset4, hb4⟩
      have He4 := hide (He3.out.added hset4 hb4)
      have hbt4 := hbt3.trans hb4
      have hB34 := He3.out.below3 hb4
      have hI4 : IntsAt w4 b3 A1 n.kids := hI3.below hB34
      have hr4 : NdsAt w4 b3 (some ⟨b, off, none⟩) ns := hr3.below hB34
      clear hset4 hb4 hset hmem hI3 hr3 hB34 He3 hbt3
      have y3 := He4.out.nodes.cell 0
      simp at y3
      obtain ⟨_, _, n', hq, _, hat', _, hN'⟩ := hr4.at_ hi
      simp only [Option.some.injEq, Addr.mk.injEq, and_true] at hq
      obtain ⟨rfl, rfl⟩ := hq
      obtain rfl := Option.some.inj (Hat.out.symm.trans hat')
      obtain ⟨_, _, ⟨A2, c2, hn_s, hI5, _⟩, _, _⟩ := hN'
      clear hat' hI4
      have hlk := hI5.len
      go_wp2_with fail
      go_loopw [26] (fun iv wr => ∃ k : Nat, k ≤ n.kids.length ∧ iv = .int .i64 k ∧ Env wr base b3 b5 b7 b8 (some ⟨b, off, none⟩) c ns (dfsL ns ent f (n.kids.take k) (L ++ [(i : Int)])) ∧ But base b7 w wr ∧ IntsAt wr b3 A2 n.kids) (fun iv _ => n.kids.length - (intOf iv).toNat)
      case atStart => exact ⟨0, Nat.zero_le _, rfl, by rw [List.take_zero, dfsL_nil]; exact He4.out, hbt4, hI5⟩
      case round =>
        obtain ⟨k, hkl, rfl, her, hbr, hIr⟩ := hrel
        have Her := hide her
        have Hbr := hide hbr
        clear her hbr He4 hbt4 hI5 y3 hn_s hr4
        by_cases hlt : k < n.kids.length
        · obtain ⟨bk, ok, x, rfl, hbk, hx, hxm, hcx⟩ := hIr.at_ hlt
          obtain ⟨hx0, hx1⟩ := hk.of (i : Int) x (by rw [hkids.out]; exact hxm)
          obtain ⟨y, rfl⟩ := Int.eq_ofNat_of_zero_le hx0
          have ys := Her.out.self.cell 0
          simp at ys
          have hwk := walkedAll ns ent hk (n.kids.take k) (L ++ [(i : Int)]) f HM.out (fun z hz => hk.of (i : Int) z (by rw [hkids.out]; exact List.mem_of_mem_take hz)) (by simp; omega)
          have hlen2 := hwk.len
          have Hwk := hide hwk.met
          have Hx := hide hx
          have hk1 : (0 : Int) ≤ (k : Int) := by omega
          have hk2 : (k : Int) < (n.kids.length : Int) := by omega
          clear hx hxm hwk
          go_wp2_with fail
          refine (Hih.out y _ wr (by omega) Hwk.out Her.out (by simp at hlen2; omega)).mono ?_
          rintro e w5 ⟨rfl, he5, hb5⟩
          have He5 := hide he5
          have Hb5 := hide (Hbr.out.trans hb5)
          have hI6 := hIr.below (Her.out.below3 hb5)
          clear he5 hb5 hlen2 hIr ys hcx
          go_wp2
          go_roundw
          case rel => exact ⟨k + 1, by omega, by go_num, by rw [List.take_add_one, Hx.out, Option.toList_some, dfsL_snoc]; exact He5.out, Hb5.out, hI6⟩
          case measure => simp [intOf]; omega
        · obtain rfl : k = n.kids.length := by omega
          clear hlt hIr
          go_wp2
          go_end0
          exact ⟨rfl, by rw [Hd.out]; have := Her.out; rw [List.take_length] at this; exact this, Hbr.out⟩

theorem walk_any (ns : List Nd) (ent : Int → Bool) (hF : Enters ns ent) (hk : KidsIn ns) (hsm : ns.length ≤ 1048576) (base b3 b5 b7 b8 : Nat) (A : Option Addr) (c : Nat) : ∀ (f i : Nat) (L : List Int) (w : World), i < ns.length → Met ns L → Env w base b3 b5 b7 b8 A c ns L → ns.length < f + L.length →
    Calls Try.prog 78 #[.int .i64 (i : Int), .pointer (some ⟨b5, 0, none⟩), .pointer (some ⟨b3, 0, none⟩), .pointer (some ⟨b7, 0, none⟩), .pointer (some ⟨b8, 0, none⟩)] w (WalkDone base b3 b5 b7 b8 A c ns (dfs ns ent f i L) w)
  | 0, _, _, _, _, hL, _, hf => by have := hL.len; omega
  | f + 1, i, L, w, hi, hL, he, hf => walk1_any ns ent hF hk hsm base b3 b5 b7 b8 A c f (fun i L w h1 h2 h3 h4 => walk_any ns ent hF hk hsm base b3 b5 b7 b8 A c f i L w h1 h2 h3 h4) i L w hi hL he hf

set_option maxRecDepth 100000 in
set_option maxHeartbeats 2000000 in
theorem walkFrom_any (ns : List Nd) (ent : Int → Bool) (hF : Enters ns ent) (hk : KidsIn ns) (hsm : ns.length ≤ 1048576) (A : Option Addr) (c : Nat) (A2 : Option Addr) (xs : List Int) (c2 : Nat) (w : World) (hr : NdsAt w w.heap.size A ns) (hx : IntsAt w w.heap.size A2 xs)
    (hin : ∀ x ∈ xs, 0 ≤ x ∧ x < ns.length) :
    Calls Try.prog 67 #[.slice A ns.length c, .slice A2 xs.length c2, .func (.func 47) #[] #[]] w (GivesInts w (dfsL ns ent (ns.length + 1) xs [])) := by
  have HF := hide hF
  have Hin := hide hin
  have hxl := hx.len
  have hB : Below w.heap.size w ((((w.alloc (.cells #[.slice A ns.length c] 23)).alloc (.cells #[.func (.func 47) #[] #[]] 64)).alloc (.cells #[.map none, .slice none 0 0] 87)).alloc
    (.cells #[.func (.func 78) #[] #[.pointer (some ⟨w.heap.size + 1, 0, none⟩), .pointer (some ⟨w.heap.size, 0, none⟩), .pointer (some ⟨w.heap.size + 1 + 1, 0, none⟩), .pointer (some ⟨w.heap.size + 1 + 1 + 1, 0, none⟩)]] 88)) :=
    ((((Below.refl _ w).alloc (Nat.le_refl _) _).alloc (by simp) _).alloc (by simp <;> omega) _).alloc (by simp <;> omega) _
  have henv : Env ((((w.alloc (.cells #[.slice A ns.length c] 23)).alloc (.cells #[.func (.func 47) #[] #[]] 64)).alloc (.cells #[.map none, .slice none 0 0] 87)).alloc
    (.cells #[.func (.func 78) #[] #[.pointer (some ⟨w.heap.size + 1, 0, none⟩), .pointer (some ⟨w.heap.size, 0, none⟩), .pointer (some ⟨w.heap.size + 1 + 1, 0, none⟩), .pointer (some ⟨w.heap.size + 1 + 1 + 1, 0, none⟩)]] 88)) (w.heap.size + 1 + 1 + 1 + 1) w.heap.size (w.heap.size + 1) (w.heap.size + 1 + 1) (w.heap.size + 1 + 1 + 1) A c ns [] := by
    refine ⟨?_, ?_, ⟨none, none, 0, SetI.start ?_ (by omega)⟩, ?_, hr.below hB, by omega, by omega, by omega, by omega, by simp⟩
    · have := ((Lies.new (w.alloc (.cells #[.slice A ns.length c] 23)) #[.func (.func 47) #[] #[]] 64).alloc (.cells #[.map none, .slice none 0 0] 87)).alloc (.cells #[.func (.func 78) #[] #[.pointer (some ⟨w.heap.size + 1, 0, none⟩), .pointer (some ⟨w.heap.size, 0, none⟩), .pointer (some ⟨w.heap.size + 1 + 1, 0, none⟩), .pointer (some ⟨w.heap.size + 1 + 1 + 1, 0, none⟩)]] 88)
      simpa using this
    · exact (((Lies.new w #[.slice A ns.length c] 23).alloc _).alloc _).alloc _
    · have := (Lies.new ((w.alloc (.cells #[.slice A ns.length c] 23)).alloc (.cells #[.func (.func 47) #[] #[]] 64)) #[.map none, .slice none 0 0] 87).alloc (.cells #[.func (.func 78) #[] #[.pointer (some ⟨w.heap.size + 1, 0, none⟩), .pointer (some ⟨w.heap.size, 0, none⟩), .pointer (some ⟨w.heap.size + 1 + 1, 0, none⟩), .pointer (some ⟨w.heap.size + 1 + 1 + 1, 0, none⟩)]] 88)
      simpa using this
    · have := Lies.new (((w.alloc (.cells #[.slice A ns.length c] 23)).alloc (.cells #[.func (.func 47) #[] #[]] 64)).alloc (.cells #[.map none, .slice none 0 0] 87)) #[.func (.func 78) #[] #[.pointer (some ⟨w.heap.size + 1, 0, none⟩), .pointer (some ⟨w.heap.size, 0, none⟩), .pointer (some ⟨w.heap.size + 1 + 1, 0, none⟩), .pointer (some ⟨w.heap.size + 1 + 1 + 1, 0, none⟩)]] 88
      simpa using this
  have Henv := hide henv
  have hx2 := hx.below hB
  clear hF hin henv hr hx
  go_enter Try.func67, Try.ntmps67
  go_wp2_with fail
  generalize ((((w.alloc (.cells #[.slice A ns.length c] 23)).alloc (.cells #[.func (.func 47) #[] #[]] 64)).alloc (.cells #[.map none, .slice none 0 0] 87)).alloc
    (.cells #[.func (.func 78) #[] #[.pointer (some ⟨w.heap.size + 1, 0, none⟩), .pointer (some ⟨w.heap.size, 0, none⟩), .pointer (some ⟨w.heap.size + 1 + 1, 0, none⟩), .pointer (some ⟨w.heap.size + 1 + 1 + 1, 0, none⟩)]] 88)) = W at hB Henv hx2 ⊢
  go_loopw [14] (fun iv wr => ∃ k : Nat, k ≤ xs.length ∧ iv = .int .i64 k ∧ Env wr (w.heap.size + 1 + 1 + 1 + 1) w.heap.size (w.heap.size + 1) (w.heap.size + 1 + 1) (w.heap.size + 1 + 1 + 1) A c ns (dfsL ns ent (ns.length + 1) (xs.take k) []) ∧ But (w.heap.size + 1 + 1 + 1 + 1) (w.heap.size + 1 + 1) W wr ∧ IntsAt wr w.heap.size A2 xs) (fun iv _ => xs.length - (intOf iv).toNat)
  case atStart => exact ⟨0, Nat.zero_le _, rfl, by rw [List.take_zero, dfsL_nil]; exact Henv.out, But.refl _ _ _, hx2⟩
  case round =>
    obtain ⟨k, hkl, rfl, her, hbr, hIr⟩ := hrel
    have Her := hide her
    have Hbr := hide hbr
    clear her hbr hx2 Henv
    by_cases hlt : k < xs.length
    · obtain ⟨bk, ok, x, rfl, hbk, hx, hxm, hcx⟩ := hIr.at_ hlt
      obtain ⟨hx0, hx1⟩ := Hin.out x hxm
      obtain ⟨y, rfl⟩ := Int.eq_ofNat_of_zero_le hx0
      have ys := Her.out.self.cell 0
      simp at ys
      have hwk := walkedAll ns ent hk (xs.take k) [] (ns.length + 1) (Met.nil ns) (fun z hz => Hin.out z (List.mem_of_mem_take hz)) (by simp)
      have Hwk := hide hwk.met
      have Hx := hide hx
      have hk1 : (0 : Int) ≤ (k : Int) := by omega
      have hk2 : (k : Int) < (xs.length : Int) := by omega
      clear hx hxm hwk
      go_wp2_with fail
      refine (walk_any ns ent HF.out hk hsm _ _ _ _ _ A c (ns.length + 1) y _ wr (by omega) Hwk.out Her.out (by omega)).mono ?_
      rintro e w5 ⟨rfl, he5, hb5⟩
      have He5 := hide he5
      have Hb5 := hide (Hbr.out.trans hb5)
      have hI6 := hIr.below (Her.out.below3 hb5)
      clear he5 hb5 hIr ys hcx
      go_wp2
      go_roundw
      case rel => exact ⟨k + 1, by omega, by go_num, by rw [List.take_add_one, Hx.out, Option.toList_some, dfsL_snoc]; exact He5.out, Hb5.out, hI6⟩
      case measure => simp [intOf]; omega
    · obtain rfl : k = xs.length := by omega
      have he9 := Her.out
      rw [List.take_length] at he9
      obtain ⟨m, Am, cm, hset⟩ := he9.set
      have z1 := hset.box.cell 1
      simp at z1
      have hrow9 := hset.row
      clear hlt hIr he9 hset
      generalize hR : dfsL ns ent (ns.length + 1) xs [] = R at z1 hrow9
      have Hfin : Hid (GivesInts w (dfsL ns ent (ns.length + 1) xs []) (.returned (.slice Am R.length cm)) wr) :=
        ⟨Am, cm, by rw [hR], by rw [hR]; exact hrow9.mono (by omega), Hbr.out.below hB (by omega) (by omega)⟩
      clear hR hrow9
      go_wp2
      go_ret
      exact Hfin.out

end Go.Proofs.Ythgklkpfmjgeoaa.WalkT
