/-
  Lemmas, several texts in one: Iso, EqtS.
-/
import Derived.Test.YtpcfjdhalglebaaPjAh
import Derived.Test.YtpcfjdhalglebaaPjAm
import Derived.Test.YtpcfjdhalglebaaPjAn
import Derived.Deep.Cut
namespace Go.Proofs.Ytpcfjdhalglebaa
open Go.RowKit
set_option linter.unusedVariables false

/-- the nodes of ns that D names lie in ms at the places that g tells -/
structure Iso (ns ms : List Nd) (D : Int → Prop) (g : Int → Int) : Prop where
  dom : ∀ x, D x → 0 ≤ x ∧ x < ns.length
  rng : ∀ x, D x → 0 ≤ g x ∧ g x < ms.length
  inj : ∀ x y, D x → D y → g x = g y → x = y
  node : ∀ (i : Nat) (n : Nd), D (i : Int) → ns[i]? = some n → ms[(g (i : Int)).toNat]? = some ⟨n.kind, n.value, n.kids.map g⟩
  closed : ∀ (i : Nat) (n : Nd), D (i : Int) → ns[i]? = some n → ∀ k ∈ n.kids, D k

theorem Iso.get {ns ms : List Nd} {D : Int → Prop} {g : Int → Int} (h : Iso ns ms D g) {x : Int} (hx : D x) : ∃ (i : Nat) (n : Nd), x = (i : Int) ∧ ns[i]? = some n ∧ ms[(g x).toNat]? = some ⟨n.kind, n.value, n.kids.map g⟩ := by
  obtain ⟨h0, h1⟩ := h.dom x hx
  obtain ⟨i, rfl⟩ := Int.eq_ofNat_of_zero_le h0
  have hi : i < ns.length := by omega
  exact ⟨i, ns[i], rfl, List.getElem?_eq_getElem hi, h.node i _ hx (List.getElem?_eq_getElem hi)⟩

theorem Iso.kids {ns ms : List Nd} {D : Int → Prop} {g : Int → Int} (h : Iso ns ms D g) {x : Int} (hx : D x) : kidsOf ms (g x) = (kidsOf ns x).map g := by
  obtain ⟨i, n, rfl, h1, h2⟩ := h.get hx
  rw [kidsOf_at h1]
  unfold kidsOf
  rw [h2]; rfl
theorem Iso.kind {ns ms : List Nd} {D : Int → Prop} {g : Int → Int} (h : Iso ns ms D g) {x : Int} (hx : D x) : kindOf ms (g x) = kindOf ns x := by
  obtain ⟨i, n, rfl, h1, h2⟩ := h.get hx
  rw [kindOf_at h1]
  unfold kindOf
  rw [h2]; rfl
theorem Iso.value {ns ms : List Nd} {D : Int → Prop} {g : Int → Int} (h : Iso ns ms D g) {x : Int} (hx : D x) : valueOf ms (g x) = valueOf ns x := by
  obtain ⟨i, n, rfl, h1, h2⟩ := h.get hx
  rw [valueOf_at h1]
  unfold valueOf
  rw [h2]; rfl
theorem Iso.kidsD {ns ms : List Nd} {D : Int → Prop} {g : Int → Int} (h : Iso ns ms D g) {x : Int} (hx : D x) : ∀ k ∈ kidsOf ns x, D k := by
  obtain ⟨i, n, rfl, h1, h2⟩ := h.get hx
  rw [kidsOf_at h1]
  exact h.closed i n hx h1

theorem map_mem {D : Int → Prop} {g : Int → Int} (hi : ∀ x y, D x → D y → g x = g y → x = y) {L : List Int} (hL : ∀ y ∈ L, D y) {x : Int} (hx : D x) : g x ∈ L.map g ↔ x ∈ L := by
  constructor
  · intro h
    obtain ⟨y, hy, e⟩ := List.mem_map.1 h
    have := hi y x (hL y hy) hx e
    subst this
    exact hy
  · exact fun h => List.mem_map.2 ⟨x, h, rfl⟩

theorem idx_map {D : Int → Prop} {g : Int → Int} (hi : ∀ x y, D x → D y → g x = g y → x = y) {x : Int} (hx : D x) : ∀ L : List Int, (∀ y ∈ L, D y) → (L.map g).idxOf (g x) = L.idxOf x
  | [], _ => rfl
  | a :: L, h => by
    rw [List.map_cons, List.idxOf_cons, List.idxOf_cons, idx_map hi hx L (fun y hy => h y (by simp [hy]))]
    by_cases e : a = x
    · subst e; simp
    · have e2 : g a ≠ g x := fun e2 => e (hi a x (h a (by simp)) hx e2)
      have b1 : (a == x) = false := beq_eq_false_iff_ne.2 e
      have b2 : (g a == g x) = false := beq_eq_false_iff_ne.2 e2
      rw [b1, b2]

theorem place_map {D : Int → Prop} {g : Int → Int} (hi : ∀ x y, D x → D y → g x = g y → x = y) {L : List Int} (hL : ∀ y ∈ L, D y) {x : Int} (hx : D x) : place (L.map g) (g x) = place L x := by
  by_cases h : x ∈ L
  · rw [place_pos h, place_pos ((map_mem hi hL hx).2 h), idx_map hi hx L hL]
  · rw [place_neg h, place_neg (fun h2 => h ((map_mem hi hL hx).1 h2))]

/-- the walk meets the same nodes, by their new names -/
theorem dfs_iso {ns ms : List Nd} {D : Int → Prop} {g : Int → Int} (h : Iso ns ms D g) : ∀ (f : Nat) (x : Int) (L : List Int), D x → (∀ y ∈ L, D y) → dfs ms anyB f (g x) (L.map g) = (dfs ns anyB f x L).map g ∧ ∀ y ∈ dfs ns anyB f x L, D y
  | 0, _, _, _, hL => ⟨rfl, hL⟩
  | f + 1, x, L, hx, hL => by
    by_cases hs : x ∈ L
    · rw [dfs_stop (.inr hs), dfs_stop (.inr ((map_mem h.inj hL hx).2 hs))]
      exact ⟨rfl, hL⟩
    · have hs2 : g x ∉ L.map g := fun h2 => hs ((map_mem h.inj hL hx).1 h2)
      rw [dfs_go rfl hs, dfs_go rfl hs2, h.kids hx]
      have key : ∀ (xs M : List Int), (∀ k ∈ xs, D k) → (∀ y ∈ M, D y) → dfsL ms anyB f (xs.map g) (M.map g) = (dfsL ns anyB f xs M).map g ∧ ∀ y ∈ dfsL ns anyB f xs M, D y := by
        intro xs
        induction xs with
        | nil => intro M _ hM; exact ⟨rfl, hM⟩
        | cons a xs ih =>
          intro M hxs hM
          have h1 := dfs_iso h f a M (hxs a (by simp)) hM
          rw [List.map_cons, dfsL_cons, dfsL_cons, h1.1]
          exact ih _ (fun k hk => hxs k (by simp [hk])) h1.2
      have := key (kidsOf ns x) (L ++ [x]) (h.kidsD hx) (fun y hy => by
        rcases List.mem_append.1 hy with hy | hy
        · exact hL y hy
        · simp at hy; subst hy; exact hx)
      rw [List.map_append] at this
      exact this

/-- the walk writes the same -/
theorem cod_iso {ns ms : List Nd} {D : Int → Prop} {g : Int → Int} (h : Iso ns ms D g) : ∀ (f : Nat) (x : Int) (p : CM), D x → (∀ y ∈ p.2, D y) → cod ms f (g x) (p.1, p.2.map g) = ((cod ns f x p).1, (cod ns f x p).2.map g) ∧ ∀ y ∈ (cod ns f x p).2, D y
  | 0, _, _, _, hL => ⟨rfl, hL⟩
  | f + 1, x, p, hx, hL => by
    by_cases hs : x ∈ p.2
    · rw [cod_seen hs, cod_seen (p := (p.1, p.2.map g)) ((map_mem h.inj hL hx).2 hs), place_map h.inj hL hx]
      exact ⟨rfl, hL⟩
    · have hs2 : g x ∉ p.2.map g := fun h2 => hs ((map_mem h.inj hL hx).1 h2)
      rw [cod_new hs, cod_new (p := (p.1, p.2.map g)) hs2, h.kids hx]
      have key : ∀ (xs : List Int) (q : CM), (∀ k ∈ xs, D k) → (∀ y ∈ q.2, D y) → codL ms f (xs.map g) (q.1, q.2.map g) = ((codL ns f xs q).1, (codL ns f xs q).2.map g) ∧ ∀ y ∈ (codL ns f xs q).2, D y := by
        intro xs
        induction xs with
        | nil => intro q _ hq; exact ⟨rfl, hq⟩
        | cons a xs ih =>
          intro q hxs hq
          have h1 := cod_iso h f a q (hxs a (by simp)) hq
          show codL ms f (xs.map g) (cod ms f (g a) (q.1, q.2.map g)) = ((codL ns f xs (cod ns f a q)).1, (codL ns f xs (cod ns f a q)).2.map g) ∧ ∀ y ∈ (codL ns f xs (cod ns f a q)).2, D y
          rw [h1.1]
          exact ih _ (fun k hk => hxs k (by simp [hk])) h1.2
      have hput : codPut ms (g x) (p.1, p.2.map g) = ((codPut ns x p).1, (codPut ns x p).2.map g) := by
        unfold codPut
        rw [h.kind hx, h.value hx, h.kids hx, List.length_map]
        simp only
        split <;> simp
      rw [hput]
      refine key (kidsOf ns x) (codPut ns x p) (h.kidsD hx) (fun y hy => ?_)
      replace hy : y ∈ (if kindOf ns x = 0 then p.2 else p.2 ++ [x]) := hy
      split at hy
      · exact hL y hy
      · rcases List.mem_append.1 hy with hy | hy
        · exact hL y hy
        · simp at hy; subst hy; exact hx

/-- more fuel writes nothing else -/
theorem cod_fuel {ns : List Nd} {K : Nat} (hg : CodG ns K) (hl : ns.length ≤ 1048576) : ∀ (f : Nat) (x : Int) (p : CM), CInv ns p → 0 ≤ x → x < ns.length → ns.length < f + p.2.length → cod ns (f + 1) x p = cod ns f x p
  | 0, _, p, hp, _, _, hf => by have := hp.met.len; omega
  | f + 1, x, p, hp, h0, h1, hf => by
    by_cases hs : x ∈ p.2
    · rw [cod_seen hs, cod_seen hs]
    · rw [cod_new hs, cod_new hs]
      obtain ⟨k, rfl⟩ := Int.eq_ofNat_of_zero_le h0
      have hk : k < ns.length := by omega
      have hat := List.getElem?_eq_getElem hk
      have hput := CInv.put hg hp hat hs
      have key : ∀ (xs : List Int) (q : CM), CInv ns q → (∀ y ∈ xs, 0 ≤ y ∧ y < ns.length) → ns.length < f + q.2.length → codL ns (f + 1) xs q = codL ns f xs q := by
        intro xs
        induction xs with
        | nil => intro q _ _ _; rfl
        | cons a xs ih =>
          intro q hq hxs hf2
          have e := cod_fuel hg hl f a q hq (hxs a (by simp)).1 (hxs a (by simp)).2 hf2
          have hc := coded ns K hg hl f a q hq (hxs a (by simp)).1 (hxs a (by simp)).2 hf2
          show codL ns (f + 1) xs (cod ns (f + 1) a q) = codL ns f xs (cod ns f a q)
          rw [e]
          exact ih _ hc.inv (fun y hy => hxs y (by simp [hy])) (by have := hc.grow; omega)
      by_cases hz : kindOf ns (k : Int) = 0
      · have hk0 : kidsOf ns (k : Int) = [] := by
          rw [kindOf_at hat] at hz
          rw [kidsOf_at hat]
          exact hg.leaf _ (List.getElem_mem hk) hz
        rw [hk0]; rfl
      · refine key _ _ hput (hg.kin.of _) ?_
        have : (codPut ns (k : Int) p).2.length = p.2.length + 1 := by
          unfold codPut
          rw [if_neg hz]
          simp
        omega

theorem cod_fuels {ns : List Nd} {K : Nat} (hg : CodG ns K) (hl : ns.length ≤ 1048576) (f : Nat) (x : Int) (p : CM) (hp : CInv ns p) (h0 : 0 ≤ x) (h1 : x < ns.length) (hf : ns.length < f + p.2.length) : ∀ d, cod ns (f + d) x p = cod ns f x p
  | 0 => rfl
  | d + 1 => by
    rw [← Nat.add_assoc, cod_fuel hg hl (f + d) x p hp h0 h1 (by omega)]
    exact cod_fuels hg hl f x p hp h0 h1 hf d

/-- more fuel meets nothing else -/
theorem dfs_fuel {ns : List Nd} (hk : KidsIn ns) : ∀ (f : Nat) (x : Int) (L : List Int), Met ns L → 0 ≤ x → x < ns.length → ns.length < f + L.length → dfs ns anyB (f + 1) x L = dfs ns anyB f x L
  | 0, x, L, hL, _, _, hf => by have := hL.len; omega
  | f + 1, x, L, hL, h0, h1, hf => by
    by_cases hs : x ∈ L
    · rw [dfs_stop (.inr hs), dfs_stop (.inr hs)]
    · rw [dfs_go rfl hs, dfs_go rfl hs]
      have key : ∀ (xs M : List Int), Met ns M → (∀ y ∈ xs, 0 ≤ y ∧ y < ns.length) → ns.length < f + M.length → dfsL ns anyB (f + 1) xs M = dfsL ns anyB f xs M := by
        intro xs
        induction xs with
        | nil => intro M _ _ _; rfl
        | cons a xs ih =>
          intro M hM hxs hf2
          have e := dfs_fuel hk f a M hM (hxs a (by simp)).1 (hxs a (by simp)).2 hf2
          have hw := walked ns anyB hk f a M hM (hxs a (by simp)).1 (hxs a (by simp)).2 hf2
          rw [dfsL_cons, dfsL_cons, e]
          exact ih _ hw.met (fun y hy => hxs y (by simp [hy])) (by have := hw.len; omega)
      exact key _ _ (hL.snoc ⟨h0, h1⟩ hs) (hk.of x) (by simp; omega)

theorem dfs_fuels {ns : List Nd} (hk : KidsIn ns) (f : Nat) (x : Int) (L : List Int) (hL : Met ns L) (h0 : 0 ≤ x) (h1 : x < ns.length) (hf : ns.length < f + L.length) : ∀ d, dfs ns anyB (f + d) x L = dfs ns anyB f x L
  | 0 => rfl
  | d + 1 => by
    rw [← Nat.add_assoc, dfs_fuel hk (f + d) x L hL h0 h1 (by omega)]
    exact dfs_fuels hk f x L hL h0 h1 hf d

theorem treach_iso {ns ms : List Nd} {D : Int → Prop} {g : Int → Int} (h : Iso ns ms D g) {x : Int} (hx : D x) {z : Int} (ht : TReach ms (g x) z) : ∃ y, D y ∧ z = g y ∧ TReach ns x y := by
  induction ht with
  | kid z hz =>
    rw [h.kids hx] at hz
    obtain ⟨k, hk, rfl⟩ := List.mem_map.1 hz
    exact ⟨k, h.kidsD hx k hk, rfl, .kid k hk⟩
  | step y z _ hy2 hz ih =>
    obtain ⟨u, hu, rfl, hxu⟩ := ih
    rw [h.kids hu] at hz
    rw [h.kind hu] at hy2
    obtain ⟨k, hk, rfl⟩ := List.mem_map.1 hz
    exact ⟨k, h.kidsD hu k hk, rfl, .step u k hxu hy2 hk⟩

theorem dict_iso {ns ms : List Nd} {D : Int → Prop} {g : Int → Int} (h : Iso ns ms D g) {kids : List Int} (hk : ∀ k ∈ kids, D k) (hd : DictOk ns kids) : DictOk ms (kids.map g) := by
  have back : ∀ (p : Nat) (m : Nd), KidNd ms (kids.map g) p m → ∃ n, KidNd ns kids p n ∧ m.kind = n.kind ∧ m.value = n.value := by
    rintro p m ⟨k, h1, h2⟩
    rw [List.getElem?_map] at h1
    cases hx : kids[p]? with
    | none => rw [hx] at h1; cases h1
    | some x =>
      rw [hx] at h1
      have e : g x = (k : Int) := by simpa using h1
      obtain ⟨i, n, rfl, g1, g2⟩ := h.get (hk x (List.mem_of_getElem? hx))
      rw [e, Int.toNat_natCast, h2] at g2
      injection g2 with g2
      subst g2
      exact ⟨n, ⟨i, hx, g1⟩, rfl, rfl⟩
  refine ⟨by rw [List.length_map]; exact hd.even, fun p m hp hm => ?_, fun p q m n hp hq hlt hm hn => ?_⟩
  · obtain ⟨n, h1, h2, _⟩ := back p m hm
    have := hd.key p n hp h1
    unfold IsKey at this ⊢
    rw [h2]
    exact this
  · obtain ⟨m', h1, h2, h3⟩ := back p m hm
    obtain ⟨n', h4, h5, h6⟩ := back q n hn
    have := hd.diff p q m' n' hp hq hlt h1 h4
    unfold SameKey at this ⊢
    rw [h2, h3, h5, h6]
    exact this

theorem Iso.valid {ns ms : List Nd} {D : Int → Prop} {g : Int → Int} (h : Iso ns ms D g) {r : Int} (hv : ValidG ns r) (hr : D r) (hon : ∀ j : Nat, j < ms.length → ∃ x, D x ∧ g x = (j : Int)) (h12 : ms.length ≤ 12) : ValidG ms (g r) := by
  have hrr := h.rng r hr
  have hat : ∀ (j : Nat) (m : Nd), ms[j]? = some m → ∃ (i : Nat) (n : Nd), D (i : Int) ∧ g (i : Int) = (j : Int) ∧ ns[i]? = some n ∧ m = ⟨n.kind, n.value, n.kids.map g⟩ := by
    intro j m hj
    obtain ⟨x, hx, hgx⟩ := hon j (List.getElem?_eq_some_iff.1 hj).1
    obtain ⟨i, n, rfl, g1, g2⟩ := h.get hx
    rw [hgx, Int.toNat_natCast, hj] at g2
    injection g2 with g2
    exact ⟨i, n, hx, hgx, g1, g2⟩
  refine ⟨by omega, h12, hrr.1, hrr.2, fun m hm => ?_, fun j m hj hk2 ht => ?_⟩
  · obtain ⟨j, hj, rfl⟩ := List.getElem_of_mem hm
    obtain ⟨i, n, hi, _, g1, g2⟩ := hat j _ (List.getElem?_eq_getElem hj)
    rw [g2]
    have hok := hv.nodes n (List.mem_of_getElem? g1)
    have hkD := h.closed i n hi g1
    refine ⟨by simpa using hok.few, fun y hy => ?_, ?_⟩
    · obtain ⟨k, hk, rfl⟩ := List.mem_map.1 hy
      exact h.rng k (hkD k hk)
    · have := hok.kind
      unfold KindOk at this ⊢
      simp only [List.length_map]
      rcases this with h1 | h1 | h1 | h1 | h1 | h1
      · exact .inl h1
      · exact .inr (.inl h1)
      · exact .inr (.inr (.inl h1))
      · exact .inr (.inr (.inr (.inl h1)))
      · exact .inr (.inr (.inr (.inr (.inl ⟨h1.1, h1.2.1, dict_iso h hkD h1.2.2⟩))))
      · exact .inr (.inr (.inr (.inr (.inr h1))))
  · obtain ⟨i, n, hi, hgi, g1, g2⟩ := hat j m hj
    subst g2
    rw [← hgi] at ht
    obtain ⟨y, hy, e, hty⟩ := treach_iso h hi ht
    have := h.inj _ _ hi hy e
    subst this
    exact hv.tuples i n g1 hk2 hty

/-- the codes are equal, whatever the numbers of nodes -/
theorem Iso.code {ns ms : List Nd} {D : Int → Prop} {g : Int → Int} (h : Iso ns ms D g) {r : Int} (hv : ValidG ns r) (hw : ValidG ms (g r)) (hwf : Wf ms) (hr : D r) (hle : ms.length ≤ ns.length) : (cod ms (ms.length + 1) (g r) ([], [])).1 = (cod ns (ns.length + 1) r ([], [])).1 := by
  obtain ⟨d, hd⟩ := Nat.exists_eq_add_of_le hle
  have h1 := cod_fuels (codG_of_valid hw hwf) (by have := hw.few; omega) (ms.length + 1) (g r) ([], []) (CInv.start _) hw.root0 hw.root (by simp) d
  have h2 := (cod_iso h (ns.length + 1) r ([], []) hr (fun y hy => by cases hy)).1
  have e : ms.length + 1 + d = ns.length + 1 := by omega
  rw [e] at h1
  rw [← h1]
  have h3 := congrArg Prod.fst h2
  simpa using h3

end Go.Proofs.Ytpcfjdhalglebaa

namespace Go.Proofs.Ytpcfjdhalglebaa
open Go.RowKit Go.Maps
set_option linter.unusedVariables false

set_option maxRecDepth 100000 in
set_option maxHeartbeats 4000000 in
theorem equalTo_any : ∀ (d : Nat) (D : Int), Hid (D = (d : Int)) → d ≤ 1000 → ∀ (A B : Option Addr) (ns ms : List Nd) (ca cb : Nat) (r s : Int) (i j : Nat) (w : World), NdsAt w w.heap.size A ns → NdsAt w w.heap.size B ms → KidsIn ns → KidsIn ms → i < ns.length → j < ms.length →
    Calls Try.prog 17 #[.agg #[.slice A ns.length ca, .int .i64 r], .int .i64 (i : Int), .agg #[.slice B ms.length cb, .int .i64 s], .int .i64 (j : Int), .int .i64 D] w fun e w' => e = .returned (.bool (tf (EqN ns ms d (i : Int) (j : Int)))) ∧ Below w.heap.size w w'
  | 0, D, HD, _, A, B, ns, ms, ca, cb, r, s, i, j, w, ha, hb, hka, hkb, hi, hj => by
    have HF := hide (tf_true (eqN_zero ns ms (i : Int) (j : Int)))
    have t0 : (D == 0) = true := by rw [HD.out]; rfl
    have hB1 : Below w.heap.size w ((w.alloc (.cells #[.slice A ns.length ca, .int .i64 r] 25)).alloc (.cells #[.slice B ms.length cb, .int .i64 s] 25)) := ((Below.refl _ _).alloc (Nat.le_refl _) _).alloc (by simp) _
    have HB := hide hB1
    clear ha hb hB1 HD
    go_enter Try.func17, Try.ntmps17
    go_wp2
    go_ret
    exact ⟨ret_bool HF.out.symm, HB.out⟩
  | d + 1, D, HD, hd, A, B, ns, ms, ca, cb, r, s, i, j, w, ha, hb, hka, hkb, hi, hj => by
    have IH := hide (equalTo_any d)
    have t0 : (D == 0) = false := by rw [HD.out]; exact beq_eq_false_iff_ne.2 (by omega)
    have HW : Hid (IntKind.i64.wrap (D - 1) = D - 1) := hide (by rw [HD.out, IntKind.wrap_i64]; omega)
    have HD1 : Hid (D - 1 = (d : Int)) := hide (by rw [HD.out]; omega)
    have hnl := ha.len
    have hml := hb.len
    obtain ⟨b, off, n, rfl, hbn, hn, hmn, hnd⟩ := ha.at_ hi
    obtain ⟨b2, off2, m, rfl, hbm, hm, hmm, hnm⟩ := hb.at_ hj
    obtain ⟨An, cn, kn2, hkn, _⟩ := hnd.kids
    obtain ⟨Am, cm, km2, hkm, _⟩ := hnm.kids
    have kn0 := hnd.kind
    have kn1 := hnd.value
    have km0 := hnm.kind
    have km1 := hnm.value
    have HS := hide (eqN_step hn hm d)
    have hi0 : (0 : Int) ≤ (i : Int) := by omega
    have hi1 : (i : Int) < (ns.length : Int) := by omega
    have hj0 : (0 : Int) ≤ (j : Int) := by omega
    have hj1 : (j : Int) < (ms.length : Int) := by omega
    have HKn := hide (hka n hmn)
    have HKm := hide (hkb m hmm)
    have Hkn := hide hkn
    have Hkm := hide hkm
    have HA := hide ha
    have HBB := hide hb
    have HKA := hide hka
    have HKB := hide hkb
    have hlkn := hkn.len
    have hlkm := hkm.len
    have hB1 : Below w.heap.size w ((w.alloc (.cells #[.slice (some ⟨b, off, none⟩) ns.length ca, .int .i64 r] 25)).alloc (.cells #[.slice (some ⟨b2, off2, none⟩) ms.length cb, .int .i64 s] 25)) := ((Below.refl _ _).alloc (Nat.le_refl _) _).alloc (by simp) _
    have lA := (Lies.new w #[.slice (some ⟨b, off, none⟩) ns.length ca, .int .i64 r] 25).alloc (.cells #[.slice (some ⟨b2, off2, none⟩) ms.length cb, .int .i64 s] 25)
    have lB := Lies.new (w.alloc (.cells #[.slice (some ⟨b, off, none⟩) ns.length ca, .int .i64 r] 25)) #[.slice (some ⟨b2, off2, none⟩) ms.length cb, .int .i64 s] 25
    simp only [World.size_alloc] at lB
    clear hn hm hmn hmm ha hb hka hkb hnd hnm hkn hkm HD
    go_enter Try.func17, Try.ntmps17
    go_upto_region 3 with fail
    generalize (w.alloc (.cells #[.slice (some ⟨b, off, none⟩) ns.length ca, .int .i64 r] 25)).alloc (.cells #[.slice (some ⟨b2, off2, none⟩) ms.length cb, .int .i64 s] 25) = W at hB1 lA lB ⊢
    have hWA : w.heap.size < W.heap.size := lA.lt
    have hWB : w.heap.size + 1 < W.heap.size := lB.lt
    have hbW : b < W.heap.size := by omega
    have hb2W : b2 < W.heap.size := by omega
    have HCs := hide (show ∀ X : World, Below W.heap.size W X → X.cell? ⟨w.heap.size, 0, none⟩ = some (.slice (some ⟨b, off, none⟩) ns.length ca) ∧ X.cell? ⟨w.heap.size, 1, none⟩ = some (.int .i64 r) ∧ X.cell? ⟨w.heap.size + 1, 0, none⟩ = some (.slice (some ⟨b2, off2, none⟩) ms.length cb) ∧ X.cell? ⟨w.heap.size + 1, 1, none⟩ = some (.int .i64 s) ∧ X.cell? ⟨b, off + i * 3, none⟩ = some (.int .i64 n.kind) ∧ X.cell? ⟨b, off + i * 3 + 1, none⟩ = some (.int .i64 n.value) ∧ X.cell? ⟨b, off + i * 3 + 2, none⟩ = some (.slice An n.kids.length cn) ∧ X.cell? ⟨b2, off2 + j * 3, none⟩ = some (.int .i64 m.kind) ∧ X.cell? ⟨b2, off2 + j * 3 + 1, none⟩ = some (.int .i64 m.value) ∧ X.cell? ⟨b2, off2 + j * 3 + 2, none⟩ = some (.slice Am m.kids.length cm) from fun X hX => by
      have e0 := (lA.below hX hWA).cell 0
      have e1 := (lA.below hX hWA).cell 1
      have d0 := (lB.below hX hWB).cell 0
      have d1 := (lB.below hX hWB).cell 1
      simp only [List.getElem?_toArray, List.getElem?_cons_zero, List.getElem?_cons_succ] at e0 e1 d0 d1
      have hX2 := hB1.trans (hX.mono hB1.size)
      exact ⟨e0, e1, d0, d1, (hX2.cell (p := ⟨b, off + i * 3, none⟩) hbn).trans kn0, (hX2.cell (p := ⟨b, off + i * 3 + 1, none⟩) hbn).trans kn1, (hX2.cell (p := ⟨b, off + i * 3 + 2, none⟩) hbn).trans kn2, (hX2.cell (p := ⟨b2, off2 + j * 3, none⟩) hbm).trans km0, (hX2.cell (p := ⟨b2, off2 + j * 3 + 1, none⟩) hbm).trans km1, (hX2.cell (p := ⟨b2, off2 + j * 3 + 2, none⟩) hbm).trans km2⟩)
    have HB1 := hide hB1
    clear hB1 lA lB kn0 kn1 kn2 km0 km1 km2
    obtain ⟨a0, a1, a2, a3, kn0, kn1, kn2, km0, km1, km2⟩ := HCs.out W (Below.refl _ _)
    go_region_held3 (fun w' => w'.cell? ⟨w.heap.size, 0, none⟩ = some (.slice (some ⟨b, off, none⟩) ns.length ca) ∧ w'.cell? ⟨w.heap.size + 1, 0, none⟩ = some (.slice (some ⟨b2, off2, none⟩) ms.length cb) ∧ w'.cell? ⟨b, off + i * 3, none⟩ = some (.int .i64 n.kind) ∧ w'.cell? ⟨b, off + i * 3 + 1, none⟩ = some (.int .i64 n.value) ∧ w'.cell? ⟨b, off + i * 3 + 2, none⟩ = some (.slice An n.kids.length cn) ∧ w'.cell? ⟨b2, off2 + j * 3, none⟩ = some (.int .i64 m.kind) ∧ w'.cell? ⟨b2, off2 + j * 3 + 1, none⟩ = some (.int .i64 m.value) ∧ w'.cell? ⟨b2, off2 + j * 3 + 2, none⟩ = some (.slice Am m.kids.length cm))
      (first
        | (go_split_ands; refine ⟨?_, ?_, ?_, ?_, ?_, ?_, ?_, ?_⟩ <;> assumption))
      (first
        | (go_at_call 37; refine (alike_any An Am cn cm n m W.drew).mono ?_; rintro e w1 ⟨rfl, hb1⟩; have hbw : Below W.heap.size W w1 := (Below.refl _ _).drew.trans (hb1.mono (by simp)); obtain ⟨p0, p1, p2, p3, p4, p5, p6, p7, p8, p9⟩ := HCs.out w1 hbw))
    have HBw := hide hbw
    have hsz := hbw.size
    clear a0 a1 a2 a3 kn0 kn1 kn2 km0 km1 km2 hb1 hbw
    by_cases hal : Alike n m
    · rw [tf_true hal]
      have Hal := hide hal
      have Hlen : Hid (n.kids.length = m.kids.length) := hal.2.2
      clear hal
      go_wp2_with fail
      clear p0 p1 p2 p3 p4 p5 p6 p7 p8 p9
      go_loopg [11] n.kids.length (fun gk kv wr => ∃ k : Nat, k ≤ n.kids.length ∧ gk = n.kids.length - k ∧ kv = .int .i64 (k : Int) ∧ Below W.heap.size W wr ∧ ∀ (q : Nat) (x y : Int), q < k → n.kids[q]? = some x → m.kids[q]? = some y → EqN ns ms d x y)
      case atStart => exact ⟨0, Nat.zero_le _, rfl, rfl, HBw.out, fun q x y hq => absurd hq (by omega)⟩
      case round =>
        clear HBw hsz
        obtain ⟨k, hk, rfl, rfl, hbw, hall0⟩ := hrel
        have Hall := hide hall0
        have HBw := hide hbw
        have hsz := hbw.size
        obtain ⟨a0, a1, a2, a3, _, _, kn2, _, _, km2⟩ := HCs.out wr hbw
        clear hall0 hbw
        by_cases hlk : k < n.kids.length
        · obtain ⟨b5, o5, x, rfl, hb5, hx, hxm, hcx⟩ := (Hkn.out.below (HB1.out.trans (HBw.out.mono HB1.out.size))).at_ hlk
          obtain ⟨b6, o6, y, rfl, hb6, hy, hym, hcy⟩ := (Hkm.out.below (HB1.out.trans (HBw.out.mono HB1.out.size))).at_ (k := k) (by have := Hlen.out; omega)
          have HX := hide hx
          have HY := hide hy
          obtain ⟨x0, x2⟩ := HKn.out x hxm
          obtain ⟨y0, y2⟩ := HKm.out y hym
          obtain ⟨xn, rfl⟩ := Int.eq_ofNat_of_zero_le x0
          obtain ⟨yn, rfl⟩ := Int.eq_ofNat_of_zero_le y0
          have hj0' : (0 : Int) ≤ (k : Int) := by omega
          have hj1' : (k : Int) < (n.kids.length : Int) := by omega
          have hj2' : (k : Int) < (m.kids.length : Int) := by have := Hlen.out; omega
          have hxn : xn < ns.length := by omega
          have hyn : yn < ms.length := by omega
          have hb5W : b5 < W.heap.size := by omega
          have hb6W : b6 < W.heap.size := by omega
          have HCx := hide hcx
          have HCy := hide hcy
          have hszw := HB1.out.size
          have Hrec := hide (fun (X : World) (hX : Below W.heap.size wr X) => IH.out (D - 1) HD1 (by omega) (some ⟨b, off, none⟩) (some ⟨b2, off2, none⟩) ns ms ca cb r s xn yn X ((HA.out.below (HB1.out.trans (HBw.out.mono HB1.out.size))).later (hX.mono (by omega)) (by omega)) ((HBB.out.below (HB1.out.trans (HBw.out.mono HB1.out.size))).later (hX.mono (by omega)) (by omega)) HKA.out HKB.out hxn hyn)
          clear hx hxm hy hym x2 y2 hb5 hb6
          go_wp2_with fail
          go_region_held3 (fun w' => w'.cell? ⟨w.heap.size, 0, none⟩ = some (.slice (some ⟨b, off, none⟩) ns.length ca) ∧ w'.cell? ⟨w.heap.size, 1, none⟩ = some (.int .i64 r) ∧ w'.cell? ⟨w.heap.size + 1, 0, none⟩ = some (.slice (some ⟨b2, off2, none⟩) ms.length cb) ∧ w'.cell? ⟨w.heap.size + 1, 1, none⟩ = some (.int .i64 s) ∧ w'.cell? ⟨b, off + i * 3 + 2, none⟩ = some (.slice (some ⟨b5, o5, none⟩) n.kids.length cn) ∧ w'.cell? ⟨b2, off2 + j * 3 + 2, none⟩ = some (.slice (some ⟨b6, o6, none⟩) m.kids.length cm) ∧ w'.cell? ⟨b5, o5 + k, none⟩ = some (.int .i64 (xn : Int)) ∧ w'.cell? ⟨b6, o6 + k, none⟩ = some (.int .i64 (yn : Int)))
            (first
              | (go_split_ands; refine ⟨?_, ?_, ?_, ?_, ?_, ?_, ?_, ?_⟩ <;> assumption))
            (first
              | (go_at_call 17; rw [HW.out]; refine (Hrec.out _ (Below.refl _ _).drew).mono ?_; rintro e w5 ⟨rfl, hb5'⟩; have hbx : Below W.heap.size W w5 := HBw.out.trans ((Below.refl W.heap.size wr).drew.trans (hb5'.mono (by simp; omega))); obtain ⟨p0, p1, p2, p3, _, _, p6, _, _, p9⟩ := HCs.out w5 hbx; have p10 := (((Below.refl wr.heap.size wr).drew.trans (hb5'.mono (by simp))).cell (p := ⟨b5, o5 + k, none⟩) (by show b5 < wr.heap.size; omega)).trans HCx.out; have p11 := (((Below.refl wr.heap.size wr).drew.trans (hb5'.mono (by simp))).cell (p := ⟨b6, o6 + k, none⟩) (by show b6 < wr.heap.size; omega)).trans HCy.out))
          have HBx := hide hbx
          clear hb5' hbx a0 a1 a2 a3 kn2 km2 p0 p1 p2 p3 p6 p9 p10 p11 hcx hcy Hrec
          by_cases hq : EqN ns ms d (xn : Int) (yn : Int)
          · rw [tf_true hq]
            have HQ := hide hq
            clear hq
            go_wp2
            go_roundg (n.kids.length - (k + 1))
            case measure => omega
            case rel => exact ⟨k + 1, by omega, rfl, by go_num, HBx.out, fun q a c hq ha hc => by
              by_cases e : q = k
              · subst e
                rw [HX.out] at ha
                rw [HY.out] at hc
                injection ha with ha
                injection hc with hc
                rw [← ha, ← hc]
                exact HQ.out
              · exact Hall.out q a c (by omega) ha hc⟩
          · rw [tf_false hq]
            have HF := hide (show tf (EqN ns ms (d + 1) (i : Int) (j : Int)) = false from tf_false (fun h => hq ((HS.out.1 h).2 k _ _ HX.out HY.out)))
            have HBf := hide (HB1.out.trans (HBx.out.mono HB1.out.size))
            clear hq
            go_wp2
            go_ret
            exact ⟨ret_bool HF.out.symm, HBf.out⟩
        · obtain rfl : k = n.kids.length := by omega
          have HF := hide (show tf (EqN ns ms (d + 1) (i : Int) (j : Int)) = true from tf_true (HS.out.2 ⟨Hal.out, fun p a c ha hc => Hall.out p a c (List.getElem?_eq_some_iff.1 ha).1 ha hc⟩))
          have hj1' : decide ((n.kids.length : Int) < (n.kids.length : Int)) = false := by simp
          have HBf := hide (HB1.out.trans (HBw.out.mono HB1.out.size))
          go_wp2
          go_ret
          exact ⟨ret_bool HF.out.symm, HBf.out⟩
    · rw [tf_false hal]
      have HF := hide (show tf (EqN ns ms (d + 1) (i : Int) (j : Int)) = false from tf_false (fun h => hal (HS.out.1 h).1))
      have HBf := hide (HB1.out.trans (HBw.out.mono HB1.out.size))
      clear hal
      go_wp2
      go_ret
      exact ⟨ret_bool HF.out.symm, HBf.out⟩

end Go.Proofs.Ytpcfjdhalglebaa
