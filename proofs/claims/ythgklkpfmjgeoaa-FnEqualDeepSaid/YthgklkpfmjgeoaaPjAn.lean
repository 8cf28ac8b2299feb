/-
  Lemmas, several texts in one: RplM, CngM, OwnC, InpM.
-/
import Derived.Test.YthgklkpfmjgeoaaPjAe
import Derived.Test.YthgklkpfmjgeoaaPjAl
import Derived.Test.YthgklkpfmjgeoaaPjAf
import Derived.Test.YthgklkpfmjgeoaaPjAb
import Derived.Test.YthgklkpfmjgeoaaPjAa
import Derived.Maps.RangeWalk
namespace Go.Proofs.Ythgklkpfmjgeoaa
open Go.RowKit Go.Maps
set_option linter.unusedVariables false

/-- the node cl[i] stands in the place of the node i -/
def replNd (cl : List Int) (n : Nd) : Nd := ⟨n.kind, n.value, n.kids.map (look cl)⟩
def replNs (ns : List Nd) (cl : List Int) : List Nd := ns.map (replNd cl)
theorem replNs_len (ns : List Nd) (cl : List Int) : (replNs ns cl).length = ns.length := by simp [replNs]
theorem replNs_at {ns : List Nd} {cl : List Int} {k : Nat} {n : Nd} (h : ns[k]? = some n) : (replNs ns cl)[k]? = some (replNd cl n) := by
  unfold replNs
  rw [List.getElem?_map, h]
  rfl
theorem look_mem {cl : List Int} {x : Int} (h0 : 0 ≤ x) (h1 : x < cl.length) : look cl x ∈ cl := by
  obtain ⟨i, rfl⟩ := Int.eq_ofNat_of_zero_le h0
  have : cl[i]? = some cl[i] := List.getElem?_eq_getElem (by omega)
  rw [look_at this]
  exact List.getElem_mem _

theorem OwnNs.lowQ {w : World} {lo lo2 hi : Nat} {A : Option Addr} {c : Nat} {ns : List Nd} (h : OwnNs w lo hi A c ns) (h2 : lo2 ≤ lo) : OwnNs w lo2 hi A c ns := by
  rcases h with h | ⟨g, e, h⟩
  · exact .inl h
  · exact .inr ⟨g, e, h.low h2⟩

/-- the result is stored, wherever its cell lies -/
theorem GivesG.putQ {w wd w2 w3 : World} {q : Nat} {A : Option Addr} {c : Nat} {ms : List Nd} {r : Int} (hq0 : w.heap.size ≤ q) (hq : q < wd.heap.size) (h0 : Below w.heap.size w wd) (h2 : Below wd.heap.size wd w2) (h3 : Below w2.heap.size w2 w3) (h : OwnNs w3 w2.heap.size w3.heap.size A c ms) :
    GivesG w ms r (.returned (.agg #[.slice A ms.length c, .int .i64 r])) ((w3.setCell ⟨q, 0, none⟩ (.slice A ms.length c)).setCell ⟨q, 1, none⟩ (.int .i64 r)) := by
  have hs2 := h2.size
  have hsd := h0.size
  refine ⟨A, c, rfl, ?_, ((h0.trans ((h2.mono hsd).trans (h3.mono (by omega)))).setCell (p := ⟨q, 0, none⟩) hq0 _).setCell (p := ⟨q, 1, none⟩) hq0 _⟩
  have := (h.kept (w' := (w3.setCell ⟨q, 0, none⟩ (.slice A ms.length c)).setCell ⟨q, 1, none⟩ (.int .i64 r)) (fun b hb _ => (Below.heap_setCell _ _ _ _ (by show b ≠ q; omega)).trans (Below.heap_setCell _ _ _ _ (by show b ≠ q; omega)))).lowQ (lo2 := w.heap.size) (by omega)
  simpa using this

end Go.Proofs.Ythgklkpfmjgeoaa

namespace Go.Proofs.Ythgklkpfmjgeoaa
open Go.RowKit Go.Maps
set_option linter.unusedVariables false

/-- nodes of an equal class are told the same -/
structure Cong (ns : List Nd) (cl : List Int) : Prop where
  len : cl.length = ns.length
  rng : ∀ x : Int, 0 ≤ x → x < ns.length → 0 ≤ look cl x ∧ look cl x < ns.length
  idem : ∀ x : Int, 0 ≤ x → x < ns.length → look cl (look cl x) = look cl x
  same : ∀ (i j : Nat) (n m : Nd), ns[i]? = some n → ns[j]? = some m → look cl (i : Int) = look cl (j : Int) → sigOf cl n = sigOf cl m

theorem cong_cls {ns : List Nd} (hk : KidsIn ns) : Cong ns (clsN ns ns.length) := by
  have hall := cls_all hk 1
  refine ⟨clsN_len _ _, fun x h0 h1 => ?_, fun x h0 h1 => ?_, fun i j n m hn hm h => ?_⟩
  · obtain ⟨i, rfl⟩ := Int.eq_ofNat_of_zero_le h0
    obtain ⟨j, g1, g2, g3⟩ := cls_self (ns := ns) ns.length (show i < ns.length by omega)
    rw [look_at g1]
    omega
  · obtain ⟨i, rfl⟩ := Int.eq_ofNat_of_zero_le h0
    obtain ⟨j, g1, g2, g3⟩ := cls_self (ns := ns) ns.length (show i < ns.length by omega)
    rw [look_at g1, look_at g3]
  · rw [← hall] at h
    exact (finer_eq (cl := clsN ns ns.length) hn hm).1 h

theorem sig_parts {cl : List Int} {n m : Nd} (h : sigOf cl n = sigOf cl m) : n.kind = m.kind ∧ n.value = m.value ∧ n.kids.map (look cl) = m.kids.map (look cl) := by
  unfold sigOf at h
  simp only [Prod.mk.injEq] at h
  exact h

/-- a kid of the one is the kid of the other at the same place -/
theorem sig_kid {cl : List Int} {n m : Nd} (h : sigOf cl n = sigOf cl m) {x : Int} (hx : x ∈ n.kids) : ∃ y ∈ m.kids, look cl y = look cl x := by
  have h3 := (sig_parts h).2.2
  have : look cl x ∈ m.kids.map (look cl) := by rw [← h3]; exact List.mem_map_of_mem hx
  obtain ⟨y, hy, e⟩ := List.mem_map.1 this
  exact ⟨y, hy, e⟩

theorem kidsOf_repl {ns : List Nd} {cl : List Int} {i : Nat} {n : Nd} (h : ns[i]? = some n) : kidsOf (replNs ns cl) (i : Int) = n.kids.map (look cl) := kidsOf_at (replNs_at h)
theorem kindOf_repl {ns : List Nd} {cl : List Int} {i : Nat} {n : Nd} (h : ns[i]? = some n) : kindOf (replNs ns cl) (i : Int) = n.kind := by
  have := kindOf_at (replNs_at (cl := cl) h)
  exact this

/-- a node that is met, and what it is -/
theorem nd_of {ns : List Nd} {x : Int} (h0 : 0 ≤ x) (h1 : x < ns.length) : ∃ (i : Nat) (n : Nd), x = (i : Int) ∧ ns[i]? = some n := in_at ⟨h0, h1⟩

theorem kid_range {ns : List Nd} (hk : KidsIn ns) {i : Nat} {n : Nd} (h : ns[i]? = some n) {x : Int} (hx : x ∈ n.kids) : 0 ≤ x ∧ x < ns.length := hk n (List.mem_of_getElem? h) x hx

/-- a way in the graph of classes is one in the graph, from each node of the class -/
theorem treach_lift {ns : List Nd} {cl : List Int} (hk : KidsIn ns) (hc : Cong ns cl) {i : Nat} {n : Nd} (hi : ns[i]? = some n) {y : Int} (h : TReach (replNs ns cl) (i : Int) y) :
    (0 ≤ y ∧ y < ns.length) ∧ ∀ (a : Nat) (m : Nd), ns[a]? = some m → look cl (a : Int) = look cl (i : Int) → ∃ (b : Nat) (q : Nd), ns[b]? = some q ∧ TReach ns (a : Int) (b : Int) ∧ look cl (b : Int) = look cl y := by
  induction h with
  | kid x hx =>
    rw [kidsOf_repl hi] at hx
    obtain ⟨k, hkm, rfl⟩ := List.mem_map.1 hx
    have hkr := kid_range hk hi hkm
    refine ⟨hc.rng k hkr.1 hkr.2, fun a m ha he => ?_⟩
    obtain ⟨z, hz, ez⟩ := sig_kid (hc.same i a n m hi ha he.symm) hkm
    have hzr := kid_range hk ha hz
    obtain ⟨b, q, rfl, hq⟩ := nd_of hzr.1 hzr.2
    exact ⟨b, q, hq, .kid _ (by rw [kidsOf_at ha]; exact hz), by rw [ez, hc.idem k hkr.1 hkr.2]⟩
  | step y x hy hy2 hx ih =>
    obtain ⟨hyr, ih⟩ := ih
    obtain ⟨j, w, rfl, hj⟩ := nd_of hyr.1 hyr.2
    rw [kidsOf_repl hj] at hx
    rw [kindOf_repl hj] at hy2
    obtain ⟨k, hkm, rfl⟩ := List.mem_map.1 hx
    have hkr := kid_range hk hj hkm
    refine ⟨hc.rng k hkr.1 hkr.2, fun a m ha he => ?_⟩
    obtain ⟨b, q, hq, hr, hbl⟩ := ih a m ha he
    have hs := hc.same j b w q hj hq hbl.symm
    obtain ⟨z, hz, ez⟩ := sig_kid hs hkm
    have hzr := kid_range hk hq hz
    obtain ⟨b', q', rfl, hq'⟩ := nd_of hzr.1 hzr.2
    exact ⟨b', q', hq', .step _ _ hr (by rw [kindOf_at hq, ← (sig_parts hs).1]; exact hy2) (by rw [kidsOf_at hq]; exact hz), by rw [ez, hc.idem k hkr.1 hkr.2]⟩

theorem treach_thru {ns : List Nd} {a b c : Int} (h1 : TReach ns a b) (hb : kindOf ns b = 2) (h2 : TReach ns b c) : TReach ns a c := by
  induction h2 with
  | kid x hx => exact .step _ _ h1 hb hx
  | step y x _ hy2 hx ih => exact .step _ _ ih hy2 hx

/-- tuples that lead to a tuple of their own class lead on for ever -/
theorem treach_none {ns : List Nd} {cl : List Int} {r : Int} (hv : ValidG ns r) (hc : Cong ns cl) {i : Nat} {n : Nd} (hi : ns[i]? = some n) (h2 : n.kind = 2) (ht : TReach (replNs ns cl) (i : Int) (i : Int)) :
    ∀ (M : Nat) (a : Nat) (m : Nd), ns[a]? = some m → look cl (a : Int) = look cl (i : Int) → (List.range ns.length).countP (fun (x : Nat) => tf (TReach ns (a : Int) (x : Int))) ≤ M → False := by
  have hk := validG_kids hv
  have hl := (treach_lift hk hc hi ht).2
  intro M
  induction M with
  | zero =>
    intro a m ha he hM
    obtain ⟨b, q, hq, hr, _⟩ := hl a m ha he
    have hbl := (List.getElem?_eq_some_iff.1 hq).1
    have : 0 < (List.range ns.length).countP (fun (x : Nat) => tf (TReach ns (a : Int) (x : Int))) := List.countP_pos_iff.2 ⟨b, List.mem_range.2 hbl, tf_true hr⟩
    omega
  | succ M ih =>
    intro a m ha he hM
    obtain ⟨b, q, hq, hr, hbe⟩ := hl a m ha he
    have hq2 : q.kind = 2 := by rw [← (sig_parts (hc.same i b n q hi hq hbe.symm)).1]; exact h2
    have hbl := (List.getElem?_eq_some_iff.1 hq).1
    refine ih b q hq hbe ?_
    apply Nat.le_of_lt_succ
    refine Nat.lt_of_lt_of_le ?_ hM
    apply Nat.lt_of_not_le
    intro hle
    have hb := countP_back (List.range ns.length) (p := fun (x : Nat) => tf (TReach ns (b : Int) (x : Int))) (q := fun (x : Nat) => tf (TReach ns (a : Int) (x : Int)))
      (fun x _ hx => tf_true (treach_thru hr (by rw [kindOf_at hq]; exact hq2) (Classical.byContradiction fun hn => by rw [tf_false hn] at hx; cases hx))) hle b (List.mem_range.2 hbl) (tf_true hr)
    refine hv.tuples b q hq hq2 (Classical.byContradiction fun hn => ?_)
    rw [tf_false hn] at hb
    cases hb

theorem dict_repl {ns : List Nd} {cl : List Int} (hc : Cong ns cl) {kids : List Int} (hin : InG ns kids) (hd : DictOk ns kids) : DictOk (replNs ns cl) (kids.map (look cl)) := by
  have back : ∀ (p : Nat) (m : Nd), KidNd (replNs ns cl) (kids.map (look cl)) p m → ∃ n, KidNd ns kids p n ∧ m.kind = n.kind ∧ m.value = n.value := by
    rintro p m ⟨k, h1, h2⟩
    rw [List.getElem?_map] at h1
    cases hx : kids[p]? with
    | none => rw [hx] at h1; cases h1
    | some x =>
      rw [hx] at h1
      have e : look cl x = (k : Int) := by simpa using h1
      have hxr := hin x (List.mem_of_getElem? hx)
      obtain ⟨i, n, rfl, hn⟩ := nd_of hxr.1 hxr.2
      have hkl : k < ns.length := by have := (hc.rng (i : Int) hxr.1 hxr.2).2; omega
      have hq : ns[k]? = some ns[k] := List.getElem?_eq_getElem hkl
      rw [replNs_at hq] at h2
      injection h2 with h2
      have hs := sig_parts (hc.same i k n _ hn hq (by rw [← e, hc.idem _ hxr.1 hxr.2]))
      exact ⟨n, ⟨i, hx, hn⟩, by rw [← h2]; exact hs.1.symm, by rw [← h2]; exact hs.2.1.symm⟩
  refine ⟨by rw [List.length_map]; exact hd.even, fun p m hp hm => ?_, fun p q m n hp hq hlt hm hn => ?_⟩
  · obtain ⟨n, h1, h2, _⟩ := back p m hm
    have := hd.key p n hp h1
    unfold IsKey at this ⊢
    rw [h2]
    exact this
  · obtain ⟨m', h1, h2, h3⟩ := back p m hm
    obtain ⟨n', h4, h5, h6⟩ := back q n hn
    have := hd.diff p q m' n' hp hq hlt h1 h4
    unfold SameKey at this ⊢
    rw [h2, h3, h5, h6]
    exact this

theorem repl_valid {ns : List Nd} {cl : List Int} {r : Int} (hv : ValidG ns r) (hc : Cong ns cl) : ValidG (replNs ns cl) (look cl r) := by
  have hrr := hc.rng r hv.root0 hv.root
  refine ⟨by rw [replNs_len]; exact hv.one, by rw [replNs_len]; exact hv.few, hrr.1, by rw [replNs_len]; exact hrr.2, fun m hm => ?_, fun i m hi hk2 ht => ?_⟩
  · obtain ⟨n, hn, rfl⟩ := List.mem_map.1 hm
    have hok := hv.nodes n hn
    refine ⟨by simpa [replNd] using hok.few, fun y hy => ?_, ?_⟩
    · obtain ⟨k, hk, rfl⟩ := List.mem_map.1 (show y ∈ n.kids.map (look cl) from hy)
      rw [replNs_len]
      exact hc.rng k (hok.inn k hk).1 (hok.inn k hk).2
    · have := hok.kind
      unfold KindOk at this ⊢
      simp only [replNd, List.length_map]
      rcases this with h1 | h1 | h1 | h1 | h1 | h1
      · exact .inl h1
      · exact .inr (.inl h1)
      · exact .inr (.inr (.inl h1))
      · exact .inr (.inr (.inr (.inl h1)))
      · exact .inr (.inr (.inr (.inr (.inl ⟨h1.1, h1.2.1, dict_repl hc hok.inn h1.2.2⟩))))
      · exact .inr (.inr (.inr (.inr (.inr h1))))
  · have hil : i < ns.length := by have := (List.getElem?_eq_some_iff.1 hi).1; rwa [replNs_len] at this
    have hn : ns[i]? = some ns[i] := List.getElem?_eq_getElem hil
    rw [replNs_at hn] at hi
    injection hi with hi
    rw [← hi] at hk2
    exact treach_none hv hc hn hk2 ht _ i _ hn rfl (Nat.le_refl _)

end Go.Proofs.Ythgklkpfmjgeoaa

namespace Go.Proofs.Ythgklkpfmjgeoaa
open Go.RowKit
set_option linter.unusedVariables false

theorem OwnI.ofB {w w' : World} {base : Nat} {A : Option Addr} {c : Nat} {xs : List Int} (h : OwnI w base A c xs) (hA : ∀ g, blockOf A = some g → w'.heap[g]? = w.heap[g]?) : OwnI w' base A c xs := by
  refine ⟨h.own.1, ?_⟩
  rcases h.own.2 with h2 | ⟨g, cap, cur, hv, hg, hh, r⟩
  · exact .inl h2
  · refine .inr ⟨g, cap, cur, hv, hg, ?_, r⟩
    rw [hA g (by injection hv with hv; rw [hv]; rfl)]
    exact hh

theorem OwnI.setAt {w : World} {base g : Nat} {c : Nat} {xs : List Int} (h : OwnI w base (some ⟨g, 0, none⟩) c xs) (j : Nat) (x : Int) :
    OwnI (w.setCell ⟨g, j, none⟩ (.int .i64 x)) base (some ⟨g, 0, none⟩) c (xs.set j x) := by
  have := (h.own.stored j (.int .i64 x)).1
  refine ⟨?_⟩
  rw [List.length_set, List.map_set]
  exact this

/-- the first of its elements, with the same room behind them -/
theorem OwnI.cutAt {w : World} {base : Nat} {A : Option Addr} {c : Nat} {xs : List Int} (h : OwnI w base A c xs) {k : Nat} (hk : k ≤ xs.length) : OwnI w base A c (xs.take k) := by
  have hl : (xs.take k).length = k := by simp; omega
  obtain ⟨h1, h2⟩ := h.own
  refine ⟨⟨by simp, ?_⟩⟩
  rcases h2 with ⟨h3, h4⟩ | ⟨g, cap, cur, hv, hg, hh, hn, hm, hs, ht⟩
  · have : xs = [] := List.eq_nil_of_length_eq_zero h4
    subst this
    exact .inl ⟨by simpa using h3, by simp⟩
  · refine .inr ⟨g, cap, cur, ?_, hg, hh, by omega, hm, hs, ?_⟩
    · injection hv with e1 _ e3
      rw [e1, e3]
    · rw [hl]
      have := congrArg (fun l => l.take k) ht
      simp only [List.take_take, Nat.mul_one] at this
      rw [Nat.min_eq_left hk] at this
      rw [Nat.mul_one, this, List.map_take]

theorem OwnI.capLen {w : World} {base : Nat} {A : Option Addr} {c : Nat} {xs : List Int} (h : OwnI w base A c xs) : xs.length ≤ c := by
  rcases h.own with ⟨hl, hh⟩
  rcases hh with ⟨h1, h2⟩ | ⟨g, cap, cur, hv, hg, hh, hle, hm, hs, hx⟩
  · rw [h2]; exact Nat.zero_le _
  · injection hv with _ _ h3
    subst h3
    exact hle

theorem OwnI.frozenM {w : World} {base g : Nat} {c : Nat} {xs : List Int} (h : OwnI w base (some ⟨g, 0, none⟩) c xs) (j : Nat) : w.frozen? ⟨g, j, none⟩ = false := by
  rcases h.own.2 with ⟨h1, _⟩ | ⟨g', cap, cur, hv, hg, hh, _⟩
  · injection h1 with h1
    cases h1
  · injection hv with hv _ hc
    obtain rfl : g = g' := by simpa using hv
    exact Lies.frozen hh j
theorem OwnI.cellM {w : World} {base g : Nat} {c : Nat} {xs : List Int} (h : OwnI w base (some ⟨g, 0, none⟩) c xs) {j : Nat} {x : Int} (hj : xs[j]? = some x) : w.cell? ⟨g, j, none⟩ = some (.int .i64 x) := by
  rw [h.own.cellAt j (by have := (List.getElem?_eq_some_iff.1 hj).1; omega), List.getElem?_map, hj]
  rfl

end Go.Proofs.Ythgklkpfmjgeoaa

namespace Go.Proofs.Ythgklkpfmjgeoaa
open Go.RowKit Go.Maps
set_option linter.unusedVariables false

/-- a node of which the first k kids are written -/
def halfK (cl : List Int) (ks : List Int) (k : Nat) : List Int := (ks.take k).map (look cl) ++ ks.drop k
theorem halfK_len (cl ks : List Int) (k : Nat) : (halfK cl ks k).length = ks.length := by
  unfold halfK
  simp
  omega
theorem halfK_zero (cl ks : List Int) : halfK cl ks 0 = ks := by simp [halfK]
theorem halfK_all (cl ks : List Int) : halfK cl ks ks.length = ks.map (look cl) := by simp [halfK]
theorem halfK_at {cl ks : List Int} {k : Nat} {x : Int} (h : ks[k]? = some x) : (halfK cl ks k)[k]? = some x := by
  have hk := (List.getElem?_eq_some_iff.1 h).1
  unfold halfK
  rw [List.getElem?_append_right (by simp; omega)]
  simp only [List.length_map, List.length_take]
  rw [Nat.min_eq_left (by omega), Nat.sub_self, List.getElem?_drop, Nat.add_zero, h]
theorem halfK_set {cl ks : List Int} {k : Nat} {x : Int} (h : ks[k]? = some x) : (halfK cl ks k).set k (look cl x) = halfK cl ks (k + 1) := by
  have hk := (List.getElem?_eq_some_iff.1 h).1
  have hd : ks.drop k = x :: ks.drop (k + 1) := drop_at h
  have hl : ((ks.take k).map (look cl)).length = k := by simp; omega
  unfold halfK
  rw [List.set_append, if_neg (by omega), hl, Nat.sub_self, hd, List.set_cons_zero, List.take_add_one, h]
  simp

/-- the nodes when those before i are written, and the first k kids of i -/
def stNd (cl : List Int) (i k j : Nat) (n : Nd) : Nd := if j < i then replNd cl n else if j = i then ⟨n.kind, n.value, halfK cl n.kids k⟩ else n
def stN (ns : List Nd) (cl : List Int) (i k : Nat) : List Nd := ns.mapIdx (stNd cl i k)
theorem stN_len (ns : List Nd) (cl : List Int) (i k : Nat) : (stN ns cl i k).length = ns.length := by simp [stN]
theorem stN_get (ns : List Nd) (cl : List Int) (i k j : Nat) : (stN ns cl i k)[j]? = (ns[j]?).map (stNd cl i k j) := by
  unfold stN
  rw [List.getElem?_mapIdx]
theorem stN_at {ns : List Nd} {cl : List Int} {i k : Nat} {n : Nd} (h : ns[i]? = some n) : (stN ns cl i k)[i]? = some ⟨n.kind, n.value, halfK cl n.kids k⟩ := by
  rw [stN_get, h]
  simp [stNd]
theorem stN_zero (ns : List Nd) (cl : List Int) : stN ns cl 0 0 = ns := by
  apply List.ext_getElem?
  intro j
  rw [stN_get]
  cases h : ns[j]? with
  | none => rfl
  | some n =>
    simp only [Option.map_some, stNd, Nat.not_lt_zero, if_false, halfK_zero]
    split <;> rfl
theorem stN_all (ns : List Nd) (cl : List Int) (k : Nat) : stN ns cl ns.length k = replNs ns cl := by
  apply List.ext_getElem?
  intro j
  rw [stN_get]
  unfold replNs
  rw [List.getElem?_map]
  cases h : ns[j]? with
  | none => rfl
  | some n =>
    have := (List.getElem?_eq_some_iff.1 h).1
    simp only [Option.map_some, stNd, if_pos this]
theorem stN_next {ns : List Nd} {cl : List Int} {i : Nat} {n : Nd} (h : ns[i]? = some n) : stN ns cl i n.kids.length = stN ns cl (i + 1) 0 := by
  apply List.ext_getElem?
  intro j
  rw [stN_get, stN_get]
  cases hj : ns[j]? with
  | none => rfl
  | some m =>
    simp only [Option.map_some, stNd, halfK_zero]
    by_cases h1 : j < i
    · rw [if_pos h1, if_pos (by omega)]
    · by_cases h2 : j = i
      · subst h2
        rw [h] at hj
        injection hj with hj
        subst hj
        rw [if_neg h1, if_pos rfl, if_pos (by omega), halfK_all]
        rfl
      · rw [if_neg h1, if_neg h2, if_neg (by omega)]
        split <;> rfl
theorem stN_set {ns : List Nd} {cl : List Int} {i k : Nat} {n : Nd} {x : Int} (h : ns[i]? = some n) (hx : n.kids[k]? = some x) : (stN ns cl i k).set i ⟨n.kind, n.value, (halfK cl n.kids k).set k (look cl x)⟩ = stN ns cl i (k + 1) := by
  apply List.ext_getElem?
  intro j
  have hi := (List.getElem?_eq_some_iff.1 h).1
  rw [List.getElem?_set, stN_get, stN_get]
  by_cases e : i = j
  · subst e
    rw [if_pos rfl, if_pos (by rw [stN_len]; exact hi), h, halfK_set hx]
    simp [stNd]
  · rw [if_neg e]
    cases hj : ns[j]? with
    | none => rfl
    | some m =>
      simp only [Option.map_some, stNd]
      by_cases h1 : j < i
      · rw [if_pos h1, if_pos h1]
      · rw [if_neg h1, if_neg h1, if_neg (by omega), if_neg (by omega)]

/-- the memory: old memory stays; the graph's box; its row -/
structure InpA (w wr : World) (hi gr cap q : Nat) (ns : List Nd) (cl : List Int) (r : Int) (i k : Nat) : Prop where
  bel : Below w.heap.size w wr
  box : Lies wr q #[.slice (some ⟨gr, 0, none⟩) ns.length cap, .int .i64 r] 25
  row : OwnRow wr w.heap.size hi gr cap (stN ns cl i k)
  hq : hi ≤ q

theorem InpA.below {w wr w' : World} {hi gr cap q i k : Nat} {ns : List Nd} {cl : List Int} {r : Int} (h : InpA w wr hi gr cap q ns cl r i k) (hb : Below wr.heap.size wr w') : InpA w w' hi gr cap q ns cl r i k :=
  ⟨h.bel.trans (hb.mono h.bel.size), h.box.below hb h.box.lt, h.row.kept (fun b _ hb2 => hb.block b (by have := h.box.lt; have := h.hq; omega)), h.hq⟩

theorem InpA.next {w wr : World} {hi gr cap q i : Nat} {ns : List Nd} {cl : List Int} {r : Int} {n : Nd} (hn : ns[i]? = some n) (h : InpA w wr hi gr cap q ns cl r i n.kids.length) : InpA w wr hi gr cap q ns cl r (i + 1) 0 :=
  ⟨h.bel, h.box, by rw [← stN_next hn]; exact h.row, h.hq⟩

/-- the kids of the node i -/
theorem InpA.kids {w wr : World} {hi gr cap q i k : Nat} {ns : List Nd} {cl : List Int} {r : Int} {n : Nd} (hn : ns[i]? = some n) (h : InpA w wr hi gr cap q ns cl r i k) :
    ∃ (A : Option Addr) (c : Nat), wr.cell? ⟨gr, i * 3 + 2, none⟩ = some (.slice A n.kids.length c) ∧ OwnI wr w.heap.size A c (halfK cl n.kids k) ∧ ∀ b, blockOf A = some b → b < hi ∧ b ≠ gr := by
  obtain ⟨A, c, h1, h2, h3⟩ := (h.row.nd i _ (stN_at hn)).kids
  simp only [halfK_len] at h1
  exact ⟨A, c, h1, h2, h3⟩

/-- a kid is written -/
theorem InpA.store {w wr : World} {hi gr cap q i k b c : Nat} {ns : List Nd} {cl : List Int} {r : Int} {n : Nd} {x : Int} (h : InpA w wr hi gr cap q ns cl r i k) (hn : ns[i]? = some n) (hx : n.kids[k]? = some x)
    (hc : wr.cell? ⟨gr, i * 3 + 2, none⟩ = some (.slice (some ⟨b, 0, none⟩) n.kids.length c)) (ho : OwnI wr w.heap.size (some ⟨b, 0, none⟩) c (halfK cl n.kids k)) (hb : b < hi) :
    InpA w (wr.setCell ⟨b, k, none⟩ (.int .i64 (look cl x))) hi gr cap q ns cl r i (k + 1) := by
  have hbl := (ho.blocks b rfl).1
  refine ⟨h.bel.setCell (p := ⟨b, k, none⟩) hbl _, h.box.far (p := ⟨b, k, none⟩) (by have := h.hq; show q ≠ b; omega) _, ?_, h.hq⟩
  have hs := ho.setAt k (look cl x)
  have h2 := h.row.setKids (w' := wr.setCell ⟨b, k, none⟩ (.int .i64 (look cl x))) (stN_at hn) (cj := c) (Aj := some ⟨b, 0, none⟩) (ks := (halfK cl n.kids k).set k (look cl x)) (by simp only [halfK_len]; exact hc) (by simp) hs (fun q hq => Below.heap_setCell _ _ _ _ (by intro e; exact hq (by rw [e]; rfl)))
  simp only at h2
  rw [stN_set hn hx] at h2
  exact h2

theorem OwnNs.rowI {w : World} {lo hi : Nat} {A : Option Addr} {c : Nat} {ns : List Nd} (h : OwnNs w lo hi A c ns) (hne : 0 < ns.length) : ∃ g, A = some ⟨g, 0, none⟩ ∧ OwnRow w lo hi g c ns := by
  rcases h with ⟨_, _, h⟩ | h
  · subst h; simp at hne
  · exact h

end Go.Proofs.Ythgklkpfmjgeoaa
