/-
  Lemmas, several texts in one: Read, RplM, CngM, ToI.
-/
import Derived.Test.YtdgmohebnkcohabPjAf
import Derived.Test.YtdgmohebnkcohabRows
import Derived.ProofKit
import Derived.OpenShut
import Derived.ShutString
import Derived.ChangeOld
import Derived.Deep.Slices
import Derived.Deep.Fields
import Derived.Lib.SmallJoins
import Derived.Test.YtdgmohebnkcohabEqvM
import Derived.Test.YtdgmohebnkcohabPjAd
import Derived.Test.YtdgmohebnkcohabPjAe
import Derived.Test.YtdgmohebnkcohabSpecE
import Derived.Test.YtdgmohebnkcohabPjAk
import Derived.Test.YtdgmohebnkcohabDfs
import Derived.Test.YtdgmohebnkcohabPjAj
import Derived.Test.YtdgmohebnkcohabPjAa
namespace Go.Proofs.Ytdgmohebnkcohab
open Go.ChangeShapes Go.WideShapes Go.ChangeAt Go.RowKit Go.Deep
set_option linter.unusedVariables false

theorem readCellsN : Try.prog.cellsOf 44 = 3 := by kernel_rfl
theorem readCellsG : Try.prog.cellsOf 24 = 2 := by kernel_rfl

section
variable {H : Type} {enc : TypeId × Value → H} {w : World} {base : Nat} {spare : Nat → Bool} {held : Bool}

/-- a slice of nodes that came in -/
theorem read_nodes {m : Nat} {v : Value} {y : DataW H × List MemPlace} (h : DataW.trod enc Try.prog w base spare held m 22 [v] = some y) :
    ∃ (A : Option Addr) (ns : List Nd) (c : Nat), v = .slice A ns.length c ∧ NdsAt w w.heap.size A ns ∧ (A = none → c = 0) := by
  rcases open_slice Try.underlying22 h with ⟨hcs, _⟩ | ⟨a, len, cap, m', n', D, Pl, hcs, _, hl, hm, hmm, _, hel⟩
  · simp at hcs
    subst hcs
    exact ⟨none, [], 0, rfl, ⟨fun hx => absurd rfl hx, by simp⟩, fun _ => rfl⟩
  · simp at hcs
    subst hcs
    have hlen : len ≤ m' := by rw [hmm]; split <;> omega
    have hone : ∀ i, i < len → ∃ (b off : Nat) (n : Nd), a.add (i * 3) = ⟨b, off, none⟩ ∧ b < w.heap.size ∧ NdAt w w.heap.size b off n := by
      intro i hi
      obtain ⟨cs', hc', ht'⟩ := hel i (by omega)
      rw [readCellsN] at hc'
      obtain ⟨ys, n2, _, _, hcl, hyl, hf⟩ := DataW.trod_struct Try.underlying44 ht'
      obtain ⟨_, hcl3, hat⟩ := World.cells?_some hc'
      obtain ⟨v0, v1, v2, rfl⟩ := list3 cs' hcl3
      have h0 : DataW.trod enc Try.prog w base spare held n2 3 (([v0, v1, v2].drop 0).take (Try.prog.cellsOf 3)) = ys[0]? := hf 0 _ rfl
      have h1 : DataW.trod enc Try.prog w base spare held n2 3 (([v0, v1, v2].drop 1).take (Try.prog.cellsOf 3)) = ys[1]? := hf 1 _ rfl
      have h2 : DataW.trod enc Try.prog w base spare held n2 38 (([v0, v1, v2].drop 2).take (Try.prog.cellsOf 38)) = ys[2]? := hf 2 _ rfl
      rw [readCellsI] at h0 h1
      rw [readCellsS] at h2
      simp only [List.drop_zero, List.drop_succ_cons, List.take_succ_cons, List.take_zero] at h0 h1 h2
      have hy : ∀ k, k < 3 → ∃ z, ys[k]? = some z := fun k hk => ⟨_, List.getElem?_eq_getElem (by rw [hyl]; exact hk)⟩
      obtain ⟨z0, e0⟩ := hy 0 (by omega)
      obtain ⟨z1, e1⟩ := hy 1 (by omega)
      obtain ⟨z2, e2⟩ := hy 2 (by omega)
      rw [e0] at h0
      rw [e1] at h1
      rw [e2] at h2
      obtain ⟨kd, hv0, _, hw0⟩ := DataW.trod_int Try.underlying3 h0
      obtain ⟨vl, hv1, _, hw1⟩ := DataW.trod_int Try.underlying3 h1
      obtain ⟨A', xs, c', hv2, hI, hnil⟩ := read_ints h2
      simp at hv0 hv1
      subst hv0
      subst hv1
      subst hv2
      have c0 := hat 0 (by omega)
      have c1 := hat 1 (by omega)
      have c2 := hat 2 (by omega)
      generalize a.add (i * 3) = p at c0 c1 c2 ⊢
      obtain ⟨b, off, sp⟩ := p
      have hsp : sp = none := by simpa [Addr.add] using World.cell?_spot c0
      subst hsp
      rw [addr_add_none] at c0 c1 c2
      simp at c0 c1 c2
      exact ⟨b, off, ⟨kd, vl, xs⟩, rfl, World.block_lt_of_cell? w _ c0, ⟨c0, c1, ⟨A', c', c2, hI, hnil⟩, bounds_i64 hw0, bounds_i64 hw1⟩⟩
    rcases Nat.eq_zero_or_pos len with h0 | h0
    · subst h0
      exact ⟨some a, [], cap, rfl, ⟨fun hx => absurd rfl hx, by simp⟩, fun e => by cases e⟩
    · obtain ⟨b0, off0, _, ha0, hb0, _⟩ := hone 0 h0
      rw [Nat.zero_mul] at ha0
      have ha : a = ⟨b0, off0, none⟩ := by
        have : a.add 0 = a := by simp [Addr.add]
        rw [this] at ha0
        exact ha0
      subst ha
      have hch : ∀ i, ∃ n : Nd, i < len → NdAt w w.heap.size b0 (off0 + i * 3) n := by
        intro i
        by_cases hi : i < len
        · obtain ⟨b, off, n, he, _, hn⟩ := hone i hi
          rw [addr_add_none] at he
          injection he with he1 he2
          subst he1
          subst he2
          exact ⟨n, fun _ => hn⟩
        · exact ⟨⟨0, 0, []⟩, fun h => absurd h hi⟩
      refine ⟨some ⟨b0, off0, none⟩, (List.range len).map fun i => Classical.choose (hch i), cap, by simp, ⟨fun _ => ⟨b0, off0, rfl, hb0, fun j n hj => ?_⟩, ?_⟩, fun e => by cases e⟩
      · rw [List.getElem?_map] at hj
        have hjl : j < len := by
          rcases Nat.lt_or_ge j len with h | h
          · exact h
          · rw [List.getElem?_eq_none (by simpa using h)] at hj; cases hj
        rw [List.getElem?_range hjl] at hj
        simp at hj
        subst hj
        exact Classical.choose_spec (hch j) hjl
      · simp
        unfold maxLen at hm
        omega

end

end Go.Proofs.Ytdgmohebnkcohab

namespace Go.Proofs.Ytdgmohebnkcohab
open Go.RowKit Go.Maps
set_option linter.unusedVariables false

/-- the node cl[i] stands in the place of the node i -/
def replNd (cl : List Int) (n : Nd) : Nd := ⟨n.kind, n.value, n.kids.map (look cl)⟩
def replNs (ns : List Nd) (cl : List Int) : List Nd := ns.map (replNd cl)
theorem replNs_len (ns : List Nd) (cl : List Int) : (replNs ns cl).length = ns.length := by simp [replNs]
theorem replNs_at {ns : List Nd} {cl : List Int} {k : Nat} {n : Nd} (h : ns[k]? = some n) : (replNs ns cl)[k]? = some (replNd cl n) := by
  unfold replNs
  rw [List.getElem?_map, h]
  rfl
theorem look_mem {cl : List Int} {x : Int} (h0 : 0 ≤ x) (h1 : x < cl.length) : look cl x ∈ cl := by
  obtain ⟨i, rfl⟩ := Int.eq_ofNat_of_zero_le h0
  have : cl[i]? = some cl[i] := List.getElem?_eq_getElem (by omega)
  rw [look_at this]
  exact List.getElem_mem _

theorem OwnNs.lowQ {w : World} {lo lo2 hi : Nat} {A : Option Addr} {c : Nat} {ns : List Nd} (h : OwnNs w lo hi A c ns) (h2 : lo2 ≤ lo) : OwnNs w lo2 hi A c ns := by
  rcases h with h | ⟨g, e, h⟩
  · exact .inl h
  · exact .inr ⟨g, e, h.low h2⟩

/-- the result is stored, wherever its cell lies -/
theorem GivesG.putQ {w wd w2 w3 : World} {q : Nat} {A : Option Addr} {c : Nat} {ms : List Nd} {r : Int} (hq0 : w.heap.size ≤ q) (hq : q < wd.heap.size) (h0 : Below w.heap.size w wd) (h2 : Below wd.heap.size wd w2) (h3 : Below w2.heap.size w2 w3) (h : OwnNs w3 w2.heap.size w3.heap.size A c ms) :
    GivesG w ms r (.returned (.agg #[.slice A ms.length c, .int .i64 r])) ((w3.setCell ⟨q, 0, none⟩ (.slice A ms.length c)).setCell ⟨q, 1, none⟩ (.int .i64 r)) := by
  have hs2 := h2.size
  have hsd := h0.size
  refine ⟨A, c, rfl, ?_, ((h0.trans ((h2.mono hsd).trans (h3.mono (by omega)))).setCell (p := ⟨q, 0, none⟩) hq0 _).setCell (p := ⟨q, 1, none⟩) hq0 _⟩
  have := (h.kept (w' := (w3.setCell ⟨q, 0, none⟩ (.slice A ms.length c)).setCell ⟨q, 1, none⟩ (.int .i64 r)) (fun b hb _ => (Below.heap_setCell _ _ _ _ (by show b ≠ q; omega)).trans (Below.heap_setCell _ _ _ _ (by show b ≠ q; omega)))).lowQ (lo2 := w.heap.size) (by omega)
  simpa using this

end Go.Proofs.Ytdgmohebnkcohab

namespace Go.Proofs.Ytdgmohebnkcohab
open Go.RowKit Go.Maps
set_option linter.unusedVariables false

/-- nodes of an equal class are told the same -/
structure Cong (ns : List Nd) (cl : List Int) : Prop where
  len : cl.length = ns.length
  rng : ∀ x : Int, 0 ≤ x → x < ns.length → 0 ≤ look cl x ∧ look cl x < ns.length
  idem : ∀ x : Int, 0 ≤ x → x < ns.length → look cl (look cl x) = look cl x
  same : ∀ (i j : Nat) (n m : Nd), ns[i]? = some n → ns[j]? = some m → look cl (i : Int) = look cl (j : Int) → sigOf cl n = sigOf cl m

theorem cong_cls {ns : List Nd} (hk : KidsIn ns) : Cong ns (clsN ns ns.length) := by
  have hall := cls_all hk 1
  refine ⟨clsN_len _ _, fun x h0 h1 => ?_, fun x h0 h1 => ?_, fun i j n m hn hm h => ?_⟩
  · obtain ⟨i, rfl⟩ := Int.eq_ofNat_of_zero_le h0
    obtain ⟨j, g1, g2, g3⟩ := cls_self (ns := ns) ns.length (show i < ns.length by omega)
    rw [look_at g1]
    omega
  · obtain ⟨i, rfl⟩ := Int.eq_ofNat_of_zero_le h0
    obtain ⟨j, g1, g2, g3⟩ := cls_self (ns := ns) ns.length (show i < ns.length by omega)
    rw [look_at g1, look_at g3]
  · rw [← hall] at h
    exact (finer_eq (cl := clsN ns ns.length) hn hm).1 h

theorem sig_parts {cl : List Int} {n m : Nd} (h : sigOf cl n = sigOf cl m) : n.kind = m.kind ∧ n.value = m.value ∧ n.kids.map (look cl) = m.kids.map (look cl) := by
  unfold sigOf at h
  simp only [Prod.mk.injEq] at h
  exact h

/-- a kid of the one is the kid of the other at the same place -/
theorem sig_kid {cl : List Int} {n m : Nd} (h : sigOf cl n = sigOf cl m) {x : Int} (hx : x ∈ n.kids) : ∃ y ∈ m.kids, look cl y = look cl x := by
  have h3 := (sig_parts h).2.2
  have : look cl x ∈ m.kids.map (look cl) := by rw [← h3]; exact List.mem_map_of_mem hx
  obtain ⟨y, hy, e⟩ := List.mem_map.1 this
  exact ⟨y, hy, e⟩

theorem kidsOf_repl {ns : List Nd} {cl : List Int} {i : Nat} {n : Nd} (h : ns[i]? = some n) : kidsOf (replNs ns cl) (i : Int) = n.kids.map (look cl) := kidsOf_at (replNs_at h)
theorem kindOf_repl {ns : List Nd} {cl : List Int} {i : Nat} {n : Nd} (h : ns[i]? = some n) : kindOf (replNs ns cl) (i : Int) = n.kind := by
  have := kindOf_at (replNs_at (cl := cl) h)
  exact this

/-- a node that is met, and what it is -/
theorem nd_of {ns : List Nd} {x : Int} (h0 : 0 ≤ x) (h1 : x < ns.length) : ∃ (i : Nat) (n : Nd), x = (i : Int) ∧ ns[i]? = some n := in_at ⟨h0, h1⟩

theorem kid_range {ns : List Nd} (hk : KidsIn ns) {i : Nat} {n : Nd} (h : ns[i]? = some n) {x : Int} (hx : x ∈ n.kids) : 0 ≤ x ∧ x < ns.length := hk n (List.mem_of_getElem? h) x hx

/-- a way in the graph of classes is one in the graph, from each node of the class -/
theorem treach_lift {ns : List Nd} {cl : List Int} (hk : KidsIn ns) (hc : Cong ns cl) {i : Nat} {n : Nd} (hi : ns[i]? = some n) {y : Int} (h : TReach (replNs ns cl) (i : Int) y) :
    (0 ≤ y ∧ y < ns.length) ∧ ∀ (a : Nat) (m : Nd), ns[a]? = some m → look cl (a : Int) = look cl (i : Int) → ∃ (b : Nat) (q : Nd), ns[b]? = some q ∧ TReach ns (a : Int) (b : Int) ∧ look cl (b : Int) = look cl y := by
  induction h with
  | kid x hx =>
    rw [kidsOf_repl hi] at hx
    obtain ⟨k, hkm, rfl⟩ := List.mem_map.1 hx
    have hkr := kid_range hk hi hkm
    refine ⟨hc.rng k hkr.1 hkr.2, fun a m ha he => ?_⟩
    obtain ⟨z, hz, ez⟩ := sig_kid (hc.same i a n m hi ha he.symm) hkm
    have hzr := kid_range hk ha hz
    obtain ⟨b, q, rfl, hq⟩ := nd_of hzr.1 hzr.2
    exact ⟨b, q, hq, .kid _ (by rw [kidsOf_at ha]; exact hz), by rw [ez, hc.idem k hkr.1 hkr.2]⟩
  | step y x hy hy2 hx ih =>
    obtain ⟨hyr, ih⟩ := ih
    obtain ⟨j, w, rfl, hj⟩ := nd_of hyr.1 hyr.2
    rw [kidsOf_repl hj] at hx
    rw [kindOf_repl hj] at hy2
    obtain ⟨k, hkm, rfl⟩ := List.mem_map.1 hx
    have hkr := kid_range hk hj hkm
    refine ⟨hc.rng k hkr.1 hkr.2, fun a m ha he => ?_⟩
    obtain ⟨b, q, hq, hr, hbl⟩ := ih a m ha he
    have hs := hc.same j b w q hj hq hbl.symm
    obtain ⟨z, hz, ez⟩ := sig_kid hs hkm
    have hzr := kid_range hk hq hz
    obtain ⟨b', q', rfl, hq'⟩ := nd_of hzr.1 hzr.2
    exact ⟨b', q', hq', .step _ _ hr (by rw [kindOf_at hq, ← (sig_parts hs).1]; exact hy2) (by rw [kidsOf_at hq]; exact hz), by rw [ez, hc.idem k hkr.1 hkr.2]⟩

theorem treach_thru {ns : List Nd} {a b c : Int} (h1 : TReach ns a b) (hb : kindOf ns b = 2) (h2 : TReach ns b c) : TReach ns a c := by
  induction h2 with
  | kid x hx => exact .step _ _ h1 hb hx
  | step y x _ hy2 hx ih => exact .step _ _ ih hy2 hx

/-- tuples that lead to a tuple of their own class lead on for ever -/
theorem treach_none {ns : List Nd} {cl : List Int} {r : Int} (hv : ValidG ns r) (hc : Cong ns cl) {i : Nat} {n : Nd} (hi : ns[i]? = some n) (h2 : n.kind = 2) (ht : TReach (replNs ns cl) (i : Int) (i : Int)) :
    ∀ (M : Nat) (a : Nat) (m : Nd), ns[a]? = some m → look cl (a : Int) = look cl (i : Int) → (List.range ns.length).countP (fun (x : Nat) => tf (TReach ns (a : Int) (x : Int))) ≤ M → False := by
  have hk := validG_kids hv
  have hl := (treach_lift hk hc hi ht).2
  intro M
  induction M with
  | zero =>
    intro a m ha he hM
    obtain ⟨b, q, hq, hr, _⟩ := hl a m ha he
    have hbl := (List.getElem?_eq_some_iff.1 hq).1
    have : 0 < (List.range ns.length).countP (fun (x : Nat) => tf (TReach ns (a : Int) (x : Int))) := List.countP_pos_iff.2 ⟨b, List.mem_range.2 hbl, tf_true hr⟩
    omega
  | succ M ih =>
    intro a m ha he hM
    obtain ⟨b, q, hq, hr, hbe⟩ := hl a m ha he
    have hq2 : q.kind = 2 := by rw [← (sig_parts (hc.same i b n q hi hq hbe.symm)).1]; exact h2
    have hbl := (List.getElem?_eq_some_iff.1 hq).1
    refine ih b q hq hbe ?_
    apply Nat.le_of_lt_succ
    refine Nat.lt_of_lt_of_le ?_ hM
    apply Nat.lt_of_not_le
    intro hle
    have hb := countP_back (List.range ns.length) (p := fun (x : Nat) => tf (TReach ns (b : Int) (x : Int))) (q := fun (x : Nat) => tf (TReach ns (a : Int) (x : Int)))
      (fun x _ hx => tf_true (treach_thru hr (by rw [kindOf_at hq]; exact hq2) (Classical.byContradiction fun hn => by rw [tf_false hn] at hx; cases hx))) hle b (List.mem_range.2 hbl) (tf_true hr)
    refine hv.tuples b q hq hq2 (Classical.byContradiction fun hn => ?_)
    rw [tf_false hn] at hb
    cases hb

theorem dict_repl {ns : List Nd} {cl : List Int} (hc : Cong ns cl) {kids : List Int} (hin : InG ns kids) (hd : DictOk ns kids) : DictOk (replNs ns cl) (kids.map (look cl)) := by
  have back : ∀ (p : Nat) (m : Nd), KidNd (replNs ns cl) (kids.map (look cl)) p m → ∃ n, KidNd ns kids p n ∧ m.kind = n.kind ∧ m.value = n.value := by
    rintro p m ⟨k, h1, h2⟩
    rw [List.getElem?_map] at h1
    cases hx : kids[p]? with
    | none => rw [hx] at h1; cases h1
    | some x =>
      rw [hx] at h1
      have e : look cl x = (k : Int) := by simpa using h1
      have hxr := hin x (List.mem_of_getElem? hx)
      obtain ⟨i, n, rfl, hn⟩ := nd_of hxr.1 hxr.2
      have hkl : k < ns.length := by have := (hc.rng (i : Int) hxr.1 hxr.2).2; omega
      have hq : ns[k]? = some ns[k] := List.getElem?_eq_getElem hkl
      rw [replNs_at hq] at h2
      injection h2 with h2
      have hs := sig_parts (hc.same i k n _ hn hq (by rw [← e, hc.idem _ hxr.1 hxr.2]))
      exact ⟨n, ⟨i, hx, hn⟩, by rw [← h2]; exact hs.1.symm, by rw [← h2]; exact hs.2.1.symm⟩
  refine ⟨by rw [List.length_map]; exact hd.even, fun p m hp hm => ?_, fun p q m n hp hq hlt hm hn => ?_⟩
  · obtain ⟨n, h1, h2, _⟩ := back p m hm
    have := hd.key p n hp h1
    unfold IsKey at this ⊢
    rw [h2]
    exact this
  · obtain ⟨m', h1, h2, h3⟩ := back p m hm
    obtain ⟨n', h4, h5, h6⟩ := back q n hn
    have := hd.diff p q m' n' hp hq hlt h1 h4
    unfold SameKey at this ⊢
    rw [h2, h3, h5, h6]
    exact this

theorem repl_valid {ns : List Nd} {cl : List Int} {r : Int} (hv : ValidG ns r) (hc : Cong ns cl) : ValidG (replNs ns cl) (look cl r) := by
  have hrr := hc.rng r hv.root0 hv.root
  refine ⟨by rw [replNs_len]; exact hv.one, by rw [replNs_len]; exact hv.few, hrr.1, by rw [replNs_len]; exact hrr.2, fun m hm => ?_, fun i m hi hk2 ht => ?_⟩
  · obtain ⟨n, hn, rfl⟩ := List.mem_map.1 hm
    have hok := hv.nodes n hn
    refine ⟨by simpa [replNd] using hok.few, fun y hy => ?_, ?_⟩
    · obtain ⟨k, hk, rfl⟩ := List.mem_map.1 (show y ∈ n.kids.map (look cl) from hy)
      rw [replNs_len]
      exact hc.rng k (hok.inn k hk).1 (hok.inn k hk).2
    · have := hok.kind
      unfold KindOk at this ⊢
      simp only [replNd, List.length_map]
      rcases this with h1 | h1 | h1 | h1 | h1 | h1
      · exact .inl h1
      · exact .inr (.inl h1)
      · exact .inr (.inr (.inl h1))
      · exact .inr (.inr (.inr (.inl h1)))
      · exact .inr (.inr (.inr (.inr (.inl ⟨h1.1, h1.2.1, dict_repl hc hok.inn h1.2.2⟩))))
      · exact .inr (.inr (.inr (.inr (.inr h1))))
  · have hil : i < ns.length := by have := (List.getElem?_eq_some_iff.1 hi).1; rwa [replNs_len] at this
    have hn : ns[i]? = some ns[i] := List.getElem?_eq_getElem hil
    rw [replNs_at hn] at hi
    injection hi with hi
    rw [← hi] at hk2
    exact treach_none hv hc hn hk2 ht _ i _ hn rfl (Nat.le_refl _)

end Go.Proofs.Ytdgmohebnkcohab

namespace Go.Proofs.Ytdgmohebnkcohab
open Go.RowKit

set_option maxHeartbeats 1000000 in
theorem toIntS_any (A : Option Addr) (xs : List Int) (c : Nat) (w : World) (h : IntsAt w w.heap.size A xs) (hs : xs.length ≤ 1048576) :
    Calls Try.prog 49 #[.slice A xs.length c] w fun e w' => e = .returned (.slice (some ⟨w.heap.size, 0, none⟩) xs.length xs.length) ∧
      w'.rowIs w.heap.size 3 xs.length (intCell xs) ∧ Below w.heap.size w w' := by
  have hmk := run_make_row' (P := Try.prog) 38 3 (.int .i64 0) 8 Try.underlying38 infoInt rfl .i64 .i64 xs.length (by omega) (by omega)
  have hrow0 := World.rowIs_made w (.int .i64 0) xs.length 3
  go_enter Try.func49, Try.ntmps49
  go_wp2_with fail
  clear hmk
  go_loopw [4] (fun i wr => ∃ k : Nat, k ≤ xs.length ∧ i = .int .i64 k ∧ Below w.heap.size w wr ∧ wr.rowIs w.heap.size 3 xs.length (fun j => if j < k then intCell xs j else .int .i64 0)) (fun i _ => xs.length - (intOf i).toNat)
  case atStart => exact ⟨0, Nat.zero_le _, rfl, (Below.refl _ _).alloc (Nat.le_refl _) _, hrow0.congr (fun i _ => by simp)⟩
  case round =>
    obtain ⟨k, hk, rfl, hb, hrow⟩ := hrel
    clear hrow0
    by_cases hlt : k < xs.length
    · obtain ⟨b, off, x, rfl, hbl, hx, _, hc⟩ := (h.below hb).at_ hlt
      have Hx := hide hx
      clear hx
      have hc2 := hrow.cell hlt
      have hf2 := hrow.frozen k
      have hnext := hrow.set k (.int .i64 x)
      have hb2 := hb.setCell (p := ⟨w.heap.size, k, none⟩) (Nat.le_refl _) (.int .i64 x)
      clear hrow hb
      go_wp2
      go_roundw
      case rel => exact ⟨k + 1, by omega, by go_num, hb2, hnext.congr (fun i _ => by
        by_cases e : i = k
        · subst e; rw [if_pos rfl, if_pos (by omega), intCell_at Hx.out]
        · rw [if_neg e]
          by_cases e2 : i < k
          · rw [if_pos e2, if_pos (by omega)]
          · rw [if_neg e2, if_neg (by omega)])⟩
      case measure => simp [intOf]; omega
    · obtain rfl : k = xs.length := by omega
      clear hlt
      go_wp2
      go_ret
      exact ⟨rfl, hrow.congr (fun i hi => by rw [if_pos hi]), hb⟩

end Go.Proofs.Ytdgmohebnkcohab
