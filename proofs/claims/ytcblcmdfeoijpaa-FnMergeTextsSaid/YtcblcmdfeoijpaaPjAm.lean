/-
  Lemmas, several texts in one: NewR, Keys, CngM, Ord.
-/
import Derived.Test.YtcblcmdfeoijpaaPjAc
import Derived.Test.YtcblcmdfeoijpaaPjAh
import Derived.DeepKeys4
import Derived.Maps.OwnSet
import Derived.WalkSpells
import Derived.Test.YtcblcmdfeoijpaaPjAj
import Derived.Test.YtcblcmdfeoijpaaSpecE
import Derived.Test.YtcblcmdfeoijpaaPjAk
import Derived.Test.YtcblcmdfeoijpaaPjAe
import Derived.Test.YtcblcmdfeoijpaaPjAl
namespace Go.Proofs.Ytcblcmdfeoijpaa
open Go.RowKit
set_option linter.unusedVariables false

theorem BytesAt.less {w : World} {B : Nat} {A : Option Addr} {n m : Nat} (h : BytesAt w B A n) (hm : m ≤ n) : BytesAt w B A m := fun k hk => h k (by omega)
theorem BytesAt.more {w : World} {B B' : Nat} {A : Option Addr} {n : Nat} (h : BytesAt w B A n) (hB : B ≤ B') : BytesAt w B' A n := fun k hk => by
  obtain ⟨b, off, x, h1, h2, h3⟩ := h k hk
  exact ⟨b, off, x, h1, by omega, h3⟩

set_option maxHeartbeats 1000000 in
theorem newReader_any (A : Option Addr) (n c : Nat) (w : World) (h : BytesAt w w.heap.size A n) (hc : n ≤ c) (hn : n ≤ 9223372036854775807) :
    Calls Try.prog 12 #[.slice A n c] w fun e w' => e = .returned (.pointer (some ⟨w.heap.size, 0, none⟩)) ∧ (∃ n' c', Rd w' w.heap.size A n' c' 0) ∧ Below w.heap.size w w' := by
  by_cases h2 : n ≤ 2000
  · have d : decide ((2000 : Int) < (n : Int)) = false := by simp; omega
    have hB : Below w.heap.size w (w.alloc (.cells #[.slice A n c, .int .i64 0] 52)) := (Below.refl _ _).alloc (Nat.le_refl _) _
    have HR : Hid (Rd (w.alloc (.cells #[.slice A n c, .int .i64 0] 52)) w.heap.size A n c 0) := hide ⟨Lies.new w _ _, h.later hB, h2⟩
    clear h
    go_enter Try.func12, Try.ntmps12
    go_wp2
    go_ret
    exact ⟨rfl, ⟨n, c, HR.out⟩, hB⟩
  · have d : decide ((2000 : Int) < (n : Int)) = true := by simp; omega
    obtain ⟨b, off, _, rfl, _⟩ := h 0 (by omega)
    have hcap : ¬ ((c : Int) < 2000) := by omega
    have hB : Below w.heap.size w (w.alloc (.cells #[.slice (some ⟨b, off, none⟩) 2000 c, .int .i64 0] 52)) := (Below.refl _ _).alloc (Nat.le_refl _) _
    have HR : Hid (Rd (w.alloc (.cells #[.slice (some ⟨b, off, none⟩) 2000 c, .int .i64 0] 52)) w.heap.size (some ⟨b, off, none⟩) 2000 c 0) := hide ⟨Lies.new w _ _, (h.less (by omega)).later hB, Nat.le_refl _⟩
    clear h
    go_enter Try.func12, Try.ntmps12
    go_wp2
    go_ret
    exact ⟨rfl, ⟨2000, c, HR.out⟩, hB⟩

end Go.Proofs.Ytcblcmdfeoijpaa

namespace Go.Proofs.Ytcblcmdfeoijpaa
open Go.RowKit Go.Maps

theorem rowK : 82 < Try.prog.types.size := of_decide_eq_true (by kernel_rfl)
theorem lawK : Keyed Try.prog 82 := Keyed.of_law (deep_law_laid laidOutP (m := 2) (by omega) rowK (by kernel_rfl) (by kernel_rfl))
theorem typeK : Try.prog.keyType 82 = true := by kernel_rfl
theorem cellsK : Try.prog.cellsOf 82 = 2 := by kernel_rfl

def keyLit (k v : Int) : Lit := .string (keyBytes [.int .i64 k, .int .i64 v])

theorem size_succ : ∃ m, Try.prog.types.size + 1 = m + 3 := ⟨Try.prog.types.size - 2, by have := rowK; omega⟩

theorem lits_int {x : Int} (h : In64 x) (m : Nat) : Try.prog.keyLits (m + 1) 3 [.int .i64 x] = some [.int .i64 x] := by
  unfold Program.keyLits
  simp only [Try.underlying3]
  rw [if_pos ⟨trivial, wf_of_in64 h⟩]

theorem lits_key {k v : Int} (hk : In64 k) (hv : In64 v) (m : Nat) : Try.prog.keyLits (m + 2) 82 [.int .i64 k, .int .i64 v] = some [.int .i64 k, .int .i64 v] := by
  unfold Program.keyLits
  simp only [Try.underlying82]
  rw [if_pos ⟨cellsK.symm, by decide +kernel⟩]
  simp [cellsI, lits_int hk, lits_int hv]

theorem keyOf_key {k v : Int} (hk : In64 k) (hv : In64 v) : keyOf Try.prog 82 (.agg #[.int .i64 k, .int .i64 v]) = some (keyLit k v) := by
  have hf : (Value.agg #[.int .i64 k, .int .i64 v]).formed Try.prog 82 = true := by
    unfold Value.formed
    simp only [Try.underlying82, cellsK]
    rfl
  obtain ⟨m, hm⟩ := size_succ
  unfold keyOf
  simp only [Try.underlying82, typeK, hf, Bool.and_self, if_true, hm]
  rw [show (Value.agg #[.int .i64 k, .int .i64 v]).cells.toList = [.int .i64 k, .int .i64 v] from rfl, lits_key hk hv (m + 1)]
  rfl

theorem keyLit_inj {k v k' v' : Int} (hk : In64 k) (hv : In64 v) (hk' : In64 k') (hv' : In64 v') (h : keyLit k v = keyLit k' v') : k = k' ∧ v = v' := by
  have h1 := keyOf_key hk hv
  rw [h] at h1
  have := lawK.inj h1 (keyOf_key hk' hv')
  simp at this
  exact this

end Go.Proofs.Ytcblcmdfeoijpaa

namespace Go.Proofs.Ytcblcmdfeoijpaa
open Go.RowKit Go.Maps
set_option linter.unusedVariables false

/-- nodes of an equal class are told the same -/
structure Cong (ns : List Nd) (cl : List Int) : Prop where
  len : cl.length = ns.length
  rng : ∀ x : Int, 0 ≤ x → x < ns.length → 0 ≤ look cl x ∧ look cl x < ns.length
  idem : ∀ x : Int, 0 ≤ x → x < ns.length → look cl (look cl x) = look cl x
  same : ∀ (i j : Nat) (n m : Nd), ns[i]? = some n → ns[j]? = some m → look cl (i : Int) = look cl (j : Int) → sigOf cl n = sigOf cl m

theorem cong_cls {ns : List Nd} (hk : KidsIn ns) : Cong ns (clsN ns ns.length) := by
  have hall := cls_all hk 1
  refine ⟨clsN_len _ _, fun x h0 h1 => ?_, fun x h0 h1 => ?_, fun i j n m hn hm h => ?_⟩
  · obtain ⟨i, rfl⟩ := Int.eq_ofNat_of_zero_le h0
    obtain ⟨j, g1, g2, g3⟩ := cls_self (ns := ns) ns.length (show i < ns.length by omega)
    rw [look_at g1]
    omega
  · obtain ⟨i, rfl⟩ := Int.eq_ofNat_of_zero_le h0
    obtain ⟨j, g1, g2, g3⟩ := cls_self (ns := ns) ns.length (show i < ns.length by omega)
    rw [look_at g1, look_at g3]
  · rw [← hall] at h
    exact (finer_eq (cl := clsN ns ns.length) hn hm).1 h

theorem sig_parts {cl : List Int} {n m : Nd} (h : sigOf cl n = sigOf cl m) : n.kind = m.kind ∧ n.value = m.value ∧ n.kids.map (look cl) = m.kids.map (look cl) := by
  unfold sigOf at h
  simp only [Prod.mk.injEq] at h
  exact h

/-- a kid of the one is the kid of the other at the same place -/
theorem sig_kid {cl : List Int} {n m : Nd} (h : sigOf cl n = sigOf cl m) {x : Int} (hx : x ∈ n.kids) : ∃ y ∈ m.kids, look cl y = look cl x := by
  have h3 := (sig_parts h).2.2
  have : look cl x ∈ m.kids.map (look cl) := by rw [← h3]; exact List.mem_map_of_mem hx
  obtain ⟨y, hy, e⟩ := List.mem_map.1 this
  exact ⟨y, hy, e⟩

theorem kidsOf_repl {ns : List Nd} {cl : List Int} {i : Nat} {n : Nd} (h : ns[i]? = some n) : kidsOf (replNs ns cl) (i : Int) = n.kids.map (look cl) := kidsOf_at (replNs_at h)
theorem kindOf_repl {ns : List Nd} {cl : List Int} {i : Nat} {n : Nd} (h : ns[i]? = some n) : kindOf (replNs ns cl) (i : Int) = n.kind := by
  have := kindOf_at (replNs_at (cl := cl) h)
  exact this

/-- a node that is met, and what it is -/
theorem nd_of {ns : List Nd} {x : Int} (h0 : 0 ≤ x) (h1 : x < ns.length) : ∃ (i : Nat) (n : Nd), x = (i : Int) ∧ ns[i]? = some n := in_at ⟨h0, h1⟩

theorem kid_range {ns : List Nd} (hk : KidsIn ns) {i : Nat} {n : Nd} (h : ns[i]? = some n) {x : Int} (hx : x ∈ n.kids) : 0 ≤ x ∧ x < ns.length := hk n (List.mem_of_getElem? h) x hx

/-- a way in the graph of classes is one in the graph, from each node of the class -/
theorem treach_lift {ns : List Nd} {cl : List Int} (hk : KidsIn ns) (hc : Cong ns cl) {i : Nat} {n : Nd} (hi : ns[i]? = some n) {y : Int} (h : TReach (replNs ns cl) (i : Int) y) :
    (0 ≤ y ∧ y < ns.length) ∧ ∀ (a : Nat) (m : Nd), ns[a]? = some m → look cl (a : Int) = look cl (i : Int) → ∃ (b : Nat) (q : Nd), ns[b]? = some q ∧ TReach ns (a : Int) (b : Int) ∧ look cl (b : Int) = look cl y := by
  induction h with
  | kid x hx =>
    rw [kidsOf_repl hi] at hx
    obtain ⟨k, hkm, rfl⟩ := List.mem_map.1 hx
    have hkr := kid_range hk hi hkm
    refine ⟨hc.rng k hkr.1 hkr.2, fun a m ha he => ?_⟩
    obtain ⟨z, hz, ez⟩ := sig_kid (hc.same i a n m hi ha he.symm) hkm
    have hzr := kid_range hk ha hz
    obtain ⟨b, q, rfl, hq⟩ := nd_of hzr.1 hzr.2
    exact ⟨b, q, hq, .kid _ (by rw [kidsOf_at ha]; exact hz), by rw [ez, hc.idem k hkr.1 hkr.2]⟩
  | step y x hy hy2 hx ih =>
    obtain ⟨hyr, ih⟩ := ih
    obtain ⟨j, w, rfl, hj⟩ := nd_of hyr.1 hyr.2
    rw [kidsOf_repl hj] at hx
    rw [kindOf_repl hj] at hy2
    obtain ⟨k, hkm, rfl⟩ := List.mem_map.1 hx
    have hkr := kid_range hk hj hkm
    refine ⟨hc.rng k hkr.1 hkr.2, fun a m ha he => ?_⟩
    obtain ⟨b, q, hq, hr, hbl⟩ := ih a m ha he
    have hs := hc.same j b w q hj hq hbl.symm
    obtain ⟨z, hz, ez⟩ := sig_kid hs hkm
    have hzr := kid_range hk hq hz
    obtain ⟨b', q', rfl, hq'⟩ := nd_of hzr.1 hzr.2
    exact ⟨b', q', hq', .step _ _ hr (by rw [kindOf_at hq, ← (sig_parts hs).1]; exact hy2) (by rw [kidsOf_at hq]; exact hz), by rw [ez, hc.idem k hkr.1 hkr.2]⟩

theorem treach_thru {ns : List Nd} {a b c : Int} (h1 : TReach ns a b) (hb : kindOf ns b = 2) (h2 : TReach ns b c) : TReach ns a c := by
  induction h2 with
  | kid x hx => exact .step _ _ h1 hb hx
  | step y x _ hy2 hx ih => exact .step _ _ ih hy2 hx

/-- tuples that lead to a tuple of their own class lead on for ever -/
theorem treach_none {ns : List Nd} {cl : List Int} {r : Int} (hv : ValidG ns r) (hc : Cong ns cl) {i : Nat} {n : Nd} (hi : ns[i]? = some n) (h2 : n.kind = 2) (ht : TReach (replNs ns cl) (i : Int) (i : Int)) :
    ∀ (M : Nat) (a : Nat) (m : Nd), ns[a]? = some m → look cl (a : Int) = look cl (i : Int) → (List.range ns.length).countP (fun (x : Nat) => tf (TReach ns (a : Int) (x : Int))) ≤ M → False := by
  have hk := validG_kids hv
  have hl := (treach_lift hk hc hi ht).2
  intro M
  induction M with
  | zero =>
    intro a m ha he hM
    obtain ⟨b, q, hq, hr, _⟩ := hl a m ha he
    have hbl := (List.getElem?_eq_some_iff.1 hq).1
    have : 0 < (List.range ns.length).countP (fun (x : Nat) => tf (TReach ns (a : Int) (x : Int))) := List.countP_pos_iff.2 ⟨b, List.mem_range.2 hbl, tf_true hr⟩
    omega
  | succ M ih =>
    intro a m ha he hM
    obtain ⟨b, q, hq, hr, hbe⟩ := hl a m ha he
    have hq2 : q.kind = 2 := by rw [← (sig_parts (hc.same i b n q hi hq hbe.symm)).1]; exact h2
    have hbl := (List.getElem?_eq_some_iff.1 hq).1
    refine ih b q hq hbe ?_
    apply Nat.le_of_lt_succ
    refine Nat.lt_of_lt_of_le ?_ hM
    apply Nat.lt_of_not_le
    intro hle
    have hb := countP_back (List.range ns.length) (p := fun (x : Nat) => tf (TReach ns (b : Int) (x : Int))) (q := fun (x : Nat) => tf (TReach ns (a : Int) (x : Int)))
      (fun x _ hx => tf_true (treach_thru hr (by rw [kindOf_at hq]; exact hq2) (Classical.byContradiction fun hn => by rw [tf_false hn] at hx; cases hx))) hle b (List.mem_range.2 hbl) (tf_true hr)
    refine hv.tuples b q hq hq2 (Classical.byContradiction fun hn => ?_)
    rw [tf_false hn] at hb
    cases hb

theorem dict_repl {ns : List Nd} {cl : List Int} (hc : Cong ns cl) {kids : List Int} (hin : InG ns kids) (hd : DictOk ns kids) : DictOk (replNs ns cl) (kids.map (look cl)) := by
  have back : ∀ (p : Nat) (m : Nd), KidNd (replNs ns cl) (kids.map (look cl)) p m → ∃ n, KidNd ns kids p n ∧ m.kind = n.kind ∧ m.value = n.value := by
    rintro p m ⟨k, h1, h2⟩
    rw [List.getElem?_map] at h1
    cases hx : kids[p]? with
    | none => rw [hx] at h1; cases h1
    | some x =>
      rw [hx] at h1
      have e : look cl x = (k : Int) := by simpa using h1
      have hxr := hin x (List.mem_of_getElem? hx)
      obtain ⟨i, n, rfl, hn⟩ := nd_of hxr.1 hxr.2
      have hkl : k < ns.length := by have := (hc.rng (i : Int) hxr.1 hxr.2).2; omega
      have hq : ns[k]? = some ns[k] := List.getElem?_eq_getElem hkl
      rw [replNs_at hq] at h2
      injection h2 with h2
      have hs := sig_parts (hc.same i k n _ hn hq (by rw [← e, hc.idem _ hxr.1 hxr.2]))
      exact ⟨n, ⟨i, hx, hn⟩, by rw [← h2]; exact hs.1.symm, by rw [← h2]; exact hs.2.1.symm⟩
  refine ⟨by rw [List.length_map]; exact hd.even, fun p m hp hm => ?_, fun p q m n hp hq hlt hm hn => ?_⟩
  · obtain ⟨n, h1, h2, _⟩ := back p m hm
    have := hd.key p n hp h1
    unfold IsKey at this ⊢
    rw [h2]
    exact this
  · obtain ⟨m', h1, h2, h3⟩ := back p m hm
    obtain ⟨n', h4, h5, h6⟩ := back q n hn
    have := hd.diff p q m' n' hp hq hlt h1 h4
    unfold SameKey at this ⊢
    rw [h2, h3, h5, h6]
    exact this

theorem repl_valid {ns : List Nd} {cl : List Int} {r : Int} (hv : ValidG ns r) (hc : Cong ns cl) : ValidG (replNs ns cl) (look cl r) := by
  have hrr := hc.rng r hv.root0 hv.root
  refine ⟨by rw [replNs_len]; exact hv.one, by rw [replNs_len]; exact hv.few, hrr.1, by rw [replNs_len]; exact hrr.2, fun m hm => ?_, fun i m hi hk2 ht => ?_⟩
  · obtain ⟨n, hn, rfl⟩ := List.mem_map.1 hm
    have hok := hv.nodes n hn
    refine ⟨by simpa [replNd] using hok.few, fun y hy => ?_, ?_⟩
    · obtain ⟨k, hk, rfl⟩ := List.mem_map.1 (show y ∈ n.kids.map (look cl) from hy)
      rw [replNs_len]
      exact hc.rng k (hok.inn k hk).1 (hok.inn k hk).2
    · have := hok.kind
      unfold KindOk at this ⊢
      simp only [replNd, List.length_map]
      rcases this with h1 | h1 | h1 | h1 | h1 | h1
      · exact .inl h1
      · exact .inr (.inl h1)
      · exact .inr (.inr (.inl h1))
      · exact .inr (.inr (.inr (.inl h1)))
      · exact .inr (.inr (.inr (.inr (.inl ⟨h1.1, h1.2.1, dict_repl hc hok.inn h1.2.2⟩))))
      · exact .inr (.inr (.inr (.inr (.inr h1))))
  · have hil : i < ns.length := by have := (List.getElem?_eq_some_iff.1 hi).1; rwa [replNs_len] at this
    have hn : ns[i]? = some ns[i] := List.getElem?_eq_getElem hil
    rw [replNs_at hn] at hi
    injection hi with hi
    rw [← hi] at hk2
    exact treach_none hv hc hn hk2 ht _ i _ hn rfl (Nat.le_refl _)

end Go.Proofs.Ytcblcmdfeoijpaa

namespace Go.Proofs.Ytcblcmdfeoijpaa

/-- each but the first is a kid of one before it, and the first is r -/
structure Ord (ns : List Nd) (r : Int) (L : List Int) : Prop where
  first : ∀ x, L[0]? = some x → x = r
  later : ∀ i x, 0 < i → L[i]? = some x → ∃ k y, k < i ∧ L[k]? = some y ∧ x ∈ kidsOf ns y

theorem Ord.snoc {ns : List Nd} {r x y : Int} {L : List Int} (h : Ord ns r L) (hy : y ∈ L) (hk : x ∈ kidsOf ns y) : Ord ns r (L ++ [x]) := by
  have hl : 0 < L.length := List.length_pos_of_mem hy
  refine ⟨fun z hz => h.first z (by rw [List.getElem?_append_left hl] at hz; exact hz), fun i z hi hz => ?_⟩
  by_cases e : i < L.length
  · rw [List.getElem?_append_left e] at hz
    obtain ⟨k, v, h1, h2, h3⟩ := h.later i z hi hz
    exact ⟨k, v, h1, by rw [List.getElem?_append_left (by omega)]; exact h2, h3⟩
  · have hie : i = L.length := by
      have := (List.getElem?_eq_some_iff.1 hz).1
      simp at this
      omega
    subst hie
    rw [List.getElem?_concat_length] at hz
    injection hz with hz
    subst hz
    obtain ⟨k, hk2, rfl⟩ := List.getElem_of_mem hy
    exact ⟨k, L[k], hk2, by rw [List.getElem?_append_left hk2]; exact List.getElem?_eq_getElem hk2, hk⟩

theorem ord_dfs (ns : List Nd) (ent : Int → Bool) (r : Int) : ∀ (f : Nat) (x y : Int) (L : List Int), Ord ns r L → y ∈ L → x ∈ kidsOf ns y → Ord ns r (dfs ns ent f x L) ∧ ∀ z ∈ L, z ∈ dfs ns ent f x L
  | 0, x, y, L, h, _, _ => ⟨h, fun _ hz => hz⟩
  | f + 1, x, y, L, h, hy, hk => by
    by_cases hs : ent x = false ∨ x ∈ L
    · rw [dfs_stop hs]
      exact ⟨h, fun _ hz => hz⟩
    · have he : ent x = true := by
        cases hx : ent x
        · exact absurd (.inl hx) hs
        · rfl
      rw [dfs_go he (fun hm => hs (.inr hm))]
      have key : ∀ (ks M : List Int), Ord ns r M → x ∈ M → (∀ k ∈ ks, k ∈ kidsOf ns x) → Ord ns r (dfsL ns ent f ks M) ∧ ∀ z ∈ M, z ∈ dfsL ns ent f ks M := by
        intro ks
        induction ks with
        | nil => intro M hM _ _; exact ⟨hM, fun _ hz => hz⟩
        | cons k ks ih =>
          intro M hM hx hks
          rw [dfsL_cons]
          have h1 := ord_dfs ns ent r f k x M hM hx (hks k (by simp))
          have h2 := ih (dfs ns ent f k M) h1.1 (h1.2 x hx) (fun k' hk' => hks k' (by simp [hk']))
          exact ⟨h2.1, fun z hz => h2.2 z (h1.2 z hz)⟩
      have h2 := key (kidsOf ns x) (L ++ [x]) (h.snoc hy hk) (by simp) (fun _ hk' => hk')
      exact ⟨h2.1, fun z hz => h2.2 z (List.mem_append_left _ hz)⟩

/-- the walk from a node in an empty list -/
theorem ord_start (ns : List Nd) (ent : Int → Bool) (r : Int) (f : Nat) (he : ent r = true) : Ord ns r (dfs ns ent (f + 1) r []) := by
  rw [dfs_go he (by simp), List.nil_append]
  have key : ∀ (ks M : List Int), Ord ns r M → r ∈ M → (∀ k ∈ ks, k ∈ kidsOf ns r) → Ord ns r (dfsL ns ent f ks M) := by
    intro ks
    induction ks with
    | nil => intro M hM _ _; exact hM
    | cons k ks ih =>
      intro M hM hx hks
      rw [dfsL_cons]
      have h1 := ord_dfs ns ent r f k r M hM hx (hks k (by simp))
      exact ih (dfs ns ent f k M) h1.1 (h1.2 r hx) (fun k' hk' => hks k' (by simp [hk']))
  refine key (kidsOf ns r) [r] ⟨fun x hx => by simp at hx; exact hx.symm, fun i x hi hx => ?_⟩ (by simp) (fun _ h => h)
  have := (List.getElem?_eq_some_iff.1 hx).1
  simp at this
  omega

/-- all that the law says of the nodes that are reached -/
structure Reached (ns : List Nd) (r : Int) (L : List Int) : Prop where
  met : Met ns L
  closed : ∀ y ∈ L, ∀ k ∈ kidsOf ns y, k ∈ L
  ord : Ord ns r L

theorem reachOf_reached {ns : List Nd} {r : Int} (h : ValidG ns r) : Reached ns r (reachOf ns r) := by
  unfold reachOf
  rw [if_pos h]
  have w := walked ns anyB (kidsIn_of_valid h) (ns.length + 1) r [] (Met.nil ns) h.root0 h.root (by simp)
  exact ⟨w.met, fun y hy k hk => w.closed y hy (by simp) k hk rfl, ord_start ns anyB r ns.length rfl⟩

theorem reachOf_none {ns : List Nd} {r : Int} (h : ¬ ValidG ns r) : reachOf ns r = [] := by
  unfold reachOf
  rw [if_neg h]

theorem reachOf_some {ns : List Nd} {r : Int} (h : ValidG ns r) : 0 < (reachOf ns r).length := by
  unfold reachOf
  rw [if_pos h]
  have w := walked ns anyB (kidsIn_of_valid h) (ns.length + 1) r [] (Met.nil ns) h.root0 h.root (by simp)
  exact List.length_pos_of_mem (w.starts r (by simp) rfl)

end Go.Proofs.Ytcblcmdfeoijpaa
