/-
  Lemmas, several texts in one: CngM, EqualI, CngE.
-/
import Derived.Test.YtcblcmdfeoijpabPjAo
import Derived.Test.YtcblcmdfeoijpabSpecE
import Derived.Test.YtcblcmdfeoijpabPjAj
import Derived.Test.YtcblcmdfeoijpabPjAd
import Derived.Test.YtcblcmdfeoijpabPjAh
import Derived.Deep.QuietTactic
import Derived.BigQuiet
import Derived.Test.YtcblcmdfeoijpabEqqM
import Derived.Test.YtcblcmdfeoijpabPjAl
namespace Go.Proofs.Ytcblcmdfeoijpab
open Go.RowKit Go.Maps
set_option linter.unusedVariables false

/-- nodes of an equal class are told the same -/
structure Cong (ns : List Nd) (cl : List Int) : Prop where
  len : cl.length = ns.length
  rng : ∀ x : Int, 0 ≤ x → x < ns.length → 0 ≤ look cl x ∧ look cl x < ns.length
  idem : ∀ x : Int, 0 ≤ x → x < ns.length → look cl (look cl x) = look cl x
  same : ∀ (i j : Nat) (n m : Nd), ns[i]? = some n → ns[j]? = some m → look cl (i : Int) = look cl (j : Int) → sigOf cl n = sigOf cl m

theorem cong_cls {ns : List Nd} (hk : KidsIn ns) : Cong ns (clsN ns ns.length) := by
  have hall := cls_all hk 1
  refine ⟨clsN_len _ _, fun x h0 h1 => ?_, fun x h0 h1 => ?_, fun i j n m hn hm h => ?_⟩
  · obtain ⟨i, rfl⟩ := Int.eq_ofNat_of_zero_le h0
    obtain ⟨j, g1, g2, g3⟩ := cls_self (ns := ns) ns.length (show i < ns.length by omega)
    rw [look_at g1]
    omega
  · obtain ⟨i, rfl⟩ := Int.eq_ofNat_of_zero_le h0
    obtain ⟨j, g1, g2, g3⟩ := cls_self (ns := ns) ns.length (show i < ns.length by omega)
    rw [look_at g1, look_at g3]
  · rw [← hall] at h
    exact (finer_eq (cl := clsN ns ns.length) hn hm).1 h

theorem sig_parts {cl : List Int} {n m : Nd} (h : sigOf cl n = sigOf cl m) : n.kind = m.kind ∧ n.value = m.value ∧ n.kids.map (look cl) = m.kids.map (look cl) := by
  unfold sigOf at h
  simp only [Prod.mk.injEq] at h
  exact h

/-- a kid of the one is the kid of the other at the same place -/
theorem sig_kid {cl : List Int} {n m : Nd} (h : sigOf cl n = sigOf cl m) {x : Int} (hx : x ∈ n.kids) : ∃ y ∈ m.kids, look cl y = look cl x := by
  have h3 := (sig_parts h).2.2
  have : look cl x ∈ m.kids.map (look cl) := by rw [← h3]; exact List.mem_map_of_mem hx
  obtain ⟨y, hy, e⟩ := List.mem_map.1 this
  exact ⟨y, hy, e⟩

theorem kidsOf_repl {ns : List Nd} {cl : List Int} {i : Nat} {n : Nd} (h : ns[i]? = some n) : kidsOf (replNs ns cl) (i : Int) = n.kids.map (look cl) := kidsOf_at (replNs_at h)
theorem kindOf_repl {ns : List Nd} {cl : List Int} {i : Nat} {n : Nd} (h : ns[i]? = some n) : kindOf (replNs ns cl) (i : Int) = n.kind := by
  have := kindOf_at (replNs_at (cl := cl) h)
  exact this

/-- a node that is met, and what it is -/
theorem nd_of {ns : List Nd} {x : Int} (h0 : 0 ≤ x) (h1 : x < ns.length) : ∃ (i : Nat) (n : Nd), x = (i : Int) ∧ ns[i]? = some n := in_at ⟨h0, h1⟩

theorem kid_range {ns : List Nd} (hk : KidsIn ns) {i : Nat} {n : Nd} (h : ns[i]? = some n) {x : Int} (hx : x ∈ n.kids) : 0 ≤ x ∧ x < ns.length := hk n (List.mem_of_getElem? h) x hx

/-- a way in the graph of classes is one in the graph, from each node of the class -/
theorem treach_lift {ns : List Nd} {cl : List Int} (hk : KidsIn ns) (hc : Cong ns cl) {i : Nat} {n : Nd} (hi : ns[i]? = some n) {y : Int} (h : TReach (replNs ns cl) (i : Int) y) :
    (0 ≤ y ∧ y < ns.length) ∧ ∀ (a : Nat) (m : Nd), ns[a]? = some m → look cl (a : Int) = look cl (i : Int) → ∃ (b : Nat) (q : Nd), ns[b]? = some q ∧ TReach ns (a : Int) (b : Int) ∧ look cl (b : Int) = look cl y := by
  induction h with
  | kid x hx =>
    rw [kidsOf_repl hi] at hx
    obtain ⟨k, hkm, rfl⟩ := List.mem_map.1 hx
    have hkr := kid_range hk hi hkm
    refine ⟨hc.rng k hkr.1 hkr.2, fun a m ha he => ?_⟩
    obtain ⟨z, hz, ez⟩ := sig_kid (hc.same i a n m hi ha he.symm) hkm
    have hzr := kid_range hk ha hz
    obtain ⟨b, q, rfl, hq⟩ := nd_of hzr.1 hzr.2
    exact ⟨b, q, hq, .kid _ (by rw [kidsOf_at ha]; exact hz), by rw [ez, hc.idem k hkr.1 hkr.2]⟩
  | step y x hy hy2 hx ih =>
    obtain ⟨hyr, ih⟩ := ih
    obtain ⟨j, w, rfl, hj⟩ := nd_of hyr.1 hyr.2
    rw [kidsOf_repl hj] at hx
    rw [kindOf_repl hj] at hy2
    obtain ⟨k, hkm, rfl⟩ := List.mem_map.1 hx
    have hkr := kid_range hk hj hkm
    refine ⟨hc.rng k hkr.1 hkr.2, fun a m ha he => ?_⟩
    obtain ⟨b, q, hq, hr, hbl⟩ := ih a m ha he
    have hs := hc.same j b w q hj hq hbl.symm
    obtain ⟨z, hz, ez⟩ := sig_kid hs hkm
    have hzr := kid_range hk hq hz
    obtain ⟨b', q', rfl, hq'⟩ := nd_of hzr.1 hzr.2
    exact ⟨b', q', hq', .step _ _ hr (by rw [kindOf_at hq, ← (sig_parts hs).1]; exact hy2) (by rw [kidsOf_at hq]; exact hz), by rw [ez, hc.idem k hkr.1 hkr.2]⟩

theorem treach_thru {ns : List Nd} {a b c : Int} (h1 : TReach ns a b) (hb : kindOf ns b = 2) (h2 : TReach ns b c) : TReach ns a c := by
  induction h2 with
  | kid x hx => exact .step _ _ h1 hb hx
  | step y x _ hy2 hx ih => exact .step _ _ ih hy2 hx

/-- tuples that lead to a tuple of their own class lead on for ever -/
theorem treach_none {ns : List Nd} {cl : List Int} {r : Int} (hv : ValidG ns r) (hc : Cong ns cl) {i : Nat} {n : Nd} (hi : ns[i]? = some n) (h2 : n.kind = 2) (ht : TReach (replNs ns cl) (i : Int) (i : Int)) :
    ∀ (M : Nat) (a : Nat) (m : Nd), ns[a]? = some m → look cl (a : Int) = look cl (i : Int) → (List.range ns.length).countP (fun (x : Nat) => tf (TReach ns (a : Int) (x : Int))) ≤ M → False := by
  have hk := validG_kids hv
  have hl := (treach_lift hk hc hi ht).2
  intro M
  induction M with
  | zero =>
    intro a m ha he hM
    obtain ⟨b, q, hq, hr, _⟩ := hl a m ha he
    have hbl := (List.getElem?_eq_some_iff.1 hq).1
    have : 0 < (List.range ns.length).countP (fun (x : Nat) => tf (TReach ns (a : Int) (x : Int))) := List.countP_pos_iff.2 ⟨b, List.mem_range.2 hbl, tf_true hr⟩
    omega
  | succ M ih =>
    intro a m ha he hM
    obtain ⟨b, q, hq, hr, hbe⟩ := hl a m ha he
    have hq2 : q.kind = 2 := by rw [← (sig_parts (hc.same i b n q hi hq hbe.symm)).1]; exact h2
    have hbl := (List.getElem?_eq_some_iff.1 hq).1
    refine ih b q hq hbe ?_
    apply Nat.le_of_lt_succ
    refine Nat.lt_of_lt_of_le ?_ hM
    apply Nat.lt_of_not_le
    intro hle
    have hb := countP_back (List.range ns.length) (p := fun (x : Nat) => tf (TReach ns (b : Int) (x : Int))) (q := fun (x : Nat) => tf (TReach ns (a : Int) (x : Int)))
      (fun x _ hx => tf_true (treach_thru hr (by rw [kindOf_at hq]; exact hq2) (Classical.byContradiction fun hn => by rw [tf_false hn] at hx; cases hx))) hle b (List.mem_range.2 hbl) (tf_true hr)
    refine hv.tuples b q hq hq2 (Classical.byContradiction fun hn => ?_)
    rw [tf_false hn] at hb
    cases hb

theorem dict_repl {ns : List Nd} {cl : List Int} (hc : Cong ns cl) {kids : List Int} (hin : InG ns kids) (hd : DictOk ns kids) : DictOk (replNs ns cl) (kids.map (look cl)) := by
  have back : ∀ (p : Nat) (m : Nd), KidNd (replNs ns cl) (kids.map (look cl)) p m → ∃ n, KidNd ns kids p n ∧ m.kind = n.kind ∧ m.value = n.value := by
    rintro p m ⟨k, h1, h2⟩
    rw [List.getElem?_map] at h1
    cases hx : kids[p]? with
    | none => rw [hx] at h1; cases h1
    | some x =>
      rw [hx] at h1
      have e : look cl x = (k : Int) := by simpa using h1
      have hxr := hin x (List.mem_of_getElem? hx)
      obtain ⟨i, n, rfl, hn⟩ := nd_of hxr.1 hxr.2
      have hkl : k < ns.length := by have := (hc.rng (i : Int) hxr.1 hxr.2).2; omega
      have hq : ns[k]? = some ns[k] := List.getElem?_eq_getElem hkl
      rw [replNs_at hq] at h2
      injection h2 with h2
      have hs := sig_parts (hc.same i k n _ hn hq (by rw [← e, hc.idem _ hxr.1 hxr.2]))
      exact ⟨n, ⟨i, hx, hn⟩, by rw [← h2]; exact hs.1.symm, by rw [← h2]; exact hs.2.1.symm⟩
  refine ⟨by rw [List.length_map]; exact hd.even, fun p m hp hm => ?_, fun p q m n hp hq hlt hm hn => ?_⟩
  · obtain ⟨n, h1, h2, _⟩ := back p m hm
    have := hd.key p n hp h1
    unfold IsKey at this ⊢
    rw [h2]
    exact this
  · obtain ⟨m', h1, h2, h3⟩ := back p m hm
    obtain ⟨n', h4, h5, h6⟩ := back q n hn
    have := hd.diff p q m' n' hp hq hlt h1 h4
    unfold SameKey at this ⊢
    rw [h2, h3, h5, h6]
    exact this

theorem repl_valid {ns : List Nd} {cl : List Int} {r : Int} (hv : ValidG ns r) (hc : Cong ns cl) : ValidG (replNs ns cl) (look cl r) := by
  have hrr := hc.rng r hv.root0 hv.root
  refine ⟨by rw [replNs_len]; exact hv.one, by rw [replNs_len]; exact hv.few, hrr.1, by rw [replNs_len]; exact hrr.2, fun m hm => ?_, fun i m hi hk2 ht => ?_⟩
  · obtain ⟨n, hn, rfl⟩ := List.mem_map.1 hm
    have hok := hv.nodes n hn
    refine ⟨by simpa [replNd] using hok.few, fun y hy => ?_, ?_⟩
    · obtain ⟨k, hk, rfl⟩ := List.mem_map.1 (show y ∈ n.kids.map (look cl) from hy)
      rw [replNs_len]
      exact hc.rng k (hok.inn k hk).1 (hok.inn k hk).2
    · have := hok.kind
      unfold KindOk at this ⊢
      simp only [replNd, List.length_map]
      rcases this with h1 | h1 | h1 | h1 | h1 | h1
      · exact .inl h1
      · exact .inr (.inl h1)
      · exact .inr (.inr (.inl h1))
      · exact .inr (.inr (.inr (.inl h1)))
      · exact .inr (.inr (.inr (.inr (.inl ⟨h1.1, h1.2.1, dict_repl hc hok.inn h1.2.2⟩))))
      · exact .inr (.inr (.inr (.inr (.inr h1))))
  · have hil : i < ns.length := by have := (List.getElem?_eq_some_iff.1 hi).1; rwa [replNs_len] at this
    have hn : ns[i]? = some ns[i] := List.getElem?_eq_getElem hil
    rw [replNs_at hn] at hi
    injection hi with hi
    rw [← hi] at hk2
    exact treach_none hv hc hn hk2 ht _ i _ hn rfl (Nat.le_refl _)

end Go.Proofs.Ytcblcmdfeoijpab

namespace Go.Proofs.Ytcblcmdfeoijpab
open Go.RowKit

set_option maxHeartbeats 1000000 in
theorem equalI_any (A A' : Option Addr) (xs ys : List Int) (c c' : Nat) (w : World) (h : IntsAt w w.heap.size A xs) (h' : IntsAt w w.heap.size A' ys) :
    Calls Try.prog 60 #[.slice A xs.length c, .slice A' ys.length c'] w fun e w' => e = .returned (.bool (decide (xs = ys))) ∧ Below w.heap.size w w' := by
  have hl := h.len
  by_cases hne : xs.length = ys.length
  · have hb0 : ((xs.length : Int) != (ys.length : Int)) = false := by simp [hne]
    go_enter Try.func60, Try.ntmps60
    go_wp2_with fail
    go_loopw [13] (fun i wr => ∃ k : Nat, k ≤ xs.length ∧ i = .int .i64 k ∧ Below w.heap.size w wr ∧ ∀ j, j < k → xs[j]? = ys[j]?) (fun i _ => xs.length - (intOf i).toNat)
    case atStart => exact ⟨0, Nat.zero_le _, rfl, Below.refl _ _, fun j hj => absurd hj (by omega)⟩
    case round =>
      obtain ⟨k, hk, rfl, hb, he0⟩ := hrel
      have he := hide he0
      clear he0
      by_cases hlt : k < xs.length
      · obtain ⟨b, off, x, rfl, hbl, hx, _, hcx⟩ := (h.below hb).at_ hlt
        obtain ⟨b', off', y, rfl, hbl', hy, _, hcy⟩ := (h'.below hb).at_ (k := k) (by omega)
        have Hx := hide hx
        have Hy := hide hy
        clear hx hy
        have hk1 : (0 : Int) ≤ (k : Int) := by omega
        have hk2 : (k : Int) < (xs.length : Int) := by omega
        have hk3 : (k : Int) < (ys.length : Int) := by omega
        by_cases hxy : x = y
        · subst hxy
          go_wp2_with fail
          go_quiet (fail)
          go_wp2
          go_roundw
          case rel => exact ⟨k + 1, by omega, by go_num, below_drewN hb _, fun j hj => by
            by_cases e : j = k
            · subst e; rw [Hx.out, Hy.out]
            · exact he.out j (by omega)⟩
          case measure => simp [intOf]; omega
        · have hn1 : (x != y) = true := by simpa using hxy
          have hF : decide (xs = ys) = false := by
            simp only [decide_eq_false_iff_not]
            intro e
            subst e
            have := Hx.out.symm.trans Hy.out
            injection this with this
            exact hxy this
          have HF := hide hF
          clear hF
          go_wp2_with fail
          go_quiet (fail)
          go_wp2
          go_ret
          exact ⟨ret_bool HF.out.symm, below_drewN hb _⟩
      · obtain rfl : k = xs.length := by omega
        have hF : decide (xs = ys) = true := by
          simp only [decide_eq_true_eq]
          exact eq_of_prefix hne rfl he.out
        have HF := hide hF
        clear hF hlt
        go_wp2
        go_ret
        exact ⟨ret_bool HF.out.symm, hb⟩
  · have hb1 : ((xs.length : Int) != (ys.length : Int)) = true := by simp; omega
    have hF : decide (xs = ys) = false := by
      simp only [decide_eq_false_iff_not]
      intro e
      exact hne (by rw [e])
    have HF := hide hF
    clear hF
    go_enter Try.func60, Try.ntmps60
    go_wp2
    go_ret
    exact ⟨ret_bool HF.out.symm, Below.refl _ _⟩

end Go.Proofs.Ytcblcmdfeoijpab

namespace Go.Proofs.Ytcblcmdfeoijpab
open Go.RowKit
set_option linter.unusedVariables false

theorem repl_eqq {ns : List Nd} {cl : List Int} (hk : KidsIn ns) (hc : Cong ns cl) : ∀ (d : Nat) (i j : Nat), i < ns.length → j < ns.length → look cl (i : Int) = look cl (j : Int) → Eqq (replNs ns cl) ns d (i : Int) (j : Int)
  | 0, _, _, _, _, _ => trivial
  | d + 1, i, j, hi, hj, h => by
    have hn : ns[i]? = some ns[i] := List.getElem?_eq_getElem hi
    have hm : ns[j]? = some ns[j] := List.getElem?_eq_getElem hj
    have hs := hc.same i j _ _ hn hm h
    obtain ⟨s1, s2, s3⟩ := sig_parts hs
    refine (eqq_step (replNs_at hn) hm d).2 ⟨⟨s1, s2, by have := congrArg List.length s3; simpa [replNd] using this⟩, fun p a b ha hb => ?_⟩
    have ha' : (ns[i].kids.map (look cl))[p]? = some a := ha
    rw [s3, List.getElem?_map, hb] at ha'
    obtain rfl := Option.some.inj ha'
    have hbr := hk _ (List.getElem_mem hj) b (List.mem_of_getElem? hb)
    obtain ⟨b0, hb0⟩ := Int.eq_ofNat_of_zero_le hbr.1
    subst hb0
    have hlr := hc.rng (b0 : Int) hbr.1 hbr.2
    obtain ⟨a0, ha0⟩ := Int.eq_ofNat_of_zero_le hlr.1
    rw [ha0]
    exact repl_eqq hk hc d a0 b0 (by omega) (by omega) (by rw [← ha0, hc.idem _ hbr.1 hbr.2])

theorem repl_eqAll {ns : List Nd} {cl : List Int} (hk : KidsIn ns) (hc : Cong ns cl) {x : Int} (x0 : 0 ≤ x) (x1 : x < ns.length) : EqqAll (replNs ns cl) ns (look cl x) x := fun d => by
  obtain ⟨i, rfl⟩ := Int.eq_ofNat_of_zero_le x0
  have hlr := hc.rng (i : Int) x0 x1
  obtain ⟨j, hj⟩ := Int.eq_ofNat_of_zero_le hlr.1
  rw [hj]
  exact repl_eqq hk hc d j i (by omega) (by omega) (by rw [← hj, hc.idem _ x0 x1])

/-- what is reached in it are nodes that stay as they are -/
theorem repl_reached {ns : List Nd} {cl : List Int} {r : Int} (hv : ValidG ns r) (hc : Cong ns cl) {L : List Int} (hR : Reached (replNs ns cl) (look cl r) L) : ∀ x ∈ L, (0 ≤ x ∧ x < ns.length) ∧ look cl x = x := by
  intro x hx
  have hxr := hR.met.range x hx
  rw [replNs_len] at hxr
  refine ⟨hxr, ?_⟩
  obtain ⟨k, hk, e⟩ := List.getElem_of_mem hx
  have hat : L[k]? = some x := by rw [List.getElem?_eq_getElem hk, e]
  rcases Nat.eq_zero_or_pos k with h0 | h0
  · subst h0
    rw [hR.ord.first x hat]
    exact hc.idem r hv.root0 hv.root
  · obtain ⟨m, y, hm, hy, hin⟩ := hR.ord.later k x h0 hat
    have hyr := hR.met.range y (List.mem_of_getElem? hy)
    rw [replNs_len] at hyr
    obtain ⟨i, n, rfl, hn⟩ := nd_of hyr.1 hyr.2
    rw [kidsOf_repl hn] at hin
    obtain ⟨z, hz, rfl⟩ := List.mem_map.1 hin
    have hzr := validG_kids hv n (List.mem_of_getElem? hn) z hz
    exact hc.idem z hzr.1 hzr.2

theorem repl_repl {ns : List Nd} {cl : List Int} (hk : KidsIn ns) (hc : Cong ns cl) : replNs (replNs ns cl) cl = replNs ns cl := by
  unfold replNs
  rw [List.map_map]
  apply List.map_congr_left
  intro n hn
  unfold replNd
  simp only [Function.comp, List.map_map, Nd.mk.injEq, true_and]
  apply List.map_congr_left
  intro x hx
  have := hk n hn x hx
  exact hc.idem x this.1 this.2

end Go.Proofs.Ytcblcmdfeoijpab
