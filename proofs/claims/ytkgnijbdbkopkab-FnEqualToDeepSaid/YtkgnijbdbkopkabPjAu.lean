/-
  Lemmas, several texts in one: EqqM, CngE, MgqM, RewI, EtqM.
-/
import Derived.Test.YtkgnijbdbkopkabPjAr
import Derived.Test.YtkgnijbdbkopkabPjAo
import Derived.Test.YtkgnijbdbkopkabPjAm
import Derived.Deep.Cut
import Derived.Test.YtkgnijbdbkopkabPjAe
import Derived.Test.YtkgnijbdbkopkabPjAa
import Derived.Deep.LoopGhost
namespace Go.Proofs.Ytkgnijbdbkopkab
open Go.RowKit Go.Maps
set_option linter.unusedVariables false

/-- nodes of two graphs are equal up to a depth -/
def Eqq (ns ms : List Nd) : Nat → Int → Int → Prop
  | 0, _, _ => True
  | d + 1, x, y => ∃ (i j : Nat) (n m : Nd), x = (i : Int) ∧ y = (j : Int) ∧ ns[i]? = some n ∧ ms[j]? = some m ∧ Alike n m ∧ ∀ (p : Nat) (a b : Int), n.kids[p]? = some a → m.kids[p]? = some b → Eqq ns ms d a b

theorem eqq_step {ns ms : List Nd} {i j : Nat} {n m : Nd} (hn : ns[i]? = some n) (hm : ms[j]? = some m) (d : Nat) :
    Eqq ns ms (d + 1) (i : Int) (j : Int) ↔ Alike n m ∧ ∀ (p : Nat) (a b : Int), n.kids[p]? = some a → m.kids[p]? = some b → Eqq ns ms d a b := by
  constructor
  · rintro ⟨i', j', n', m', e1, e2, h1, h2, h3⟩
    obtain rfl : i = i' := by omega
    obtain rfl : j = j' := by omega
    rw [hn] at h1
    rw [hm] at h2
    injection h1 with h1
    injection h2 with h2
    subst h1 h2
    exact h3
  · intro h
    exact ⟨i, j, n, m, rfl, rfl, hn, hm, h⟩

theorem Alike.symm {n m : Nd} (h : Alike n m) : Alike m n := ⟨h.1.symm, h.2.1.symm, h.2.2.symm⟩
theorem Alike.trans {n m q : Nd} (h : Alike n m) (g : Alike m q) : Alike n q := ⟨h.1.trans g.1, h.2.1.trans g.2.1, h.2.2.trans g.2.2⟩

theorem Eqq.refl {ns : List Nd} (hk : KidsIn ns) : ∀ (d : Nat) (x : Int), 0 ≤ x → x < ns.length → Eqq ns ns d x x
  | 0, _, _, _ => trivial
  | d + 1, x, h0, h1 => by
    obtain ⟨i, n, rfl, hn⟩ := in_at ⟨h0, h1⟩
    refine (eqq_step hn hn d).2 ⟨⟨rfl, rfl, rfl⟩, fun p a b ha hb => ?_⟩
    obtain rfl := Option.some.inj (ha.symm.trans hb)
    have := hk n (List.mem_of_getElem? hn) a (List.mem_of_getElem? ha)
    exact Eqq.refl hk d a this.1 this.2
theorem Eqq.symm {ns ms : List Nd} : ∀ {d : Nat} {x y : Int}, Eqq ns ms d x y → Eqq ms ns d y x
  | 0, _, _, _ => trivial
  | d + 1, _, _, ⟨i, j, n, m, e1, e2, h1, h2, h3, h4⟩ => ⟨j, i, m, n, e2, e1, h2, h1, h3.symm, fun p a b ha hb => (h4 p b a hb ha).symm⟩
theorem Eqq.trans {ns ms ps : List Nd} : ∀ {d : Nat} {x y z : Int}, Eqq ns ms d x y → Eqq ms ps d y z → Eqq ns ps d x z
  | 0, _, _, _, _, _ => trivial
  | d + 1, _, _, _, ⟨i, j, n, m, e1, e2, h1, h2, h3, h4⟩, ⟨j', k, m', q, e3, e4, g1, g2, g3, g4⟩ => by
    obtain rfl : j = j' := by omega
    rw [h2] at g1
    injection g1 with g1
    subst g1
    refine ⟨i, k, n, q, e1, e4, h1, g2, h3.trans g3, fun p a b ha hb => ?_⟩
    have hp : p < m.kids.length := by rw [← h3.2.2]; exact (List.getElem?_eq_some_iff.1 ha).1
    exact (h4 p a _ ha (List.getElem?_eq_getElem hp)).trans (g4 p _ b (List.getElem?_eq_getElem hp) hb)
theorem Eqq.less {ns ms : List Nd} : ∀ {d : Nat} {x y : Int}, Eqq ns ms (d + 1) x y → Eqq ns ms d x y
  | 0, _, _, _ => trivial
  | d + 1, _, _, ⟨i, j, n, m, e1, e2, h1, h2, h3, h4⟩ => ⟨i, j, n, m, e1, e2, h1, h2, h3, fun p a b ha hb => (h4 p a b ha hb).less⟩
theorem Eqq.down {ns ms : List Nd} {x y : Int} {d e : Nat} (h : Eqq ns ms d x y) (he : e ≤ d) : Eqq ns ms e x y := by
  induction d with
  | zero => obtain rfl : e = 0 := by omega
            exact h
  | succ d ih =>
    by_cases hd : e = d + 1
    · subst hd; exact h
    · exact ih h.less (by omega)

theorem eqN_iff {ns ms : List Nd} (hk : KidsIn ns) (hl : KidsIn ms) : ∀ (d : Nat) (x y : Int), 0 ≤ x → x < ns.length → 0 ≤ y → y < ms.length → (EqN ns ms d x y ↔ Eqq ns ms d x y)
  | 0, x, y, _, _, _, _ => ⟨fun _ => trivial, fun _ => eqN_zero ns ms x y⟩
  | d + 1, x, y, x0, x1, y0, y1 => by
    obtain ⟨i, n, rfl, hn⟩ := in_at ⟨x0, x1⟩
    obtain ⟨j, m, rfl, hm⟩ := in_at ⟨y0, y1⟩
    rw [eqN_step hn hm d, eqq_step hn hm d]
    have key : ∀ (p : Nat) (a b : Int), n.kids[p]? = some a → m.kids[p]? = some b → (EqN ns ms d a b ↔ Eqq ns ms d a b) := fun p a b ha hb => by
      have h1 := hk n (List.mem_of_getElem? hn) a (List.mem_of_getElem? ha)
      have h2 := hl m (List.mem_of_getElem? hm) b (List.mem_of_getElem? hb)
      exact eqN_iff hk hl d a b h1.1 h1.2 h2.1 h2.2
    exact ⟨fun h => ⟨h.1, fun p a b ha hb => (key p a b ha hb).1 (h.2 p a b ha hb)⟩, fun h => ⟨h.1, fun p a b ha hb => (key p a b ha hb).2 (h.2 p a b ha hb)⟩⟩

theorem cls_iff {ns : List Nd} (hk : KidsIn ns) : ∀ (d : Nat) (x y : Int), 0 ≤ x → x < ns.length → 0 ≤ y → y < ns.length → (look (clsN ns d) x = look (clsN ns d) y ↔ Eqq ns ns d x y)
  | 0, x, y, _, _, _, _ => ⟨fun _ => trivial, fun _ => by rw [look_zero, look_zero]⟩
  | d + 1, x, y, x0, x1, y0, y1 => by
    obtain ⟨i, n, rfl, hn⟩ := in_at ⟨x0, x1⟩
    obtain ⟨j, m, rfl, hm⟩ := in_at ⟨y0, y1⟩
    rw [eqq_step hn hm d]
    refine Iff.trans (finer_eq (cl := clsN ns d) hn hm) ?_
    have key : ∀ (p : Nat) (a b : Int), n.kids[p]? = some a → m.kids[p]? = some b → (look (clsN ns d) a = look (clsN ns d) b ↔ Eqq ns ns d a b) := fun p a b ha hb => by
      have h1 := hk n (List.mem_of_getElem? hn) a (List.mem_of_getElem? ha)
      have h2 := hk m (List.mem_of_getElem? hm) b (List.mem_of_getElem? hb)
      exact cls_iff hk d a b h1.1 h1.2 h2.1 h2.2
    constructor
    · intro h
      obtain ⟨h1, h2⟩ := alike_sig h
      exact ⟨h1, fun p a b ha hb => (key p a b ha hb).1 (h2 p a b ha hb)⟩
    · intro h
      exact sig_alike h.1 (fun p a b ha hb => (key p a b ha hb).2 (h.2 p a b ha hb))

/-- equal however deep -/
def EqqAll (ns ms : List Nd) (x y : Int) : Prop := ∀ d, Eqq ns ms d x y
theorem EqqAll.refl {ns : List Nd} (hk : KidsIn ns) {x : Int} (h0 : 0 ≤ x) (h1 : x < ns.length) : EqqAll ns ns x x := fun d => Eqq.refl hk d x h0 h1
theorem EqqAll.symm {ns ms : List Nd} {x y : Int} (h : EqqAll ns ms x y) : EqqAll ms ns y x := fun d => (h d).symm
theorem EqqAll.trans {ns ms ps : List Nd} {x y z : Int} (h : EqqAll ns ms x y) (g : EqqAll ms ps y z) : EqqAll ns ps x z := fun d => (h d).trans (g d)

/-- the classes of as many depths as there are nodes tell what is equal however deep -/
theorem cls_all_iff {ns : List Nd} (hk : KidsIn ns) {x y : Int} (x0 : 0 ≤ x) (x1 : x < ns.length) (y0 : 0 ≤ y) (y1 : y < ns.length) : look (clsN ns ns.length) x = look (clsN ns ns.length) y ↔ EqqAll ns ns x y := by
  constructor
  · intro h d
    have h1 := (cls_iff hk (ns.length + d) x y x0 x1 y0 y1).1 (by rw [cls_all hk]; exact h)
    exact h1.down (by omega)
  · intro h
    exact (cls_iff hk ns.length x y x0 x1 y0 y1).2 (h _)

theorem rootsEq_iff {ns ms : List Nd} {r s : Int} (hk : KidsIn ns) (hl : KidsIn ms) (r0 : 0 ≤ r) (r1 : r < ns.length) (s0 : 0 ≤ s) (s1 : s < ms.length) : RootsEq ns r ms s (joinNs ns ms).length ↔ EqqAll ns ms r s := by
  constructor
  · intro h d
    have h1 : EqN ns ms ((joinNs ns ms).length + d) r s := by
      unfold EqN
      rw [cls_all (joinNs_kids hk hl)]
      exact h
    exact ((eqN_iff hk hl _ r s r0 r1 s0 s1).1 h1).down (by omega)
  · intro h
    exact (eqN_iff hk hl _ r s r0 r1 s0 s1).2 (h _)

theorem eqDeep_iff {ns ms : List Nd} {r s : Int} (hv : ValidG ns r) (hw : ValidG ms s) : EqDeepG ns r ms s ↔ EqqAll ns ms r s := by
  constructor
  · intro h
    exact (rootsEq_iff (validG_kids hv) (validG_kids hw) hv.root0 hv.root hw.root0 hw.root).1 h.2.2
  · intro h
    exact ⟨hv, hw, (rootsEq_iff (validG_kids hv) (validG_kids hw) hv.root0 hv.root hw.root0 hw.root).2 h⟩

theorem eqTo_iff {ns ms : List Nd} {r s : Int} {d : Nat} (hv : ValidG ns r) (hw : ValidG ms s) (hd : d ≤ 8) : EqToG ns r ms s (d : Int) ↔ Eqq ns ms d r s := by
  have h := eqN_iff (validG_kids hv) (validG_kids hw) d r s hv.root0 hv.root hw.root0 hw.root
  constructor
  · intro h1
    exact h.1 (by have := h1.2.2.2.2; simpa [RootsEq, EqN] using this)
  · intro h1
    exact ⟨hv, hw, by omega, by omega, by simpa [RootsEq, EqN] using h.2 h1⟩

end Go.Proofs.Ytkgnijbdbkopkab

namespace Go.Proofs.Ytkgnijbdbkopkab
open Go.RowKit
set_option linter.unusedVariables false

theorem repl_eqq {ns : List Nd} {cl : List Int} (hk : KidsIn ns) (hc : Cong ns cl) : ∀ (d : Nat) (i j : Nat), i < ns.length → j < ns.length → look cl (i : Int) = look cl (j : Int) → Eqq (replNs ns cl) ns d (i : Int) (j : Int)
  | 0, _, _, _, _, _ => trivial
  | d + 1, i, j, hi, hj, h => by
    have hn : ns[i]? = some ns[i] := List.getElem?_eq_getElem hi
    have hm : ns[j]? = some ns[j] := List.getElem?_eq_getElem hj
    have hs := hc.same i j _ _ hn hm h
    obtain ⟨s1, s2, s3⟩ := sig_parts hs
    refine (eqq_step (replNs_at hn) hm d).2 ⟨⟨s1, s2, by have := congrArg List.length s3; simpa [replNd] using this⟩, fun p a b ha hb => ?_⟩
    have ha' : (ns[i].kids.map (look cl))[p]? = some a := ha
    rw [s3, List.getElem?_map, hb] at ha'
    obtain rfl := Option.some.inj ha'
    have hbr := hk _ (List.getElem_mem hj) b (List.mem_of_getElem? hb)
    obtain ⟨b0, hb0⟩ := Int.eq_ofNat_of_zero_le hbr.1
    subst hb0
    have hlr := hc.rng (b0 : Int) hbr.1 hbr.2
    obtain ⟨a0, ha0⟩ := Int.eq_ofNat_of_zero_le hlr.1
    rw [ha0]
    exact repl_eqq hk hc d a0 b0 (by omega) (by omega) (by rw [← ha0, hc.idem _ hbr.1 hbr.2])

theorem repl_eqAll {ns : List Nd} {cl : List Int} (hk : KidsIn ns) (hc : Cong ns cl) {x : Int} (x0 : 0 ≤ x) (x1 : x < ns.length) : EqqAll (replNs ns cl) ns (look cl x) x := fun d => by
  obtain ⟨i, rfl⟩ := Int.eq_ofNat_of_zero_le x0
  have hlr := hc.rng (i : Int) x0 x1
  obtain ⟨j, hj⟩ := Int.eq_ofNat_of_zero_le hlr.1
  rw [hj]
  exact repl_eqq hk hc d j i (by omega) (by omega) (by rw [← hj, hc.idem _ x0 x1])

/-- what is reached in it are nodes that stay as they are -/
theorem repl_reached {ns : List Nd} {cl : List Int} {r : Int} (hv : ValidG ns r) (hc : Cong ns cl) {L : List Int} (hR : Reached (replNs ns cl) (look cl r) L) : ∀ x ∈ L, (0 ≤ x ∧ x < ns.length) ∧ look cl x = x := by
  intro x hx
  have hxr := hR.met.range x hx
  rw [replNs_len] at hxr
  refine ⟨hxr, ?_⟩
  obtain ⟨k, hk, e⟩ := List.getElem_of_mem hx
  have hat : L[k]? = some x := by rw [List.getElem?_eq_getElem hk, e]
  rcases Nat.eq_zero_or_pos k with h0 | h0
  · subst h0
    rw [hR.ord.first x hat]
    exact hc.idem r hv.root0 hv.root
  · obtain ⟨m, y, hm, hy, hin⟩ := hR.ord.later k x h0 hat
    have hyr := hR.met.range y (List.mem_of_getElem? hy)
    rw [replNs_len] at hyr
    obtain ⟨i, n, rfl, hn⟩ := nd_of hyr.1 hyr.2
    rw [kidsOf_repl hn] at hin
    obtain ⟨z, hz, rfl⟩ := List.mem_map.1 hin
    have hzr := validG_kids hv n (List.mem_of_getElem? hn) z hz
    exact hc.idem z hzr.1 hzr.2

theorem repl_repl {ns : List Nd} {cl : List Int} (hk : KidsIn ns) (hc : Cong ns cl) : replNs (replNs ns cl) cl = replNs ns cl := by
  unfold replNs
  rw [List.map_map]
  apply List.map_congr_left
  intro n hn
  unfold replNd
  simp only [Function.comp, List.map_map, Nd.mk.injEq, true_and]
  apply List.map_congr_left
  intro x hx
  have := hk n hn x hx
  exact hc.idem x this.1 this.2

end Go.Proofs.Ytkgnijbdbkopkab

namespace Go.Proofs.Ytkgnijbdbkopkab
open Go.RowKit
set_option linter.unusedVariables false

theorem firstT_spec {ns : List Nd} {i : Nat} {n : Nd} (h : ns[i]? = some n) (hk : n.kind = 1) : ∃ q, ns[firstT ns n.value]? = some q ∧ IsTx n.value q := by
  have hle := firstT_le h ⟨hk, rfl⟩
  have hi := (List.getElem?_eq_some_iff.1 h).1
  have hl : firstT ns n.value < ns.length := by omega
  refine ⟨_, List.getElem?_eq_getElem hl, ?_⟩
  have := List.findIdx_getElem (xs := ns) (p := fun m => decide (IsTx n.value m)) (w := hl)
  exact of_decide_eq_true this

theorem look_txt {ns : List Nd} {i : Nat} (hi : i < ns.length) : look (txtCl ns) (i : Int) = ftx ns i := look_at (txtCl_at hi)

theorem ftx_idem {ns : List Nd} {i : Nat} (hi : i < ns.length) : ∃ j : Nat, ftx ns i = (j : Int) ∧ j < ns.length ∧ ftx ns j = (j : Int) := by
  have hn : ns[i]? = some ns[i] := List.getElem?_eq_getElem hi
  by_cases hk : ns[i].kind = 1
  · obtain ⟨q, hq, ht⟩ := firstT_spec hn hk
    refine ⟨_, ftx_text hn hk, (List.getElem?_eq_some_iff.1 hq).1, ?_⟩
    rw [ftx_text hq ht.1, ht.2]
  · exact ⟨i, ftx_else hn hk, hi, ftx_else hn hk⟩

theorem text_kids {ns : List Nd} {r : Int} (hv : ValidG ns r) {n : Nd} (hn : n ∈ ns) (hk : n.kind = 1) : n.kids = [] := by
  have := (hv.nodes n hn).kind
  unfold KindOk at this
  rw [hk] at this
  apply List.eq_nil_of_length_eq_zero
  omega

theorem cong_txt {ns : List Nd} {r : Int} (hv : ValidG ns r) : Cong ns (txtCl ns) := by
  refine ⟨txtCl_len ns, fun x h0 h1 => ?_, fun x h0 h1 => ?_, fun i j n m hn hm h => ?_⟩
  · obtain ⟨i, rfl⟩ := Int.eq_ofNat_of_zero_le h0
    rw [look_txt (by omega)]
    have := ftx_range (ns := ns) (i := i) (by omega)
    omega
  · obtain ⟨i, rfl⟩ := Int.eq_ofNat_of_zero_le h0
    obtain ⟨j, g1, g2, g3⟩ := ftx_idem (ns := ns) (i := i) (by omega)
    rw [look_txt (by omega), g1, look_txt g2, g3]
  · have hi := (List.getElem?_eq_some_iff.1 hn).1
    have hj := (List.getElem?_eq_some_iff.1 hm).1
    rw [look_txt hi, look_txt hj] at h
    by_cases hk : n.kind = 1
    · obtain ⟨q, hq, ht⟩ := firstT_spec hn hk
      rw [ftx_text hn hk] at h
      by_cases hk2 : m.kind = 1
      · obtain ⟨q2, hq2, ht2⟩ := firstT_spec hm hk2
        rw [ftx_text hm hk2] at h
        have e : firstT ns n.value = firstT ns m.value := by omega
        rw [e, hq2] at hq
        injection hq with hq
        subst hq
        unfold sigOf
        rw [hk, hk2, ← ht.2, ← ht2.2, text_kids hv (List.mem_of_getElem? hn) hk, text_kids hv (List.mem_of_getElem? hm) hk2]
      · rw [ftx_else hm hk2] at h
        have e : firstT ns n.value = j := by omega
        rw [e, hm] at hq
        injection hq with hq
        subst hq
        exact absurd ht.1 hk2
    · rw [ftx_else hn hk] at h
      by_cases hk2 : m.kind = 1
      · obtain ⟨q2, hq2, ht2⟩ := firstT_spec hm hk2
        rw [ftx_text hm hk2] at h
        have e : firstT ns m.value = i := by omega
        rw [e, hn] at hq2
        injection hq2 with hq2
        subst hq2
        exact absurd ht2.1 hk
      · rw [ftx_else hm hk2] at h
        obtain rfl : i = j := by omega
        rw [hn] at hm
        injection hm with hm
        rw [hm]

theorem firstT_repl (ns : List Nd) (cl : List Int) (v : Int) : firstT (replNs ns cl) v = firstT ns v := by
  unfold firstT replNs
  rw [List.findIdx_map]
  rfl

theorem txtCl_repl (ns : List Nd) (cl : List Int) : txtCl (replNs ns cl) = txtCl ns := by
  unfold txtCl
  rw [replNs_len]
  apply List.map_congr_left
  intro i hi
  have hil := List.mem_range.1 hi
  have hn : ns[i]? = some ns[i] := List.getElem?_eq_getElem hil
  by_cases hk : ns[i].kind = 1
  · rw [ftx_text hn hk, ftx_text (replNs_at (cl := cl) hn) hk, firstT_repl]
    rfl
  · rw [ftx_else hn hk, ftx_else (replNs_at (cl := cl) hn) hk]

theorem mrg_valid {ns : List Nd} {r : Int} (hv : ValidG ns r) : ValidG (mrgN ns r) (mrgR ns r) := by
  rw [mrgN_yes hv, mrgR_yes hv]
  exact repl_valid hv (cong_txt hv)

theorem mrg_equal {ns : List Nd} {r : Int} (hv : ValidG ns r) : EqDeepG (mrgN ns r) (mrgR ns r) ns r := by
  refine (eqDeep_iff (mrg_valid hv) hv).2 ?_
  rw [mrgN_yes hv, mrgR_yes hv]
  exact repl_eqAll (validG_kids hv) (cong_txt hv) hv.root0 hv.root

theorem mrg_again {ns : List Nd} {r : Int} (hv : ValidG ns r) : mrgN (mrgN ns r) (mrgR ns r) = mrgN ns r ∧ mrgR (mrgN ns r) (mrgR ns r) = mrgR ns r := by
  have h := mrg_valid hv
  rw [mrgN_yes h, mrgR_yes h]
  rw [mrgN_yes hv, mrgR_yes hv, txtCl_repl]
  exact ⟨repl_repl (validG_kids hv) (cong_txt hv), (cong_txt hv).idem r hv.root0 hv.root⟩

/-- no two equal texts are reached -/
theorem mrg_texts {ns : List Nd} {r : Int} (hv : ValidG ns r) {L : List Int} (hR : Reached (mrgN ns r) (mrgR ns r) L) {i k : Nat} (hk : k < i) {x y : Nat} {m q : Nd} (hx : L[i]? = some (x : Int)) (hy : L[k]? = some (y : Int)) (hm : (mrgN ns r)[x]? = some m) (hq : (mrgN ns r)[y]? = some q) :
    ¬ (m.kind = 1 ∧ q.kind = 1 ∧ m.value = q.value) := by
  rw [mrgN_yes hv, mrgR_yes hv] at hR
  rw [mrgN_yes hv] at hm hq
  rintro ⟨h1, h2, h3⟩
  obtain ⟨⟨_, hx1⟩, hxs⟩ := repl_reached hv (cong_txt hv) hR (x : Int) (List.mem_of_getElem? hx)
  obtain ⟨⟨_, hy1⟩, hys⟩ := repl_reached hv (cong_txt hv) hR (y : Int) (List.mem_of_getElem? hy)
  have hxl : x < ns.length := by omega
  have hyl : y < ns.length := by omega
  have hn : ns[x]? = some ns[x] := List.getElem?_eq_getElem hxl
  have hp : ns[y]? = some ns[y] := List.getElem?_eq_getElem hyl
  rw [replNs_at hn] at hm
  rw [replNs_at hp] at hq
  injection hm with hm
  injection hq with hq
  rw [← hm] at h1 h3
  rw [← hq] at h2 h3
  rw [look_txt hxl, ftx_text hn h1] at hxs
  rw [look_txt hyl, ftx_text hp h2] at hys
  have e : ns[x].value = ns[y].value := h3
  rw [e] at hxs
  have : x = y := by omega
  subst this
  have hil := (List.getElem?_eq_some_iff.1 hx)
  have hkl := (List.getElem?_eq_some_iff.1 hy)
  have := (List.getElem_inj hR.met.nodup).1 (hil.2.trans hkl.2.symm)
  omega

end Go.Proofs.Ytkgnijbdbkopkab

namespace Go.Proofs.Ytkgnijbdbkopkab
open Go.RowKit
set_option linter.unusedVariables false

set_option maxRecDepth 100000 in
set_option maxHeartbeats 2000000 in
theorem rewired_any (F : Nat) (binds caps : Array Value) (g : Int → Int) (n : Nd) (A : Option Addr) (c : Nat) (w : World) (hI : IntsAt w w.heap.size A n.kids) (hk : n.kids.length ≤ 1000) (h64 : ∀ k ∈ n.kids, In64 (g k))
    (hent : ∀ (args : Array Value) (W : World), (callFunc F args).run Try.prog W = .ok (.enter F args) W)
    (hcall : ∀ (k : Int) (W : World), Below w.heap.size w W → k ∈ n.kids → Calls Try.prog F (binds ++ #[.int .i64 k] ++ caps) W fun e w' => e = .returned (.int .i64 (g k)) ∧ W = w') :
    Calls Try.prog 34 #[.agg #[.int .i64 n.kind, .int .i64 n.value, .slice A n.kids.length c], .func (.func F) binds caps] w (GivesNd w n.kind n.value (n.kids.map g)) := by
  have hB : Below w.heap.size w ((w.alloc (.cells #[.int .i64 n.kind, .int .i64 n.value, .slice A n.kids.length c] 45)).alloc (.cells #[.int .i64 0, .int .i64 0, .slice none 0 0] 45)) := ((Below.refl _ _).alloc (Nat.le_refl _) _).alloc (by simp) _
  have l1 := (Lies.new w #[.int .i64 n.kind, .int .i64 n.value, .slice A n.kids.length c] 45).alloc (.cells #[.int .i64 0, .int .i64 0, .slice none 0 0] 45)
  have l2 := Lies.new (w.alloc (.cells #[.int .i64 n.kind, .int .i64 n.value, .slice A n.kids.length c] 45)) #[.int .i64 0, .int .i64 0, .slice none 0 0] 45
  simp only [World.size_alloc] at l2
  have HC := hide hcall
  have H64 := hide h64
  have HI := hide hI
  clear hcall h64 hI
  go_enter Try.func34, Try.ntmps34
  go_upto_region 2 with fail
  generalize (w.alloc (.cells #[.int .i64 n.kind, .int .i64 n.value, .slice A n.kids.length c] 45)).alloc (.cells #[.int .i64 0, .int .i64 0, .slice none 0 0] 45) = W at hB l1 l2 ⊢
  have HL1 := hide l1
  have HL2 := hide l2
  have HB := hide hB
  have hW1 : w.heap.size < W.heap.size := l1.lt
  have hW2 : w.heap.size + 1 < W.heap.size := l2.lt
  have q2 := l1.cell 2
  simp at q2
  clear l1 l2 hB
  go_wp2_with fail
  go_loopw [5, 11] (fun sv jv wr => ∃ (j : Nat) (Ak : Option Addr) (ck : Nat) (ks : List Int), j ≤ n.kids.length ∧ sv = .slice Ak ks.length ck ∧ jv = .int .i64 (j : Int) ∧ Hid (ks = (n.kids.take j).map g) ∧ OwnI wr W.heap.size Ak ck ks ∧ Below W.heap.size W wr) (fun _ jv _ => n.kids.length - (intOf jv).toNat)
  case atStart => exact ⟨0, none, 0, [], Nat.zero_le _, rfl, rfl, hide rfl, OwnI.empty _ _, Below.refl _ _⟩
  case round =>
    clear q2
    obtain ⟨j, Ak, ck, ks, hj, rfl, rfl, hks, hown, hb⟩ := hrel
    have hksl : ks.length ≤ 1000 := by rw [hks.out]; simp; omega
    have hsz := hb.size
    have Hown := hide hown
    have Hb := hide hb
    clear hown hb
    by_cases hlj : j < n.kids.length
    · obtain ⟨b, off, y, rfl, hbl, hy, hym, hcy⟩ := (HI.out.below (HB.out.trans (Hb.out.mono HB.out.size))).at_ hlj
      have HY := hide hy
      have hp64 := H64.out y hym
      have HCy := hide (HC.out y wr (HB.out.trans (Hb.out.mono HB.out.size)) hym)
      have hj1 : (0 : Int) ≤ (j : Int) := by omega
      have hj2 : (j : Int) < (n.kids.length : Int) := by omega
      clear hy hym hbl
      generalize hq : g y = q at hp64 HCy
      have Hq := hide hq
      clear hq
      go_wp2_with fail
      refine HCy.out.mono ?_
      rintro e w' ⟨rfl, rfl⟩
      clear HCy hcy
      go_wp2_with (at_builtin; refine append_ints rfl (.tmp 15) (.tmp 19) rfl W.heap.size Ak ck ks rfl (Hown.out.alloc _) (wr.heap.size + 1) _ 1 [q] rfl (fun e => by cases e) (IntsAt.one wr q hp64) (by simp <;> omega) (by simp <;> omega) ?_; intro zs A3 c3 w5 hz hown5 hg5 _)
      go_roundw
      case rel => exact ⟨j + 1, A3, c3, zs, by omega, rfl, by go_num, hide (by rw [hz.out, hks.out, List.take_add_one, HY.out, ← Hq.out]; simp), hown5, below_grown (Hb.out.alloc hsz _) hg5 (by simp; omega) (fun q hq => (Hown.out.blocks q hq).1)⟩
      case measure => simp [intOf]; omega
    · obtain rfl : j = n.kids.length := by omega
      rw [List.take_length] at hks
      have l3 := HL1.out.below Hb.out hW1
      have m0 := l3.cell 0
      have m1 := l3.cell 1
      simp at m0 m1
      have l4 := HL2.out.below Hb.out hW2
      have l5 := ((l4.set 0 (.int .i64 n.kind)).set 1 (.int .i64 n.value)).set 2 (.slice Ak ks.length ck)
      simp only [List.setIfInBounds_toArray, List.set_cons_succ, List.set_cons_zero] at l5
      have s0 := l5.cell 0
      have s1 := l5.cell 1
      have s2 := l5.cell 2
      have p0 := l4.cell 0
      have p1 := l4.cell 1
      have p2 := l4.cell 2
      have f0 := l4.frozen 0
      have f1 := l4.frozen 1
      have f2 := l4.frozen 2
      simp only [List.getElem?_toArray, List.getElem?_cons_zero, List.getElem?_cons_succ] at s0 s1 s2 p0 p1 p2
      have HF := hide (show OwnI (((wr.setCell ⟨w.heap.size + 1, 0, none⟩ (.int .i64 n.kind)).setCell ⟨w.heap.size + 1, 1, none⟩ (.int .i64 n.value)).setCell ⟨w.heap.size + 1, 2, none⟩ (.slice Ak ks.length ck)) W.heap.size Ak ck ks from Hown.out.of_blk (fun b hb => by
        have := (Hown.out.blocks b hb).1
        rw [Below.heap_setCell _ _ _ _ (by show b ≠ w.heap.size + 1; omega), Below.heap_setCell _ _ _ _ (by show b ≠ w.heap.size + 1; omega), Below.heap_setCell _ _ _ _ (by show b ≠ w.heap.size + 1; omega)]))
      have HBF := hide ((((HB.out.trans (Hb.out.mono HB.out.size)).setCell (p := ⟨w.heap.size + 1, 0, none⟩) (by show w.heap.size ≤ w.heap.size + 1; omega) (.int .i64 n.kind)).setCell (p := ⟨w.heap.size + 1, 1, none⟩) (by show w.heap.size ≤ w.heap.size + 1; omega) (.int .i64 n.value)).setCell (p := ⟨w.heap.size + 1, 2, none⟩) (by show w.heap.size ≤ w.heap.size + 1; omega) (.slice Ak ks.length ck))
      clear l3 l4 l5 hlj
      go_wp2
      refine bodyPost_ret (v := .agg #[.int .i64 n.kind, .int .i64 n.value, .slice Ak ks.length ck]) (by simp [results, Try.results34, go_sem, s0, s1, s2]) rfl ?_
      have e1 : n.kids.map g = ks := hks.out.symm
      rw [e1]
      exact ⟨Ak, ck, rfl, HF.out.mono (by omega), HBF.out⟩

end Go.Proofs.Ytkgnijbdbkopkab

namespace Go.Proofs.Ytkgnijbdbkopkab
open Go.RowKit
set_option linter.unusedVariables false

theorem eqTo_less {ns ms : List Nd} {r s d : Int} (h : EqToG ns r ms s d) (hd : d ≠ 0) : EqToG ns r ms s (d - 1) := by
  obtain ⟨hv, hw, h0, h8, _⟩ := id h
  obtain ⟨k, rfl⟩ := Int.eq_ofNat_of_zero_le h0
  obtain ⟨j, rfl⟩ : ∃ j, k = j + 1 := ⟨k - 1, by omega⟩
  have h1 := (eqTo_iff hv hw (by omega)).1 h
  have h2 := (eqTo_iff (d := j) hv hw (by omega)).2 h1.less
  rw [show ((j + 1 : Nat) : Int) - 1 = (j : Int) by omega]
  exact h2

theorem eqTo_symm {ns ms : List Nd} {r s d : Int} (h : EqToG ns r ms s d) : EqToG ms s ns r d := by
  obtain ⟨hv, hw, h0, h8, _⟩ := id h
  obtain ⟨k, rfl⟩ := Int.eq_ofNat_of_zero_le h0
  exact (eqTo_iff hw hv (by omega)).2 ((eqTo_iff hv hw (by omega)).1 h).symm

theorem eqTo_self {ns ms : List Nd} {r s d : Int} (h : EqToG ns r ms s d) : EqToG ns r ns r d := by
  obtain ⟨hv, hw, h0, h8, _⟩ := id h
  obtain ⟨k, rfl⟩ := Int.eq_ofNat_of_zero_le h0
  exact (eqTo_iff hv hv (by omega)).2 (Eqq.refl (validG_kids hv) k r hv.root0 hv.root)

theorem deep_to {ns ms : List Nd} {r s d : Int} (h : EqDeepG ns r ms s) (h0 : 0 ≤ d) (h8 : d ≤ 8) : EqToG ns r ms s d := by
  obtain ⟨hv, hw, _⟩ := id h
  obtain ⟨k, rfl⟩ := Int.eq_ofNat_of_zero_le h0
  exact (eqTo_iff hv hw (by omega)).2 ((eqDeep_iff hv hw).1 h k)

theorem joinNs_lenE (ns ms : List Nd) : (joinNs ns ms).length = ns.length + ms.length := by simp [joinNs]

theorem small_deep {ns ms : List Nd} {r s : Int} (hv : ValidG ns r) (hw : ValidG ms s) (h1 : ns.length ≤ 4) (h2 : ms.length ≤ 4) : EqToG ns r ms s 8 ↔ EqDeepG ns r ms s := by
  constructor
  · intro h
    have h3 := (eqTo_iff (d := 8) hv hw (by omega)).1 h
    have hl := joinNs_lenE ns ms
    have h4 := h3.down (e := (joinNs ns ms).length) (by omega)
    exact ⟨hv, hw, (eqN_iff (validG_kids hv) (validG_kids hw) _ r s hv.root0 hv.root hw.root0 hw.root).2 h4⟩
  · intro h
    exact deep_to h (by omega) (by omega)

/-- the memory of a law on two graphs -/
structure TwoL (w X : World) (b3 b4 : Nat) (A1 : Option Addr) (c1 : Nat) (ms : List Nd) (r1 : Int) (A2 : Option Addr) (c2 : Nat) (ns : List Nd) (r2 : Int) : Prop where
  bel : Below w.heap.size w X
  l3 : Lies X b3 #[.slice A1 ms.length c1, .int .i64 r1] 25
  l4 : Lies X b4 #[.slice A2 ns.length c2, .int .i64 r2] 25
  na : NdsAt X X.heap.size A1 ms
  nb : NdsAt X X.heap.size A2 ns

theorem TwoL.below {w X Y : World} {b3 b4 : Nat} {A1 : Option Addr} {c1 : Nat} {ms : List Nd} {r1 : Int} {A2 : Option Addr} {c2 : Nat} {ns : List Nd} {r2 : Int} (h : TwoL w X b3 b4 A1 c1 ms r1 A2 c2 ns r2) (hb : Below X.heap.size X Y) : TwoL w Y b3 b4 A1 c1 ms r1 A2 c2 ns r2 :=
  ⟨h.bel.trans (hb.mono h.bel.size), h.l3.below hb h.l3.lt, h.l4.below hb h.l4.lt, h.na.later hb (Nat.le_refl _), h.nb.later hb (Nat.le_refl _)⟩

theorem TwoL.cells {w X : World} {b3 b4 : Nat} {A1 : Option Addr} {c1 : Nat} {ms : List Nd} {r1 : Int} {A2 : Option Addr} {c2 : Nat} {ns : List Nd} {r2 : Int} (h : TwoL w X b3 b4 A1 c1 ms r1 A2 c2 ns r2) : X.cell? ⟨b3, 0, none⟩ = some (.slice A1 ms.length c1) ∧ X.cell? ⟨b3, 1, none⟩ = some (.int .i64 r1) ∧ X.cell? ⟨b4, 0, none⟩ = some (.slice A2 ns.length c2) ∧ X.cell? ⟨b4, 1, none⟩ = some (.int .i64 r2) := by
  have a2 := h.l3.cell 0
  have a3 := h.l3.cell 1
  have a4 := h.l4.cell 0
  have a5 := h.l4.cell 1
  simp only [List.getElem?_toArray, List.getElem?_cons_zero, List.getElem?_cons_succ] at a2 a3 a4 a5
  exact ⟨a2, a3, a4, a5⟩

end Go.Proofs.Ytkgnijbdbkopkab
