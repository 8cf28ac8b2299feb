/-
  Nodes of two graphs that are equal up to a depth: the relation, and the classes that tell it. Mathematics only.
-/
import Derived.Test.YtcblcmdfeoijpabPjAm
namespace Go.Proofs.Ytcblcmdfeoijpab
open Go.RowKit Go.Maps
set_option linter.unusedVariables false

/-- nodes of two graphs are equal up to a depth -/
def Eqq (ns ms : List Nd) : Nat → Int → Int → Prop
  | 0, _, _ => True
  | d + 1, x, y => ∃ (i j : Nat) (n m : Nd), x = (i : Int) ∧ y = (j : Int) ∧ ns[i]? = some n ∧ ms[j]? = some m ∧ Alike n m ∧ ∀ (p : Nat) (a b : Int), n.kids[p]? = some a → m.kids[p]? = some b → Eqq ns ms d a b

theorem eqq_step {ns ms : List Nd} {i j : Nat} {n m : Nd} (hn : ns[i]? = some n) (hm : ms[j]? = some m) (d : Nat) :
    Eqq ns ms (d + 1) (i : Int) (j : Int) ↔ Alike n m ∧ ∀ (p : Nat) (a b : Int), n.kids[p]? = some a → m.kids[p]? = some b → Eqq ns ms d a b := by
  constructor
  · rintro ⟨i', j', n', m', e1, e2, h1, h2, h3⟩
    obtain rfl : i = i' := by omega
    obtain rfl : j = j' := by omega
    rw [hn] at h1
    rw [hm] at h2
    injection h1 with h1
    injection h2 with h2
    subst h1 h2
    exact h3
  · intro h
    exact ⟨i, j, n, m, rfl, rfl, hn, hm, h⟩

theorem Alike.symm {n m : Nd} (h : Alike n m) : Alike m n := ⟨h.1.symm, h.2.1.symm, h.2.2.symm⟩
theorem Alike.trans {n m q : Nd} (h : Alike n m) (g : Alike m q) : Alike n q := ⟨h.1.trans g.1, h.2.1.trans g.2.1, h.2.2.trans g.2.2⟩

theorem Eqq.refl {ns : List Nd} (hk : KidsIn ns) : ∀ (d : Nat) (x : Int), 0 ≤ x → x < ns.length → Eqq ns ns d x x
  | 0, _, _, _ => trivial
  | d + 1, x, h0, h1 => by
    obtain ⟨i, n, rfl, hn⟩ := in_at ⟨h0, h1⟩
    refine (eqq_step hn hn d).2 ⟨⟨rfl, rfl, rfl⟩, fun p a b ha hb => ?_⟩
    obtain rfl := Option.some.inj (ha.symm.trans hb)
    have := hk n (List.mem_of_getElem? hn) a (List.mem_of_getElem? ha)
    exact Eqq.refl hk d a this.1 this.2
theorem Eqq.symm {ns ms : List Nd} : ∀ {d : Nat} {x y : Int}, Eqq ns ms d x y → Eqq ms ns d y x
  | 0, _, _, _ => trivial
  | d + 1, _, _, ⟨i, j, n, m, e1, e2, h1, h2, h3, h4⟩ => ⟨j, i, m, n, e2, e1, h2, h1, h3.symm, fun p a b ha hb => (h4 p b a hb ha).symm⟩
theorem Eqq.trans {ns ms ps : List Nd} : ∀ {d : Nat} {x y z : Int}, Eqq ns ms d x y → Eqq ms ps d y z → Eqq ns ps d x z
  | 0, _, _, _, _, _ => trivial
  | d + 1, _, _, _, ⟨i, j, n, m, e1, e2, h1, h2, h3, h4⟩, ⟨j', k, m', q, e3, e4, g1, g2, g3, g4⟩ => by
    obtain rfl : j = j' := by omega
    rw [h2] at g1
    injection g1 with g1
    subst g1
    refine ⟨i, k, n, q, e1, e4, h1, g2, h3.trans g3, fun p a b ha hb => ?_⟩
    have hp : p < m.kids.length := by rw [← h3.2.2]; exact (List.getElem?_eq_some_iff.1 ha).1
    exact (h4 p a _ ha (List.getElem?_eq_getElem hp)).trans (g4 p _ b (List.getElem?_eq_getElem hp) hb)
theorem Eqq.less {ns ms : List Nd} : ∀ {d : Nat} {x y : Int}, Eqq ns ms (d + 1) x y → Eqq ns ms d x y
  | 0, _, _, _ => trivial
  | d + 1, _, _, ⟨i, j, n, m, e1, e2, h1, h2, h3, h4⟩ => ⟨i, j, n, m, e1, e2, h1, h2, h3, fun p a b ha hb => (h4 p a b ha hb).less⟩
theorem Eqq.down {ns ms : List Nd} {x y : Int} {d e : Nat} (h : Eqq ns ms d x y) (he : e ≤ d) : Eqq ns ms e x y := by
  induction d with
  | zero => obtain rfl : e = 0 := by omega
            exact h
  | succ d ih =>
    by_cases hd : e = d + 1
    · subst hd; exact h
    · exact ih h.less (by omega)

theorem eqN_iff {ns ms : List Nd} (hk : KidsIn ns) (hl : KidsIn ms) : ∀ (d : Nat) (x y : Int), 0 ≤ x → x < ns.length → 0 ≤ y → y < ms.length → (EqN ns ms d x y ↔ Eqq ns ms d x y)
  | 0, x, y, _, _, _, _ => ⟨fun _ => trivial, fun _ => eqN_zero ns ms x y⟩
  | d + 1, x, y, x0, x1, y0, y1 => by
    obtain ⟨i, n, rfl, hn⟩ := in_at ⟨x0, x1⟩
    obtain ⟨j, m, rfl, hm⟩ := in_at ⟨y0, y1⟩
    rw [eqN_step hn hm d, eqq_step hn hm d]
    have key : ∀ (p : Nat) (a b : Int), n.kids[p]? = some a → m.kids[p]? = some b → (EqN ns ms d a b ↔ Eqq ns ms d a b) := fun p a b ha hb => by
      have h1 := hk n (List.mem_of_getElem? hn) a (List.mem_of_getElem? ha)
      have h2 := hl m (List.mem_of_getElem? hm) b (List.mem_of_getElem? hb)
      exact eqN_iff hk hl d a b h1.1 h1.2 h2.1 h2.2
    exact ⟨fun h => ⟨h.1, fun p a b ha hb => (key p a b ha hb).1 (h.2 p a b ha hb)⟩, fun h => ⟨h.1, fun p a b ha hb => (key p a b ha hb).2 (h.2 p a b ha hb)⟩⟩

theorem cls_iff {ns : List Nd} (hk : KidsIn ns) : ∀ (d : Nat) (x y : Int), 0 ≤ x → x < ns.length → 0 ≤ y → y < ns.length → (look (clsN ns d) x = look (clsN ns d) y ↔ Eqq ns ns d x y)
  | 0, x, y, _, _, _, _ => ⟨fun _ => trivial, fun _ => by rw [look_zero, look_zero]⟩
  | d + 1, x, y, x0, x1, y0, y1 => by
    obtain ⟨i, n, rfl, hn⟩ := in_at ⟨x0, x1⟩
    obtain ⟨j, m, rfl, hm⟩ := in_at ⟨y0, y1⟩
    rw [eqq_step hn hm d]
    refine Iff.trans (finer_eq (cl := clsN ns d) hn hm) ?_
    have key : ∀ (p : Nat) (a b : Int), n.kids[p]? = some a → m.kids[p]? = some b → (look (clsN ns d) a = look (clsN ns d) b ↔ Eqq ns ns d a b) := fun p a b ha hb => by
      have h1 := hk n (List.mem_of_getElem? hn) a (List.mem_of_getElem? ha)
      have h2 := hk m (List.mem_of_getElem? hm) b (List.mem_of_getElem? hb)
      exact cls_iff hk d a b h1.1 h1.2 h2.1 h2.2
    constructor
    · intro h
      obtain ⟨h1, h2⟩ := alike_sig h
      exact ⟨h1, fun p a b ha hb => (key p a b ha hb).1 (h2 p a b ha hb)⟩
    · intro h
      exact sig_alike h.1 (fun p a b ha hb => (key p a b ha hb).2 (h.2 p a b ha hb))

/-- equal however deep -/
def EqqAll (ns ms : List Nd) (x y : Int) : Prop := ∀ d, Eqq ns ms d x y
theorem EqqAll.refl {ns : List Nd} (hk : KidsIn ns) {x : Int} (h0 : 0 ≤ x) (h1 : x < ns.length) : EqqAll ns ns x x := fun d => Eqq.refl hk d x h0 h1
theorem EqqAll.symm {ns ms : List Nd} {x y : Int} (h : EqqAll ns ms x y) : EqqAll ms ns y x := fun d => (h d).symm
theorem EqqAll.trans {ns ms ps : List Nd} {x y z : Int} (h : EqqAll ns ms x y) (g : EqqAll ms ps y z) : EqqAll ns ps x z := fun d => (h d).trans (g d)

/-- the classes of as many depths as there are nodes tell what is equal however deep -/
theorem cls_all_iff {ns : List Nd} (hk : KidsIn ns) {x y : Int} (x0 : 0 ≤ x) (x1 : x < ns.length) (y0 : 0 ≤ y) (y1 : y < ns.length) : look (clsN ns ns.length) x = look (clsN ns ns.length) y ↔ EqqAll ns ns x y := by
  constructor
  · intro h d
    have h1 := (cls_iff hk (ns.length + d) x y x0 x1 y0 y1).1 (by rw [cls_all hk]; exact h)
    exact h1.down (by omega)
  · intro h
    exact (cls_iff hk ns.length x y x0 x1 y0 y1).2 (h _)

theorem rootsEq_iff {ns ms : List Nd} {r s : Int} (hk : KidsIn ns) (hl : KidsIn ms) (r0 : 0 ≤ r) (r1 : r < ns.length) (s0 : 0 ≤ s) (s1 : s < ms.length) : RootsEq ns r ms s (joinNs ns ms).length ↔ EqqAll ns ms r s := by
  constructor
  · intro h d
    have h1 : EqN ns ms ((joinNs ns ms).length + d) r s := by
      unfold EqN
      rw [cls_all (joinNs_kids hk hl)]
      exact h
    exact ((eqN_iff hk hl _ r s r0 r1 s0 s1).1 h1).down (by omega)
  · intro h
    exact (eqN_iff hk hl _ r s r0 r1 s0 s1).2 (h _)

theorem eqDeep_iff {ns ms : List Nd} {r s : Int} (hv : ValidG ns r) (hw : ValidG ms s) : EqDeepG ns r ms s ↔ EqqAll ns ms r s := by
  constructor
  · intro h
    exact (rootsEq_iff (validG_kids hv) (validG_kids hw) hv.root0 hv.root hw.root0 hw.root).1 h.2.2
  · intro h
    exact ⟨hv, hw, (rootsEq_iff (validG_kids hv) (validG_kids hw) hv.root0 hv.root hw.root0 hw.root).2 h⟩

theorem eqTo_iff {ns ms : List Nd} {r s : Int} {d : Nat} (hv : ValidG ns r) (hw : ValidG ms s) (hd : d ≤ 8) : EqToG ns r ms s (d : Int) ↔ Eqq ns ms d r s := by
  have h := eqN_iff (validG_kids hv) (validG_kids hw) d r s hv.root0 hv.root hw.root0 hw.root
  constructor
  · intro h1
    exact h.1 (by have := h1.2.2.2.2; simpa [RootsEq, EqN] using this)
  · intro h1
    exact ⟨hv, hw, by omega, by omega, by simpa [RootsEq, EqN] using h.2 h1⟩

end Go.Proofs.Ytcblcmdfeoijpab
