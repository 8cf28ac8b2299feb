/-
  Lemmas, several texts in one: SmN, PrSm, LstM, OwnRD, SigM, InfoI, EqnM, EqqM, CpL, GivG.
-/
import Derived.Test.YthgklkpfmjgeoaaMem
import Derived.Test.YthgklkpfmjgeoaaPjAm
import Derived.Test.YthgklkpfmjgeoaaPjAn
import Derived.Test.YthgklkpfmjgeoaaPjAj
import Derived.Test.YthgklkpfmjgeoaaPjAe
import Derived.Test.YthgklkpfmjgeoaaPjAl
import Derived.Laws.CopyOwn
namespace Go.Proofs.Ythgklkpfmjgeoaa

/-- all lists of kids, and the marks, are small -/
structure SmallN (ns : List Nd) : Prop where
  len : ns.length ≤ 400
  kids : ∀ n ∈ ns, n.kids.length ≤ 2000

end Go.Proofs.Ythgklkpfmjgeoaa

namespace Go.Proofs.Ythgklkpfmjgeoaa
open Go.RowKit
set_option linter.unusedVariables false

theorem prunedOf_smallN (ns : List Nd) (r : Int) : SmallN (prunedOf ns r) := by
  unfold prunedOf
  split
  · next hv =>
    have hp := reach_pickable hv
    refine ⟨by rw [pickNs_len]; have := @reachOf_few ns r; omega, fun n hn => ?_⟩
    obtain ⟨x, hx, rfl⟩ := List.mem_map.1 hn
    have hR := reachOf_reached hv
    obtain ⟨h0, h1⟩ := hR.met.range x hx
    obtain ⟨i, rfl⟩ := Int.eq_ofNat_of_zero_le h0
    have hi : i < ns.length := by omega
    rw [pickN_at (List.getElem?_eq_getElem hi)]
    have := (hv.nodes _ (List.getElem_mem hi)).few
    simp
    omega
  · exact ⟨by simp, fun n hn => by simp at hn⟩

end Go.Proofs.Ythgklkpfmjgeoaa

namespace Go.Proofs.Ythgklkpfmjgeoaa
open Go.RowKit Go.Maps
set_option linter.unusedVariables false

open Classical in
noncomputable def lstN (ns : List Nd) (r : Int) : List Nd := if ValidG ns r then prunedOf (replNs ns (clsN ns ns.length)) (look (clsN ns ns.length) r) else []
theorem lstN_yes {ns : List Nd} {r : Int} (h : ValidG ns r) : lstN ns r = prunedOf (replNs ns (clsN ns ns.length)) (look (clsN ns ns.length) r) := if_pos h
theorem lstN_no {ns : List Nd} {r : Int} (h : ¬ ValidG ns r) : lstN ns r = [] := if_neg h
theorem lstN_smallN (ns : List Nd) (r : Int) : SmallN (lstN ns r) := by
  by_cases h : ValidG ns r
  · rw [lstN_yes h]; exact prunedOf_smallN _ _
  · rw [lstN_no h]; exact ⟨by simp, fun n hn => by simp at hn⟩

theorem least_valid {ns : List Nd} {r : Int} (h : ValidG ns r) : ValidG (replNs ns (clsN ns ns.length)) (look (clsN ns ns.length) r) := repl_valid h (cong_cls (validG_kids h))

theorem clsN_64 {ns : List Nd} {d : Nat} (hl : ns.length ≤ 1000) : ∀ x ∈ clsN ns d, In64 x := fun x hx => by
  have := clsN_in ns d x hx
  constructor <;> omega

theorem replNs_wf {ns : List Nd} {cl : List Int} (hw : WfN ns) (hk : KidsIn ns) (hl : cl.length = ns.length) (h64 : ∀ x ∈ cl, In64 x) : WfN (replNs ns cl) := by
  intro n hn
  obtain ⟨m, hm, rfl⟩ := List.mem_map.1 hn
  obtain ⟨a1, a2, a3, a4⟩ := hw m hm
  refine ⟨a1, a2, fun x hx => ?_, by simpa [replNd] using a4⟩
  obtain ⟨k, hkm, rfl⟩ := List.mem_map.1 (show x ∈ m.kids.map (look cl) from hx)
  have h2 := hk m hm k hkm
  exact h64 _ (look_mem h2.1 (by rw [hl]; exact h2.2))

end Go.Proofs.Ythgklkpfmjgeoaa

namespace Go.Proofs.Ythgklkpfmjgeoaa
open Go.RowKit
set_option linter.unusedVariables false

theorem OwnRow.rowD {w : World} {lo hi g cap : Nat} {ns : List Nd} (h : OwnRow w lo hi g cap ns) (hc : cap ≤ maxLen) : RowD w lo hi (some ⟨g, 0, none⟩) cap ns := by
  obtain ⟨f, cur, h1, h2, h3⟩ := h.row
  have hle := h.le
  have hat : ∀ i, i < ns.length * 3 → (cur.toList.take (ns.length * 3))[i]? = w.cell? ⟨g, i, none⟩ := fun i hi => by
    rw [List.getElem?_take_of_lt hi, Array.getElem?_toList, cell_of_row w g i cur _ _ h1]
  refine ⟨⟨cur.toList.take (ns.length * 3), ⟨by simp; omega, .inr ⟨g, cap, cur, rfl, h.hlo, h1, hle, hc, h2, rfl⟩⟩, fun j n hj => ?_, fun i j A1 A2 n1 n2 c1 c2 hij hj d1 d2 => ?_, fun i A1 n1 c1 hi d1 b hb => ?_⟩⟩
  · have hjl := (List.getElem?_eq_some_iff.1 hj).1
    have hn := h.nd j n hj
    obtain ⟨A1, c1, k1, k2, _⟩ := hn.kids
    exact ⟨A1, c1, (hat _ (by omega)).trans hn.kind, (hat _ (by omega)).trans hn.value, (hat _ (by omega)).trans k1, k2⟩
  · rw [hat _ (by omega)] at d1 d2
    exact h.dis i j A1 A2 n1 n2 c1 c2 (by omega) (by omega) hj d1 d2
  · rw [hat _ (by omega)] at d1
    obtain ⟨A3, c3, k1, _, k3⟩ := (h.nd i _ (List.getElem?_eq_getElem hi)).kids
    rw [d1] at k1
    injection k1 with k1
    injection k1 with k1 _ _
    subst k1
    exact (k3 b hb).1

end Go.Proofs.Ythgklkpfmjgeoaa

namespace Go.Proofs.Ythgklkpfmjgeoaa
open Go.RowKit
set_option linter.unusedVariables false

/-- nodes that look alike without their kids -/
def Alike (m n : Nd) : Prop := m.kind = n.kind ∧ m.value = n.value ∧ m.kids.length = n.kids.length

theorem sig_alike {cl : List Int} {n m : Nd} (ha : Alike n m) (h : ∀ (j : Nat) (x y : Int), n.kids[j]? = some x → m.kids[j]? = some y → look cl x = look cl y) : sigOf cl n = sigOf cl m := by
  unfold sigOf
  rw [ha.1, ha.2.1]
  congr 2
  apply List.ext_getElem?
  intro j
  rw [List.getElem?_map, List.getElem?_map]
  have hlen := ha.2.2
  by_cases hj : j < n.kids.length
  · have hx : n.kids[j]? = some n.kids[j] := List.getElem?_eq_getElem hj
    have hy : m.kids[j]? = some m.kids[j] := List.getElem?_eq_getElem (by have := ha.2.2; omega)
    rw [hx, hy]
    simp only [Option.map_some]
    rw [h j _ _ hx hy]
  · rw [List.getElem?_eq_none (by omega), List.getElem?_eq_none (by have := ha.2.2; omega)]

theorem alike_sig {cl : List Int} {n m : Nd} (h : sigOf cl n = sigOf cl m) : Alike n m ∧ ∀ (j : Nat) (x y : Int), n.kids[j]? = some x → m.kids[j]? = some y → look cl x = look cl y := by
  unfold sigOf at h
  simp only [Prod.mk.injEq] at h
  obtain ⟨h1, h2, h3⟩ := h
  refine ⟨⟨h1, h2, by have := congrArg List.length h3; simpa using this⟩, fun j x y hx hy => ?_⟩
  have := congrArg (fun l => l[j]?) h3
  simp only [List.getElem?_map, hx, hy, Option.map_some] at this
  injection this

theorem look_in {cl : List Int} {x : Int} (h0 : 0 ≤ x) (h1 : x < cl.length) : cl[x.toNat]? = some (look cl x) := by
  obtain ⟨i, rfl⟩ := Int.eq_ofNat_of_zero_le h0
  have : cl[i]? = some cl[i] := List.getElem?_eq_getElem (by omega)
  rw [look_at this, Int.toNat_natCast, this]

end Go.Proofs.Ythgklkpfmjgeoaa

namespace Go.Proofs.Ythgklkpfmjgeoaa

theorem infoInt : (Try.prog.info? 3).map (fun i => (i.zero, i.size, i.bytes)) = some (some (.int .i64 0), 1, 8) := by kernel_rfl

end Go.Proofs.Ythgklkpfmjgeoaa

namespace Go.Proofs.Ythgklkpfmjgeoaa
open Go.RowKit Go.Maps
set_option linter.unusedVariables false

/-- nodes of two graphs that are equal up to a depth -/
def EqN (ns ms : List Nd) (d : Nat) (x y : Int) : Prop := look (clsN (joinNs ns ms) d) x = look (clsN (joinNs ns ms) d) ((ns.length : Int) + y)

theorem eqN_zero (ns ms : List Nd) (x y : Int) : EqN ns ms 0 x y := by
  unfold EqN
  rw [look_zero, look_zero]

theorem eqN_step {ns ms : List Nd} {i j : Nat} {n m : Nd} (hn : ns[i]? = some n) (hm : ms[j]? = some m) (d : Nat) :
    EqN ns ms (d + 1) (i : Int) (j : Int) ↔ Alike n m ∧ ∀ (p : Nat) (a b : Int), n.kids[p]? = some a → m.kids[p]? = some b → EqN ns ms d a b := by
  have hil := (List.getElem?_eq_some_iff.1 hn).1
  have h1 : (joinNs ns ms)[i]? = some n := by
    unfold joinNs
    rw [List.getElem?_append_left hil]; exact hn
  have h2 : (joinNs ns ms)[ns.length + j]? = some (shiftNd ns.length m) := by
    unfold joinNs
    rw [List.getElem?_append_right (by omega), show ns.length + j - ns.length = j by omega, List.getElem?_map, hm]
    rfl
  have h3 := finer_eq (cl := clsN (joinNs ns ms) d) h1 h2
  rw [Int.natCast_add] at h3
  refine Iff.trans h3 ⟨fun h => ?_, fun h => ?_⟩
  · obtain ⟨⟨a1, a2, a3⟩, h5⟩ := alike_sig h
    refine ⟨⟨a1, a2, by simpa [shiftNd] using a3⟩, fun p a b ha hb => h5 p a ((ns.length : Int) + b) ha (by unfold shiftNd; rw [List.getElem?_map, hb]; rfl)⟩
  · obtain ⟨⟨a1, a2, a3⟩, h5⟩ := h
    refine sig_alike ⟨a1, a2, by simpa [shiftNd] using a3⟩ (fun p a b ha hb => ?_)
    unfold shiftNd at hb
    rw [List.getElem?_map] at hb
    obtain ⟨b', hb', rfl⟩ := Option.map_eq_some_iff.1 hb
    exact h5 p a b' ha hb'

end Go.Proofs.Ythgklkpfmjgeoaa

namespace Go.Proofs.Ythgklkpfmjgeoaa
open Go.RowKit Go.Maps
set_option linter.unusedVariables false

/-- nodes of two graphs are equal up to a depth -/
def Eqq (ns ms : List Nd) : Nat → Int → Int → Prop
  | 0, _, _ => True
  | d + 1, x, y => ∃ (i j : Nat) (n m : Nd), x = (i : Int) ∧ y = (j : Int) ∧ ns[i]? = some n ∧ ms[j]? = some m ∧ Alike n m ∧ ∀ (p : Nat) (a b : Int), n.kids[p]? = some a → m.kids[p]? = some b → Eqq ns ms d a b

theorem eqq_step {ns ms : List Nd} {i j : Nat} {n m : Nd} (hn : ns[i]? = some n) (hm : ms[j]? = some m) (d : Nat) :
    Eqq ns ms (d + 1) (i : Int) (j : Int) ↔ Alike n m ∧ ∀ (p : Nat) (a b : Int), n.kids[p]? = some a → m.kids[p]? = some b → Eqq ns ms d a b := by
  constructor
  · rintro ⟨i', j', n', m', e1, e2, h1, h2, h3⟩
    obtain rfl : i = i' := by omega
    obtain rfl : j = j' := by omega
    rw [hn] at h1
    rw [hm] at h2
    injection h1 with h1
    injection h2 with h2
    subst h1 h2
    exact h3
  · intro h
    exact ⟨i, j, n, m, rfl, rfl, hn, hm, h⟩

theorem Alike.symm {n m : Nd} (h : Alike n m) : Alike m n := ⟨h.1.symm, h.2.1.symm, h.2.2.symm⟩
theorem Alike.trans {n m q : Nd} (h : Alike n m) (g : Alike m q) : Alike n q := ⟨h.1.trans g.1, h.2.1.trans g.2.1, h.2.2.trans g.2.2⟩

theorem Eqq.refl {ns : List Nd} (hk : KidsIn ns) : ∀ (d : Nat) (x : Int), 0 ≤ x → x < ns.length → Eqq ns ns d x x
  | 0, _, _, _ => trivial
  | d + 1, x, h0, h1 => by
    obtain ⟨i, n, rfl, hn⟩ := in_at ⟨h0, h1⟩
    refine (eqq_step hn hn d).2 ⟨⟨rfl, rfl, rfl⟩, fun p a b ha hb => ?_⟩
    obtain rfl := Option.some.inj (ha.symm.trans hb)
    have := hk n (List.mem_of_getElem? hn) a (List.mem_of_getElem? ha)
    exact Eqq.refl hk d a this.1 this.2
theorem Eqq.symm {ns ms : List Nd} : ∀ {d : Nat} {x y : Int}, Eqq ns ms d x y → Eqq ms ns d y x
  | 0, _, _, _ => trivial
  | d + 1, _, _, ⟨i, j, n, m, e1, e2, h1, h2, h3, h4⟩ => ⟨j, i, m, n, e2, e1, h2, h1, h3.symm, fun p a b ha hb => (h4 p b a hb ha).symm⟩
theorem Eqq.trans {ns ms ps : List Nd} : ∀ {d : Nat} {x y z : Int}, Eqq ns ms d x y → Eqq ms ps d y z → Eqq ns ps d x z
  | 0, _, _, _, _, _ => trivial
  | d + 1, _, _, _, ⟨i, j, n, m, e1, e2, h1, h2, h3, h4⟩, ⟨j', k, m', q, e3, e4, g1, g2, g3, g4⟩ => by
    obtain rfl : j = j' := by omega
    rw [h2] at g1
    injection g1 with g1
    subst g1
    refine ⟨i, k, n, q, e1, e4, h1, g2, h3.trans g3, fun p a b ha hb => ?_⟩
    have hp : p < m.kids.length := by rw [← h3.2.2]; exact (List.getElem?_eq_some_iff.1 ha).1
    exact (h4 p a _ ha (List.getElem?_eq_getElem hp)).trans (g4 p _ b (List.getElem?_eq_getElem hp) hb)
theorem Eqq.less {ns ms : List Nd} : ∀ {d : Nat} {x y : Int}, Eqq ns ms (d + 1) x y → Eqq ns ms d x y
  | 0, _, _, _ => trivial
  | d + 1, _, _, ⟨i, j, n, m, e1, e2, h1, h2, h3, h4⟩ => ⟨i, j, n, m, e1, e2, h1, h2, h3, fun p a b ha hb => (h4 p a b ha hb).less⟩
theorem Eqq.down {ns ms : List Nd} {x y : Int} {d e : Nat} (h : Eqq ns ms d x y) (he : e ≤ d) : Eqq ns ms e x y := by
  induction d with
  | zero => obtain rfl : e = 0 := by omega
            exact h
  | succ d ih =>
    by_cases hd : e = d + 1
    · subst hd; exact h
    · exact ih h.less (by omega)

theorem eqN_iff {ns ms : List Nd} (hk : KidsIn ns) (hl : KidsIn ms) : ∀ (d : Nat) (x y : Int), 0 ≤ x → x < ns.length → 0 ≤ y → y < ms.length → (EqN ns ms d x y ↔ Eqq ns ms d x y)
  | 0, x, y, _, _, _, _ => ⟨fun _ => trivial, fun _ => eqN_zero ns ms x y⟩
  | d + 1, x, y, x0, x1, y0, y1 => by
    obtain ⟨i, n, rfl, hn⟩ := in_at ⟨x0, x1⟩
    obtain ⟨j, m, rfl, hm⟩ := in_at ⟨y0, y1⟩
    rw [eqN_step hn hm d, eqq_step hn hm d]
    have key : ∀ (p : Nat) (a b : Int), n.kids[p]? = some a → m.kids[p]? = some b → (EqN ns ms d a b ↔ Eqq ns ms d a b) := fun p a b ha hb => by
      have h1 := hk n (List.mem_of_getElem? hn) a (List.mem_of_getElem? ha)
      have h2 := hl m (List.mem_of_getElem? hm) b (List.mem_of_getElem? hb)
      exact eqN_iff hk hl d a b h1.1 h1.2 h2.1 h2.2
    exact ⟨fun h => ⟨h.1, fun p a b ha hb => (key p a b ha hb).1 (h.2 p a b ha hb)⟩, fun h => ⟨h.1, fun p a b ha hb => (key p a b ha hb).2 (h.2 p a b ha hb)⟩⟩

theorem cls_iff {ns : List Nd} (hk : KidsIn ns) : ∀ (d : Nat) (x y : Int), 0 ≤ x → x < ns.length → 0 ≤ y → y < ns.length → (look (clsN ns d) x = look (clsN ns d) y ↔ Eqq ns ns d x y)
  | 0, x, y, _, _, _, _ => ⟨fun _ => trivial, fun _ => by rw [look_zero, look_zero]⟩
  | d + 1, x, y, x0, x1, y0, y1 => by
    obtain ⟨i, n, rfl, hn⟩ := in_at ⟨x0, x1⟩
    obtain ⟨j, m, rfl, hm⟩ := in_at ⟨y0, y1⟩
    rw [eqq_step hn hm d]
    refine Iff.trans (finer_eq (cl := clsN ns d) hn hm) ?_
    have key : ∀ (p : Nat) (a b : Int), n.kids[p]? = some a → m.kids[p]? = some b → (look (clsN ns d) a = look (clsN ns d) b ↔ Eqq ns ns d a b) := fun p a b ha hb => by
      have h1 := hk n (List.mem_of_getElem? hn) a (List.mem_of_getElem? ha)
      have h2 := hk m (List.mem_of_getElem? hm) b (List.mem_of_getElem? hb)
      exact cls_iff hk d a b h1.1 h1.2 h2.1 h2.2
    constructor
    · intro h
      obtain ⟨h1, h2⟩ := alike_sig h
      exact ⟨h1, fun p a b ha hb => (key p a b ha hb).1 (h2 p a b ha hb)⟩
    · intro h
      exact sig_alike h.1 (fun p a b ha hb => (key p a b ha hb).2 (h.2 p a b ha hb))

/-- equal however deep -/
def EqqAll (ns ms : List Nd) (x y : Int) : Prop := ∀ d, Eqq ns ms d x y
theorem EqqAll.refl {ns : List Nd} (hk : KidsIn ns) {x : Int} (h0 : 0 ≤ x) (h1 : x < ns.length) : EqqAll ns ns x x := fun d => Eqq.refl hk d x h0 h1
theorem EqqAll.symm {ns ms : List Nd} {x y : Int} (h : EqqAll ns ms x y) : EqqAll ms ns y x := fun d => (h d).symm
theorem EqqAll.trans {ns ms ps : List Nd} {x y z : Int} (h : EqqAll ns ms x y) (g : EqqAll ms ps y z) : EqqAll ns ps x z := fun d => (h d).trans (g d)

/-- the classes of as many depths as there are nodes tell what is equal however deep -/
theorem cls_all_iff {ns : List Nd} (hk : KidsIn ns) {x y : Int} (x0 : 0 ≤ x) (x1 : x < ns.length) (y0 : 0 ≤ y) (y1 : y < ns.length) : look (clsN ns ns.length) x = look (clsN ns ns.length) y ↔ EqqAll ns ns x y := by
  constructor
  · intro h d
    have h1 := (cls_iff hk (ns.length + d) x y x0 x1 y0 y1).1 (by rw [cls_all hk]; exact h)
    exact h1.down (by omega)
  · intro h
    exact (cls_iff hk ns.length x y x0 x1 y0 y1).2 (h _)

theorem rootsEq_iff {ns ms : List Nd} {r s : Int} (hk : KidsIn ns) (hl : KidsIn ms) (r0 : 0 ≤ r) (r1 : r < ns.length) (s0 : 0 ≤ s) (s1 : s < ms.length) : RootsEq ns r ms s (joinNs ns ms).length ↔ EqqAll ns ms r s := by
  constructor
  · intro h d
    have h1 : EqN ns ms ((joinNs ns ms).length + d) r s := by
      unfold EqN
      rw [cls_all (joinNs_kids hk hl)]
      exact h
    exact ((eqN_iff hk hl _ r s r0 r1 s0 s1).1 h1).down (by omega)
  · intro h
    exact (eqN_iff hk hl _ r s r0 r1 s0 s1).2 (h _)

theorem eqDeep_iff {ns ms : List Nd} {r s : Int} (hv : ValidG ns r) (hw : ValidG ms s) : EqDeepG ns r ms s ↔ EqqAll ns ms r s := by
  constructor
  · intro h
    exact (rootsEq_iff (validG_kids hv) (validG_kids hw) hv.root0 hv.root hw.root0 hw.root).1 h.2.2
  · intro h
    exact ⟨hv, hw, (rootsEq_iff (validG_kids hv) (validG_kids hw) hv.root0 hv.root hw.root0 hw.root).2 h⟩

theorem eqTo_iff {ns ms : List Nd} {r s : Int} {d : Nat} (hv : ValidG ns r) (hw : ValidG ms s) (hd : d ≤ 8) : EqToG ns r ms s (d : Int) ↔ Eqq ns ms d r s := by
  have h := eqN_iff (validG_kids hv) (validG_kids hw) d r s hv.root0 hv.root hw.root0 hw.root
  constructor
  · intro h1
    exact h.1 (by have := h1.2.2.2.2; simpa [RootsEq, EqN] using this)
  · intro h1
    exact ⟨hv, hw, by omega, by omega, by simpa [RootsEq, EqN] using h.2 h1⟩

end Go.Proofs.Ythgklkpfmjgeoaa

namespace Go.Proofs.Ythgklkpfmjgeoaa
open Go.RowKit
set_option linter.unusedVariables false

theorem copy_rowL {w : World} {ops : Array Oper} {rest : List Oper} {o : Oper} {a : Act} {Q : Exit → Act → World → Prop} (hgd : o.guard = none) (d s : Operand)
    (ho : o.op = .call { callee := .builtin .copy, args := #[d, s], argTypes := #[35, 35] }) (n g1 g2 : Nat) (hd : a.eval d = .slice (some ⟨g2, 0, none⟩) n n) (hs : a.eval s = .slice (some ⟨g1, 0, none⟩) n n)
    (xs ys : List Int) (h1 : RowL w g1 xs) (h2 : RowL w g2 ys) (hx : xs.length = n) (hy : ys.length = n)
    (h : ∀ w', RowL w' g2 xs → Below g2 w w' → wpList Try.prog ops Q rest (a.put o.dst (goInt n)) w') : wpList Try.prog ops Q (o :: rest) a w := by
  have hl : (xs.map (fun x => Value.int .i64 x)).length = n := by simpa using hx
  refine wpList_copy_splice hgd d s 35 35 ho 3 Try.underlying35 (by kernel_rfl) (some ⟨g2, 0, none⟩) (some ⟨g1, 0, none⟩) n n n n hd hs g2 0 (ys.map (fun x => Value.int .i64 x)) 3 h2 (xs.map (fun x => Value.int .i64 x)) (by rw [hl]; simp) (fun _ => ⟨rfl, _, rfl, fun j v hv => ?_⟩) (by simp; omega) (fun v hv => by obtain ⟨x, _, rfl⟩ := List.mem_map.1 hv; rfl) g2 w (Below.refl _ _) (Nat.le_refl _) ?_
  · rw [List.getElem?_map] at hv
    cases hj : xs[j]? with
    | none => rw [hj] at hv; cases hv
    | some x =>
      rw [hj] at hv
      injection hv with hv
      subst hv
      have := h1.cell hj
      by_cases h0 : j = 0
      · subst h0; simpa [Addr.add] using this
      · simpa [Addr.add, h0] using this
  · intro w' hl' hb
    rw [hl]
    refine h w' ?_ hb
    have h3 := hl'.out
    unfold splice at h3
    simp only [List.take_zero, List.nil_append, hl, Nat.zero_add] at h3
    rw [List.drop_eq_nil_of_le (by simp; omega), List.append_nil] at h3
    exact h3

end Go.Proofs.Ythgklkpfmjgeoaa

