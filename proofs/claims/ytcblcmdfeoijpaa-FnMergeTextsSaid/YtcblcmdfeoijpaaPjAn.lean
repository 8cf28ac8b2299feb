/-
  Lemmas, several texts in one: SigM, EqnM, EqqM, ClnL.
-/
import Derived.Test.YtcblcmdfeoijpaaEqvM
import Derived.Test.YtcblcmdfeoijpaaPjAl
import Derived.Test.YtcblcmdfeoijpaaClnI
import Derived.Test.YtcblcmdfeoijpaaPjAi
namespace Go.Proofs.Ytcblcmdfeoijpaa
open Go.RowKit
set_option linter.unusedVariables false

/-- nodes that look alike without their kids -/
def Alike (m n : Nd) : Prop := m.kind = n.kind ∧ m.value = n.value ∧ m.kids.length = n.kids.length

theorem sig_alike {cl : List Int} {n m : Nd} (ha : Alike n m) (h : ∀ (j : Nat) (x y : Int), n.kids[j]? = some x → m.kids[j]? = some y → look cl x = look cl y) : sigOf cl n = sigOf cl m := by
  unfold sigOf
  rw [ha.1, ha.2.1]
  congr 2
  apply List.ext_getElem?
  intro j
  rw [List.getElem?_map, List.getElem?_map]
  have hlen := ha.2.2
  by_cases hj : j < n.kids.length
  · have hx : n.kids[j]? = some n.kids[j] := List.getElem?_eq_getElem hj
    have hy : m.kids[j]? = some m.kids[j] := List.getElem?_eq_getElem (by have := ha.2.2; omega)
    rw [hx, hy]
    simp only [Option.map_some]
    rw [h j _ _ hx hy]
  · rw [List.getElem?_eq_none (by omega), List.getElem?_eq_none (by have := ha.2.2; omega)]

theorem alike_sig {cl : List Int} {n m : Nd} (h : sigOf cl n = sigOf cl m) : Alike n m ∧ ∀ (j : Nat) (x y : Int), n.kids[j]? = some x → m.kids[j]? = some y → look cl x = look cl y := by
  unfold sigOf at h
  simp only [Prod.mk.injEq] at h
  obtain ⟨h1, h2, h3⟩ := h
  refine ⟨⟨h1, h2, by have := congrArg List.length h3; simpa using this⟩, fun j x y hx hy => ?_⟩
  have := congrArg (fun l => l[j]?) h3
  simp only [List.getElem?_map, hx, hy, Option.map_some] at this
  injection this

theorem look_in {cl : List Int} {x : Int} (h0 : 0 ≤ x) (h1 : x < cl.length) : cl[x.toNat]? = some (look cl x) := by
  obtain ⟨i, rfl⟩ := Int.eq_ofNat_of_zero_le h0
  have : cl[i]? = some cl[i] := List.getElem?_eq_getElem (by omega)
  rw [look_at this, Int.toNat_natCast, this]

end Go.Proofs.Ytcblcmdfeoijpaa

namespace Go.Proofs.Ytcblcmdfeoijpaa
open Go.RowKit Go.Maps
set_option linter.unusedVariables false

/-- nodes of two graphs that are equal up to a depth -/
def EqN (ns ms : List Nd) (d : Nat) (x y : Int) : Prop := look (clsN (joinNs ns ms) d) x = look (clsN (joinNs ns ms) d) ((ns.length : Int) + y)

theorem eqN_zero (ns ms : List Nd) (x y : Int) : EqN ns ms 0 x y := by
  unfold EqN
  rw [look_zero, look_zero]

theorem eqN_step {ns ms : List Nd} {i j : Nat} {n m : Nd} (hn : ns[i]? = some n) (hm : ms[j]? = some m) (d : Nat) :
    EqN ns ms (d + 1) (i : Int) (j : Int) ↔ Alike n m ∧ ∀ (p : Nat) (a b : Int), n.kids[p]? = some a → m.kids[p]? = some b → EqN ns ms d a b := by
  have hil := (List.getElem?_eq_some_iff.1 hn).1
  have h1 : (joinNs ns ms)[i]? = some n := by
    unfold joinNs
    rw [List.getElem?_append_left hil]; exact hn
  have h2 : (joinNs ns ms)[ns.length + j]? = some (shiftNd ns.length m) := by
    unfold joinNs
    rw [List.getElem?_append_right (by omega), show ns.length + j - ns.length = j by omega, List.getElem?_map, hm]
    rfl
  have h3 := finer_eq (cl := clsN (joinNs ns ms) d) h1 h2
  rw [Int.natCast_add] at h3
  refine Iff.trans h3 ⟨fun h => ?_, fun h => ?_⟩
  · obtain ⟨⟨a1, a2, a3⟩, h5⟩ := alike_sig h
    refine ⟨⟨a1, a2, by simpa [shiftNd] using a3⟩, fun p a b ha hb => h5 p a ((ns.length : Int) + b) ha (by unfold shiftNd; rw [List.getElem?_map, hb]; rfl)⟩
  · obtain ⟨⟨a1, a2, a3⟩, h5⟩ := h
    refine sig_alike ⟨a1, a2, by simpa [shiftNd] using a3⟩ (fun p a b ha hb => ?_)
    unfold shiftNd at hb
    rw [List.getElem?_map] at hb
    obtain ⟨b', hb', rfl⟩ := Option.map_eq_some_iff.1 hb
    exact h5 p a b' ha hb'

end Go.Proofs.Ytcblcmdfeoijpaa

namespace Go.Proofs.Ytcblcmdfeoijpaa
open Go.RowKit Go.Maps
set_option linter.unusedVariables false

/-- nodes of two graphs are equal up to a depth -/
def Eqq (ns ms : List Nd) : Nat → Int → Int → Prop
  | 0, _, _ => True
  | d + 1, x, y => ∃ (i j : Nat) (n m : Nd), x = (i : Int) ∧ y = (j : Int) ∧ ns[i]? = some n ∧ ms[j]? = some m ∧ Alike n m ∧ ∀ (p : Nat) (a b : Int), n.kids[p]? = some a → m.kids[p]? = some b → Eqq ns ms d a b

theorem eqq_step {ns ms : List Nd} {i j : Nat} {n m : Nd} (hn : ns[i]? = some n) (hm : ms[j]? = some m) (d : Nat) :
    Eqq ns ms (d + 1) (i : Int) (j : Int) ↔ Alike n m ∧ ∀ (p : Nat) (a b : Int), n.kids[p]? = some a → m.kids[p]? = some b → Eqq ns ms d a b := by
  constructor
  · rintro ⟨i', j', n', m', e1, e2, h1, h2, h3⟩
    obtain rfl : i = i' := by omega
    obtain rfl : j = j' := by omega
    rw [hn] at h1
    rw [hm] at h2
    injection h1 with h1
    injection h2 with h2
    subst h1 h2
    exact h3
  · intro h
    exact ⟨i, j, n, m, rfl, rfl, hn, hm, h⟩

theorem Alike.symm {n m : Nd} (h : Alike n m) : Alike m n := ⟨h.1.symm, h.2.1.symm, h.2.2.symm⟩
theorem Alike.trans {n m q : Nd} (h : Alike n m) (g : Alike m q) : Alike n q := ⟨h.1.trans g.1, h.2.1.trans g.2.1, h.2.2.trans g.2.2⟩

theorem Eqq.refl {ns : List Nd} (hk : KidsIn ns) : ∀ (d : Nat) (x : Int), 0 ≤ x → x < ns.length → Eqq ns ns d x x
  | 0, _, _, _ => trivial
  | d + 1, x, h0, h1 => by
    obtain ⟨i, n, rfl, hn⟩ := in_at ⟨h0, h1⟩
    refine (eqq_step hn hn d).2 ⟨⟨rfl, rfl, rfl⟩, fun p a b ha hb => ?_⟩
    obtain rfl := Option.some.inj (ha.symm.trans hb)
    have := hk n (List.mem_of_getElem? hn) a (List.mem_of_getElem? ha)
    exact Eqq.refl hk d a this.1 this.2
theorem Eqq.symm {ns ms : List Nd} : ∀ {d : Nat} {x y : Int}, Eqq ns ms d x y → Eqq ms ns d y x
  | 0, _, _, _ => trivial
  | d + 1, _, _, ⟨i, j, n, m, e1, e2, h1, h2, h3, h4⟩ => ⟨j, i, m, n, e2, e1, h2, h1, h3.symm, fun p a b ha hb => (h4 p b a hb ha).symm⟩
theorem Eqq.trans {ns ms ps : List Nd} : ∀ {d : Nat} {x y z : Int}, Eqq ns ms d x y → Eqq ms ps d y z → Eqq ns ps d x z
  | 0, _, _, _, _, _ => trivial
  | d + 1, _, _, _, ⟨i, j, n, m, e1, e2, h1, h2, h3, h4⟩, ⟨j', k, m', q, e3, e4, g1, g2, g3, g4⟩ => by
    obtain rfl : j = j' := by omega
    rw [h2] at g1
    injection g1 with g1
    subst g1
    refine ⟨i, k, n, q, e1, e4, h1, g2, h3.trans g3, fun p a b ha hb => ?_⟩
    have hp : p < m.kids.length := by rw [← h3.2.2]; exact (List.getElem?_eq_some_iff.1 ha).1
    exact (h4 p a _ ha (List.getElem?_eq_getElem hp)).trans (g4 p _ b (List.getElem?_eq_getElem hp) hb)
theorem Eqq.less {ns ms : List Nd} : ∀ {d : Nat} {x y : Int}, Eqq ns ms (d + 1) x y → Eqq ns ms d x y
  | 0, _, _, _ => trivial
  | d + 1, _, _, ⟨i, j, n, m, e1, e2, h1, h2, h3, h4⟩ => ⟨i, j, n, m, e1, e2, h1, h2, h3, fun p a b ha hb => (h4 p a b ha hb).less⟩
theorem Eqq.down {ns ms : List Nd} {x y : Int} {d e : Nat} (h : Eqq ns ms d x y) (he : e ≤ d) : Eqq ns ms e x y := by
  induction d with
  | zero => obtain rfl : e = 0 := by omega
            exact h
  | succ d ih =>
    by_cases hd : e = d + 1
    · subst hd; exact h
    · exact ih h.less (by omega)

theorem eqN_iff {ns ms : List Nd} (hk : KidsIn ns) (hl : KidsIn ms) : ∀ (d : Nat) (x y : Int), 0 ≤ x → x < ns.length → 0 ≤ y → y < ms.length → (EqN ns ms d x y ↔ Eqq ns ms d x y)
  | 0, x, y, _, _, _, _ => ⟨fun _ => trivial, fun _ => eqN_zero ns ms x y⟩
  | d + 1, x, y, x0, x1, y0, y1 => by
    obtain ⟨i, n, rfl, hn⟩ := in_at ⟨x0, x1⟩
    obtain ⟨j, m, rfl, hm⟩ := in_at ⟨y0, y1⟩
    rw [eqN_step hn hm d, eqq_step hn hm d]
    have key : ∀ (p : Nat) (a b : Int), n.kids[p]? = some a → m.kids[p]? = some b → (EqN ns ms d a b ↔ Eqq ns ms d a b) := fun p a b ha hb => by
      have h1 := hk n (List.mem_of_getElem? hn) a (List.mem_of_getElem? ha)
      have h2 := hl m (List.mem_of_getElem? hm) b (List.mem_of_getElem? hb)
      exact eqN_iff hk hl d a b h1.1 h1.2 h2.1 h2.2
    exact ⟨fun h => ⟨h.1, fun p a b ha hb => (key p a b ha hb).1 (h.2 p a b ha hb)⟩, fun h => ⟨h.1, fun p a b ha hb => (key p a b ha hb).2 (h.2 p a b ha hb)⟩⟩

theorem cls_iff {ns : List Nd} (hk : KidsIn ns) : ∀ (d : Nat) (x y : Int), 0 ≤ x → x < ns.length → 0 ≤ y → y < ns.length → (look (clsN ns d) x = look (clsN ns d) y ↔ Eqq ns ns d x y)
  | 0, x, y, _, _, _, _ => ⟨fun _ => trivial, fun _ => by rw [look_zero, look_zero]⟩
  | d + 1, x, y, x0, x1, y0, y1 => by
    obtain ⟨i, n, rfl, hn⟩ := in_at ⟨x0, x1⟩
    obtain ⟨j, m, rfl, hm⟩ := in_at ⟨y0, y1⟩
    rw [eqq_step hn hm d]
    refine Iff.trans (finer_eq (cl := clsN ns d) hn hm) ?_
    have key : ∀ (p : Nat) (a b : Int), n.kids[p]? = some a → m.kids[p]? = some b → (look (clsN ns d) a = look (clsN ns d) b ↔ Eqq ns ns d a b) := fun p a b ha hb => by
      have h1 := hk n (List.mem_of_getElem? hn) a (List.mem_of_getElem? ha)
      have h2 := hk m (List.mem_of_getElem? hm) b (List.mem_of_getElem? hb)
      exact cls_iff hk d a b h1.1 h1.2 h2.1 h2.2
    constructor
    · intro h
      obtain ⟨h1, h2⟩ := alike_sig h
      exact ⟨h1, fun p a b ha hb => (key p a b ha hb).1 (h2 p a b ha hb)⟩
    · intro h
      exact sig_alike h.1 (fun p a b ha hb => (key p a b ha hb).2 (h.2 p a b ha hb))

/-- equal however deep -/
def EqqAll (ns ms : List Nd) (x y : Int) : Prop := ∀ d, Eqq ns ms d x y
theorem EqqAll.refl {ns : List Nd} (hk : KidsIn ns) {x : Int} (h0 : 0 ≤ x) (h1 : x < ns.length) : EqqAll ns ns x x := fun d => Eqq.refl hk d x h0 h1
theorem EqqAll.symm {ns ms : List Nd} {x y : Int} (h : EqqAll ns ms x y) : EqqAll ms ns y x := fun d => (h d).symm
theorem EqqAll.trans {ns ms ps : List Nd} {x y z : Int} (h : EqqAll ns ms x y) (g : EqqAll ms ps y z) : EqqAll ns ps x z := fun d => (h d).trans (g d)

/-- the classes of as many depths as there are nodes tell what is equal however deep -/
theorem cls_all_iff {ns : List Nd} (hk : KidsIn ns) {x y : Int} (x0 : 0 ≤ x) (x1 : x < ns.length) (y0 : 0 ≤ y) (y1 : y < ns.length) : look (clsN ns ns.length) x = look (clsN ns ns.length) y ↔ EqqAll ns ns x y := by
  constructor
  · intro h d
    have h1 := (cls_iff hk (ns.length + d) x y x0 x1 y0 y1).1 (by rw [cls_all hk]; exact h)
    exact h1.down (by omega)
  · intro h
    exact (cls_iff hk ns.length x y x0 x1 y0 y1).2 (h _)

theorem rootsEq_iff {ns ms : List Nd} {r s : Int} (hk : KidsIn ns) (hl : KidsIn ms) (r0 : 0 ≤ r) (r1 : r < ns.length) (s0 : 0 ≤ s) (s1 : s < ms.length) : RootsEq ns r ms s (joinNs ns ms).length ↔ EqqAll ns ms r s := by
  constructor
  · intro h d
    have h1 : EqN ns ms ((joinNs ns ms).length + d) r s := by
      unfold EqN
      rw [cls_all (joinNs_kids hk hl)]
      exact h
    exact ((eqN_iff hk hl _ r s r0 r1 s0 s1).1 h1).down (by omega)
  · intro h
    exact (eqN_iff hk hl _ r s r0 r1 s0 s1).2 (h _)

theorem eqDeep_iff {ns ms : List Nd} {r s : Int} (hv : ValidG ns r) (hw : ValidG ms s) : EqDeepG ns r ms s ↔ EqqAll ns ms r s := by
  constructor
  · intro h
    exact (rootsEq_iff (validG_kids hv) (validG_kids hw) hv.root0 hv.root hw.root0 hw.root).1 h.2.2
  · intro h
    exact ⟨hv, hw, (rootsEq_iff (validG_kids hv) (validG_kids hw) hv.root0 hv.root hw.root0 hw.root).2 h⟩

theorem eqTo_iff {ns ms : List Nd} {r s : Int} {d : Nat} (hv : ValidG ns r) (hw : ValidG ms s) (hd : d ≤ 8) : EqToG ns r ms s (d : Int) ↔ Eqq ns ms d r s := by
  have h := eqN_iff (validG_kids hv) (validG_kids hw) d r s hv.root0 hv.root hw.root0 hw.root
  constructor
  · intro h1
    exact h.1 (by have := h1.2.2.2.2; simpa [RootsEq, EqN] using this)
  · intro h1
    exact ⟨hv, hw, by omega, by omega, by simpa [RootsEq, EqN] using h.2 h1⟩

end Go.Proofs.Ytcblcmdfeoijpaa

namespace Go.Proofs.Ytcblcmdfeoijpaa
open Go.RowKit Go.Maps
set_option linter.unusedVariables false

set_option maxHeartbeats 1000000 in
theorem clonedNodes_any (A : Option Addr) (ns : List Nd) (c : Nat) (w : World) (hr : NdsAt w w.heap.size A ns) (hl : ns.length ≤ 1000) (hk : ∀ n ∈ ns, n.kids.length ≤ 1000) :
    Calls Try.prog 48 #[.slice A ns.length c] w (GivesNs w ns) := by
  have hmk := makeNodesC ns.length hl
  have HR := hide hr
  have HS0 := hide (ClA.start w ns)
  have HK := hide hk
  clear hr hk
  go_enter Try.func48, Try.ntmps48
  go_wp2_with fail
  clear hmk
  generalize hX1 : w.alloc (.cells (madeCells #[.int .i64 0, .int .i64 0, .slice none 0 0] (ns.length * 3)) 32) = X1 at HS0 ⊢
  clear hX1
  go_loopg [11] ns.length (fun gk iv wr => ∃ k : Nat, k ≤ ns.length ∧ gk = ns.length - k ∧ iv = .int .i64 (k : Int) ∧ ClA w wr ns k)
  case atStart => exact ⟨0, Nat.zero_le _, rfl, rfl, HS0.out⟩
  case round =>
    clear HS0
    obtain ⟨k, hk, rfl, rfl, hS⟩ := hrel
    by_cases hlt : k < ns.length
    · obtain ⟨b, off, n, rfl, hbl, hn, hm, hnd⟩ := (HR.out.below hS.bel).at_ hlt
      obtain ⟨A1, c1, k2, hki, hnil⟩ := hnd.kids
      have k0 := hnd.kind
      have k1 := hnd.value
      have HN := hide hn
      have HM := hide (HK.out n hm)
      have HS := hide hS
      have HKI := hide hki
      clear hn hm hnd hS hki hbl
      go_upto_region 5 with fail
      have hB2 : Below wr.heap.size wr (wr.alloc (.cells #[.int .i64 n.kind, .int .i64 n.value, .slice A1 n.kids.length c1] 32)) := (Below.refl _ _).alloc (Nat.le_refl _) _
      have l1 := Lies.new wr #[.int .i64 n.kind, .int .i64 n.value, .slice A1 n.kids.length c1] 32
      generalize wr.alloc (.cells #[.int .i64 n.kind, .int .i64 n.value, .slice A1 n.kids.length c1] 32) = W2 at hB2 l1 ⊢
      have e0 := l1.cell 0
      have e1 := l1.cell 1
      have e2 := l1.cell 2
      simp only [List.getElem?_toArray, List.getElem?_cons_zero, List.getElem?_cons_succ] at e0 e1 e2
      have hwr := HS.out.bel.size
      have HC := hide (clonedNode_any n A1 c1 W2 ((HKI.out.later (Below.refl _ _) hwr).later hB2 (Nat.le_refl _)) hnil HM.out)
      have HB2 := hide hB2
      clear k0 k1 k2 hB2 l1 HKI hnil
      go_wp2_with fail
      refine HC.out.mono ?_
      clear HC
      rintro e wi ⟨Ak, ck, rfl, hown, hbi⟩
      obtain ⟨f, hf⟩ := HS.out.row.row
      have hfw : wi.rowIs w.heap.size 32 (ns.length * 3) f := hf.of_block ((HB2.out.trans (hbi.mono HB2.out.size)).block _ hf.lt)
      have q0 := World.rowIs.cell hfw (i := k * 3) (by omega)
      have q1 := World.rowIs.cell hfw (i := k * 3 + 1) (by omega)
      have q2 := World.rowIs.cell hfw (i := k * 3 + 2) (by omega)
      have p0 := World.rowIs.frozen hfw (k * 3)
      have p1 := World.rowIs.frozen hfw (k * 3 + 1)
      have p2 := World.rowIs.frozen hfw (k * 3 + 2)
      have HB := hide (HS.out.step HN.out HB2.out hbi hown)
      have hk1 : (k : Int) < (ns.length : Int) := by omega
      clear hown hbi hf hfw e0 e1 e2 HB2 HN HM HS
      go_wp2_with fail
      go_roundg (ns.length - (k + 1))
      case measure => omega
      case rel => exact ⟨k + 1, by omega, rfl, by go_num, HB.out⟩
    · obtain rfl : k = ns.length := by omega
      have HS := hide hS
      clear hS hlt
      go_wp2
      have hrow := HS.out.row
      rw [List.take_length] at hrow
      refine bodyPost_ret (v := .slice (some ⟨w.heap.size, 0, none⟩) ns.length ns.length) (by simp [results, Try.results48, go_sem]) rfl ?_
      exact ⟨_, rfl, hrow, HS.out.bel⟩

end Go.Proofs.Ytcblcmdfeoijpaa
