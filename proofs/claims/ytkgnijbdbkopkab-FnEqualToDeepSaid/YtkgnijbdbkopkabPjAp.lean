/-
  Lemmas, several texts in one: LstM, SigM, ClnL.
-/
import Derived.Test.YtkgnijbdbkopkabPjAo
import Derived.Test.YtkgnijbdbkopkabPjAm
import Derived.Test.YtkgnijbdbkopkabPjAn
import Derived.Test.YtkgnijbdbkopkabPjAf
import Derived.Test.YtkgnijbdbkopkabPjAl
import Derived.Test.YtkgnijbdbkopkabPjAi
namespace Go.Proofs.Ytkgnijbdbkopkab
open Go.RowKit Go.Maps
set_option linter.unusedVariables false

open Classical in
noncomputable def lstN (ns : List Nd) (r : Int) : List Nd := if ValidG ns r then prunedOf (replNs ns (clsN ns ns.length)) (look (clsN ns ns.length) r) else []
theorem lstN_yes {ns : List Nd} {r : Int} (h : ValidG ns r) : lstN ns r = prunedOf (replNs ns (clsN ns ns.length)) (look (clsN ns ns.length) r) := if_pos h
theorem lstN_no {ns : List Nd} {r : Int} (h : ¬ ValidG ns r) : lstN ns r = [] := if_neg h
theorem lstN_smallN (ns : List Nd) (r : Int) : SmallN (lstN ns r) := by
  by_cases h : ValidG ns r
  · rw [lstN_yes h]; exact prunedOf_smallN _ _
  · rw [lstN_no h]; exact ⟨by simp, fun n hn => by simp at hn⟩

theorem least_valid {ns : List Nd} {r : Int} (h : ValidG ns r) : ValidG (replNs ns (clsN ns ns.length)) (look (clsN ns ns.length) r) := repl_valid h (cong_cls (validG_kids h))

theorem clsN_64 {ns : List Nd} {d : Nat} (hl : ns.length ≤ 1000) : ∀ x ∈ clsN ns d, In64 x := fun x hx => by
  have := clsN_in ns d x hx
  constructor <;> omega

theorem replNs_wf {ns : List Nd} {cl : List Int} (hw : WfN ns) (hk : KidsIn ns) (hl : cl.length = ns.length) (h64 : ∀ x ∈ cl, In64 x) : WfN (replNs ns cl) := by
  intro n hn
  obtain ⟨m, hm, rfl⟩ := List.mem_map.1 hn
  obtain ⟨a1, a2, a3, a4⟩ := hw m hm
  refine ⟨a1, a2, fun x hx => ?_, by simpa [replNd] using a4⟩
  obtain ⟨k, hkm, rfl⟩ := List.mem_map.1 (show x ∈ m.kids.map (look cl) from hx)
  have h2 := hk m hm k hkm
  exact h64 _ (look_mem h2.1 (by rw [hl]; exact h2.2))

end Go.Proofs.Ytkgnijbdbkopkab

namespace Go.Proofs.Ytkgnijbdbkopkab
open Go.RowKit
set_option linter.unusedVariables false

/-- nodes that look alike without their kids -/
def Alike (m n : Nd) : Prop := m.kind = n.kind ∧ m.value = n.value ∧ m.kids.length = n.kids.length

theorem sig_alike {cl : List Int} {n m : Nd} (ha : Alike n m) (h : ∀ (j : Nat) (x y : Int), n.kids[j]? = some x → m.kids[j]? = some y → look cl x = look cl y) : sigOf cl n = sigOf cl m := by
  unfold sigOf
  rw [ha.1, ha.2.1]
  congr 2
  apply List.ext_getElem?
  intro j
  rw [List.getElem?_map, List.getElem?_map]
  have hlen := ha.2.2
  by_cases hj : j < n.kids.length
  · have hx : n.kids[j]? = some n.kids[j] := List.getElem?_eq_getElem hj
    have hy : m.kids[j]? = some m.kids[j] := List.getElem?_eq_getElem (by have := ha.2.2; omega)
    rw [hx, hy]
    simp only [Option.map_some]
    rw [h j _ _ hx hy]
  · rw [List.getElem?_eq_none (by omega), List.getElem?_eq_none (by have := ha.2.2; omega)]

theorem alike_sig {cl : List Int} {n m : Nd} (h : sigOf cl n = sigOf cl m) : Alike n m ∧ ∀ (j : Nat) (x y : Int), n.kids[j]? = some x → m.kids[j]? = some y → look cl x = look cl y := by
  unfold sigOf at h
  simp only [Prod.mk.injEq] at h
  obtain ⟨h1, h2, h3⟩ := h
  refine ⟨⟨h1, h2, by have := congrArg List.length h3; simpa using this⟩, fun j x y hx hy => ?_⟩
  have := congrArg (fun l => l[j]?) h3
  simp only [List.getElem?_map, hx, hy, Option.map_some] at this
  injection this

theorem look_in {cl : List Int} {x : Int} (h0 : 0 ≤ x) (h1 : x < cl.length) : cl[x.toNat]? = some (look cl x) := by
  obtain ⟨i, rfl⟩ := Int.eq_ofNat_of_zero_le h0
  have : cl[i]? = some cl[i] := List.getElem?_eq_getElem (by omega)
  rw [look_at this, Int.toNat_natCast, this]

end Go.Proofs.Ytkgnijbdbkopkab

namespace Go.Proofs.Ytkgnijbdbkopkab
open Go.RowKit Go.Maps
set_option linter.unusedVariables false

set_option maxHeartbeats 1000000 in
theorem clonedNodes_any (A : Option Addr) (ns : List Nd) (c : Nat) (w : World) (hr : NdsAt w w.heap.size A ns) (hl : ns.length ≤ 1000) (hk : ∀ n ∈ ns, n.kids.length ≤ 1000) :
    Calls Try.prog 33 #[.slice A ns.length c] w (GivesNs w ns) := by
  have hmk := makeNodesC ns.length hl
  have HR := hide hr
  have HS0 := hide (ClA.start w ns)
  have HK := hide hk
  clear hr hk
  go_enter Try.func33, Try.ntmps33
  go_wp2_with fail
  clear hmk
  generalize hX1 : w.alloc (.cells (madeCells #[.int .i64 0, .int .i64 0, .slice none 0 0] (ns.length * 3)) 45) = X1 at HS0 ⊢
  clear hX1
  go_loopg [11] ns.length (fun gk iv wr => ∃ k : Nat, k ≤ ns.length ∧ gk = ns.length - k ∧ iv = .int .i64 (k : Int) ∧ ClA w wr ns k)
  case atStart => exact ⟨0, Nat.zero_le _, rfl, rfl, HS0.out⟩
  case round =>
    clear HS0
    obtain ⟨k, hk, rfl, rfl, hS⟩ := hrel
    by_cases hlt : k < ns.length
    · obtain ⟨b, off, n, rfl, hbl, hn, hm, hnd⟩ := (HR.out.below hS.bel).at_ hlt
      obtain ⟨A1, c1, k2, hki, hnil⟩ := hnd.kids
      have k0 := hnd.kind
      have k1 := hnd.value
      have HN := hide hn
      have HM := hide (HK.out n hm)
      have HS := hide hS
      have HKI := hide hki
      clear hn hm hnd hS hki hbl
      go_upto_region 5 with fail
      have hB2 : Below wr.heap.size wr (wr.alloc (.cells #[.int .i64 n.kind, .int .i64 n.value, .slice A1 n.kids.length c1] 45)) := (Below.refl _ _).alloc (Nat.le_refl _) _
      have l1 := Lies.new wr #[.int .i64 n.kind, .int .i64 n.value, .slice A1 n.kids.length c1] 45
      generalize wr.alloc (.cells #[.int .i64 n.kind, .int .i64 n.value, .slice A1 n.kids.length c1] 45) = W2 at hB2 l1 ⊢
      have e0 := l1.cell 0
      have e1 := l1.cell 1
      have e2 := l1.cell 2
      simp only [List.getElem?_toArray, List.getElem?_cons_zero, List.getElem?_cons_succ] at e0 e1 e2
      have hwr := HS.out.bel.size
      have HC := hide (clonedNode_any n A1 c1 W2 ((HKI.out.later (Below.refl _ _) hwr).later hB2 (Nat.le_refl _)) hnil HM.out)
      have HB2 := hide hB2
      clear k0 k1 k2 hB2 l1 HKI hnil
      go_wp2_with fail
      refine HC.out.mono ?_
      clear HC
      rintro e wi ⟨Ak, ck, rfl, hown, hbi⟩
      obtain ⟨f, hf⟩ := HS.out.row.row
      have hfw : wi.rowIs w.heap.size 45 (ns.length * 3) f := hf.of_block ((HB2.out.trans (hbi.mono HB2.out.size)).block _ hf.lt)
      have q0 := World.rowIs.cell hfw (i := k * 3) (by omega)
      have q1 := World.rowIs.cell hfw (i := k * 3 + 1) (by omega)
      have q2 := World.rowIs.cell hfw (i := k * 3 + 2) (by omega)
      have p0 := World.rowIs.frozen hfw (k * 3)
      have p1 := World.rowIs.frozen hfw (k * 3 + 1)
      have p2 := World.rowIs.frozen hfw (k * 3 + 2)
      have HB := hide (HS.out.step HN.out HB2.out hbi hown)
      have hk1 : (k : Int) < (ns.length : Int) := by omega
      clear hown hbi hf hfw e0 e1 e2 HB2 HN HM HS
      go_wp2_with fail
      go_roundg (ns.length - (k + 1))
      case measure => omega
      case rel => exact ⟨k + 1, by omega, rfl, by go_num, HB.out⟩
    · obtain rfl : k = ns.length := by omega
      have HS := hide hS
      clear hS hlt
      go_wp2
      have hrow := HS.out.row
      rw [List.take_length] at hrow
      refine bodyPost_ret (v := .slice (some ⟨w.heap.size, 0, none⟩) ns.length ns.length) (by simp [results, Try.results33, go_sem]) rfl ?_
      exact ⟨_, rfl, hrow, HS.out.bel⟩

end Go.Proofs.Ytkgnijbdbkopkab
