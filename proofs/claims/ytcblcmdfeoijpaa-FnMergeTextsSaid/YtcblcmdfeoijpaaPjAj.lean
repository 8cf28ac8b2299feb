/-
  Lemmas, several texts in one: RplM, OwnRD, ShcM, RewI.
-/
import Derived.Test.YtcblcmdfeoijpaaEqvM
import Derived.Test.YtcblcmdfeoijpaaPjAh
import Derived.Test.YtcblcmdfeoijpaaRowD
import Derived.Test.YtcblcmdfeoijpaaSpecE
import Derived.Deep.Cut
import Derived.Test.YtcblcmdfeoijpaaPjAa
import Derived.Deep.LoopGhost
namespace Go.Proofs.Ytcblcmdfeoijpaa
open Go.RowKit Go.Maps
set_option linter.unusedVariables false

/-- the node cl[i] stands in the place of the node i -/
def replNd (cl : List Int) (n : Nd) : Nd := ⟨n.kind, n.value, n.kids.map (look cl)⟩
def replNs (ns : List Nd) (cl : List Int) : List Nd := ns.map (replNd cl)
theorem replNs_len (ns : List Nd) (cl : List Int) : (replNs ns cl).length = ns.length := by simp [replNs]
theorem replNs_at {ns : List Nd} {cl : List Int} {k : Nat} {n : Nd} (h : ns[k]? = some n) : (replNs ns cl)[k]? = some (replNd cl n) := by
  unfold replNs
  rw [List.getElem?_map, h]
  rfl
theorem look_mem {cl : List Int} {x : Int} (h0 : 0 ≤ x) (h1 : x < cl.length) : look cl x ∈ cl := by
  obtain ⟨i, rfl⟩ := Int.eq_ofNat_of_zero_le h0
  have : cl[i]? = some cl[i] := List.getElem?_eq_getElem (by omega)
  rw [look_at this]
  exact List.getElem_mem _

theorem OwnNs.lowQ {w : World} {lo lo2 hi : Nat} {A : Option Addr} {c : Nat} {ns : List Nd} (h : OwnNs w lo hi A c ns) (h2 : lo2 ≤ lo) : OwnNs w lo2 hi A c ns := by
  rcases h with h | ⟨g, e, h⟩
  · exact .inl h
  · exact .inr ⟨g, e, h.low h2⟩

/-- the result is stored, wherever its cell lies -/
theorem GivesG.putQ {w wd w2 w3 : World} {q : Nat} {A : Option Addr} {c : Nat} {ms : List Nd} {r : Int} (hq0 : w.heap.size ≤ q) (hq : q < wd.heap.size) (h0 : Below w.heap.size w wd) (h2 : Below wd.heap.size wd w2) (h3 : Below w2.heap.size w2 w3) (h : OwnNs w3 w2.heap.size w3.heap.size A c ms) :
    GivesG w ms r (.returned (.agg #[.slice A ms.length c, .int .i64 r])) ((w3.setCell ⟨q, 0, none⟩ (.slice A ms.length c)).setCell ⟨q, 1, none⟩ (.int .i64 r)) := by
  have hs2 := h2.size
  have hsd := h0.size
  refine ⟨A, c, rfl, ?_, ((h0.trans ((h2.mono hsd).trans (h3.mono (by omega)))).setCell (p := ⟨q, 0, none⟩) hq0 _).setCell (p := ⟨q, 1, none⟩) hq0 _⟩
  have := (h.kept (w' := (w3.setCell ⟨q, 0, none⟩ (.slice A ms.length c)).setCell ⟨q, 1, none⟩ (.int .i64 r)) (fun b hb _ => (Below.heap_setCell _ _ _ _ (by show b ≠ q; omega)).trans (Below.heap_setCell _ _ _ _ (by show b ≠ q; omega)))).lowQ (lo2 := w.heap.size) (by omega)
  simpa using this

end Go.Proofs.Ytcblcmdfeoijpaa

namespace Go.Proofs.Ytcblcmdfeoijpaa
open Go.RowKit
set_option linter.unusedVariables false

theorem OwnRow.rowD {w : World} {lo hi g cap : Nat} {ns : List Nd} (h : OwnRow w lo hi g cap ns) (hc : cap ≤ maxLen) : RowD w lo hi (some ⟨g, 0, none⟩) cap ns := by
  obtain ⟨f, cur, h1, h2, h3⟩ := h.row
  have hle := h.le
  have hat : ∀ i, i < ns.length * 3 → (cur.toList.take (ns.length * 3))[i]? = w.cell? ⟨g, i, none⟩ := fun i hi => by
    rw [List.getElem?_take_of_lt hi, Array.getElem?_toList, cell_of_row w g i cur _ _ h1]
  refine ⟨⟨cur.toList.take (ns.length * 3), ⟨by simp; omega, .inr ⟨g, cap, cur, rfl, h.hlo, h1, hle, hc, h2, rfl⟩⟩, fun j n hj => ?_, fun i j A1 A2 n1 n2 c1 c2 hij hj d1 d2 => ?_, fun i A1 n1 c1 hi d1 b hb => ?_⟩⟩
  · have hjl := (List.getElem?_eq_some_iff.1 hj).1
    have hn := h.nd j n hj
    obtain ⟨A1, c1, k1, k2, _⟩ := hn.kids
    exact ⟨A1, c1, (hat _ (by omega)).trans hn.kind, (hat _ (by omega)).trans hn.value, (hat _ (by omega)).trans k1, k2⟩
  · rw [hat _ (by omega)] at d1 d2
    exact h.dis i j A1 A2 n1 n2 c1 c2 (by omega) (by omega) hj d1 d2
  · rw [hat _ (by omega)] at d1
    obtain ⟨A3, c3, k1, _, k3⟩ := (h.nd i _ (List.getElem?_eq_getElem hi)).kids
    rw [d1] at k1
    injection k1 with k1
    injection k1 with k1 _ _
    subst k1
    exact (k3 b hb).1

end Go.Proofs.Ytcblcmdfeoijpaa

namespace Go.Proofs.Ytcblcmdfeoijpaa
open Go.RowKit
set_option linter.unusedVariables false

/-- the root's node once more behind the others -/
def rootNd (ns : List Nd) (r : Int) : Nd := (ns[r.toNat]?).getD ⟨0, 0, []⟩
theorem rootNd_at {ns : List Nd} {i : Nat} {n : Nd} (h : ns[i]? = some n) : rootNd ns (i : Int) = n := by
  unfold rootNd
  rw [Int.toNat_natCast, h]
  rfl

open Classical in
noncomputable def shalN (ns : List Nd) (r : Int) : List Nd := if ValidG ns r ∧ ns.length ≠ 12 then ns ++ [rootNd ns r] else []
open Classical in
noncomputable def shalR (ns : List Nd) (r : Int) : Int := if ValidG ns r ∧ ns.length ≠ 12 then (ns.length : Int) else 0

theorem shalN_yes {ns : List Nd} {r : Int} (h : ValidG ns r) (h2 : ns.length ≠ 12) : shalN ns r = ns ++ [rootNd ns r] := if_pos ⟨h, h2⟩
theorem shalR_yes {ns : List Nd} {r : Int} (h : ValidG ns r) (h2 : ns.length ≠ 12) : shalR ns r = ns.length := if_pos ⟨h, h2⟩
theorem shalN_no {ns : List Nd} {r : Int} (h : ¬ (ValidG ns r ∧ ns.length ≠ 12)) : shalN ns r = [] := if_neg h
theorem shalR_no {ns : List Nd} {r : Int} (h : ¬ (ValidG ns r ∧ ns.length ≠ 12)) : shalR ns r = 0 := if_neg h

end Go.Proofs.Ytcblcmdfeoijpaa

namespace Go.Proofs.Ytcblcmdfeoijpaa
open Go.RowKit
set_option linter.unusedVariables false

set_option maxRecDepth 100000 in
set_option maxHeartbeats 2000000 in
theorem rewired_any (F : Nat) (binds caps : Array Value) (g : Int → Int) (n : Nd) (A : Option Addr) (c : Nat) (w : World) (hI : IntsAt w w.heap.size A n.kids) (hk : n.kids.length ≤ 1000) (h64 : ∀ k ∈ n.kids, In64 (g k))
    (hent : ∀ (args : Array Value) (W : World), (callFunc F args).run Try.prog W = .ok (.enter F args) W)
    (hcall : ∀ (k : Int) (W : World), Below w.heap.size w W → k ∈ n.kids → Calls Try.prog F (binds ++ #[.int .i64 k] ++ caps) W fun e w' => e = .returned (.int .i64 (g k)) ∧ W = w') :
    Calls Try.prog 32 #[.agg #[.int .i64 n.kind, .int .i64 n.value, .slice A n.kids.length c], .func (.func F) binds caps] w (GivesNd w n.kind n.value (n.kids.map g)) := by
  have hB : Below w.heap.size w ((w.alloc (.cells #[.int .i64 n.kind, .int .i64 n.value, .slice A n.kids.length c] 32)).alloc (.cells #[.int .i64 0, .int .i64 0, .slice none 0 0] 32)) := ((Below.refl _ _).alloc (Nat.le_refl _) _).alloc (by simp) _
  have l1 := (Lies.new w #[.int .i64 n.kind, .int .i64 n.value, .slice A n.kids.length c] 32).alloc (.cells #[.int .i64 0, .int .i64 0, .slice none 0 0] 32)
  have l2 := Lies.new (w.alloc (.cells #[.int .i64 n.kind, .int .i64 n.value, .slice A n.kids.length c] 32)) #[.int .i64 0, .int .i64 0, .slice none 0 0] 32
  simp only [World.size_alloc] at l2
  have HC := hide hcall
  have H64 := hide h64
  have HI := hide hI
  clear hcall h64 hI
  go_enter Try.func32, Try.ntmps32
  go_upto_region 2 with fail
  generalize (w.alloc (.cells #[.int .i64 n.kind, .int .i64 n.value, .slice A n.kids.length c] 32)).alloc (.cells #[.int .i64 0, .int .i64 0, .slice none 0 0] 32) = W at hB l1 l2 ⊢
  have HL1 := hide l1
  have HL2 := hide l2
  have HB := hide hB
  have hW1 : w.heap.size < W.heap.size := l1.lt
  have hW2 : w.heap.size + 1 < W.heap.size := l2.lt
  have q2 := l1.cell 2
  simp at q2
  clear l1 l2 hB
  go_wp2_with fail
  go_loopw [5, 11] (fun sv jv wr => ∃ (j : Nat) (Ak : Option Addr) (ck : Nat) (ks : List Int), j ≤ n.kids.length ∧ sv = .slice Ak ks.length ck ∧ jv = .int .i64 (j : Int) ∧ Hid (ks = (n.kids.take j).map g) ∧ OwnI wr W.heap.size Ak ck ks ∧ Below W.heap.size W wr) (fun _ jv _ => n.kids.length - (intOf jv).toNat)
  case atStart => exact ⟨0, none, 0, [], Nat.zero_le _, rfl, rfl, hide rfl, OwnI.empty _ _, Below.refl _ _⟩
  case round =>
    clear q2
    obtain ⟨j, Ak, ck, ks, hj, rfl, rfl, hks, hown, hb⟩ := hrel
    have hksl : ks.length ≤ 1000 := by rw [hks.out]; simp; omega
    have hsz := hb.size
    have Hown := hide hown
    have Hb := hide hb
    clear hown hb
    by_cases hlj : j < n.kids.length
    · obtain ⟨b, off, y, rfl, hbl, hy, hym, hcy⟩ := (HI.out.below (HB.out.trans (Hb.out.mono HB.out.size))).at_ hlj
      have HY := hide hy
      have hp64 := H64.out y hym
      have HCy := hide (HC.out y wr (HB.out.trans (Hb.out.mono HB.out.size)) hym)
      have hj1 : (0 : Int) ≤ (j : Int) := by omega
      have hj2 : (j : Int) < (n.kids.length : Int) := by omega
      clear hy hym hbl
      generalize hq : g y = q at hp64 HCy
      have Hq := hide hq
      clear hq
      go_wp2_with fail
      refine HCy.out.mono ?_
      rintro e w' ⟨rfl, rfl⟩
      clear HCy hcy
      go_wp2_with (at_builtin; refine append_ints rfl (.tmp 15) (.tmp 19) rfl W.heap.size Ak ck ks rfl (Hown.out.alloc _) (wr.heap.size + 1) _ 1 [q] rfl (fun e => by cases e) (IntsAt.one wr q hp64) (by simp <;> omega) (by simp <;> omega) ?_; intro zs A3 c3 w5 hz hown5 hg5 _)
      go_roundw
      case rel => exact ⟨j + 1, A3, c3, zs, by omega, rfl, by go_num, hide (by rw [hz.out, hks.out, List.take_add_one, HY.out, ← Hq.out]; simp), hown5, below_grown (Hb.out.alloc hsz _) hg5 (by simp; omega) (fun q hq => (Hown.out.blocks q hq).1)⟩
      case measure => simp [intOf]; omega
    · obtain rfl : j = n.kids.length := by omega
      rw [List.take_length] at hks
      have l3 := HL1.out.below Hb.out hW1
      have m0 := l3.cell 0
      have m1 := l3.cell 1
      simp at m0 m1
      have l4 := HL2.out.below Hb.out hW2
      have l5 := ((l4.set 0 (.int .i64 n.kind)).set 1 (.int .i64 n.value)).set 2 (.slice Ak ks.length ck)
      simp only [List.setIfInBounds_toArray, List.set_cons_succ, List.set_cons_zero] at l5
      have s0 := l5.cell 0
      have s1 := l5.cell 1
      have s2 := l5.cell 2
      have p0 := l4.cell 0
      have p1 := l4.cell 1
      have p2 := l4.cell 2
      have f0 := l4.frozen 0
      have f1 := l4.frozen 1
      have f2 := l4.frozen 2
      simp only [List.getElem?_toArray, List.getElem?_cons_zero, List.getElem?_cons_succ] at s0 s1 s2 p0 p1 p2
      have HF := hide (show OwnI (((wr.setCell ⟨w.heap.size + 1, 0, none⟩ (.int .i64 n.kind)).setCell ⟨w.heap.size + 1, 1, none⟩ (.int .i64 n.value)).setCell ⟨w.heap.size + 1, 2, none⟩ (.slice Ak ks.length ck)) W.heap.size Ak ck ks from Hown.out.of_blk (fun b hb => by
        have := (Hown.out.blocks b hb).1
        rw [Below.heap_setCell _ _ _ _ (by show b ≠ w.heap.size + 1; omega), Below.heap_setCell _ _ _ _ (by show b ≠ w.heap.size + 1; omega), Below.heap_setCell _ _ _ _ (by show b ≠ w.heap.size + 1; omega)]))
      have HBF := hide ((((HB.out.trans (Hb.out.mono HB.out.size)).setCell (p := ⟨w.heap.size + 1, 0, none⟩) (by show w.heap.size ≤ w.heap.size + 1; omega) (.int .i64 n.kind)).setCell (p := ⟨w.heap.size + 1, 1, none⟩) (by show w.heap.size ≤ w.heap.size + 1; omega) (.int .i64 n.value)).setCell (p := ⟨w.heap.size + 1, 2, none⟩) (by show w.heap.size ≤ w.heap.size + 1; omega) (.slice Ak ks.length ck))
      clear l3 l4 l5 hlj
      go_wp2
      refine bodyPost_ret (v := .agg #[.int .i64 n.kind, .int .i64 n.value, .slice Ak ks.length ck]) (by simp [results, Try.results32, go_sem, s0, s1, s2]) rfl ?_
      have e1 : n.kids.map g = ks := hks.out.symm
      rw [e1]
      exact ⟨Ak, ck, rfl, HF.out.mono (by omega), HBF.out⟩

end Go.Proofs.Ytcblcmdfeoijpaa
