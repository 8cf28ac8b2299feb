/-
  Lemmas, several texts in one: NewR, RewI, OwnRD, ReachM.
-/
import Derived.Test.YtkgnijbdbkopkaaPjAb
import Derived.Deep.Cut
import Derived.Test.YtkgnijbdbkopkaaOwnNB
import Derived.Test.YtkgnijbdbkopkaaPjAa
import Derived.Test.YtkgnijbdbkopkaaPjAd
import Derived.Deep.LoopGhost
import Derived.Test.YtkgnijbdbkopkaaRowD
import Derived.Test.YtkgnijbdbkopkaaPjAg
import Derived.Test.YtkgnijbdbkopkaaSpecE
import Derived.Test.YtkgnijbdbkopkaaDfs
namespace Go.Proofs.Ytkgnijbdbkopkaa
open Go.RowKit
set_option linter.unusedVariables false

theorem BytesAt.less {w : World} {B : Nat} {A : Option Addr} {n m : Nat} (h : BytesAt w B A n) (hm : m ≤ n) : BytesAt w B A m := fun k hk => h k (by omega)
theorem BytesAt.more {w : World} {B B' : Nat} {A : Option Addr} {n : Nat} (h : BytesAt w B A n) (hB : B ≤ B') : BytesAt w B' A n := fun k hk => by
  obtain ⟨b, off, x, h1, h2, h3⟩ := h k hk
  exact ⟨b, off, x, h1, by omega, h3⟩

set_option maxHeartbeats 1000000 in
theorem newReader_any (A : Option Addr) (n c : Nat) (w : World) (h : BytesAt w w.heap.size A n) (hc : n ≤ c) (hn : n ≤ 9223372036854775807) :
    Calls Try.prog 10 #[.slice A n c] w fun e w' => e = .returned (.pointer (some ⟨w.heap.size, 0, none⟩)) ∧ (∃ n' c', Rd w' w.heap.size A n' c' 0) ∧ Below w.heap.size w w' := by
  by_cases h2 : n ≤ 2000
  · have d : decide ((2000 : Int) < (n : Int)) = false := by simp; omega
    have hB : Below w.heap.size w (w.alloc (.cells #[.slice A n c, .int .i64 0] 44)) := (Below.refl _ _).alloc (Nat.le_refl _) _
    have HR : Hid (Rd (w.alloc (.cells #[.slice A n c, .int .i64 0] 44)) w.heap.size A n c 0) := hide ⟨Lies.new w _ _, h.later hB, h2⟩
    clear h
    go_enter Try.func10, Try.ntmps10
    go_wp2
    go_ret
    exact ⟨rfl, ⟨n, c, HR.out⟩, hB⟩
  · have d : decide ((2000 : Int) < (n : Int)) = true := by simp; omega
    obtain ⟨b, off, _, rfl, _⟩ := h 0 (by omega)
    have hcap : ¬ ((c : Int) < 2000) := by omega
    have hB : Below w.heap.size w (w.alloc (.cells #[.slice (some ⟨b, off, none⟩) 2000 c, .int .i64 0] 44)) := (Below.refl _ _).alloc (Nat.le_refl _) _
    have HR : Hid (Rd (w.alloc (.cells #[.slice (some ⟨b, off, none⟩) 2000 c, .int .i64 0] 44)) w.heap.size (some ⟨b, off, none⟩) 2000 c 0) := hide ⟨Lies.new w _ _, (h.less (by omega)).later hB, Nat.le_refl _⟩
    clear h
    go_enter Try.func10, Try.ntmps10
    go_wp2
    go_ret
    exact ⟨rfl, ⟨2000, c, HR.out⟩, hB⟩

end Go.Proofs.Ytkgnijbdbkopkaa

namespace Go.Proofs.Ytkgnijbdbkopkaa
open Go.RowKit
set_option linter.unusedVariables false

set_option maxRecDepth 100000 in
set_option maxHeartbeats 2000000 in
theorem rewired_any (F : Nat) (binds caps : Array Value) (g : Int → Int) (n : Nd) (A : Option Addr) (c : Nat) (w : World) (hI : IntsAt w w.heap.size A n.kids) (hk : n.kids.length ≤ 1000) (h64 : ∀ k ∈ n.kids, In64 (g k))
    (hent : ∀ (args : Array Value) (W : World), (callFunc F args).run Try.prog W = .ok (.enter F args) W)
    (hcall : ∀ (k : Int) (W : World), Below w.heap.size w W → k ∈ n.kids → Calls Try.prog F (binds ++ #[.int .i64 k] ++ caps) W fun e w' => e = .returned (.int .i64 (g k)) ∧ W = w') :
    Calls Try.prog 31 #[.agg #[.int .i64 n.kind, .int .i64 n.value, .slice A n.kids.length c], .func (.func F) binds caps] w (GivesNd w n.kind n.value (n.kids.map g)) := by
  have hB : Below w.heap.size w ((w.alloc (.cells #[.int .i64 n.kind, .int .i64 n.value, .slice A n.kids.length c] 41)).alloc (.cells #[.int .i64 0, .int .i64 0, .slice none 0 0] 41)) := ((Below.refl _ _).alloc (Nat.le_refl _) _).alloc (by simp) _
  have l1 := (Lies.new w #[.int .i64 n.kind, .int .i64 n.value, .slice A n.kids.length c] 41).alloc (.cells #[.int .i64 0, .int .i64 0, .slice none 0 0] 41)
  have l2 := Lies.new (w.alloc (.cells #[.int .i64 n.kind, .int .i64 n.value, .slice A n.kids.length c] 41)) #[.int .i64 0, .int .i64 0, .slice none 0 0] 41
  simp only [World.size_alloc] at l2
  have HC := hide hcall
  have H64 := hide h64
  have HI := hide hI
  clear hcall h64 hI
  go_enter Try.func31, Try.ntmps31
  go_upto_region 2 with fail
  generalize (w.alloc (.cells #[.int .i64 n.kind, .int .i64 n.value, .slice A n.kids.length c] 41)).alloc (.cells #[.int .i64 0, .int .i64 0, .slice none 0 0] 41) = W at hB l1 l2 ⊢
  have HL1 := hide l1
  have HL2 := hide l2
  have HB := hide hB
  have hW1 : w.heap.size < W.heap.size := l1.lt
  have hW2 : w.heap.size + 1 < W.heap.size := l2.lt
  have q2 := l1.cell 2
  simp at q2
  clear l1 l2 hB
  go_wp2_with fail
  go_loopw [5, 11] (fun sv jv wr => ∃ (j : Nat) (Ak : Option Addr) (ck : Nat) (ks : List Int), j ≤ n.kids.length ∧ sv = .slice Ak ks.length ck ∧ jv = .int .i64 (j : Int) ∧ Hid (ks = (n.kids.take j).map g) ∧ OwnI wr W.heap.size Ak ck ks ∧ Below W.heap.size W wr) (fun _ jv _ => n.kids.length - (intOf jv).toNat)
  case atStart => exact ⟨0, none, 0, [], Nat.zero_le _, rfl, rfl, hide rfl, OwnI.empty _ _, Below.refl _ _⟩
  case round =>
    clear q2
    obtain ⟨j, Ak, ck, ks, hj, rfl, rfl, hks, hown, hb⟩ := hrel
    have hksl : ks.length ≤ 1000 := by rw [hks.out]; simp; omega
    have hsz := hb.size
    have Hown := hide hown
    have Hb := hide hb
    clear hown hb
    by_cases hlj : j < n.kids.length
    · obtain ⟨b, off, y, rfl, hbl, hy, hym, hcy⟩ := (HI.out.below (HB.out.trans (Hb.out.mono HB.out.size))).at_ hlj
      have HY := hide hy
      have hp64 := H64.out y hym
      have HCy := hide (HC.out y wr (HB.out.trans (Hb.out.mono HB.out.size)) hym)
      have hj1 : (0 : Int) ≤ (j : Int) := by omega
      have hj2 : (j : Int) < (n.kids.length : Int) := by omega
      clear hy hym hbl
      generalize hq : g y = q at hp64 HCy
      have Hq := hide hq
      clear hq
      go_wp2_with fail
      refine HCy.out.mono ?_
      rintro e w' ⟨rfl, rfl⟩
      clear HCy hcy
      go_wp2_with (at_builtin; refine append_ints rfl (.tmp 15) (.tmp 19) rfl W.heap.size Ak ck ks rfl (Hown.out.alloc _) (wr.heap.size + 1) _ 1 [q] rfl (fun e => by cases e) (IntsAt.one wr q hp64) (by simp <;> omega) (by simp <;> omega) ?_; intro zs A3 c3 w5 hz hown5 hg5 _)
      go_roundw
      case rel => exact ⟨j + 1, A3, c3, zs, by omega, rfl, by go_num, hide (by rw [hz.out, hks.out, List.take_add_one, HY.out, ← Hq.out]; simp), hown5, below_grown (Hb.out.alloc hsz _) hg5 (by simp; omega) (fun q hq => (Hown.out.blocks q hq).1)⟩
      case measure => simp [intOf]; omega
    · obtain rfl : j = n.kids.length := by omega
      rw [List.take_length] at hks
      have l3 := HL1.out.below Hb.out hW1
      have m0 := l3.cell 0
      have m1 := l3.cell 1
      simp at m0 m1
      have l4 := HL2.out.below Hb.out hW2
      have l5 := ((l4.set 0 (.int .i64 n.kind)).set 1 (.int .i64 n.value)).set 2 (.slice Ak ks.length ck)
      simp only [List.setIfInBounds_toArray, List.set_cons_succ, List.set_cons_zero] at l5
      have s0 := l5.cell 0
      have s1 := l5.cell 1
      have s2 := l5.cell 2
      have p0 := l4.cell 0
      have p1 := l4.cell 1
      have p2 := l4.cell 2
      have f0 := l4.frozen 0
      have f1 := l4.frozen 1
      have f2 := l4.frozen 2
      simp only [List.getElem?_toArray, List.getElem?_cons_zero, List.getElem?_cons_succ] at s0 s1 s2 p0 p1 p2
      have HF := hide (show OwnI (((wr.setCell ⟨w.heap.size + 1, 0, none⟩ (.int .i64 n.kind)).setCell ⟨w.heap.size + 1, 1, none⟩ (.int .i64 n.value)).setCell ⟨w.heap.size + 1, 2, none⟩ (.slice Ak ks.length ck)) W.heap.size Ak ck ks from Hown.out.of_blk (fun b hb => by
        have := (Hown.out.blocks b hb).1
        rw [Below.heap_setCell _ _ _ _ (by show b ≠ w.heap.size + 1; omega), Below.heap_setCell _ _ _ _ (by show b ≠ w.heap.size + 1; omega), Below.heap_setCell _ _ _ _ (by show b ≠ w.heap.size + 1; omega)]))
      have HBF := hide ((((HB.out.trans (Hb.out.mono HB.out.size)).setCell (p := ⟨w.heap.size + 1, 0, none⟩) (by show w.heap.size ≤ w.heap.size + 1; omega) (.int .i64 n.kind)).setCell (p := ⟨w.heap.size + 1, 1, none⟩) (by show w.heap.size ≤ w.heap.size + 1; omega) (.int .i64 n.value)).setCell (p := ⟨w.heap.size + 1, 2, none⟩) (by show w.heap.size ≤ w.heap.size + 1; omega) (.slice Ak ks.length ck))
      clear l3 l4 l5 hlj
      go_wp2
      refine bodyPost_ret (v := .agg #[.int .i64 n.kind, .int .i64 n.value, .slice Ak ks.length ck]) (by simp [results, Try.results31, go_sem, s0, s1, s2]) rfl ?_
      have e1 : n.kids.map g = ks := hks.out.symm
      rw [e1]
      exact ⟨Ak, ck, rfl, HF.out.mono (by omega), HBF.out⟩

end Go.Proofs.Ytkgnijbdbkopkaa

namespace Go.Proofs.Ytkgnijbdbkopkaa
open Go.RowKit
set_option linter.unusedVariables false

theorem OwnRow.rowD {w : World} {lo hi g cap : Nat} {ns : List Nd} (h : OwnRow w lo hi g cap ns) (hc : cap ≤ maxLen) : RowD w lo hi (some ⟨g, 0, none⟩) cap ns := by
  obtain ⟨f, cur, h1, h2, h3⟩ := h.row
  have hle := h.le
  have hat : ∀ i, i < ns.length * 3 → (cur.toList.take (ns.length * 3))[i]? = w.cell? ⟨g, i, none⟩ := fun i hi => by
    rw [List.getElem?_take_of_lt hi, Array.getElem?_toList, cell_of_row w g i cur _ _ h1]
  refine ⟨⟨cur.toList.take (ns.length * 3), ⟨by simp; omega, .inr ⟨g, cap, cur, rfl, h.hlo, h1, hle, hc, h2, rfl⟩⟩, fun j n hj => ?_, fun i j A1 A2 n1 n2 c1 c2 hij hj d1 d2 => ?_, fun i A1 n1 c1 hi d1 b hb => ?_⟩⟩
  · have hjl := (List.getElem?_eq_some_iff.1 hj).1
    have hn := h.nd j n hj
    obtain ⟨A1, c1, k1, k2, _⟩ := hn.kids
    exact ⟨A1, c1, (hat _ (by omega)).trans hn.kind, (hat _ (by omega)).trans hn.value, (hat _ (by omega)).trans k1, k2⟩
  · rw [hat _ (by omega)] at d1 d2
    exact h.dis i j A1 A2 n1 n2 c1 c2 (by omega) (by omega) hj d1 d2
  · rw [hat _ (by omega)] at d1
    obtain ⟨A3, c3, k1, _, k3⟩ := (h.nd i _ (List.getElem?_eq_getElem hi)).kids
    rw [d1] at k1
    injection k1 with k1
    injection k1 with k1 _ _
    subst k1
    exact (k3 b hb).1

end Go.Proofs.Ytkgnijbdbkopkaa

namespace Go.Proofs.Ytkgnijbdbkopkaa
open Go.RowKit
set_option linter.unusedVariables false

/-- every node may be entered -/
def anyB (x : Int) : Bool := true

theorem kidsIn_of_valid {ns : List Nd} {r : Int} (h : ValidG ns r) : KidsIn ns := fun n hn => (h.nodes n hn).inn

theorem in64_met {ns : List Nd} {L : List Int} (h12 : ns.length ≤ 12) (h : Met ns L) : ∀ x ∈ L, In64 x := in64_of_range h12 h.range

open Classical in
/-- the nodes that are reached from the root of a valid graph; none for another one -/
noncomputable def reachOf (ns : List Nd) (r : Int) : List Int := if ValidG ns r then dfs ns anyB (ns.length + 1) r [] else []

theorem reachOf_met {ns : List Nd} {r : Int} : Met ns (reachOf ns r) := by
  unfold reachOf
  split
  next h => exact dfs_met ns anyB (kidsIn_of_valid h) _ _ _ (Met.nil ns) ⟨h.root0, h.root⟩
  next => exact Met.nil ns

theorem reachOf_few {ns : List Nd} {r : Int} : (reachOf ns r).length ≤ 12 := by
  unfold reachOf
  split
  next h => exact Nat.le_trans (dfs_met ns anyB (kidsIn_of_valid h) _ _ _ (Met.nil ns) ⟨h.root0, h.root⟩).len h.few
  next => simp

end Go.Proofs.Ytkgnijbdbkopkaa
