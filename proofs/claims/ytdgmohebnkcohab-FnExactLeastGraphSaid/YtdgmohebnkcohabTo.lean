/-
  The copying functions toIntS, toNode, toNodeS, toGraph: each makes new memory that reads as what it was given, and leaves all old memory as it was.
-/
import Derived.Test.YtdgmohebnkcohabSz
import Derived.Test.YtdgmohebnkcohabPjAl
namespace Go.Proofs.Ytdgmohebnkcohab
open Go.RowKit


set_option maxHeartbeats 1000000 in
theorem toNode_any (A : Option Addr) (n : Nd) (c : Nat) (w : World) (h : IntsAt w w.heap.size A n.kids) (hs : n.kids.length ≤ 1048576) :
    Calls Try.prog 30 #[.agg #[.int .i64 n.kind, .int .i64 n.value, .slice A n.kids.length c]] w fun e w' =>
      e = .returned (.agg #[.int .i64 n.kind, .int .i64 n.value, .slice (some ⟨w.heap.size + 3, 0, none⟩) n.kids.length n.kids.length]) ∧
      w'.rowIs (w.heap.size + 3) 3 n.kids.length (intCell n.kids) ∧ Below w.heap.size w w' := by
  go_enter Try.func30, Try.ntmps30
  go_wp2_with fail
  refine (toIntS_any A n.kids c _ (h.later ((((Below.refl _ _).alloc (Nat.le_refl _) _).alloc (by simp) _).alloc (by simp; omega) _) (Nat.le_refl _)) hs).mono ?_
  rintro e w' ⟨rfl, hrow, hb⟩
  have l2 := (((Lies.new (w.alloc (.cells #[.int .i64 n.kind, .int .i64 n.value, .slice A n.kids.length c] 44)) #[.int .i64 0, .int .i64 0, .slice none 0 0] 47).alloc
    (.cells #[.int .i64 n.kind, .int .i64 n.value, .slice none 0 0] 47)).below hb (by simp))
  have l3 := ((Lies.new ((w.alloc (.cells #[.int .i64 n.kind, .int .i64 n.value, .slice A n.kids.length c] 44)).alloc (.cells #[.int .i64 0, .int .i64 0, .slice none 0 0] 47)) #[.int .i64 n.kind, .int .i64 n.value, .slice none 0 0] 47).below hb (by simp))
  simp only [World.size_alloc] at l2 l3 hrow hb ⊢
  have a0 := l2.cell 0
  have a1 := l2.cell 1
  have a2 := l2.cell 2
  have b0 := l3.cell 0
  have b1 := l3.cell 1
  have b2 := l3.cell 2
  have f0 := l2.frozen 0
  have f1 := l2.frozen 1
  have f2 := l2.frozen 2
  have g2 := l3.frozen 2
  simp at a0 a1 a2 b0 b1 b2
  go_wp2
  have hB : Below w.heap.size w w' := ((((Below.refl _ _).alloc (Nat.le_refl _) _).alloc (by simp) _).alloc (by simp; omega) _).trans (hb.mono (by omega))
  have l2' := (((l2.far (p := ⟨w.heap.size + 1 + 1, 2, none⟩) (by simp) (.slice (some ⟨w.heap.size + 1 + 1 + 1, 0, none⟩) n.kids.length n.kids.length)).set 0 (.int .i64 n.kind)).set 1 (.int .i64 n.value)).set 2
    (.slice (some ⟨w.heap.size + 1 + 1 + 1, 0, none⟩) n.kids.length n.kids.length)
  have c0 := l2'.cell 0
  have c1 := l2'.cell 1
  have c2 := l2'.cell 2
  simp at c0 c1 c2
  refine bodyPost_ret (v := .agg #[.int .i64 n.kind, .int .i64 n.value, .slice (some ⟨w.heap.size + 1 + 1 + 1, 0, none⟩) n.kids.length n.kids.length]) (by simp [results, Try.results30, go_sem, c0, c1, c2]) rfl ⟨rfl, ?_, ?_⟩
  · exact (((hrow.setOther (by simp) _).setOther (by simp; omega) _).setOther (by simp; omega) _).setOther (by simp; omega) _
  · exact (((hB.setCell (by simp; omega) _).setCell (by simp) _).setCell (by simp) _).setCell (by simp) _

theorem infoNode : (Try.prog.info? 47).map (fun i => (i.zero, i.size, i.bytes)) = some (some (.agg #[.int .i64 0, .int .i64 0, .slice none 0 0]), 3, 40) := by kernel_rfl

set_option maxHeartbeats 1000000 in
theorem toNodeS_any (A : Option Addr) (ns : List Nd) (c : Nat) (w : World) (h : NdsAt w w.heap.size A ns) (hs : Small ns) :
    Calls Try.prog 14 #[.slice A ns.length c] w fun e w' => e = .returned (.slice (some ⟨w.heap.size, 0, none⟩) ns.length ns.length) ∧
      MadeNds w' w.heap.size 47 3 ns ∧ Below w.heap.size w w' := by
  have hlen := hs.len
  have hmk := run_make_rows (P := Try.prog) 26 47 (.agg #[.int .i64 0, .int .i64 0, .slice none 0 0]) 3 40 Try.underlying26 infoNode .i64 .i64 ns.length (by omega) (by omega)
  obtain ⟨f0, hrow0⟩ := rowIs_made_any w (Value.agg #[.int .i64 0, .int .i64 0, .slice none 0 0]).cells (ns.length * 3) 47
  have hb0 := (Below.refl _ w).alloc (Nat.le_refl _) (.cells (madeCells (Value.agg #[.int .i64 0, .int .i64 0, .slice none 0 0]).cells (ns.length * 3)) 47)
  generalize (Value.agg #[.int .i64 0, .int .i64 0, .slice none 0 0]).cells = zc at hmk hrow0 hb0
  go_enter Try.func14, Try.ntmps14
  go_wp2_with fail
  clear hmk
  go_loopw [4] (fun i wr => ∃ k : Nat, k ≤ ns.length ∧ i = .int .i64 k ∧ Below w.heap.size w wr ∧ (∃ f, wr.rowIs w.heap.size 47 (ns.length * 3) f) ∧ ∀ j n, j < k → ns[j]? = some n → MadeNd wr w.heap.size (j * 3) (w.heap.size + 1) 3 n) (fun i _ => ns.length - (intOf i).toNat)
  case atStart => exact ⟨0, Nat.zero_le _, rfl, hb0, ⟨f0, hrow0⟩, fun j n hj => absurd hj (by omega)⟩
  case round =>
    obtain ⟨k, hk, rfl, hb, ⟨f, hrow⟩, hdone0⟩ := hrel
    clear hrow0 hb0
    have hdone := hide hdone0
    clear hdone0
    have hg := hrow.lt
    by_cases hlt : k < ns.length
    · obtain ⟨b, off, n, rfl, hbl, hx, hmem, hN⟩ := (h.below hb).at_ hlt
      obtain ⟨hc_k, hc_v, ⟨A', c', hc_s, hI, _⟩, _, _⟩ := hN
      have hkn := hs.kids n hmem
      have Hx := hide hx
      clear hx hmem
      go_wp2_with fail
      refine (toNode_any A' n c' wr (hI.more hb.size) hkn).mono ?_
      rintro e w1 ⟨rfl, hk1, hb1⟩
      have hrow1 := rowIs_below hrow hb1 hg
      have a0 := hrow1.cell (i := k * 3) (by omega)
      have a1 := hrow1.cell (i := k * 3 + 1) (by omega)
      have a2 := hrow1.cell (i := k * 3 + 2) (by omega)
      have b0 := hrow1.frozen (k * 3)
      have b1 := hrow1.frozen (k * 3 + 1)
      have b2 := hrow1.frozen (k * 3 + 2)
      have hb2 : Below w.heap.size w (set3 w1 w.heap.size (k * 3) (.int .i64 n.kind) (.int .i64 n.value) (.slice (some ⟨wr.heap.size + 3, 0, none⟩) n.kids.length n.kids.length)) :=
        below_set3 (hb.trans (hb1.mono (by omega))) (Nat.le_refl _) _ _ _
      have hnew := MadeNd.of_set3 (n := n) (p := k * 3) hrow1 (by omega) (Nat.lt_succ_self _) (by omega) hk1
      have hrow2 := rowIs_set3 (p := k * 3) hrow1 (.int .i64 n.kind) (.int .i64 n.value) (.slice (some ⟨wr.heap.size + 3, 0, none⟩) n.kids.length n.kids.length)
      have hdone2 : Hid (∀ (j : Nat) (m : Nd), j < k + 1 → ns[j]? = some m → MadeNd (set3 w1 w.heap.size (k * 3) (.int .i64 n.kind) (.int .i64 n.value) (.slice (some ⟨wr.heap.size + 3, 0, none⟩) n.kids.length n.kids.length)) w.heap.size (j * 3) (w.heap.size + 1) 3 m) := by
        intro j m hj hm
        by_cases e : j = k
        · subst e
          obtain rfl : n = m := by have := Hx.out.symm.trans hm; injection this
          exact hnew
        · exact ((hdone.out j m (by omega) hm).below hb1 hg (Nat.le_refl _)).stored (Nat.lt_succ_self _) (by omega) _ _ _
      clear hnew hrow1 hk1 hdone hrow hb hb1
      unfold set3 at hb2 hrow2 hdone2
      have HB := hide hb2
      have HR := hide hrow2
      clear hb2 hrow2
      go_wp2
      go_roundw
      case rel => exact ⟨k + 1, by omega, by go_num, HB.out, HR.out, hdone2.out⟩
      case measure => simp [intOf]; omega
    · obtain rfl : k = ns.length := by omega
      clear hlt
      go_wp2
      go_ret
      exact ⟨rfl, ⟨⟨f, hrow⟩, fun j n hj => hdone.out j n (List.getElem?_eq_some_iff.1 hj).1 hj⟩, hb⟩

set_option maxHeartbeats 1000000 in
theorem toGraph_any (A : Option Addr) (ns : List Nd) (c : Nat) (r : Int) (w : World) (h : NdsAt w w.heap.size A ns) (hs : Small ns) :
    Calls Try.prog 6 #[.agg #[.slice A ns.length c, .int .i64 r]] w fun e w' =>
      e = .returned (.agg #[.slice (some ⟨w.heap.size + 3, 0, none⟩) ns.length ns.length, .int .i64 r]) ∧
      MadeNds w' (w.heap.size + 3) 47 3 ns ∧ Below w.heap.size w w' := by
  go_enter Try.func6, Try.ntmps6
  go_wp2_with fail
  refine (toNodeS_any A ns c _ (h.later ((((Below.refl _ _).alloc (Nat.le_refl _) _).alloc (by simp) _).alloc (by simp; omega) _) (Nat.le_refl _)) hs).mono ?_
  rintro e w' ⟨rfl, hmade, hb⟩
  have l2 := (((Lies.new (w.alloc (.cells #[.slice A ns.length c, .int .i64 r] 24)) #[.slice none 0 0, .int .i64 0] 28).alloc
    (.cells #[.slice none 0 0, .int .i64 0] 28)).below hb (by simp))
  have l3 := ((Lies.new ((w.alloc (.cells #[.slice A ns.length c, .int .i64 r] 24)).alloc (.cells #[.slice none 0 0, .int .i64 0] 28)) #[.slice none 0 0, .int .i64 0] 28).below hb (by simp))
  have l1 := ((((Lies.new w #[.slice A ns.length c, .int .i64 r] 24).alloc (.cells #[.slice none 0 0, .int .i64 0] 28)).alloc (.cells #[.slice none 0 0, .int .i64 0] 28)).below hb (by simp; omega))
  simp only [World.size_alloc] at l1 l2 l3 hmade hb ⊢
  have d1 := l1.cell 1
  have a0 := l2.cell 0
  have a1 := l2.cell 1
  have b0 := l3.cell 0
  have b1 := l3.cell 1
  have f0 := l2.frozen 0
  have f1 := l2.frozen 1
  have g0 := l3.frozen 0
  have g1 := l3.frozen 1
  simp at a0 a1 b0 b1 d1
  go_wp2
  have hB : Below w.heap.size w w' := ((((Below.refl _ _).alloc (Nat.le_refl _) _).alloc (by simp) _).alloc (by simp; omega) _).trans (hb.mono (by omega))
  have l2' := (((l2.far (p := ⟨w.heap.size + 1 + 1, 0, none⟩) (by simp) (.slice (some ⟨w.heap.size + 1 + 1 + 1, 0, none⟩) ns.length ns.length)).far (p := ⟨w.heap.size + 1 + 1, 1, none⟩) (by simp) (.int .i64 r)).set 0
    (.slice (some ⟨w.heap.size + 1 + 1 + 1, 0, none⟩) ns.length ns.length)).set 1 (.int .i64 r)
  have c0 := l2'.cell 0
  have c1 := l2'.cell 1
  simp at c0 c1
  refine bodyPost_ret (v := .agg #[.slice (some ⟨w.heap.size + 1 + 1 + 1, 0, none⟩) ns.length ns.length, .int .i64 r]) (by simp [results, Try.results6, go_sem, c0, c1]) rfl ⟨rfl, ?_, ?_⟩
  · exact (((hmade.far (by simp) _).far (by simp) _).far (by simp) _).far (by simp) _
  · exact (((hB.setCell (by simp; omega) _).setCell (by simp; omega) _).setCell (by simp) _).setCell (by simp) _

end Go.Proofs.Ytdgmohebnkcohab
