/-
  The walk of the law FnTreeSize: for every text it returns true and writes nothing that was there.
-/
import Derived.Test.YtmpplimghjkjaaeDrawTS
import Derived.Test.YtmpplimghjkjaaeImplR
import Derived.Test.YtmpplimghjkjaaeTreeS
import Derived.Test.YtmpplimghjkjaaeTreeI2
import Derived.Test.YtmpplimghjkjaaeShTr
import Derived.Test.YtmpplimghjkjaaeLawM
import Derived.Deep.RegionHeld3
namespace Go.Proofs.Ytmpplimghjkjaae
open Go.RowKit
set_option linter.unusedVariables false

theorem valid_root {ns : List Nd} {r y : Int} (hv : ValidG ns r) (h0 : 0 ≤ y) (h1 : y < ns.length) : ValidG ns y := ⟨hv.one, hv.few, h0, h1, hv.nodes, hv.tuples⟩

/-- 1 and the trees of these kids -/
def sumT (ns : List Nd) (xs : List Int) : Nat := 1 + (xs.map (treeN ns)).sum
theorem sumT_snoc {ns : List Nd} {xs : List Int} {j : Nat} {y : Int} (hy : xs[j]? = some y) : sumT ns (xs.take (j + 1)) = sumT ns (xs.take j) + treeN ns y := by
  unfold sumT
  rw [List.take_add_one, hy, Option.toList_some, List.map_append, List.sum_append]
  simp
  omega
theorem sumT_le (ns : List Nd) : ∀ xs : List Int, sumT ns xs ≤ 1 + 5000 * xs.length
  | [] => by simp [sumT]
  | x :: xs => by
    have h := sumT_le ns xs
    have h2 := treeN_le ns x
    unfold sumT at h ⊢
    rw [List.map_cons, List.sum_cons, List.length_cons]
    omega

set_option maxRecDepth 100000 in
set_option maxHeartbeats 4000000 in
theorem lawTS_any (A : Option Addr) (n c : Nat) (w : World) (h : BytesAt w w.heap.size A n) (hc : n ≤ c) (hn : n ≤ 9223372036854775807) :
    Calls Try.prog 3 #[.slice A n c] w fun e w' => e = .returned (.bool true) ∧ Below w.heap.size w w' := by
  by_cases hbig : 1048576 < n
  · have d : decide ((1048576 : Int) < (n : Int)) = true := by simp; omega
    go_enter Try.func3, Try.ntmps3
    go_wp2
    go_ret
    exact ⟨rfl, Below.refl _ _⟩
  · have d : decide ((1048576 : Int) < (n : Int)) = false := by simp; omega
    go_enter Try.func3, Try.ntmps3
    go_wp2_with fail
    refine (drawTreeSize_any A n c w h hc hn).mono ?_
    rintro e w1 ⟨g, cap, ns, r, rfl, hnds, hr64, hb1⟩
    have hsz := hb1.size
    have hi0 : IntsAt (w1.alloc (.cells #[.slice (some ⟨g, 0, none⟩) ns.length cap, .int .i64 r] 25)) (w1.alloc (.cells #[.slice (some ⟨g, 0, none⟩) ns.length cap, .int .i64 r] 25)).heap.size none [] := ⟨fun hx => absurd rfl hx, fun x hx => by simp at hx, by simp⟩
    have L2 : LawS w (w1.alloc (.cells #[.slice (some ⟨g, 0, none⟩) ns.length cap, .int .i64 r] 25)) w1.heap.size g cap none ns r [] :=
      ⟨hb1.alloc hb1.size _, Lies.new w1 _ _, hnds.later ((Below.refl w1.heap.size w1).alloc (Nat.le_refl _) _) (Nat.le_refl _), hi0⟩
    clear hnds hb1 h hi0
    obtain ⟨e0, e1⟩ := L2.cells
    go_wp2_with fail
    generalize w1.alloc (.cells #[.slice (some ⟨g, 0, none⟩) ns.length cap, .int .i64 r] 25) = w2 at L2 e0 e1 ⊢
    generalize w1.heap.size = bg at L2 e0 e1 hsz ⊢
    refine (implTreeSize_any (some ⟨g, 0, none⟩) ns cap r w2 L2.nd).mono ?_
    rintro e w3 ⟨rfl, hb3⟩
    have L3 := L2.below hb3
    clear L2 hb3 e0 e1
    obtain ⟨e0, e1⟩ := L3.cells
    go_wp2_with fail
    refine (specTreeSize_any (some ⟨g, 0, none⟩) ns cap r w3 L3.nd).mono ?_
    rintro e w4 ⟨rfl, hb4⟩
    have L4 := L3.below hb4
    clear L3 hb4 e0 e1
    obtain ⟨e0, e1⟩ := L4.cells
    by_cases hv : ValidG ns r
    · have HT : Hid (treeSizeOf ns r = (treeN ns r : Int)) := hide (by unfold treeSizeOf; rw [if_pos hv])
      rw [HT.out]
      have HVv := hide hv
      have h5 := treeN_le ns r
      have HRL := hide (reach_le_tree hv)
      have HSum := hide (tree_sum hv)
      obtain ⟨i, rfl⟩ := Int.eq_ofNat_of_zero_le hv.root0
      have hi : i < ns.length := by have := hv.root; omega
      obtain ⟨b', off', m, e2, hgb, hat, hmem, hnd⟩ := L4.nd.at_ hi
      injection e2 with e2
      injection e2 with e3 e4
      subst e3 e4
      have hk := hide (kidsOf_at hat)
      have hk6 := (hv.nodes m hmem).few
      have hin := hide (hv.nodes m hmem).inn
      have HAt := hide hat
      rw [hk.out] at HSum
      generalize treeN ns (i : Int) = T at h5 HRL HSum HT ⊢
      have t0 : ((T : Int) != (T : Int)) = false := by simp
      have t1 : decide ((T : Int) < 0) = false := decide_eq_false (by omega)
      have L4h := hide L4
      have hr1 : (0 : Int) ≤ (i : Int) := by omega
      have hr2 : (i : Int) < (ns.length : Int) := by omega
      clear hv hat hmem hnd L4 e0 e1 hgb HT
      go_wp2_with fail
      go_loopg [5, 6] m.kids.length (fun gk nv jv wr => ∃ (j q : Nat), j ≤ m.kids.length ∧ gk = m.kids.length - j ∧ nv = .int .i64 (q : Int) ∧ jv = .int .i64 (j : Int) ∧ q = sumT ns (m.kids.take j) ∧ LawS w wr bg g cap none ns (i : Int) [])
      case atStart => exact ⟨0, 1, Nat.zero_le _, rfl, rfl, rfl, rfl, L4h.out⟩
      case round =>
        clear L4h t0 t1
        obtain ⟨j, q, hj, rfl, rfl, rfl, hq, hL⟩ := hrel
        have hql : q ≤ 30001 := by
          have h1 := sumT_le ns (m.kids.take j)
          rw [List.length_take] at h1
          omega
        have Hq := hide hq
        have HL := hide hL
        obtain ⟨e0, e1⟩ := hL.cells
        have hlg : bg < wr.heap.size := hL.l.lt
        obtain ⟨b', off', m', e2, hgb, hat, _, hnd⟩ := hL.nd.at_ hi
        injection e2 with e2
        injection e2 with e3 e4
        subst e3 e4
        obtain rfl := Option.some.inj (HAt.out.symm.trans hat)
        obtain ⟨Ak, ck, k1, hki, _⟩ := hnd.kids
        rw [Nat.zero_add] at k1
        clear hq hat hnd hL
        by_cases hlt : j < m.kids.length
        · obtain ⟨bk, ok, y, rfl, hbk, hy, hym, hcy⟩ := hki.at_ hlt
          obtain ⟨hy0, hy1⟩ := hin.out y hym
          have HVy := hide (valid_root HVv.out hy0 hy1)
          have HTy : Hid (treeSizeOf ns y = (treeN ns y : Int)) := hide (by unfold treeSizeOf; rw [if_pos HVy.out])
          have hu := treeN_le ns y
          have HN : Hid (q + treeN ns y = sumT ns (m.kids.take (j + 1))) := hide (by rw [sumT_snoc hy, ← Hq.out])
          generalize treeN ns y = u at hu HN HTy
          have hwr : IntKind.i64.wrap ((q : Int) + (u : Int)) = (q : Int) + (u : Int) := by rw [IntKind.wrap_i64]; omega
          have hj1 : (0 : Int) ≤ (j : Int) := by omega
          have hj2 : (j : Int) < (m.kids.length : Int) := by omega
          clear hki hy hym hy0 hy1
          go_wp2_with fail
          go_region_held3 (fun w' => w'.cell? ⟨bg, 0, none⟩ = some (.slice (some ⟨g, 0, none⟩) ns.length cap) ∧ w'.cell? ⟨bg, 1, none⟩ = some (.int .i64 (i : Int)) ∧ w'.cell? ⟨g, i * 3 + 2, none⟩ = some (.slice (some ⟨bk, ok, none⟩) m.kids.length ck) ∧ w'.cell? ⟨bk, ok + j, none⟩ = some (.int .i64 y))
            (first
              | (go_split_ands; refine ⟨?_, ?_, ?_, ?_⟩ <;> assumption))
            (first
              | (go_at_call 5; have HJ := implTreeSize_any (some ⟨g, 0, none⟩) ns cap y wr.drew (HL.out.nd.later (Below.refl _ _).drew (Nat.le_refl _)); rw [HTy.out] at HJ; refine HJ.mono ?_; clear HJ; rintro e w5 ⟨rfl, hb5⟩; have hbw : Below wr.heap.size wr w5 := (Below.refl _ _).drew.trans (hb5.mono (by simp)); have p0 := (hbw.cell (p := ⟨bg, 0, none⟩) hlg).trans e0; have p1 := (hbw.cell (p := ⟨bg, 1, none⟩) hlg).trans e1; have p2 := (hbw.cell (p := ⟨g, i * 3 + 2, none⟩) hgb).trans k1; have p3 := (hbw.cell (p := ⟨bk, ok + j, none⟩) hbk).trans hcy))
          have HL2 := hide (HL.out.below hbw)
          clear hbw hb5 p0 p1 p2 p3 e0 e1 k1 hcy
          go_wp2
          go_roundg (m.kids.length - (j + 1))
          case measure => omega
          case rel => exact ⟨j + 1, q + u, by omega, rfl, by go_num, by go_num, HN.out, HL2.out⟩
        · obtain rfl : j = m.kids.length := by omega
          have Hmin : Hid (T = min q 5000) := hide (by
            have h1 := HSum.out
            have h2 := Hq.out
            rw [List.take_length] at h2
            unfold sumT at h2
            rw [h2]
            exact h1)
          clear hlt hki
          go_wp2_with fail
          refine (implReachOf_any (some ⟨g, 0, none⟩) ns cap (i : Int) wr HL.out.nd).mono ?_
          rintro e w5 ⟨Ar, cr, rfl, hoR, hb5⟩
          have HB := hide (HL.out.below hb5).bel
          have d1 : decide (((reachOf ns (i : Int)).length : Int) ≤ (T : Int)) = true := by have := HRL.out; simp; omega
          have d2 : ((T : Int) == min (q : Int) 5000) = true := beq_iff_eq.2 (by have := Hmin.out; omega)
          clear hb5 hoR e0 e1 k1
          have d3 : decide ((reachOf ns (i : Int)).length ≤ T) = true := decide_eq_true HRL.out
          have d4 : (reachOf ns (i : Int)).length ≤ T := HRL.out
          generalize (reachOf ns (i : Int)).length = R at d1 d3 d4
          go_wp2
          go_ret
          exact ⟨rfl, HB.out⟩
    · have HT : Hid (treeSizeOf ns r = -1) := hide (by unfold treeSizeOf; rw [if_neg hv])
      rw [HT.out]
      clear hv
      go_wp2_with fail
      refine (specTreeSize_any (some ⟨g, 0, none⟩) ns cap r w4 L4.nd).mono ?_
      rintro e w5 ⟨rfl, hb5⟩
      rw [HT.out]
      have HB := hide (L4.below hb5).bel
      clear hb5 L4 e0 e1
      go_wp2
      go_ret
      exact ⟨rfl, HB.out⟩

end Go.Proofs.Ytmpplimghjkjaae
