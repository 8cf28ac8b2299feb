/-
  The walk of the law FnReachOf: for every text it returns true and writes nothing that was there.
-/
import Derived.Test.YtjpglcdnnkbejaaDrawRO
import Derived.Test.YtjpglcdnnkbejaaImplR
import Derived.Test.YtjpglcdnnkbejaaReachS
import Derived.Test.YtjpglcdnnkbejaaOrd
import Derived.Test.YtjpglcdnnkbejaaEqL
import Derived.Test.YtjpglcdnnkbejaaIsIn
import Derived.Deep.LoopGhost
import Derived.Deep.QuietTactic
import Derived.BigQuiet
namespace Go.Proofs.Ytjpglcdnnkbejaa
open Go.RowKit
set_option linter.unusedVariables false

theorem OwnI.capLe {w : World} {base : Nat} {A : Option Addr} {c : Nat} {xs : List Int} (h : OwnI w base A c xs) : xs.length ≤ c := by
  rcases h.own with ⟨hl, hh⟩
  rcases hh with ⟨h1, h2⟩ | ⟨g, cap, cur, hv, hg, hh, hle, hm, hs, hx⟩
  · rw [h2]; exact Nat.zero_le _
  · injection hv with _ _ h3
    subst h3
    exact hle

/-- a call of isIn in a region that only reads -/
theorem isIn_q (A : Option Addr) (xs : List Int) (len c : Nat) (n : Int) (w : World) (b : Bool) (hlen : len = xs.length) (hb : tf (n ∈ xs) = b) (h : IntsAt w w.heap.size A xs) :
    Calls Try.prog 9 #[.slice A len c, .int .i64 n] w fun e w' => e = .returned (.bool b) ∧ w' = w := by
  subst hlen hb
  exact (isIn_any A xs c n w h).mono fun e w' ⟨a, b⟩ => ⟨a, b.symm⟩

theorem within_q (A A' : Option Addr) (xs ys : List Int) (c c' : Nat) (w : World) (hb : ∀ x ∈ xs, x ∈ ys) (h : IntsAt w w.heap.size A xs) (h' : IntsAt w w.heap.size A' ys) :
    Calls Try.prog 8 #[.slice A xs.length c, .slice A' ys.length c'] w fun e w' => e = .returned (.bool true) ∧ w' = w := by
  have t := tf_true hb
  exact (within_any A A' xs ys c c' w h h').mono fun e w' ⟨a, b⟩ => ⟨by rw [← t]; exact a, b.symm⟩

theorem IntsAt.take {w : World} {B : Nat} {A : Option Addr} {xs : List Int} (h : IntsAt w B A xs) (k : Nat) : IntsAt w B A (xs.take k) := by
  refine ⟨fun hx => ?_, fun x hx => h.wf x (List.mem_of_mem_take hx), Nat.le_trans (by simp; omega) h.len⟩
  obtain ⟨b, off, e, hlt, hc⟩ := h.row (by intro e; subst e; simp at hx)
  refine ⟨b, off, e, hlt, fun j x hj => hc j x ?_⟩
  rw [List.getElem?_take] at hj
  split at hj
  · exact hj
  · cases hj

theorem IntsAt.drewN {w : World} {A : Option Addr} {xs : List Int} (h : IntsAt w w.heap.size A xs) (n : Nat) : IntsAt (w.drewN n) (w.drewN n).heap.size A xs :=
  h.later (below_drewN (Below.refl _ _) n) (Nat.le_refl _)

/-- what stays while the law looks at the answer -/
structure LawS (w wr : World) (bg g cap : Nat) (Ag : Option Addr) (ns : List Nd) (r : Int) (R : List Int) : Prop where
  bel : Below w.heap.size w wr
  l : Lies wr bg #[.slice (some ⟨g, 0, none⟩) ns.length cap, .int .i64 r] 25
  nd : NdsAt wr wr.heap.size (some ⟨g, 0, none⟩) ns
  out : IntsAt wr wr.heap.size Ag R

theorem LawS.drewN {w wr : World} {bg g cap : Nat} {Ag : Option Addr} {ns : List Nd} {r : Int} {R : List Int} (h : LawS w wr bg g cap Ag ns r R) (n : Nat) : LawS w (wr.drewN n) bg g cap Ag ns r R :=
  ⟨below_drewN h.bel n, h.l.below (below_drewN (Below.refl _ _) n) h.l.lt, h.nd.later (below_drewN (Below.refl _ _) n) (Nat.le_refl _), h.out.drewN n⟩

/-- a node that the answer names, as the law reads it -/
theorem LawS.at_ {w wr : World} {bg g cap : Nat} {Ag : Option Addr} {ns : List Nd} {r : Int} {R : List Int} (h : LawS w wr bg g cap Ag ns r R) (hR : Reached ns r R) {k : Nat} (hk : k < R.length) :
    ∃ (b off i : Nat) (n : Nd) (Ak : Option Addr) (ck : Nat), Ag = some ⟨b, off, none⟩ ∧ R[k]? = some (i : Int) ∧ wr.cell? ⟨b, off + k, none⟩ = some (.int .i64 (i : Int)) ∧ i < ns.length ∧ wr.cell? ⟨g, i * 3 + 2, none⟩ = some (.slice Ak n.kids.length ck) ∧ IntsAt wr wr.heap.size Ak n.kids ∧ kidsOf ns (i : Int) = n.kids := by
  obtain ⟨b, off, x, e1, _, hx, hm, hc⟩ := h.out.at_ hk
  obtain ⟨h0, h1⟩ := hR.met.range x hm
  obtain ⟨i, rfl⟩ := Int.eq_ofNat_of_zero_le h0
  have hi : i < ns.length := by omega
  obtain ⟨b', off', n, e2, _, hn, _, hnd⟩ := h.nd.at_ hi
  injection e2 with e2
  injection e2 with e3 e4
  subst e3 e4
  obtain ⟨Ak, ck, k1, k2, _⟩ := hnd.kids
  rw [Nat.zero_add] at k1
  exact ⟨b, off, i, n, Ak, ck, e1, hx, hc, hi, k1, k2, kidsOf_at hn⟩

theorem not_in_take {R : List Int} {k : Nat} {x : Int} (h : R.Nodup) (hx : R[k]? = some x) : x ∉ R.take k := by
  intro hm
  obtain ⟨j, hj, e⟩ := List.getElem_of_mem hm
  have hj2 : j < k ∧ j < R.length := by simp at hj; omega
  rw [List.getElem_take] at e
  obtain ⟨hk, e2⟩ := List.getElem?_eq_some_iff.1 hx
  have := (List.getElem_inj h).1 (e.trans e2.symm)
  omega

set_option maxRecDepth 100000 in
set_option maxHeartbeats 4000000 in
theorem lawRO_any (A : Option Addr) (n c : Nat) (w : World) (h : BytesAt w w.heap.size A n) (hc : n ≤ c) (hn : n ≤ 9223372036854775807) :
    Calls Try.prog 3 #[.slice A n c] w fun e w' => e = .returned (.bool true) ∧ Below w.heap.size w w' := by
  by_cases hbig : 1048576 < n
  · have d : decide ((1048576 : Int) < (n : Int)) = true := by simp; omega
    go_enter Try.func3, Try.ntmps3
    go_wp2
    go_ret
    exact ⟨rfl, Below.refl _ _⟩
  · have d : decide ((1048576 : Int) < (n : Int)) = false := by simp; omega
    go_enter Try.func3, Try.ntmps3
    go_wp2_with fail
    refine (drawReachOf_any A n c w h hc hn).mono ?_
    rintro e w1 ⟨g, cap, ns, r, rfl, hnds, h1, h10, hr64, hb1⟩
    have hb2 := hb1.alloc hb1.size (.cells #[.slice (some ⟨g, 0, none⟩) ns.length cap, .int .i64 r] 25)
    have l2 := Lies.new w1 #[.slice (some ⟨g, 0, none⟩) ns.length cap, .int .i64 r] 25
    have hn2 := hnds.later ((Below.refl w1.heap.size w1).alloc (Nat.le_refl _) (.cells #[.slice (some ⟨g, 0, none⟩) ns.length cap, .int .i64 r] 25)) (Nat.le_refl _)
    have hsz := hb1.size
    have e0 := l2.cell 0
    have e1 := l2.cell 1
    simp at e0 e1
    clear hnds hb1 h
    go_wp2_with fail
    generalize w1.alloc (.cells #[.slice (some ⟨g, 0, none⟩) ns.length cap, .int .i64 r] 25) = w2 at hb2 l2 hn2 e0 e1 ⊢
    generalize w1.heap.size = bg at l2 hsz e0 e1 ⊢
    have HI := implReachOf_any (some ⟨g, 0, none⟩) ns cap r w2 hn2
    refine HI.mono ?_
    clear HI
    rintro e w3 ⟨Ag, cg, rfl, hoG, hb3⟩
    have l3 := l2.below hb3 l2.lt
    have hn3 := hn2.later hb3 (Nat.le_refl _)
    have hB3 := hb2.trans (hb3.mono hb2.size)
    have e0 := l3.cell 0
    have e1 := l3.cell 1
    simp at e0 e1
    clear l2 hn2 hb2 hb3
    have hRf : (reachOf ns r).length ≤ 12 := reachOf_few
    have hRm : Met ns (reachOf ns r) := reachOf_met
    have HV : Hid ((ValidG ns r ∧ Reached ns r (reachOf ns r) ∧ 0 < (reachOf ns r).length) ∨ (¬ ValidG ns r ∧ reachOf ns r = [])) := hide (by
      by_cases hv : ValidG ns r
      · exact .inl ⟨hv, reachOf_reached hv, reachOf_some hv⟩
      · exact .inr ⟨hv, reachOf_none hv⟩)
    have H64 : Hid (∀ x ∈ reachOf ns r, In64 x) := hide (fun x hx => by have := hRm.range x hx; constructor <;> omega)
    clear hRm
    go_wp2_with fail
    have HI := specReachOf_any (some ⟨g, 0, none⟩) ns cap r w3 hn3
    refine HI.mono ?_
    clear HI
    rintro e w4 ⟨Aw, cw, rfl, hoW, hb4⟩
    generalize hRd : reachOf ns r = R at hoG hoW hRf HV H64 ⊢
    have HRd := hide hRd
    clear hRd
    have hcap := hoG.capLe
    have l4 := l3.below hb4 l3.lt
    have hn4 := hn3.later hb4 (Nat.le_refl _)
    have hB4 := hB3.trans (hb4.mono hB3.size)
    have hoG4 := hoG.below hb4
    have iG := hoG4.ints H64.out (by omega)
    have iW := hoW.ints H64.out (by omega)
    clear l3 hn3 hB3 hb4 hoG hoW e0 e1 hoG4
    go_wp2_with fail
    refine (equalInts_any Ag Aw R R cg cw w4 iG iW).mono ?_
    rintro e w5 ⟨rfl, hb5⟩
    have hself : decide (R = R) = true := by simp
    rw [hself]
    have l5 := l4.below hb5 l4.lt
    have hn5 := hn4.later hb5 (Nat.le_refl _)
    have hB5 := hB4.trans (hb5.mono hB4.size)
    have iG5 := iG.later hb5 (Nat.le_refl _)
    have e0 := l5.cell 0
    have e1 := l5.cell 1
    simp at e0 e1
    clear l4 hn4 hB4 iG iW hb5 hself
    rcases HV.out with ⟨hv, hR, hpos⟩ | ⟨hv, h0⟩
    · have HR := hide hR
      have HS := hide (LawS.mk hB5 l5 hn5 iG5)
      have hz : ((R.length : Int) == 0) = false := beq_eq_false_iff_ne.2 (by omega)
      clear hR hv HV l5 hn5 hB5 iG5 e1 e0
      go_wp2_with fail
      go_loopg [5] R.length (fun gk iv wr => ∃ k : Nat, k ≤ R.length ∧ gk = R.length - k ∧ iv = .int .i64 (k : Int) ∧ LawS w wr bg g cap Ag ns r R)
      case atStart => exact ⟨0, Nat.zero_le _, rfl, rfl, HS.out⟩
      case round =>
        clear HS hz
        obtain ⟨k, hk, rfl, rfl, hS⟩ := hrel
        have HS := hide hS
        have e0 := hS.l.cell 0
        have e1 := hS.l.cell 1
        simp at e0 e1
        by_cases hlt : k < R.length
        · obtain ⟨b, off, i, m, Ak, ck, rfl, hx, hc, hi, hk2, hki, hko⟩ := hS.at_ HR.out hlt
          have HX := hide hx
          have HI := hide hki
          have HC : Hid (∀ x ∈ m.kids, x ∈ R) := hide (fun x hm => HR.out.closed (i : Int) (List.mem_of_getElem? hx) x (by rw [hko]; exact hm))
          have HF : Hid (tf ((i : Int) ∈ R.take k) = false) := hide (tf_false (not_in_take HR.out.met.nodup hx))
          have HL : Hid (k = (R.take k).length) := hide (by simp; omega)
          obtain ⟨b0, hd1, hd2, hd3, hd4, hb0⟩ : ∃ b0 : Bool, ((k : Int) == 0) = b0 ∧ (k == 0) = b0 ∧ decide ((k : Int) = 0) = b0 ∧ decide (k = 0) = b0 ∧ (b0 = false → 0 < k) := ⟨decide (k = 0), by by_cases e : k = 0 <;> simp [e], by by_cases e : k = 0 <;> simp [e], by by_cases e : k = 0 <;> simp [e], rfl, fun e => by simp at e; omega⟩
          have HB := hide hb0
          have hi1 : (0 : Int) ≤ (k : Int) := by omega
          have hi2 : (k : Int) < (R.length : Int) := by omega
          have hi3 : (0 : Int) ≤ (i : Int) := by omega
          have hi4 : (i : Int) < (ns.length : Int) := by omega
          have hi5 : (k : Int) ≤ (cg : Int) := by omega
          have HLT := hide hlt
          clear hx hki hko hS hb0
          go_wp2_with fail
          go_quiet (first
            | (go_at_call 8; exact Calls.quiet_of_same (within_q _ _ _ _ _ _ _ HC.out (HI.out.drewN _) (HS.out.drewN _).out))
            | (go_at_call 9; exact Calls.quiet_of_same (isIn_q _ (R.take k) _ _ _ _ false HL.out HF.out ((HS.out.drewN _).out.take k))))
          go_wp2_with fail
          clear e0 e1 hk2 hc
          go_loopg [6, 7] k (fun gk mv jv wi => ∃ (j : Nat) (b2 : Bool), j ≤ k ∧ gk = k - j ∧ mv = .bool b2 ∧ jv = .int .i64 (j : Int) ∧ LawS w wi bg g cap (some ⟨b, off, none⟩) ns r R ∧ (b2 = false → 0 < k ∧ ∀ (m : Nat) (y : Int), m < j → R[m]? = some y → (i : Int) ∉ kidsOf ns y))
          case atStart => exact ⟨0, b0, Nat.zero_le _, rfl, rfl, rfl, HS.out.drewN _, fun e => ⟨HB.out e, fun m y hm => absurd hm (by omega)⟩⟩
          case round =>
            clear hd1 hd2 hd3 hd4 HB HC HF HI HL HS
            obtain ⟨j, b2, hj, rfl, rfl, rfl, hS2, hno⟩ := hrel
            by_cases hlj : j < k
            · cases b2 with
              | true =>
                have HS2 := hide hS2
                clear hS2 hno
                go_wp2_with fail
                go_quiet (fail)
                go_wp2
                go_roundg (k - (j + 1))
                case measure => omega
                case rel => exact ⟨j + 1, true, by omega, rfl, rfl, by go_num, HS2.out.drewN _, fun e => by cases e⟩
              | false =>
                have hjR : j < R.length := by omega
                obtain ⟨b', off', i2, m2, Ak2, ck2, e3, hx2, hc2, hi2', hk22, hki2, hko2⟩ := hS2.at_ HR.out hjR
                injection e3 with e3
                injection e3 with e4 e5
                subst e4 e5
                obtain ⟨b', off', i3, m3, Ak3, ck3, e3, hx3, hc3, _, _, _, _⟩ := hS2.at_ HR.out HLT.out
                injection e3 with e3
                injection e3 with e4 e5
                subst e4 e5
                have e6 := hx3.symm.trans HX.out
                injection e6 with e6
                obtain rfl : i3 = i := by omega
                have e0 := hS2.l.cell 0
                simp at e0
                have HS2 := hide hS2
                have HI := hide hki2
                obtain ⟨b3, hb3⟩ : ∃ b3, tf ((i3 : Int) ∈ m2.kids) = b3 := ⟨_, rfl⟩
                have HT := hide hb3
                have hno2 := hno rfl
                have HN : Hid (b3 = false → 0 < k ∧ ∀ (m : Nat) (y : Int), m < j + 1 → R[m]? = some y → (i3 : Int) ∉ kidsOf ns y) := hide (by
                  intro e
                  subst e
                  refine ⟨hno2.1, fun m y hm hy => ?_⟩
                  by_cases em : m = j
                  · subst em
                    obtain rfl := Option.some.inj (hx2.symm.trans hy)
                    rw [hko2]
                    intro hmem
                    rw [tf_true hmem] at hb3
                    cases hb3
                  · exact hno2.2 m y (by omega) hy)
                have hj1 : (0 : Int) ≤ (j : Int) := by omega
                have hj2 : (j : Int) < (R.length : Int) := by omega
                have hj3 : (0 : Int) ≤ (i2 : Int) := by omega
                have hj4 : (i2 : Int) < (ns.length : Int) := by omega
                clear hno hno2 hb3 hS2 hki2 hko2 hx2 hx3
                go_wp2_with fail
                go_quiet ((go_at_call 9; exact Calls.quiet_of_same (isIn_q _ _ _ _ _ _ b3 rfl HT.out (HI.out.drewN _))))
                go_wp2
                go_roundg (k - (j + 1))
                case measure => omega
                case rel => exact ⟨j + 1, b3, by omega, rfl, rfl, by go_num, HS2.out.drewN _, HN.out⟩
            · obtain rfl : j = k := by omega
              cases b2 with
              | true =>
                have HS2 := hide hS2
                clear hS2 hno hlj
                go_wp2
                go_roundg (R.length - (j + 1))
                case measure => omega
                case rel => exact ⟨j + 1, by omega, rfl, by go_num, HS2.out⟩
              | false =>
                exfalso
                obtain ⟨h0, hall⟩ := hno rfl
                obtain ⟨m, y, hm, hy, hin⟩ := HR.out.ord.later j (i : Int) h0 HX.out
                exact hall m y hm hy hin
        · obtain rfl : k = R.length := by omega
          obtain ⟨b, off, i, m, Ak, ck, rfl, hx, hc, hi, hk2, hki, hko⟩ := hS.at_ HR.out hpos
          obtain rfl : (i : Int) = r := HR.out.ord.first _ hx
          rw [Nat.add_zero] at hc
          have hp1 : (0 : Int) < (R.length : Int) := by omega
          clear hx hki hko hk2 hS hlt
          go_wp2_with fail
          go_quiet (fail)
          go_wp2
          go_ret
          exact ⟨rfl, (HS.out.drewN _).bel⟩
    · have HN := hide hv
      have hlen : R.length = 0 := by rw [h0]; rfl
      have hz : ((R.length : Int) == 0) = true := beq_iff_eq.2 (by omega)
      have HL := hide hlen
      have HE := hide h0
      clear h0 hlen hv HV l5 iG5
      go_wp2_with fail
      refine (specReachOf_any (some ⟨g, 0, none⟩) ns cap r w5 hn5).mono ?_
      rintro e w6 ⟨Ax, cx, rfl, hoX, hb6⟩
      rw [HRd.out] at hoX ⊢
      have hB6 := hB5.trans (hb6.mono hB5.size)
      have iX := hoX.ints H64.out (by omega)
      have iG : IntsAt w6 w6.heap.size Ag R := ⟨fun hx => absurd HE.out hx, H64.out, by omega⟩
      clear hb6 hB5 hn5 hoX e0 e1
      go_wp2_with fail
      refine (equalInts_any Ag Ax R R cg cx w6 iG iX).mono ?_
      rintro e w7 ⟨rfl, hb7⟩
      have hself : decide (R = R) = true := by simp
      rw [hself]
      have hB7 := hB6.trans (hb7.mono hB6.size)
      clear hb7 hB6 iX iG hself
      go_wp2
      go_ret
      exact ⟨rfl, hB7⟩

end Go.Proofs.Ytjpglcdnnkbejaa
