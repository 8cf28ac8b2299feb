/-
  Lemmas, several texts in one: DrawCK, LawCK.
-/
import Derived.Test.YtkgnijbdbkopkaaPjAj
import Derived.Test.YtkgnijbdbkopkaaAnyGraC
import Derived.Test.YtkgnijbdbkopkaaPjAk
import Derived.Test.YtkgnijbdbkopkaaPjAn
import Derived.Test.YtkgnijbdbkopkaaPjAo
import Derived.Test.YtkgnijbdbkopkaaEqqM
import Derived.Test.YtkgnijbdbkopkaaPjAl
import Derived.Deep.RegionHeld3
namespace Go.Proofs.Ytkgnijbdbkopkaa
open Go.RowKit
set_option linter.unusedVariables false

/-- some graph that can be read comes back, and old memory is as it was -/
def DrawnG (w : World) (e : Ending) (w' : World) : Prop :=
  ∃ (g cap : Nat) (ns : List Nd) (r : Int), e = .returned (.agg #[.slice (some ⟨g, 0, none⟩) ns.length cap, .int .i64 r]) ∧ NdsAt w' w'.heap.size (some ⟨g, 0, none⟩) ns ∧ 1 ≤ ns.length ∧ ns.length ≤ 10 ∧ In64 r ∧ Below w.heap.size w w' ∧ ns.length ≤ cap

set_option maxHeartbeats 1000000 in
theorem drawClassesOf_any (A : Option Addr) (n c : Nat) (w : World) (h : BytesAt w w.heap.size A n) (hc : n ≤ c) (hn : n ≤ 9223372036854775807) :
    Calls Try.prog 4 #[.slice A n c] w (DrawnG w) := by
  have hB : Below w.heap.size w (w.alloc (.cells #[.slice none 0 0, .int .i64 0] 25)) := (Below.refl _ w).alloc (Nat.le_refl _) _
  have l2 := Lies.new w #[.slice none 0 0, .int .i64 0] 25
  have h2 := (h.later hB).more hB.size
  clear h
  go_enter Try.func4, Try.ntmps4
  go_wp2_with fail
  generalize w.alloc (.cells #[.slice none 0 0, .int .i64 0] 25) = W at hB l2 h2 ⊢
  refine (newReader_any A n c W h2 hc hn).mono ?_
  rintro e w1 ⟨rfl, ⟨n', c', hrd⟩, hb1⟩
  have l3 := l2.below hb1 l2.lt
  have hB1 := hB.trans (hb1.mono hB.size)
  have hrl := hrd.box.lt
  have hwl := l2.lt
  clear l2 h2 hB hb1
  go_wp2_with fail
  refine (anyGraph_any W.heap.size A n' c' 0 w1 hrd (by omega)).mono ?_
  rintro e w2 ⟨g, cap, p', ns, r, rfl, _, _, hnds, hg, h1, h10, hr64, hG, hkf, hcap⟩
  have hbl : Below W.heap.size w1 w2 := ⟨hG.os, hG.tape, hG.output, hG.size, fun k hk => hG.block k (by omega) (by omega)⟩
  have l4 := l3.below hbl hwl
  have hB2 := hB1.trans (hbl.mono (by omega))
  have hwW : w.heap.size < W.heap.size := hwl
  have hw1 : W.heap.size < w1.heap.size := hrl
  have hfin : Hid (NdsAt ((w2.setCell ⟨w.heap.size, 0, none⟩ (.slice (some ⟨g, 0, none⟩) ns.length cap)).setCell ⟨w.heap.size, 1, none⟩ (.int .i64 r)) ((w2.setCell ⟨w.heap.size, 0, none⟩ (.slice (some ⟨g, 0, none⟩) ns.length cap)).setCell ⟨w.heap.size, 1, none⟩ (.int .i64 r)).heap.size (some ⟨g, 0, none⟩) ns) := by
    have hbb : ∀ b, b ≠ w.heap.size → ((w2.setCell ⟨w.heap.size, 0, none⟩ (.slice (some ⟨g, 0, none⟩) ns.length cap)).setCell ⟨w.heap.size, 1, none⟩ (.int .i64 r)).heap[b]? = w2.heap[b]? := fun b hb => (Below.heap_setCell _ _ _ _ hb).trans (Below.heap_setCell _ _ _ _ hb)
    exact hide (hnds.keptK (by simp) (hbb g (by omega)) (fun j hj A3 k3 d3 h3 b hb => hbb b (by have := hkf j hj A3 k3 d3 h3 b hb; omega)))
  have l5 := (l4.set 0 (.slice (some ⟨g, 0, none⟩) ns.length cap)).set 1 (.int .i64 r)
  simp only [List.setIfInBounds_toArray, List.set_cons_succ, List.set_cons_zero] at l5
  have s0 := l5.cell 0
  have s1 := l5.cell 1
  have q0 := l4.cell 0
  have q1 := l4.cell 1
  have q2 := l4.frozen 0
  have q3 := l4.frozen 1
  simp only [List.getElem?_toArray, List.getElem?_cons_zero, List.getElem?_cons_succ] at s0 s1 q0 q1
  have HB := hide ((hB2.setCell (p := ⟨w.heap.size, 0, none⟩) (Nat.le_refl _) (.slice (some ⟨g, 0, none⟩) ns.length cap)).setCell (p := ⟨w.heap.size, 1, none⟩) (Nat.le_refl _) (.int .i64 r))
  clear l3 l4 l5 hnds hG hbl hB1 hB2 hrd hkf
  go_wp2
  refine bodyPost_ret (v := .agg #[.slice (some ⟨g, 0, none⟩) ns.length cap, .int .i64 r]) (by simp [results, Try.results4, go_sem, s0, s1]) rfl ?_
  exact ⟨g, cap, ns, r, rfl, hfin.out, h1, h10, hr64, HB.out, hcap⟩

end Go.Proofs.Ytkgnijbdbkopkaa

namespace Go.Proofs.Ytkgnijbdbkopkaa
open Go.RowKit
set_option linter.unusedVariables false
set_option linter.unusedSimpArgs false

theorem valid_rootK {ns : List Nd} {r y : Int} (hv : ValidG ns r) (h0 : 0 ≤ y) (h1 : y < ns.length) : ValidG ns y := ⟨hv.one, hv.few, h0, h1, hv.nodes, hv.tuples⟩

theorem classes_tell {ns : List Nd} {r x y : Int} (hv : ValidG ns r) (x0 : 0 ≤ x) (x1 : x < ns.length) (y0 : 0 ≤ y) (y1 : y < ns.length) : EqDeepG ns x ns y ↔ look (clsN ns ns.length) x = look (clsN ns ns.length) y :=
  (eqDeep_iff (valid_rootK hv x0 x1) (valid_rootK hv y0 y1)).trans (cls_all_iff (validG_kids hv) x0 x1 y0 y1).symm

theorem LawS.belowK {w wr w2 : World} {bg g cap : Nat} {Ag : Option Addr} {ns : List Nd} {r : Int} {R : List Int} (h : LawS w wr bg g cap Ag ns r R) (hb : Below wr.heap.size wr w2) : LawS w w2 bg g cap Ag ns r R :=
  ⟨h.bel.trans (hb.mono h.bel.size), h.l.below hb h.l.lt, h.nd.later hb (Nat.le_refl _), h.out.later hb (Nat.le_refl _)⟩

set_option maxRecDepth 100000 in
set_option maxHeartbeats 4000000 in
theorem lawCK_any (A : Option Addr) (n c : Nat) (w : World) (h : BytesAt w w.heap.size A n) (hc : n ≤ c) (hn : n ≤ 9223372036854775807) :
    Calls Try.prog 3 #[.slice A n c] w fun e w' => e = .returned (.bool true) ∧ Below w.heap.size w w' := by
  by_cases hbig : 1048576 < n
  · have d : decide ((1048576 : Int) < (n : Int)) = true := by simp; omega
    go_enter Try.func3, Try.ntmps3
    go_wp2
    go_ret
    exact ⟨rfl, Below.refl _ _⟩
  · have d : decide ((1048576 : Int) < (n : Int)) = false := by simp; omega
    go_enter Try.func3, Try.ntmps3
    go_wp2_with fail
    refine (drawClassesOf_any A n c w h hc hn).mono ?_
    rintro e w1 ⟨g, cap, ns, r, rfl, hnds, h1, h10, hr64, hb1, hcap⟩
    have hb2 := hb1.alloc hb1.size (.cells #[.slice (some ⟨g, 0, none⟩) ns.length cap, .int .i64 r] 25)
    have l2 := Lies.new w1 #[.slice (some ⟨g, 0, none⟩) ns.length cap, .int .i64 r] 25
    have hn2 := hnds.later ((Below.refl w1.heap.size w1).alloc (Nat.le_refl _) (.cells #[.slice (some ⟨g, 0, none⟩) ns.length cap, .int .i64 r] 25)) (Nat.le_refl _)
    have hsz := hb1.size
    have e0 := l2.cell 0
    have e1 := l2.cell 1
    simp at e0 e1
    clear hnds hb1 h
    go_wp2_with fail
    generalize w1.alloc (.cells #[.slice (some ⟨g, 0, none⟩) ns.length cap, .int .i64 r] 25) = w2 at hb2 l2 hn2 e0 e1 ⊢
    generalize w1.heap.size = bg at l2 hsz e0 e1 ⊢
    have HI := implClassesOf_any (some ⟨g, 0, none⟩) ns cap r w2 hn2 hcap
    refine HI.mono ?_
    clear HI
    rintro e w3 ⟨Ag, cg, rfl, hoG, hb3⟩
    have l3 := l2.below hb3 l2.lt
    have hn3 := hn2.later hb3 (Nat.le_refl _)
    have hB3 := hb2.trans (hb3.mono hb2.size)
    have e0 := l3.cell 0
    have e1 := l3.cell 1
    simp at e0 e1
    clear l2 hn2 hb2 hb3
    have hRf : (clsOf ns r).length ≤ 12 := clsOf_few
    have H64 : Hid (∀ x ∈ clsOf ns r, In64 x) := hide clsOf_64
    have HV : Hid ((ValidG ns r ∧ clsOf ns r = clsN ns ns.length) ∨ (¬ ValidG ns r ∧ clsOf ns r = [])) := hide (by
      by_cases hv : ValidG ns r
      · exact .inl ⟨hv, cls_yes hv⟩
      · exact .inr ⟨hv, cls_no hv⟩)
    go_wp2_with fail
    have HI := specClassesOf_any (some ⟨g, 0, none⟩) ns cap r w3 hn3
    refine HI.mono ?_
    clear HI
    rintro e w4 ⟨Aw, cw, rfl, hoW, hb4⟩
    generalize hRd : clsOf ns r = R at hoG hoW hRf HV H64 ⊢
    have HRd := hide hRd
    clear hRd
    have hcg := hoG.capLe
    have l4 := l3.below hb4 l3.lt
    have hn4 := hn3.later hb4 (Nat.le_refl _)
    have hB4 := hB3.trans (hb4.mono hB3.size)
    have hoG4 := hoG.below hb4
    have iG := hoG4.ints H64.out (by omega)
    have iW := hoW.ints H64.out (by omega)
    clear l3 hn3 hB3 hb4 hoG hoW e0 e1 hoG4
    go_wp2_with fail
    refine (equalInts_any Ag Aw R R cg cw w4 iG iW).mono ?_
    rintro e w5 ⟨rfl, hb5⟩
    have hself : decide (R = R) = true := by simp
    rw [hself]
    have l5 := l4.below hb5 l4.lt
    have hn5 := hn4.later hb5 (Nat.le_refl _)
    have hB5 := hB4.trans (hb5.mono hB4.size)
    have iG5 := iG.later hb5 (Nat.le_refl _)
    have e0 := l5.cell 0
    have e1 := l5.cell 1
    simp at e0 e1
    clear l4 hn4 hB4 iG iW hb5 hself
    rcases HV.out with ⟨hv, hR⟩ | ⟨hv, h0⟩
    · have HS := hide (LawS.mk hB5 l5 hn5 iG5)
      have HRL : Hid (R.length = ns.length) := hide (by rw [hR, clsN_len])
      have HSelf : Hid (∀ i, i < ns.length → ∃ j : Nat, R[i]? = some (j : Int) ∧ j ≤ i ∧ R[j]? = some (j : Int)) := hide (fun i hi => by rw [hR]; exact cls_self ns.length hi)
      have HTell : Hid (∀ (x y : Int), 0 ≤ x → x < ns.length → 0 ≤ y → y < ns.length → (EqDeepG ns x ns y ↔ look R x = look R y)) := hide (fun x y a b c d => by rw [hR]; exact classes_tell hv a b c d)
      have hRl1 : 1 ≤ R.length := by rw [HRL.out]; exact h1
      have hRl2 : (R.length : Int) ≤ ns.length := by rw [HRL.out]; exact Int.le_refl _
      have hRl3 : (ns.length : Int) ≤ R.length := by rw [HRL.out]; exact Int.le_refl _
      have hz : ((R.length : Int) == 0) = false := beq_eq_false_iff_ne.2 (by omega)
      clear hR hv HV l5 hn5 hB5 iG5 e1 e0
      go_wp2_with fail
      go_loopg [5, 6, 7, 8] R.length (fun gk iv _ _ _ wr => ∃ i : Nat, i ≤ R.length ∧ gk = R.length - i ∧ iv = .int .i64 (i : Int) ∧ LawS w wr bg g cap Ag ns r R)
      case atStart => exact ⟨0, Nat.zero_le _, rfl, rfl, HS.out⟩
      case round =>
        clear HS hz
        obtain ⟨i, hi, rfl, rfl, hS⟩ := hrel
        have HS := hide hS
        clear hS
        by_cases hli : i < R.length
        · have hdl : decide ((i : Int) < (R.length : Int)) = true := by simp; omega
          go_wp2_with fail
          go_loopg [6, 7, 8] i (fun gk kv _ _ wr => ∃ k : Nat, k ≤ i ∧ gk = i - k ∧ kv = .int .i64 (k : Int) ∧ LawS w wr bg g cap Ag ns r R)
          case atStart => exact ⟨0, Nat.zero_le _, rfl, rfl, HS.out⟩
          case round =>
            clear HS
            obtain ⟨wq, hwq⟩ : ∃ x, x = wr := ⟨_, rfl⟩
            subst hwq
            obtain ⟨k, hk, rfl, rfl, hS⟩ := hrel
            have HS := hide hS
            by_cases hlk : k < i
            · have hdk : decide ((k : Int) < (i : Int)) = true := by simp; omega
              have e0 := hS.l.cell 0
              simp only [List.getElem?_toArray, List.getElem?_cons_zero] at e0
              have hba : Below wq.heap.size wq ((wq.alloc (.cells #[.slice (some ⟨g, 0, none⟩) ns.length cap, .int .i64 (i : Int)] 25)).alloc (.cells #[.slice (some ⟨g, 0, none⟩) ns.length cap, .int .i64 (k : Int)] 25)) := ((Below.refl _ _).alloc (Nat.le_refl _) _).alloc (by simp) _
              have lX := (Lies.new wq #[.slice (some ⟨g, 0, none⟩) ns.length cap, .int .i64 (i : Int)] 25)
              have lX2 := lX.alloc (.cells #[.slice (some ⟨g, 0, none⟩) ns.length cap, .int .i64 (k : Int)] 25)
              have lY := Lies.new (wq.alloc (.cells #[.slice (some ⟨g, 0, none⟩) ns.length cap, .int .i64 (i : Int)] 25)) #[.slice (some ⟨g, 0, none⟩) ns.length cap, .int .i64 (k : Int)] 25
              simp only [World.size_alloc] at lY
              have e0' := (hS.l.alloc (.cells #[.slice (some ⟨g, 0, none⟩) ns.length cap, .int .i64 (i : Int)] 25)).cell 0
              simp only [List.getElem?_toArray, List.getElem?_cons_zero] at e0'
              have HS2 := hide (hS.belowK hba)
              clear hS lX
              go_upto_region 15 with fail
              clear e0 e0'
              generalize (wq.alloc (.cells #[.slice (some ⟨g, 0, none⟩) ns.length cap, .int .i64 (i : Int)] 25)).alloc (.cells #[.slice (some ⟨g, 0, none⟩) ns.length cap, .int .i64 (k : Int)] 25) = X at hba lX2 lY HS2 ⊢
              obtain ⟨b, off, x, rfl, hbl, hx, _, hcx⟩ := HS2.out.out.at_ (k := i) (by omega)
              obtain ⟨b', off', y, e2, _, hy, _, hcy⟩ := HS2.out.out.at_ (k := k) (by omega)
              injection e2 with e2
              injection e2 with e3 e4
              subst e3 e4
              have x0 := lX2.cell 0
              have x1 := lX2.cell 1
              have y0 := lY.cell 0
              have y1 := lY.cell 1
              simp only [List.getElem?_toArray, List.getElem?_cons_zero, List.getElem?_cons_succ] at x0 x1 y0 y1
              have hXl : wq.heap.size < X.heap.size := lX2.lt
              have hYl : wq.heap.size + 1 < X.heap.size := lY.lt
              have hTl := HTell.out (i : Int) (k : Int) (by omega) (by omega) (by omega) (by omega)
              rw [look_at hx, look_at hy] at hTl
              obtain ⟨b0, hd1, hd2⟩ : ∃ b0 : Bool, (x == y) = b0 ∧ tf (EqDeepG ns (i : Int) ns (k : Int)) = b0 := by
                by_cases e : x = y
                · exact ⟨true, by simpa using e, tf_true (hTl.2 e)⟩
                · exact ⟨false, by simpa using e, tf_false (fun h => e (hTl.1 h))⟩
              have HC := hide (implEqualDeep_any (some ⟨g, 0, none⟩) (some ⟨g, 0, none⟩) ns ns cap cap (i : Int) (k : Int) X.drew (HS2.out.nd.later (Below.refl _ _).drew (Nat.le_refl _)) (HS2.out.nd.later (Below.refl _ _).drew (Nat.le_refl _)))
              rw [hd2] at HC
              have hbb : (b0 != b0) = false := by simp
              have hi1 : (0 : Int) ≤ (i : Int) := by omega
              have hi2 : (i : Int) < (R.length : Int) := by omega
              have hk1 : (0 : Int) ≤ (k : Int) := by omega
              have hk2 : (k : Int) < (R.length : Int) := by omega
              clear hx hy hTl hd2 lX2 lY hba
              go_region_held3 (fun w' => w'.cell? ⟨b, off + i, none⟩ = some (.int .i64 x) ∧ w'.cell? ⟨b, off + k, none⟩ = some (.int .i64 y) ∧ w'.cell? ⟨wq.heap.size, 0, none⟩ = some (.slice (some ⟨g, 0, none⟩) ns.length cap) ∧ w'.cell? ⟨wq.heap.size, 1, none⟩ = some (.int .i64 (i : Int)) ∧ w'.cell? ⟨wq.heap.size + 1, 0, none⟩ = some (.slice (some ⟨g, 0, none⟩) ns.length cap) ∧ w'.cell? ⟨wq.heap.size + 1, 1, none⟩ = some (.int .i64 (k : Int)))
                (first
                  | (go_split_ands; refine ⟨?_, ?_, ?_, ?_, ?_, ?_⟩ <;> assumption))
                (first
                  | (go_at_call 8; refine HC.out.mono ?_; rintro e w6 ⟨rfl, hb6⟩; have hbx : Below X.heap.size X w6 := (Below.refl _ _).drew.trans (hb6.mono (by simp)); have p0 := (hbx.cell (p := ⟨b, off + i, none⟩) hbl).trans hcx; have p1 := (hbx.cell (p := ⟨b, off + k, none⟩) hbl).trans hcy; have p2 := (hbx.cell (p := ⟨wq.heap.size, 0, none⟩) hXl).trans x0; have p3 := (hbx.cell (p := ⟨wq.heap.size, 1, none⟩) hXl).trans x1; have p4 := (hbx.cell (p := ⟨wq.heap.size + 1, 0, none⟩) hYl).trans y0; have p5 := (hbx.cell (p := ⟨wq.heap.size + 1, 1, none⟩) hYl).trans y1))
              have HS6 := hide (HS2.out.belowK hbx)
              clear hb6 hbx p0 p1 p2 p3 p4 p5 x0 x1 y0 y1 hcx hcy HC
              go_wp2
              go_roundg (i - (k + 1))
              case measure => omega
              case rel => exact ⟨k + 1, by omega, rfl, by go_num, HS6.out⟩
            · obtain rfl : k = i := by omega
              have hdk : decide ((k : Int) < (k : Int)) = false := by simp
              obtain ⟨j, hj1, hj2, hj3⟩ := HSelf.out k (by omega)
              obtain ⟨b, off, x, rfl, hbl, hx, _, hcx⟩ := hS.out.at_ (k := k) (by omega)
              rw [hj1] at hx
              obtain rfl := Option.some.inj hx
              obtain ⟨b', off', y, e2, _, hy, _, hcy⟩ := hS.out.at_ (k := j) (by omega)
              injection e2 with e2
              injection e2 with e3 e4
              subst e3 e4
              rw [hj3] at hy
              obtain rfl := Option.some.inj hy
              have t1 : decide ((k : Int) < (j : Int)) = false := decide_eq_false (by omega)
              have t2 : ((j : Int) != (j : Int)) = false := by simp
              have hi1 : (0 : Int) ≤ (k : Int) := by omega
              have hi2 : (k : Int) < (R.length : Int) := by omega
              have hk1 : (0 : Int) ≤ (j : Int) := by omega
              have hk2 : (j : Int) < (R.length : Int) := by omega
              clear hx hy hj1 hj3 hS hlk
              go_wp2_with fail
              go_quiet (fail)
              go_wp2
              go_roundg (R.length - (k + 1))
              case measure => omega
              case rel => exact ⟨k + 1, by omega, rfl, by go_num, HS.out.drewN _⟩
        · obtain rfl : i = R.length := by omega
          have hdl : decide ((R.length : Int) < (R.length : Int)) = false := by simp
          go_wp2
          go_ret
          exact ⟨rfl, HS.out.bel⟩
    · have HN := hide hv
      have hlen : R.length = 0 := by rw [h0]; rfl
      have hz : ((R.length : Int) == 0) = true := beq_iff_eq.2 (by omega)
      have HE := hide h0
      clear h0 hlen hv HV l5 iG5
      go_wp2_with fail
      refine (specClassesOf_any (some ⟨g, 0, none⟩) ns cap r w5 hn5).mono ?_
      rintro e w6 ⟨Ax, cx, rfl, hoX, hb6⟩
      rw [HRd.out] at hoX ⊢
      have hB6 := hB5.trans (hb6.mono hB5.size)
      have iX := hoX.ints H64.out (by omega)
      have iG : IntsAt w6 w6.heap.size Ag R := ⟨fun hx => absurd HE.out hx, H64.out, by omega⟩
      clear hb6 hB5 hn5 hoX e0 e1
      go_wp2_with fail
      refine (equalInts_any Ag Ax R R cg cx w6 iG iX).mono ?_
      rintro e w7 ⟨rfl, hb7⟩
      have hself : decide (R = R) = true := by simp
      rw [hself]
      have hB7 := hB6.trans (hb7.mono hB6.size)
      clear hb7 hB6 iX iG hself
      go_wp2
      go_ret
      exact ⟨rfl, hB7⟩

end Go.Proofs.Ytkgnijbdbkopkaa
