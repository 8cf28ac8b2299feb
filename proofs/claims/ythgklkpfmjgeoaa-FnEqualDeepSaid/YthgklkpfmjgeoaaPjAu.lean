/-
  Lemmas, several texts in one: PrunD, MrgM, MgqM, EtqM.
-/
import Derived.Test.YthgklkpfmjgeoaaPjAj
import Derived.Test.YthgklkpfmjgeoaaPjAp
import Derived.Deep.RegionLaw
import Derived.Test.YthgklkpfmjgeoaaPjAn
import Derived.Test.YthgklkpfmjgeoaaPjAf
import Derived.Test.YthgklkpfmjgeoaaPjAt
import Derived.Test.YthgklkpfmjgeoaaPjAo
namespace Go.Proofs.Ythgklkpfmjgeoaa
open Go.RowKit Go.Maps
set_option linter.unusedVariables false

/-- a graph in a row of the call's own comes back that reads as ms with the root r -/
def ReadsD (w : World) (ms : List Nd) (r : Int) (e : Ending) (w' : World) : Prop :=
  ∃ A c, e = .returned (.agg #[.slice A ms.length c, .int .i64 r]) ∧ RowD w' w.heap.size w'.heap.size A c ms ∧ WfN ms ∧ Below w.heap.size w w'

theorem RowD.low {w : World} {base base' bnd : Nat} {A : Option Addr} {c : Nat} {ns : List Nd} (h : RowD w base bnd A c ns) (hb : base' ≤ base) : RowD w base' bnd A c ns := by
  obtain ⟨cs, h1, h2, h3, h4⟩ := h.row
  refine ⟨⟨cs, ⟨h1.1, ?_⟩, fun j n hj => ?_, h3, h4⟩⟩
  · rcases h1.2 with h3 | ⟨g, cap, cur, hv, hg, r⟩
    · exact .inl h3
    · exact .inr ⟨g, cap, cur, hv, by omega, r⟩
  · obtain ⟨A1, c1, a1, a2, a3, a4⟩ := h2 j n hj
    exact ⟨A1, c1, a1, a2, a3, a4.lowB hb⟩

theorem RowD.up {w : World} {base bnd bnd' : Nat} {A : Option Addr} {c : Nat} {ns : List Nd} (h : RowD w base bnd A c ns) (hb : bnd ≤ bnd') : RowD w base bnd' A c ns := by
  obtain ⟨cs, h1, h2, h3, h4⟩ := h.row
  exact ⟨⟨cs, h1, h2, h3, fun i A1 n1 c1 hi hc b hb' => by have := h4 i A1 n1 c1 hi hc b hb'; omega⟩⟩

theorem RowD.empty (w : World) (base bnd : Nat) : RowD w base bnd none 0 [] := ⟨⟨[], World.ownsRow_nil _ _ _ _, fun j n h => by simp at h, fun i j A1 A2 n1 n2 c1 c2 hij hj => by simp at hj, fun i A1 n1 c1 hi => by simp at hi⟩⟩

/-- the memory of the model's pruned: nodes are added -/
structure PdA (W3 wr : World) (ns : List Nd) (L : List Int) (k : Nat) : Prop where
  bel : Below W3.heap.size W3 wr
  out : ∃ An cn, Lies wr W3.heap.size #[.slice An ((pickNs ns L).take k).length cn, .int .i64 0] 25 ∧ RowD wr (W3.heap.size + 1) wr.heap.size An cn ((pickNs ns L).take k)
  size : W3.heap.size + 1 ≤ wr.heap.size

theorem PdA.step {W3 W5 wi w9 : World} {ns : List Nd} {L : List Int} {k i c' cn : Nat} {An A' : Option Addr} {n : Nd} {ks : List Int} {ob : Obj} (h : PdA W3 W5 ns L k) (hb : Below W5.heap.size W5 wi) (hlO : Lies W5 W3.heap.size #[.slice An ((pickNs ns L).take k).length cn, .int .i64 0] 25) (hAn : ∀ b, blockOf An = some b → W3.heap.size + 1 ≤ b)
    (hk : L[k]? = some (i : Int)) (hn : ns[i]? = some n) (hks : ks = n.kids.map (place L)) {bnd' : Nat} (hbnd : bnd' ≤ w9.heap.size) (hrow : RowD w9 (W3.heap.size + 1) bnd' A' c' ((pickNs ns L).take k ++ [⟨n.kind, n.value, ks⟩])) (hg : (wi.alloc ob).grownBy w9 (blockOf An)) :
    PdA W3 (w9.setCell ⟨W3.heap.size, 0, none⟩ (.slice A' (((pickNs ns L).take k).length + 1) c')) ns L (k + 1) := by
  have h1 := h.size
  have h2 := hb.size
  have h3 := hg.size
  simp only [World.size_alloc] at h3
  have hbi : Below W3.heap.size W3 (wi.alloc ob) := (h.bel.trans (hb.mono (by omega))).alloc (by omega) _
  have l9 : Lies w9 W3.heap.size _ _ := (hg.block W3.heap.size (by simp; omega) (fun e => by have := hAn _ e.symm; omega)).trans ((hlO.below hb (by omega)).alloc ob)
  have l10 := l9.set 0 (.slice A' (((pickNs ns L).take k).length + 1) c')
  simp only [List.setIfInBounds_toArray, List.set_cons_zero] at l10
  refine ⟨(below_grown hbi hg (by simp; omega) (fun b hb' => by have := hAn b hb'; omega)).setCell (p := ⟨W3.heap.size, 0, none⟩) (Nat.le_refl _) _, ⟨A', c', ?_, ?_⟩, by simp; omega⟩
  · rw [pickNs_take hk hn]
    simpa using l10
  · rw [pickNs_take hk hn, ← hks]
    exact (hrow.ofBlk (fun b hb' _ => Below.heap_setCell _ _ _ _ (by show b ≠ W3.heap.size; omega))).up (by simpa using hbnd)

set_option maxRecDepth 100000 in
set_option maxHeartbeats 2000000 in
theorem specPruned_apart (A : Option Addr) (ns : List Nd) (c : Nat) (i : Nat) (w : World) (hr : NdsAt w w.heap.size A ns) (hv : ValidG ns (i : Int)) :
    Calls Try.prog 34 #[.agg #[.slice A ns.length c, .int .i64 (i : Int)]] w (ReadsD w (pickNs ns (reachOf ns i)) 0) := by
  have hB2 : Below w.heap.size w ((w.alloc (.cells #[.slice A ns.length c, .int .i64 (i : Int)] 25)).alloc (.cells #[.slice none 0 0, .int .i64 0] 25)) := ((Below.refl _ _).alloc (Nat.le_refl _) _).alloc (by simp) _
  have lG := (Lies.new w #[.slice A ns.length c, .int .i64 (i : Int)] 25).alloc (.cells #[.slice none 0 0, .int .i64 0] 25)
  have lR := Lies.new (w.alloc (.cells #[.slice A ns.length c, .int .i64 (i : Int)] 25)) #[.slice none 0 0, .int .i64 0] 25
  simp only [World.size_alloc] at lR
  have hr2 := hr.later hB2 (Nat.le_refl _)
  have hi : i < ns.length := by have := hv.root; omega
  have HV := hide hv
  have e0 := lG.cell 0
  have e1 := lG.cell 1
  simp at e0 e1
  clear hr hv
  go_enter Try.func34, Try.ntmps34
  go_wp2_with fail
  generalize hWd : (w.alloc (.cells #[.slice A ns.length c, .int .i64 (i : Int)] 25)).alloc (.cells #[.slice none 0 0, .int .i64 0] 25) = W at hB2 lG lR hr2 e0 e1 ⊢
  have hWs : W.heap.size = w.heap.size + 1 + 1 := by rw [← hWd]; simp
  clear hWd
  have hb1 : Below W.heap.size W (W.alloc (.cells #[] 3)) := (Below.refl _ _).alloc (Nat.le_refl _) _
  have hr3 := hr2.later hb1 (Nat.le_refl _)
  have hB3 := hB2.trans (hb1.mono hB2.size)
  have hI : IntsAt (W.alloc (.cells #[] 3)) (W.alloc (.cells #[] 3)).heap.size (some ⟨W.heap.size, 0, none⟩) [] := (OwnI.bare W).ints (by simp) (by simp)
  rw [show (⟨W.heap.size, 0, none⟩ : Addr) = ⟨w.heap.size + 1 + 1, 0, none⟩ by rw [hWs]] at hI
  have lG1 := lG.below hb1 lG.lt
  have lR1 := lR.below hb1 lR.lt
  clear lG lR hr2 hB2 hb1 hWs
  generalize W.alloc (.cells #[] 3) = w2 at hr3 hB3 hI lG1 lR1 ⊢
  refine (reach_any ns (kidsIn_of_valid HV.out) (fun n hn => (HV.out.nodes n hn).few) HV.out.few A c i (ns.length + 1) i [] (some ⟨w.heap.size + 1 + 1, 0, none⟩) 0 w2 hi (Met.nil ns) hr3 hI (fun e => by cases e) (by simp)).mono ?_
  rintro e w3 ⟨A2, c2, rfl, hb3, hI3, hnil3, hor⟩
  have HP := hide (reach_pickable HV.out)
  have hLd : reachOf ns (i : Int) = dfs ns anyB (ns.length + 1) i [] := by unfold reachOf; rw [if_pos HV.out]
  rw [← hLd] at hI3 ⊢
  generalize hLL : reachOf ns (i : Int) = L at HP hI3 ⊢
  have HLL := hide hLL
  clear hLL
  have lG3 := lG1.below hb3 lG1.lt
  have lR3 := lR1.below hb3 lR1.lt
  have hr4 := hr3.later hb3 (Nat.le_refl _)
  have hB4 := hB3.trans (hb3.mono hB3.size)
  have HLI := hide hI3
  have HR := hide hr4
  have hfew := HP.out.few
  have hS0 : PdA w3 (w3.alloc (.cells #[.slice none 0 0, .int .i64 0] 25)) ns L 0 := ⟨(Below.refl _ _).alloc (Nat.le_refl _) _, ⟨none, 0, Lies.new w3 _ _, RowD.empty _ _ _⟩, by simp⟩
  have HS0 := hide hS0
  have HG3 := hide lG3
  have HR3 := hide lR3
  have HB4 := hide hB4
  clear hor hnil3 hb3 hI3 hr4 hr3 hI lG1 lR1 hLd hS0 lG3 lR3 hB3 hB4 e0 e1
  go_wp2_with fail
  generalize w3.alloc (.cells #[.slice none 0 0, .int .i64 0] 25) = w4 at HS0 ⊢
  go_loopg [5] L.length (fun gk iv wr => ∃ k : Nat, k ≤ L.length ∧ gk = L.length - k ∧ iv = .int .i64 (k : Int) ∧ PdA w3 wr ns L k)
  case atStart => exact ⟨0, Nat.zero_le _, rfl, rfl, HS0.out⟩
  case round =>
    clear HS0
    obtain ⟨W5, hW5⟩ : ∃ X, X = wr := ⟨_, rfl⟩
    subst hW5
    obtain ⟨k, hk, rfl, rfl, hS⟩ := hrel
    by_cases hlt : k < L.length
    · have HS := hide hS
      obtain ⟨b, off, x, rfl, hbl, hx, hm, hc⟩ := (HLI.out.below hS.bel).at_ hlt
      obtain ⟨hx0, hx1⟩ := HP.out.range x hm
      obtain ⟨q, rfl⟩ := Int.eq_ofNat_of_zero_le hx0
      have hil : q < ns.length := by omega
      obtain ⟨b', off', n, rfl, hbl', hn, _, hnd⟩ := (HR.out.below hS.bel).at_ hil
      obtain ⟨A1, c1, k2, hki, _⟩ := hnd.kids
      have k0 := hnd.kind
      have k1 := hnd.value
      obtain ⟨hk1000, hkin⟩ := HP.out.closed q n hm hn
      have lG5 := HG3.out.below hS.bel HG3.out.lt
      have g0 := lG5.cell 0
      simp at g0
      have HX := hide hx
      have HN := hide hn
      have hi1 : (0 : Int) ≤ (k : Int) := by omega
      have hi2 : (k : Int) < (L.length : Int) := by omega
      have hi3 : (0 : Int) ≤ (q : Int) := by omega
      have hi4 : (q : Int) < (ns.length : Int) := by omega
      have HKI := hide (hki.more (by exact hS.bel.size : w3.heap.size ≤ W5.heap.size))
      have u0 := World.new_ne W5 _ g0
      have u1 := World.new_ne W5 _ hc
      have u2 := World.new_ne W5 _ k0
      clear hx hm hn hkin hnd hki hS lG5 hx0 hx1 hbl hbl'
      go_wp2_with fail
      go_region_held3 (fun w' => w'.cell? ⟨w.heap.size, 0, none⟩ = some (.slice (some ⟨b', off', none⟩) ns.length c) ∧ w'.cell? ⟨b, off + k, none⟩ = some (.int .i64 (q : Int)) ∧ w'.cell? ⟨b', off' + q * 3, none⟩ = some (.int .i64 n.kind) ∧ w'.cell? ⟨b', off' + q * 3 + 1, none⟩ = some (.int .i64 n.value) ∧ w'.cell? ⟨b', off' + q * 3 + 2, none⟩ = some (.slice A1 n.kids.length c1))
        (first
          | (go_split_ands; refine ⟨?_, ?_, ?_, ?_, ?_⟩ <;> assumption)
          | go_keep)
        (fail)
      go_wp2_with fail
      have hb7 : Below W5.heap.size W5 (((W5.alloc (.cells #[.int .i64 n.kind, .int .i64 n.value, .slice A1 n.kids.length c1] 43)).alloc (.cells #[.int .i64 n.kind, .int .i64 n.value, .slice none 0 0] 43)).drew) := (((Below.refl _ _).alloc (Nat.le_refl _) _).alloc (by simp) _).drew
      have lN7 : Lies (((W5.alloc (.cells #[.int .i64 n.kind, .int .i64 n.value, .slice A1 n.kids.length c1] 43)).alloc (.cells #[.int .i64 n.kind, .int .i64 n.value, .slice none 0 0] 43)).drew) W5.heap.size #[.int .i64 n.kind, .int .i64 n.value, .slice A1 n.kids.length c1] 43 := (Lies.new W5 _ _).alloc _
      have lM7 : Lies (((W5.alloc (.cells #[.int .i64 n.kind, .int .i64 n.value, .slice A1 n.kids.length c1] 43)).alloc (.cells #[.int .i64 n.kind, .int .i64 n.value, .slice none 0 0] 43)).drew) (W5.heap.size + 1) #[.int .i64 n.kind, .int .i64 n.value, .slice none 0 0] 43 := by
        have := Lies.new (W5.alloc (.cells #[.int .i64 n.kind, .int .i64 n.value, .slice A1 n.kids.length c1] 43)) #[.int .i64 n.kind, .int .i64 n.value, .slice none 0 0] 43
        simp only [World.size_alloc] at this
        exact this
      generalize ((W5.alloc (.cells #[.int .i64 n.kind, .int .i64 n.value, .slice A1 n.kids.length c1] 43)).alloc (.cells #[.int .i64 n.kind, .int .i64 n.value, .slice none 0 0] 43)).drew = W7 at hb7 lN7 lM7 ⊢
      have HM0 := hide (PsM.start L lM7)
      have HB7 := hide hb7
      have HN7 := hide lN7
      clear hb7 lN7 lM7 k0 k1 k2 hc g0 u0 u1 u2
      go_loopg [8] n.kids.length (fun gk jv wi => ∃ (j : Nat) (Ak : Option Addr) (ck : Nat) (ks : List Int), j ≤ n.kids.length ∧ gk = n.kids.length - j ∧ jv = .int .i64 (j : Int) ∧ PsM W7 wi (W5.heap.size + 1) n L j Ak ck ks)
      case atStart => exact ⟨0, none, 0, [], Nat.zero_le _, rfl, rfl, HM0.out⟩
      case round =>
        clear HM0
        obtain ⟨j, Ak, ck, ks, hj, rfl, rfl, hM⟩ := hrel
        have HM := hide hM
        have hsM := hM.size
        have hBW := hide (HB7.out.trans (hM.bel.mono (by omega)))
        have lN := HN7.out.below hM.bel (by omega)
        have n2 := lN.cell 2
        have m2 := hM.lM.cell 2
        have f2 := hM.lM.frozen 2
        simp at n2 m2
        have hkl := hM.le
        by_cases hlj : j < n.kids.length
        · obtain ⟨b3, off3, y, rfl, hbl3, hy, hym, hcy⟩ := (HKI.out.below hBW.out).at_ hlj
          have HY := hide hy
          have hj1 : (0 : Int) ≤ (j : Int) := by omega
          have hj2 : (j : Int) < (n.kids.length : Int) := by omega
          have HLd : Hid (IntsAt wr.drew wr.drew.heap.size (some ⟨b, off, none⟩) L) := hide (HLI.out.later (HS.out.bel.trans ((hBW.out.mono HS.out.bel.size).drew)) (Nat.le_refl _))
          have hq64 := hide (place_in64 (L := L) (by omega) y)
          have hne : Hid (some (W5.heap.size + 1) ≠ blockOf Ak) := hide (fun e => by have := (HM.out.own.blocks _ e.symm).1; omega)
          have hlt3 : b3 < wr.heap.size := by omega
          have hlt4 : W5.heap.size + 1 < wr.heap.size := by omega
          have hlt5 : W5.heap.size < wr.heap.size := by omega
          clear hy hym hM lN
          go_wp2_with fail
          go_region_law (first
            | (go_simp; go_at_call 41; refine (placeIn_any (some ⟨b, off, none⟩) L c2 y wr.drew HLd.out).mono ?_; rintro e w' ⟨rfl, rfl⟩; try dsimp only)
            | (refine step_append_ints (by rfl) _ _ (by rfl) (W5.heap.size + 1 + 1) Ak ck ks (by rfl) (HM.out.own.alloc _).drew ⟨wr.heap.size, 0, none⟩ 1 [place L y] (by simp) (by rfl) (by have h0 := (IntsAt.lit wr [place L y] (by intro z hz; simp at hz; rw [hz]; exact hq64.out) (by simp)).below (Below.refl _ _).drew; simpa using h0) (by simp; omega) (by simp; omega) ?_; intro zs A' c' w9 hz9 hown9 hg9 hat9
               have t2 : w9.cell? ⟨W5.heap.size + 1, 2, none⟩ = some (.slice Ak ks.length ck) := (hg9.cell_far _ (by simp; omega) hne.out).trans ((World.cell?_alloc_lt _ _ _ (by show W5.heap.size + 1 < wr.heap.size; omega)).trans m2)
               have t3 : w9.frozen? ⟨W5.heap.size + 1, 2, none⟩ = false := (hg9.frozen_far _ (by simp; omega) hne.out).trans ((HM.out.lM.alloc _).frozen 2)))
          all_goals
            have HM1 := hide (HM.out.step HY.out hk1000 hz9.out hown9 hg9)
            clear t2 t3 hown9 hg9 hat9 n2 m2 f2 hcy
            go_wp2
            go_roundg (n.kids.length - (j + 1))
            case measure => omega
            case rel => exact ⟨j + 1, A', c', zs, by omega, rfl, by go_num, HM1.out⟩
        · obtain rfl : j = n.kids.length := by omega
          obtain ⟨An, cn, hlO, hRow⟩ := HS.out.out
          have hlOw := hlO.below hBW.out hlO.lt
          have o0 := hlOw.cell 0
          have o1 := hlOw.frozen 0
          have m0 := hM.lM.cell 0
          have m1 := hM.lM.cell 1
          simp only [List.getElem?_toArray, List.getElem?_cons_zero] at o0
          simp at m0 m1
          have hOlt := hlO.lt
          have hsS := HS.out.size
          have HAn := hide (fun b hb => (hRow.rowN.blocks b hb).1 : ∀ b, blockOf An = some b → w3.heap.size + 1 ≤ b)
          have HRow := hide (hRow.below hBW.out)
          have HAk := hide (fun q hq => ⟨by have := (HM.out.own.blocks q hq).1; omega, (HM.out.own.blocks q hq).2⟩ : ∀ q, blockOf Ak = some q → W5.heap.size ≤ q ∧ q < wr.heap.size)
          have hWle : W5.heap.size ≤ wr.heap.size := by omega
          have HlO := hide hlO
          have hks : ks = n.kids.map (place L) := by rw [hM.eq, List.take_length]
          have Hks := hide hks
          have HOw := hide (hM.own.lowB (base' := w3.heap.size + 1) (by omega))
          have hne : Hid (some w3.heap.size ≠ blockOf An) := hide (fun e => by have := HAn.out _ e.symm; omega)
          have hll : ((pickNs ns L).take k).length ≤ 1000 := by simp [pickNs_len]; omega
          have hlt6 : w3.heap.size < wr.heap.size := by omega
          clear hlO hRow hks hM lN hlj f2
          generalize hPd : (pickNs ns L).take k = P at o0 HRow HlO hll hlOw ⊢
          have HPd := hide hPd
          clear hPd
          go_wp2_with (at_builtin; refine append_ndD rfl (.tmp 54) (.tmp 56) rfl (w3.heap.size + 1) W5.heap.size wr.heap.size An cn P rfl (HRow.out.below ((Below.refl _ _).alloc (Nat.le_refl _) _)) wr.heap.size ⟨n.kind, n.value, ks⟩ Ak ck 43 rfl (heap_alloc_new wr _) (HOw.out.alloc _) (by simp; omega) hll HAk.out hWle ?_; intro A' c' w9 hrow9 hg9; have t2 : w9.cell? ⟨w3.heap.size, 0, none⟩ = some (.slice An P.length cn) := (hg9.cell_far _ (by simp; omega) hne.out).trans ((World.cell?_alloc_lt _ _ _ hlt6).trans o0); have t3 : w9.frozen? ⟨w3.heap.size, 0, none⟩ = false := (hg9.frozen_far _ (by simp; omega) hne.out).trans ((hlOw.alloc _).frozen 0))
          have hN2 := HS.out.step (bnd' := wr.heap.size) hBW.out (by rw [HPd.out]; exact HlO.out) HAn.out HX.out HN.out Hks.out (by have := hg9.size; simp at this; omega) (by rw [HPd.out]; exact hrow9) hg9
          rw [HPd.out] at hN2
          have HN2 := hide hN2
          clear hN2 t2 t3 hrow9 hg9 o0 o1 m0 m1 m2 n2
          go_wp2
          go_roundg (L.length - (k + 1))
          case measure => omega
          case rel => exact ⟨k + 1, by omega, rfl, by go_num, HN2.out⟩
    · obtain rfl : k = L.length := by omega
      obtain ⟨An, cn, hlO, hRow⟩ := hS.out
      rw [List.take_of_length_le (by rw [pickNs_len]; exact Nat.le_refl _)] at hlO hRow
      have hsS := hS.size
      have hBr := hS.bel
      have hGR := HR3.out.lt
      have lRw := HR3.out.below hS.bel hGR
      have hwf : WfN (pickNs ns L) := by
        intro m hm
        obtain ⟨x, hx, rfl⟩ := List.mem_map.1 hm
        obtain ⟨hx0, hx1⟩ := HP.out.range x hx
        obtain ⟨q, rfl⟩ := Int.eq_ofNat_of_zero_le hx0
        obtain ⟨_, _, n, _, _, hn, _, hnd⟩ := HR.out.at_ (k := q) (by omega)
        rw [pickN_at hn]
        exact ⟨hnd.wfk, hnd.wfv, fun z hz => by
          obtain ⟨y, _, rfl⟩ := List.mem_map.1 hz
          exact place_in64 (by omega) y, by have := (HP.out.closed q n hx hn).1; simp; omega⟩
      have l5 := (lRw.set 0 (.slice An (pickNs ns L).length cn)).set 1 (.int .i64 0)
      simp only [List.setIfInBounds_toArray, List.set_cons_succ, List.set_cons_zero] at l5
      have s0 := l5.cell 0
      have s1 := l5.cell 1
      have q0 := lRw.cell 0
      have q1 := lRw.cell 1
      have f0 := lRw.frozen 0
      have f1 := lRw.frozen 1
      have o0 := hlO.cell 0
      have o1 := hlO.cell 1
      simp only [List.getElem?_toArray, List.getElem?_cons_zero, List.getElem?_cons_succ] at s0 s1 q0 q1 o0 o1
      have hfin : ReadsD w (pickNs ns L) 0 (.returned (.agg #[.slice An (pickNs ns L).length cn, .int .i64 0])) ((W5.setCell ⟨w.heap.size + 1, 0, none⟩ (.slice An (pickNs ns L).length cn)).setCell ⟨w.heap.size + 1, 1, none⟩ (.int .i64 0)) := by
        have hk := hRow.ofBlk (w' := (W5.setCell ⟨w.heap.size + 1, 0, none⟩ (.slice An (pickNs ns L).length cn)).setCell ⟨w.heap.size + 1, 1, none⟩ (.int .i64 0)) (fun b hb _ => (Below.heap_setCell _ _ _ _ (by show b ≠ w.heap.size + 1; omega)).trans (Below.heap_setCell _ _ _ _ (by show b ≠ w.heap.size + 1; omega)))
        exact ⟨An, cn, rfl, (hk.low (by omega)).up (by simp), hwf, ((HB4.out.trans (hBr.mono HB4.out.size)).setCell (p := ⟨w.heap.size + 1, 0, none⟩) (by show w.heap.size ≤ w.heap.size + 1; omega) _).setCell (p := ⟨w.heap.size + 1, 1, none⟩) (by show w.heap.size ≤ w.heap.size + 1; omega) _⟩
      have HFin := hide hfin
      have hlenP := hide (pickNs_len ns L)
      clear hfin hwf l5 lRw hlO hRow hS hBr hlt
      go_wp2
      refine bodyPost_ret (v := .agg #[.slice An (pickNs ns L).length cn, .int .i64 0]) (by simp [results, Try.results34, go_sem, s0, s1]) rfl ?_
      rw [HLL.out]
      exact HFin.out

end Go.Proofs.Ythgklkpfmjgeoaa

namespace Go.Proofs.Ythgklkpfmjgeoaa
open Go.RowKit Go.Maps
set_option linter.unusedVariables false

/-- a text of a value -/
def IsTx (v : Int) (m : Nd) : Prop := m.kind = 1 ∧ m.value = v
instance (v : Int) (m : Nd) : Decidable (IsTx v m) := inferInstanceAs (Decidable (_ ∧ _))
def firstT (ns : List Nd) (v : Int) : Nat := ns.findIdx (fun m => decide (IsTx v m))

theorem firstT_is {ns : List Nd} {v : Int} {j : Nat} {m : Nd} (hj : ns[j]? = some m) (hm : IsTx v m) (hf : ∀ (k : Nat) (q : Nd), k < j → ns[k]? = some q → ¬ IsTx v q) : firstT ns v = j := by
  obtain ⟨hl, he⟩ := List.getElem?_eq_some_iff.1 hj
  unfold firstT
  rw [List.findIdx_eq hl]
  refine ⟨by rw [he]; exact decide_eq_true hm, fun k hk => ?_⟩
  exact decide_eq_false (hf k _ hk (List.getElem?_eq_getElem (by omega)))

theorem firstT_le {ns : List Nd} {v : Int} {j : Nat} {m : Nd} (hj : ns[j]? = some m) (hm : IsTx v m) : firstT ns v ≤ j := by
  obtain ⟨hl, he⟩ := List.getElem?_eq_some_iff.1 hj
  apply Nat.le_of_not_lt
  intro h
  have := List.not_of_lt_findIdx (p := fun m => decide (IsTx v m)) h
  rw [he] at this
  simp [hm] at this

/-- the first one of the texts that are equal to a node, or the node itself -/
def ftx (ns : List Nd) (i : Nat) : Int := match ns[i]? with
  | some n => if n.kind = 1 then (firstT ns n.value : Int) else (i : Int)
  | none => (i : Int)
theorem ftx_text {ns : List Nd} {i : Nat} {n : Nd} (h : ns[i]? = some n) (hk : n.kind = 1) : ftx ns i = (firstT ns n.value : Int) := by
  unfold ftx
  rw [h]
  simp only
  rw [if_pos hk]
theorem ftx_else {ns : List Nd} {i : Nat} {n : Nd} (h : ns[i]? = some n) (hk : ¬ n.kind = 1) : ftx ns i = (i : Int) := by
  unfold ftx
  rw [h]
  simp only
  rw [if_neg hk]
theorem ftx_range {ns : List Nd} {i : Nat} (hi : i < ns.length) : 0 ≤ ftx ns i ∧ ftx ns i ≤ i := by
  have h : ns[i]? = some ns[i] := List.getElem?_eq_getElem hi
  by_cases hk : ns[i].kind = 1
  · rw [ftx_text h hk]
    have := firstT_le h ⟨hk, rfl⟩
    omega
  · rw [ftx_else h hk]; omega

def txtCl (ns : List Nd) : List Int := (List.range ns.length).map (ftx ns)
theorem txtCl_len (ns : List Nd) : (txtCl ns).length = ns.length := by simp [txtCl]
theorem txtCl_at {ns : List Nd} {i : Nat} (hi : i < ns.length) : (txtCl ns)[i]? = some (ftx ns i) := by
  unfold txtCl
  rw [List.getElem?_map, List.getElem?_range hi]
  rfl
theorem txtCl_64 {ns : List Nd} (hl : ns.length ≤ 1000) : ∀ x ∈ txtCl ns, In64 x := by
  intro x hx
  obtain ⟨i, hi, rfl⟩ := List.mem_map.1 hx
  have := ftx_range (List.mem_range.1 hi)
  have := List.mem_range.1 hi
  constructor <;> omega

open Classical in
/-- the graph in which equal texts are one node -/
noncomputable def mrgN (ns : List Nd) (r : Int) : List Nd := if ValidG ns r then replNs ns (txtCl ns) else []
open Classical in
noncomputable def mrgR (ns : List Nd) (r : Int) : Int := if ValidG ns r then look (txtCl ns) r else 0
theorem mrgN_yes {ns : List Nd} {r : Int} (h : ValidG ns r) : mrgN ns r = replNs ns (txtCl ns) := if_pos h
theorem mrgR_yes {ns : List Nd} {r : Int} (h : ValidG ns r) : mrgR ns r = look (txtCl ns) r := if_pos h
theorem mrgN_no {ns : List Nd} {r : Int} (h : ¬ ValidG ns r) : mrgN ns r = [] := if_neg h
theorem mrgR_no {ns : List Nd} {r : Int} (h : ¬ ValidG ns r) : mrgR ns r = 0 := if_neg h

end Go.Proofs.Ythgklkpfmjgeoaa

namespace Go.Proofs.Ythgklkpfmjgeoaa
open Go.RowKit
set_option linter.unusedVariables false

theorem firstT_spec {ns : List Nd} {i : Nat} {n : Nd} (h : ns[i]? = some n) (hk : n.kind = 1) : ∃ q, ns[firstT ns n.value]? = some q ∧ IsTx n.value q := by
  have hle := firstT_le h ⟨hk, rfl⟩
  have hi := (List.getElem?_eq_some_iff.1 h).1
  have hl : firstT ns n.value < ns.length := by omega
  refine ⟨_, List.getElem?_eq_getElem hl, ?_⟩
  have := List.findIdx_getElem (xs := ns) (p := fun m => decide (IsTx n.value m)) (w := hl)
  exact of_decide_eq_true this

theorem look_txt {ns : List Nd} {i : Nat} (hi : i < ns.length) : look (txtCl ns) (i : Int) = ftx ns i := look_at (txtCl_at hi)

theorem ftx_idem {ns : List Nd} {i : Nat} (hi : i < ns.length) : ∃ j : Nat, ftx ns i = (j : Int) ∧ j < ns.length ∧ ftx ns j = (j : Int) := by
  have hn : ns[i]? = some ns[i] := List.getElem?_eq_getElem hi
  by_cases hk : ns[i].kind = 1
  · obtain ⟨q, hq, ht⟩ := firstT_spec hn hk
    refine ⟨_, ftx_text hn hk, (List.getElem?_eq_some_iff.1 hq).1, ?_⟩
    rw [ftx_text hq ht.1, ht.2]
  · exact ⟨i, ftx_else hn hk, hi, ftx_else hn hk⟩

theorem text_kids {ns : List Nd} {r : Int} (hv : ValidG ns r) {n : Nd} (hn : n ∈ ns) (hk : n.kind = 1) : n.kids = [] := by
  have := (hv.nodes n hn).kind
  unfold KindOk at this
  rw [hk] at this
  apply List.eq_nil_of_length_eq_zero
  omega

theorem cong_txt {ns : List Nd} {r : Int} (hv : ValidG ns r) : Cong ns (txtCl ns) := by
  refine ⟨txtCl_len ns, fun x h0 h1 => ?_, fun x h0 h1 => ?_, fun i j n m hn hm h => ?_⟩
  · obtain ⟨i, rfl⟩ := Int.eq_ofNat_of_zero_le h0
    rw [look_txt (by omega)]
    have := ftx_range (ns := ns) (i := i) (by omega)
    omega
  · obtain ⟨i, rfl⟩ := Int.eq_ofNat_of_zero_le h0
    obtain ⟨j, g1, g2, g3⟩ := ftx_idem (ns := ns) (i := i) (by omega)
    rw [look_txt (by omega), g1, look_txt g2, g3]
  · have hi := (List.getElem?_eq_some_iff.1 hn).1
    have hj := (List.getElem?_eq_some_iff.1 hm).1
    rw [look_txt hi, look_txt hj] at h
    by_cases hk : n.kind = 1
    · obtain ⟨q, hq, ht⟩ := firstT_spec hn hk
      rw [ftx_text hn hk] at h
      by_cases hk2 : m.kind = 1
      · obtain ⟨q2, hq2, ht2⟩ := firstT_spec hm hk2
        rw [ftx_text hm hk2] at h
        have e : firstT ns n.value = firstT ns m.value := by omega
        rw [e, hq2] at hq
        injection hq with hq
        subst hq
        unfold sigOf
        rw [hk, hk2, ← ht.2, ← ht2.2, text_kids hv (List.mem_of_getElem? hn) hk, text_kids hv (List.mem_of_getElem? hm) hk2]
      · rw [ftx_else hm hk2] at h
        have e : firstT ns n.value = j := by omega
        rw [e, hm] at hq
        injection hq with hq
        subst hq
        exact absurd ht.1 hk2
    · rw [ftx_else hn hk] at h
      by_cases hk2 : m.kind = 1
      · obtain ⟨q2, hq2, ht2⟩ := firstT_spec hm hk2
        rw [ftx_text hm hk2] at h
        have e : firstT ns m.value = i := by omega
        rw [e, hn] at hq2
        injection hq2 with hq2
        subst hq2
        exact absurd ht2.1 hk
      · rw [ftx_else hm hk2] at h
        obtain rfl : i = j := by omega
        rw [hn] at hm
        injection hm with hm
        rw [hm]

theorem firstT_repl (ns : List Nd) (cl : List Int) (v : Int) : firstT (replNs ns cl) v = firstT ns v := by
  unfold firstT replNs
  rw [List.findIdx_map]
  rfl

theorem txtCl_repl (ns : List Nd) (cl : List Int) : txtCl (replNs ns cl) = txtCl ns := by
  unfold txtCl
  rw [replNs_len]
  apply List.map_congr_left
  intro i hi
  have hil := List.mem_range.1 hi
  have hn : ns[i]? = some ns[i] := List.getElem?_eq_getElem hil
  by_cases hk : ns[i].kind = 1
  · rw [ftx_text hn hk, ftx_text (replNs_at (cl := cl) hn) hk, firstT_repl]
    rfl
  · rw [ftx_else hn hk, ftx_else (replNs_at (cl := cl) hn) hk]

theorem mrg_valid {ns : List Nd} {r : Int} (hv : ValidG ns r) : ValidG (mrgN ns r) (mrgR ns r) := by
  rw [mrgN_yes hv, mrgR_yes hv]
  exact repl_valid hv (cong_txt hv)

theorem mrg_equal {ns : List Nd} {r : Int} (hv : ValidG ns r) : EqDeepG (mrgN ns r) (mrgR ns r) ns r := by
  refine (eqDeep_iff (mrg_valid hv) hv).2 ?_
  rw [mrgN_yes hv, mrgR_yes hv]
  exact repl_eqAll (validG_kids hv) (cong_txt hv) hv.root0 hv.root

theorem mrg_again {ns : List Nd} {r : Int} (hv : ValidG ns r) : mrgN (mrgN ns r) (mrgR ns r) = mrgN ns r ∧ mrgR (mrgN ns r) (mrgR ns r) = mrgR ns r := by
  have h := mrg_valid hv
  rw [mrgN_yes h, mrgR_yes h]
  rw [mrgN_yes hv, mrgR_yes hv, txtCl_repl]
  exact ⟨repl_repl (validG_kids hv) (cong_txt hv), (cong_txt hv).idem r hv.root0 hv.root⟩

/-- no two equal texts are reached -/
theorem mrg_texts {ns : List Nd} {r : Int} (hv : ValidG ns r) {L : List Int} (hR : Reached (mrgN ns r) (mrgR ns r) L) {i k : Nat} (hk : k < i) {x y : Nat} {m q : Nd} (hx : L[i]? = some (x : Int)) (hy : L[k]? = some (y : Int)) (hm : (mrgN ns r)[x]? = some m) (hq : (mrgN ns r)[y]? = some q) :
    ¬ (m.kind = 1 ∧ q.kind = 1 ∧ m.value = q.value) := by
  rw [mrgN_yes hv, mrgR_yes hv] at hR
  rw [mrgN_yes hv] at hm hq
  rintro ⟨h1, h2, h3⟩
  obtain ⟨⟨_, hx1⟩, hxs⟩ := repl_reached hv (cong_txt hv) hR (x : Int) (List.mem_of_getElem? hx)
  obtain ⟨⟨_, hy1⟩, hys⟩ := repl_reached hv (cong_txt hv) hR (y : Int) (List.mem_of_getElem? hy)
  have hxl : x < ns.length := by omega
  have hyl : y < ns.length := by omega
  have hn : ns[x]? = some ns[x] := List.getElem?_eq_getElem hxl
  have hp : ns[y]? = some ns[y] := List.getElem?_eq_getElem hyl
  rw [replNs_at hn] at hm
  rw [replNs_at hp] at hq
  injection hm with hm
  injection hq with hq
  rw [← hm] at h1 h3
  rw [← hq] at h2 h3
  rw [look_txt hxl, ftx_text hn h1] at hxs
  rw [look_txt hyl, ftx_text hp h2] at hys
  have e : ns[x].value = ns[y].value := h3
  rw [e] at hxs
  have : x = y := by omega
  subst this
  have hil := (List.getElem?_eq_some_iff.1 hx)
  have hkl := (List.getElem?_eq_some_iff.1 hy)
  have := (List.getElem_inj hR.met.nodup).1 (hil.2.trans hkl.2.symm)
  omega

end Go.Proofs.Ythgklkpfmjgeoaa

namespace Go.Proofs.Ythgklkpfmjgeoaa
open Go.RowKit
set_option linter.unusedVariables false

theorem eqTo_less {ns ms : List Nd} {r s d : Int} (h : EqToG ns r ms s d) (hd : d ≠ 0) : EqToG ns r ms s (d - 1) := by
  obtain ⟨hv, hw, h0, h8, _⟩ := id h
  obtain ⟨k, rfl⟩ := Int.eq_ofNat_of_zero_le h0
  obtain ⟨j, rfl⟩ : ∃ j, k = j + 1 := ⟨k - 1, by omega⟩
  have h1 := (eqTo_iff hv hw (by omega)).1 h
  have h2 := (eqTo_iff (d := j) hv hw (by omega)).2 h1.less
  rw [show ((j + 1 : Nat) : Int) - 1 = (j : Int) by omega]
  exact h2

theorem eqTo_symm {ns ms : List Nd} {r s d : Int} (h : EqToG ns r ms s d) : EqToG ms s ns r d := by
  obtain ⟨hv, hw, h0, h8, _⟩ := id h
  obtain ⟨k, rfl⟩ := Int.eq_ofNat_of_zero_le h0
  exact (eqTo_iff hw hv (by omega)).2 ((eqTo_iff hv hw (by omega)).1 h).symm

theorem eqTo_self {ns ms : List Nd} {r s d : Int} (h : EqToG ns r ms s d) : EqToG ns r ns r d := by
  obtain ⟨hv, hw, h0, h8, _⟩ := id h
  obtain ⟨k, rfl⟩ := Int.eq_ofNat_of_zero_le h0
  exact (eqTo_iff hv hv (by omega)).2 (Eqq.refl (validG_kids hv) k r hv.root0 hv.root)

theorem deep_to {ns ms : List Nd} {r s d : Int} (h : EqDeepG ns r ms s) (h0 : 0 ≤ d) (h8 : d ≤ 8) : EqToG ns r ms s d := by
  obtain ⟨hv, hw, _⟩ := id h
  obtain ⟨k, rfl⟩ := Int.eq_ofNat_of_zero_le h0
  exact (eqTo_iff hv hw (by omega)).2 ((eqDeep_iff hv hw).1 h k)

theorem joinNs_lenE (ns ms : List Nd) : (joinNs ns ms).length = ns.length + ms.length := by simp [joinNs]

theorem small_deep {ns ms : List Nd} {r s : Int} (hv : ValidG ns r) (hw : ValidG ms s) (h1 : ns.length ≤ 4) (h2 : ms.length ≤ 4) : EqToG ns r ms s 8 ↔ EqDeepG ns r ms s := by
  constructor
  · intro h
    have h3 := (eqTo_iff (d := 8) hv hw (by omega)).1 h
    have hl := joinNs_lenE ns ms
    have h4 := h3.down (e := (joinNs ns ms).length) (by omega)
    exact ⟨hv, hw, (eqN_iff (validG_kids hv) (validG_kids hw) _ r s hv.root0 hv.root hw.root0 hw.root).2 h4⟩
  · intro h
    exact deep_to h (by omega) (by omega)

/-- the memory of a law on two graphs -/
structure TwoL (w X : World) (b3 b4 : Nat) (A1 : Option Addr) (c1 : Nat) (ms : List Nd) (r1 : Int) (A2 : Option Addr) (c2 : Nat) (ns : List Nd) (r2 : Int) : Prop where
  bel : Below w.heap.size w X
  l3 : Lies X b3 #[.slice A1 ms.length c1, .int .i64 r1] 25
  l4 : Lies X b4 #[.slice A2 ns.length c2, .int .i64 r2] 25
  na : NdsAt X X.heap.size A1 ms
  nb : NdsAt X X.heap.size A2 ns

theorem TwoL.below {w X Y : World} {b3 b4 : Nat} {A1 : Option Addr} {c1 : Nat} {ms : List Nd} {r1 : Int} {A2 : Option Addr} {c2 : Nat} {ns : List Nd} {r2 : Int} (h : TwoL w X b3 b4 A1 c1 ms r1 A2 c2 ns r2) (hb : Below X.heap.size X Y) : TwoL w Y b3 b4 A1 c1 ms r1 A2 c2 ns r2 :=
  ⟨h.bel.trans (hb.mono h.bel.size), h.l3.below hb h.l3.lt, h.l4.below hb h.l4.lt, h.na.later hb (Nat.le_refl _), h.nb.later hb (Nat.le_refl _)⟩

theorem TwoL.cells {w X : World} {b3 b4 : Nat} {A1 : Option Addr} {c1 : Nat} {ms : List Nd} {r1 : Int} {A2 : Option Addr} {c2 : Nat} {ns : List Nd} {r2 : Int} (h : TwoL w X b3 b4 A1 c1 ms r1 A2 c2 ns r2) : X.cell? ⟨b3, 0, none⟩ = some (.slice A1 ms.length c1) ∧ X.cell? ⟨b3, 1, none⟩ = some (.int .i64 r1) ∧ X.cell? ⟨b4, 0, none⟩ = some (.slice A2 ns.length c2) ∧ X.cell? ⟨b4, 1, none⟩ = some (.int .i64 r2) := by
  have a2 := h.l3.cell 0
  have a3 := h.l3.cell 1
  have a4 := h.l4.cell 0
  have a5 := h.l4.cell 1
  simp only [List.getElem?_toArray, List.getElem?_cons_zero, List.getElem?_cons_succ] at a2 a3 a4 a5
  exact ⟨a2, a3, a4, a5⟩

end Go.Proofs.Ythgklkpfmjgeoaa
