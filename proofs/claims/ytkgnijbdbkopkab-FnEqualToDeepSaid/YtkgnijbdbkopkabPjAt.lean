/-
  Lemmas, several texts in one: PrunD, WalkT.
-/
import Derived.Test.YtkgnijbdbkopkabRowD
import Derived.Test.YtkgnijbdbkopkabPjAo
import Derived.Deep.RegionLaw
import Derived.Test.YtkgnijbdbkopkabPjAs
import Derived.Test.YtkgnijbdbkopkabPjAb
import Derived.Test.YtkgnijbdbkopkabPjAk
import Derived.Laws.EntriesVeiled
namespace Go.Proofs.Ytkgnijbdbkopkab
open Go.RowKit Go.Maps
set_option linter.unusedVariables false

/-- a graph in a row of the call's own comes back that reads as ms with the root r -/
def ReadsD (w : World) (ms : List Nd) (r : Int) (e : Ending) (w' : World) : Prop :=
  ∃ A c, e = .returned (.agg #[.slice A ms.length c, .int .i64 r]) ∧ RowD w' w.heap.size w'.heap.size A c ms ∧ WfN ms ∧ Below w.heap.size w w'

theorem RowD.low {w : World} {base base' bnd : Nat} {A : Option Addr} {c : Nat} {ns : List Nd} (h : RowD w base bnd A c ns) (hb : base' ≤ base) : RowD w base' bnd A c ns := by
  obtain ⟨cs, h1, h2, h3, h4⟩ := h.row
  refine ⟨⟨cs, ⟨h1.1, ?_⟩, fun j n hj => ?_, h3, h4⟩⟩
  · rcases h1.2 with h3 | ⟨g, cap, cur, hv, hg, r⟩
    · exact .inl h3
    · exact .inr ⟨g, cap, cur, hv, by omega, r⟩
  · obtain ⟨A1, c1, a1, a2, a3, a4⟩ := h2 j n hj
    exact ⟨A1, c1, a1, a2, a3, a4.lowB hb⟩

theorem RowD.up {w : World} {base bnd bnd' : Nat} {A : Option Addr} {c : Nat} {ns : List Nd} (h : RowD w base bnd A c ns) (hb : bnd ≤ bnd') : RowD w base bnd' A c ns := by
  obtain ⟨cs, h1, h2, h3, h4⟩ := h.row
  exact ⟨⟨cs, h1, h2, h3, fun i A1 n1 c1 hi hc b hb' => by have := h4 i A1 n1 c1 hi hc b hb'; omega⟩⟩

theorem RowD.empty (w : World) (base bnd : Nat) : RowD w base bnd none 0 [] := ⟨⟨[], World.ownsRow_nil _ _ _ _, fun j n h => by simp at h, fun i j A1 A2 n1 n2 c1 c2 hij hj => by simp at hj, fun i A1 n1 c1 hi => by simp at hi⟩⟩

/-- the memory of the model's pruned: nodes are added -/
structure PdA (W3 wr : World) (ns : List Nd) (L : List Int) (k : Nat) : Prop where
  bel : Below W3.heap.size W3 wr
  out : ∃ An cn, Lies wr W3.heap.size #[.slice An ((pickNs ns L).take k).length cn, .int .i64 0] 25 ∧ RowD wr (W3.heap.size + 1) wr.heap.size An cn ((pickNs ns L).take k)
  size : W3.heap.size + 1 ≤ wr.heap.size

theorem PdA.step {W3 W5 wi w9 : World} {ns : List Nd} {L : List Int} {k i c' cn : Nat} {An A' : Option Addr} {n : Nd} {ks : List Int} {ob : Obj} (h : PdA W3 W5 ns L k) (hb : Below W5.heap.size W5 wi) (hlO : Lies W5 W3.heap.size #[.slice An ((pickNs ns L).take k).length cn, .int .i64 0] 25) (hAn : ∀ b, blockOf An = some b → W3.heap.size + 1 ≤ b)
    (hk : L[k]? = some (i : Int)) (hn : ns[i]? = some n) (hks : ks = n.kids.map (place L)) {bnd' : Nat} (hbnd : bnd' ≤ w9.heap.size) (hrow : RowD w9 (W3.heap.size + 1) bnd' A' c' ((pickNs ns L).take k ++ [⟨n.kind, n.value, ks⟩])) (hg : (wi.alloc ob).grownBy w9 (blockOf An)) :
    PdA W3 (w9.setCell ⟨W3.heap.size, 0, none⟩ (.slice A' (((pickNs ns L).take k).length + 1) c')) ns L (k + 1) := by
  have h1 := h.size
  have h2 := hb.size
  have h3 := hg.size
  simp only [World.size_alloc] at h3
  have hbi : Below W3.heap.size W3 (wi.alloc ob) := (h.bel.trans (hb.mono (by omega))).alloc (by omega) _
  have l9 : Lies w9 W3.heap.size _ _ := (hg.block W3.heap.size (by simp; omega) (fun e => by have := hAn _ e.symm; omega)).trans ((hlO.below hb (by omega)).alloc ob)
  have l10 := l9.set 0 (.slice A' (((pickNs ns L).take k).length + 1) c')
  simp only [List.setIfInBounds_toArray, List.set_cons_zero] at l10
  refine ⟨(below_grown hbi hg (by simp; omega) (fun b hb' => by have := hAn b hb'; omega)).setCell (p := ⟨W3.heap.size, 0, none⟩) (Nat.le_refl _) _, ⟨A', c', ?_, ?_⟩, by simp; omega⟩
  · rw [pickNs_take hk hn]
    simpa using l10
  · rw [pickNs_take hk hn, ← hks]
    exact (hrow.ofBlk (fun b hb' _ => Below.heap_setCell _ _ _ _ (by show b ≠ W3.heap.size; omega))).up (by simpa using hbnd)

set_option maxRecDepth 100000 in
set_option maxHeartbeats 2000000 in
theorem specPruned_apart (A : Option Addr) (ns : List Nd) (c : Nat) (i : Nat) (w : World) (hr : NdsAt w w.heap.size A ns) (hv : ValidG ns (i : Int)) :
    Calls Try.prog 30 #[.agg #[.slice A ns.length c, .int .i64 (i : Int)]] w (ReadsD w (pickNs ns (reachOf ns i)) 0) := by
  have hB2 : Below w.heap.size w ((w.alloc (.cells #[.slice A ns.length c, .int .i64 (i : Int)] 25)).alloc (.cells #[.slice none 0 0, .int .i64 0] 25)) := ((Below.refl _ _).alloc (Nat.le_refl _) _).alloc (by simp) _
  have lG := (Lies.new w #[.slice A ns.length c, .int .i64 (i : Int)] 25).alloc (.cells #[.slice none 0 0, .int .i64 0] 25)
  have lR := Lies.new (w.alloc (.cells #[.slice A ns.length c, .int .i64 (i : Int)] 25)) #[.slice none 0 0, .int .i64 0] 25
  simp only [World.size_alloc] at lR
  have hr2 := hr.later hB2 (Nat.le_refl _)
  have hi : i < ns.length := by have := hv.root; omega
  have HV := hide hv
  have e0 := lG.cell 0
  have e1 := lG.cell 1
  simp at e0 e1
  clear hr hv
  go_enter Try.func30, Try.ntmps30
  go_wp2_with fail
  generalize hWd : (w.alloc (.cells #[.slice A ns.length c, .int .i64 (i : Int)] 25)).alloc (.cells #[.slice none 0 0, .int .i64 0] 25) = W at hB2 lG lR hr2 e0 e1 ⊢
  have hWs : W.heap.size = w.heap.size + 1 + 1 := by rw [← hWd]; simp
  clear hWd
  have hb1 : Below W.heap.size W (W.alloc (.cells #[] 3)) := (Below.refl _ _).alloc (Nat.le_refl _) _
  have hr3 := hr2.later hb1 (Nat.le_refl _)
  have hB3 := hB2.trans (hb1.mono hB2.size)
  have hI : IntsAt (W.alloc (.cells #[] 3)) (W.alloc (.cells #[] 3)).heap.size (some ⟨W.heap.size, 0, none⟩) [] := (OwnI.bare W).ints (by simp) (by simp)
  rw [show (⟨W.heap.size, 0, none⟩ : Addr) = ⟨w.heap.size + 1 + 1, 0, none⟩ by rw [hWs]] at hI
  have lG1 := lG.below hb1 lG.lt
  have lR1 := lR.below hb1 lR.lt
  clear lG lR hr2 hB2 hb1 hWs
  generalize W.alloc (.cells #[] 3) = w2 at hr3 hB3 hI lG1 lR1 ⊢
  refine (reach_any ns (kidsIn_of_valid HV.out) (fun n hn => (HV.out.nodes n hn).few) HV.out.few A c i (ns.length + 1) i [] (some ⟨w.heap.size + 1 + 1, 0, none⟩) 0 w2 hi (Met.nil ns) hr3 hI (fun e => by cases e) (by simp)).mono ?_
  rintro e w3 ⟨A2, c2, rfl, hb3, hI3, hnil3, hor⟩
  have HP := hide (reach_pickable HV.out)
  have hLd : reachOf ns (i : Int) = dfs ns anyB (ns.length + 1) i [] := by unfold reachOf; rw [if_pos HV.out]
  rw [← hLd] at hI3 ⊢
  generalize hLL : reachOf ns (i : Int) = L at HP hI3 ⊢
  have HLL := hide hLL
  clear hLL
  have lG3 := lG1.below hb3 lG1.lt
  have lR3 := lR1.below hb3 lR1.lt
  have hr4 := hr3.later hb3 (Nat.le_refl _)
  have hB4 := hB3.trans (hb3.mono hB3.size)
  have HLI := hide hI3
  have HR := hide hr4
  have hfew := HP.out.few
  have hS0 : PdA w3 (w3.alloc (.cells #[.slice none 0 0, .int .i64 0] 25)) ns L 0 := ⟨(Below.refl _ _).alloc (Nat.le_refl _) _, ⟨none, 0, Lies.new w3 _ _, RowD.empty _ _ _⟩, by simp⟩
  have HS0 := hide hS0
  have HG3 := hide lG3
  have HR3 := hide lR3
  have HB4 := hide hB4
  clear hor hnil3 hb3 hI3 hr4 hr3 hI lG1 lR1 hLd hS0 lG3 lR3 hB3 hB4 e0 e1
  go_wp2_with fail
  generalize w3.alloc (.cells #[.slice none 0 0, .int .i64 0] 25) = w4 at HS0 ⊢
  go_loopg [5] L.length (fun gk iv wr => ∃ k : Nat, k ≤ L.length ∧ gk = L.length - k ∧ iv = .int .i64 (k : Int) ∧ PdA w3 wr ns L k)
  case atStart => exact ⟨0, Nat.zero_le _, rfl, rfl, HS0.out⟩
  case round =>
    clear HS0
    obtain ⟨W5, hW5⟩ : ∃ X, X = wr := ⟨_, rfl⟩
    subst hW5
    obtain ⟨k, hk, rfl, rfl, hS⟩ := hrel
    by_cases hlt : k < L.length
    · have HS := hide hS
      obtain ⟨b, off, x, rfl, hbl, hx, hm, hc⟩ := (HLI.out.below hS.bel).at_ hlt
      obtain ⟨hx0, hx1⟩ := HP.out.range x hm
      obtain ⟨q, rfl⟩ := Int.eq_ofNat_of_zero_le hx0
      have hil : q < ns.length := by omega
      obtain ⟨b', off', n, rfl, hbl', hn, _, hnd⟩ := (HR.out.below hS.bel).at_ hil
      obtain ⟨A1, c1, k2, hki, _⟩ := hnd.kids
      have k0 := hnd.kind
      have k1 := hnd.value
      obtain ⟨hk1000, hkin⟩ := HP.out.closed q n hm hn
      have lG5 := HG3.out.below hS.bel HG3.out.lt
      have g0 := lG5.cell 0
      simp at g0
      have HX := hide hx
      have HN := hide hn
      have hi1 : (0 : Int) ≤ (k : Int) := by omega
      have hi2 : (k : Int) < (L.length : Int) := by omega
      have hi3 : (0 : Int) ≤ (q : Int) := by omega
      have hi4 : (q : Int) < (ns.length : Int) := by omega
      have HKI := hide (hki.more (by exact hS.bel.size : w3.heap.size ≤ W5.heap.size))
      have u0 := World.new_ne W5 _ g0
      have u1 := World.new_ne W5 _ hc
      have u2 := World.new_ne W5 _ k0
      clear hx hm hn hkin hnd hki hS lG5 hx0 hx1 hbl hbl'
      go_wp2_with fail
      go_region_held3 (fun w' => w'.cell? ⟨w.heap.size, 0, none⟩ = some (.slice (some ⟨b', off', none⟩) ns.length c) ∧ w'.cell? ⟨b, off + k, none⟩ = some (.int .i64 (q : Int)) ∧ w'.cell? ⟨b', off' + q * 3, none⟩ = some (.int .i64 n.kind) ∧ w'.cell? ⟨b', off' + q * 3 + 1, none⟩ = some (.int .i64 n.value) ∧ w'.cell? ⟨b', off' + q * 3 + 2, none⟩ = some (.slice A1 n.kids.length c1))
        (first
          | (go_split_ands; refine ⟨?_, ?_, ?_, ?_, ?_⟩ <;> assumption)
          | go_keep)
        (fail)
      go_wp2_with fail
      have hb7 : Below W5.heap.size W5 (((W5.alloc (.cells #[.int .i64 n.kind, .int .i64 n.value, .slice A1 n.kids.length c1] 45)).alloc (.cells #[.int .i64 n.kind, .int .i64 n.value, .slice none 0 0] 45)).drew) := (((Below.refl _ _).alloc (Nat.le_refl _) _).alloc (by simp) _).drew
      have lN7 : Lies (((W5.alloc (.cells #[.int .i64 n.kind, .int .i64 n.value, .slice A1 n.kids.length c1] 45)).alloc (.cells #[.int .i64 n.kind, .int .i64 n.value, .slice none 0 0] 45)).drew) W5.heap.size #[.int .i64 n.kind, .int .i64 n.value, .slice A1 n.kids.length c1] 45 := (Lies.new W5 _ _).alloc _
      have lM7 : Lies (((W5.alloc (.cells #[.int .i64 n.kind, .int .i64 n.value, .slice A1 n.kids.length c1] 45)).alloc (.cells #[.int .i64 n.kind, .int .i64 n.value, .slice none 0 0] 45)).drew) (W5.heap.size + 1) #[.int .i64 n.kind, .int .i64 n.value, .slice none 0 0] 45 := by
        have := Lies.new (W5.alloc (.cells #[.int .i64 n.kind, .int .i64 n.value, .slice A1 n.kids.length c1] 45)) #[.int .i64 n.kind, .int .i64 n.value, .slice none 0 0] 45
        simp only [World.size_alloc] at this
        exact this
      generalize ((W5.alloc (.cells #[.int .i64 n.kind, .int .i64 n.value, .slice A1 n.kids.length c1] 45)).alloc (.cells #[.int .i64 n.kind, .int .i64 n.value, .slice none 0 0] 45)).drew = W7 at hb7 lN7 lM7 ⊢
      have HM0 := hide (PsM.start L lM7)
      have HB7 := hide hb7
      have HN7 := hide lN7
      clear hb7 lN7 lM7 k0 k1 k2 hc g0 u0 u1 u2
      go_loopg [8] n.kids.length (fun gk jv wi => ∃ (j : Nat) (Ak : Option Addr) (ck : Nat) (ks : List Int), j ≤ n.kids.length ∧ gk = n.kids.length - j ∧ jv = .int .i64 (j : Int) ∧ PsM W7 wi (W5.heap.size + 1) n L j Ak ck ks)
      case atStart => exact ⟨0, none, 0, [], Nat.zero_le _, rfl, rfl, HM0.out⟩
      case round =>
        clear HM0
        obtain ⟨j, Ak, ck, ks, hj, rfl, rfl, hM⟩ := hrel
        have HM := hide hM
        have hsM := hM.size
        have hBW := hide (HB7.out.trans (hM.bel.mono (by omega)))
        have lN := HN7.out.below hM.bel (by omega)
        have n2 := lN.cell 2
        have m2 := hM.lM.cell 2
        have f2 := hM.lM.frozen 2
        simp at n2 m2
        have hkl := hM.le
        by_cases hlj : j < n.kids.length
        · obtain ⟨b3, off3, y, rfl, hbl3, hy, hym, hcy⟩ := (HKI.out.below hBW.out).at_ hlj
          have HY := hide hy
          have hj1 : (0 : Int) ≤ (j : Int) := by omega
          have hj2 : (j : Int) < (n.kids.length : Int) := by omega
          have HLd : Hid (IntsAt wr.drew wr.drew.heap.size (some ⟨b, off, none⟩) L) := hide (HLI.out.later (HS.out.bel.trans ((hBW.out.mono HS.out.bel.size).drew)) (Nat.le_refl _))
          have hq64 := hide (place_in64 (L := L) (by omega) y)
          have hne : Hid (some (W5.heap.size + 1) ≠ blockOf Ak) := hide (fun e => by have := (HM.out.own.blocks _ e.symm).1; omega)
          have hlt3 : b3 < wr.heap.size := by omega
          have hlt4 : W5.heap.size + 1 < wr.heap.size := by omega
          have hlt5 : W5.heap.size < wr.heap.size := by omega
          clear hy hym hM lN
          go_wp2_with fail
          go_region_law (first
            | (go_simp; go_at_call 37; refine (placeIn_any (some ⟨b, off, none⟩) L c2 y wr.drew HLd.out).mono ?_; rintro e w' ⟨rfl, rfl⟩; try dsimp only)
            | (refine step_append_ints (by rfl) _ _ (by rfl) (W5.heap.size + 1 + 1) Ak ck ks (by rfl) (HM.out.own.alloc _).drew ⟨wr.heap.size, 0, none⟩ 1 [place L y] (by simp) (by rfl) (by have h0 := (IntsAt.lit wr [place L y] (by intro z hz; simp at hz; rw [hz]; exact hq64.out) (by simp)).below (Below.refl _ _).drew; simpa using h0) (by simp; omega) (by simp; omega) ?_; intro zs A' c' w9 hz9 hown9 hg9 hat9
               have t2 : w9.cell? ⟨W5.heap.size + 1, 2, none⟩ = some (.slice Ak ks.length ck) := (hg9.cell_far _ (by simp; omega) hne.out).trans ((World.cell?_alloc_lt _ _ _ (by show W5.heap.size + 1 < wr.heap.size; omega)).trans m2)
               have t3 : w9.frozen? ⟨W5.heap.size + 1, 2, none⟩ = false := (hg9.frozen_far _ (by simp; omega) hne.out).trans ((HM.out.lM.alloc _).frozen 2)))
          all_goals
            have HM1 := hide (HM.out.step HY.out hk1000 hz9.out hown9 hg9)
            clear t2 t3 hown9 hg9 hat9 n2 m2 f2 hcy
            go_wp2
            go_roundg (n.kids.length - (j + 1))
            case measure => omega
            case rel => exact ⟨j + 1, A', c', zs, by omega, rfl, by go_num, HM1.out⟩
        · obtain rfl : j = n.kids.length := by omega
          obtain ⟨An, cn, hlO, hRow⟩ := HS.out.out
          have hlOw := hlO.below hBW.out hlO.lt
          have o0 := hlOw.cell 0
          have o1 := hlOw.frozen 0
          have m0 := hM.lM.cell 0
          have m1 := hM.lM.cell 1
          simp only [List.getElem?_toArray, List.getElem?_cons_zero] at o0
          simp at m0 m1
          have hOlt := hlO.lt
          have hsS := HS.out.size
          have HAn := hide (fun b hb => (hRow.rowN.blocks b hb).1 : ∀ b, blockOf An = some b → w3.heap.size + 1 ≤ b)
          have HRow := hide (hRow.below hBW.out)
          have HAk := hide (fun q hq => ⟨by have := (HM.out.own.blocks q hq).1; omega, (HM.out.own.blocks q hq).2⟩ : ∀ q, blockOf Ak = some q → W5.heap.size ≤ q ∧ q < wr.heap.size)
          have hWle : W5.heap.size ≤ wr.heap.size := by omega
          have HlO := hide hlO
          have hks : ks = n.kids.map (place L) := by rw [hM.eq, List.take_length]
          have Hks := hide hks
          have HOw := hide (hM.own.lowB (base' := w3.heap.size + 1) (by omega))
          have hne : Hid (some w3.heap.size ≠ blockOf An) := hide (fun e => by have := HAn.out _ e.symm; omega)
          have hll : ((pickNs ns L).take k).length ≤ 1000 := by simp [pickNs_len]; omega
          have hlt6 : w3.heap.size < wr.heap.size := by omega
          clear hlO hRow hks hM lN hlj f2
          generalize hPd : (pickNs ns L).take k = P at o0 HRow HlO hll hlOw ⊢
          have HPd := hide hPd
          clear hPd
          go_wp2_with (at_builtin; refine append_ndD rfl (.tmp 54) (.tmp 56) rfl (w3.heap.size + 1) W5.heap.size wr.heap.size An cn P rfl (HRow.out.below ((Below.refl _ _).alloc (Nat.le_refl _) _)) wr.heap.size ⟨n.kind, n.value, ks⟩ Ak ck 45 rfl (heap_alloc_new wr _) (HOw.out.alloc _) (by simp; omega) hll HAk.out hWle ?_; intro A' c' w9 hrow9 hg9; have t2 : w9.cell? ⟨w3.heap.size, 0, none⟩ = some (.slice An P.length cn) := (hg9.cell_far _ (by simp; omega) hne.out).trans ((World.cell?_alloc_lt _ _ _ hlt6).trans o0); have t3 : w9.frozen? ⟨w3.heap.size, 0, none⟩ = false := (hg9.frozen_far _ (by simp; omega) hne.out).trans ((hlOw.alloc _).frozen 0))
          have hN2 := HS.out.step (bnd' := wr.heap.size) hBW.out (by rw [HPd.out]; exact HlO.out) HAn.out HX.out HN.out Hks.out (by have := hg9.size; simp at this; omega) (by rw [HPd.out]; exact hrow9) hg9
          rw [HPd.out] at hN2
          have HN2 := hide hN2
          clear hN2 t2 t3 hrow9 hg9 o0 o1 m0 m1 m2 n2
          go_wp2
          go_roundg (L.length - (k + 1))
          case measure => omega
          case rel => exact ⟨k + 1, by omega, rfl, by go_num, HN2.out⟩
    · obtain rfl : k = L.length := by omega
      obtain ⟨An, cn, hlO, hRow⟩ := hS.out
      rw [List.take_of_length_le (by rw [pickNs_len]; exact Nat.le_refl _)] at hlO hRow
      have hsS := hS.size
      have hBr := hS.bel
      have hGR := HR3.out.lt
      have lRw := HR3.out.below hS.bel hGR
      have hwf : WfN (pickNs ns L) := by
        intro m hm
        obtain ⟨x, hx, rfl⟩ := List.mem_map.1 hm
        obtain ⟨hx0, hx1⟩ := HP.out.range x hx
        obtain ⟨q, rfl⟩ := Int.eq_ofNat_of_zero_le hx0
        obtain ⟨_, _, n, _, _, hn, _, hnd⟩ := HR.out.at_ (k := q) (by omega)
        rw [pickN_at hn]
        exact ⟨hnd.wfk, hnd.wfv, fun z hz => by
          obtain ⟨y, _, rfl⟩ := List.mem_map.1 hz
          exact place_in64 (by omega) y, by have := (HP.out.closed q n hx hn).1; simp; omega⟩
      have l5 := (lRw.set 0 (.slice An (pickNs ns L).length cn)).set 1 (.int .i64 0)
      simp only [List.setIfInBounds_toArray, List.set_cons_succ, List.set_cons_zero] at l5
      have s0 := l5.cell 0
      have s1 := l5.cell 1
      have q0 := lRw.cell 0
      have q1 := lRw.cell 1
      have f0 := lRw.frozen 0
      have f1 := lRw.frozen 1
      have o0 := hlO.cell 0
      have o1 := hlO.cell 1
      simp only [List.getElem?_toArray, List.getElem?_cons_zero, List.getElem?_cons_succ] at s0 s1 q0 q1 o0 o1
      have hfin : ReadsD w (pickNs ns L) 0 (.returned (.agg #[.slice An (pickNs ns L).length cn, .int .i64 0])) ((W5.setCell ⟨w.heap.size + 1, 0, none⟩ (.slice An (pickNs ns L).length cn)).setCell ⟨w.heap.size + 1, 1, none⟩ (.int .i64 0)) := by
        have hk := hRow.ofBlk (w' := (W5.setCell ⟨w.heap.size + 1, 0, none⟩ (.slice An (pickNs ns L).length cn)).setCell ⟨w.heap.size + 1, 1, none⟩ (.int .i64 0)) (fun b hb _ => (Below.heap_setCell _ _ _ _ (by show b ≠ w.heap.size + 1; omega)).trans (Below.heap_setCell _ _ _ _ (by show b ≠ w.heap.size + 1; omega)))
        exact ⟨An, cn, rfl, (hk.low (by omega)).up (by simp), hwf, ((HB4.out.trans (hBr.mono HB4.out.size)).setCell (p := ⟨w.heap.size + 1, 0, none⟩) (by show w.heap.size ≤ w.heap.size + 1; omega) _).setCell (p := ⟨w.heap.size + 1, 1, none⟩) (by show w.heap.size ≤ w.heap.size + 1; omega) _⟩
      have HFin := hide hfin
      have hlenP := hide (pickNs_len ns L)
      clear hfin hwf l5 lRw hlO hRow hS hBr hlt
      go_wp2
      refine bodyPost_ret (v := .agg #[.slice An (pickNs ns L).length cn, .int .i64 0]) (by simp [results, Try.results30, go_sem, s0, s1]) rfl ?_
      rw [HLL.out]
      exact HFin.out

end Go.Proofs.Ytkgnijbdbkopkab

namespace Go.Proofs.Ytkgnijbdbkopkab.WalkT
open Go.RowKit Go.Maps Go.Proofs.Ytkgnijbdbkopkab
set_option linter.unusedVariables false

/-- the function F tells whether a node may be entered -/
def Enters (ns : List Nd) (ent : Int → Bool) : Prop :=
  ∀ (k : Nat) (n : Nd) (A : Option Addr) (c : Nat) (w : World), ns[k]? = some n →
    Calls Try.prog 42 #[.agg #[.int .i64 n.kind, .int .i64 n.value, .slice A n.kids.length c]] w fun e w' => e = .returned (.bool (ent (k : Int))) ∧ Below w.heap.size w w'

/-- what the closure of walkFrom finds in memory -/
structure Env (w : World) (base b3 b5 b7 b8 : Nat) (A : Option Addr) (c : Nat) (ns : List Nd) (L : List Int) : Prop where
  enter : Lies w b5 #[.func (.func 42) #[] #[]] 65
  nodes : Lies w b3 #[.slice A ns.length c] 23
  set : ∃ m Am cm, SetI w b7 base m Am cm L
  self : Lies w b8 #[.func (.func 65) #[] #[.pointer (some ⟨b5, 0, none⟩), .pointer (some ⟨b3, 0, none⟩), .pointer (some ⟨b7, 0, none⟩), .pointer (some ⟨b8, 0, none⟩)]] 88
  read : NdsAt w b3 A ns
  n3 : b3 < b5
  n5 : b5 < b7
  n7 : b7 < b8
  n8 : b8 < base
  hb : base ≤ w.heap.size

theorem Env.later {w w' : World} {base b3 b5 b7 b8 : Nat} {A : Option Addr} {c : Nat} {ns : List Nd} {L : List Int} (h : Env w base b3 b5 b7 b8 A c ns L) (hb : Below w.heap.size w w') : Env w' base b3 b5 b7 b8 A c ns L := by
  obtain ⟨m, Am, cm, hs⟩ := h.set
  have h1 := h.n3
  have h2 := h.n5
  have h3 := h.n7
  have h4 := h.n8
  have h5 := h.hb
  exact ⟨h.enter.below hb (by omega), h.nodes.below hb (by omega), ⟨m, Am, cm, hs.below hb⟩, h.self.below hb (by omega), h.read.below (hb.mono (by omega)), h1, h2, h3, h4, Nat.le_trans h5 hb.size⟩

/-- the environment behind an add -/
theorem Env.added {w w' : World} {base b3 b5 b7 b8 : Nat} {A : Option Addr} {c : Nat} {ns : List Nd} {L L' : List Int} (h : Env w base b3 b5 b7 b8 A c ns L) (hs : ∃ m Am cm, SetI w' b7 base m Am cm L') (hb : But base b7 w w') : Env w' base b3 b5 b7 b8 A c ns L' := by
  have h1 := h.n3
  have h2 := h.n5
  have h3 := h.n7
  have h4 := h.n8
  have h5 := h.hb
  have hl : ∀ {g : Nat} {cs : Array Value} {t : TypeId}, Lies w g cs t → g < base → g ≠ b7 → Lies w' g cs t := fun hg hlt hne => (hb.block _ hlt hne).trans hg
  refine ⟨hl h.enter (by omega) (by omega), hl h.nodes (by omega) (by omega), hs, hl h.self (by omega) (by omega), h.read.below (B := b3) ⟨hb.os, hb.tape, hb.output, hb.size, fun k hk => hb.block k (by omega) (by omega)⟩, h1, h2, h3, h4, Nat.le_trans h5 hb.size⟩

theorem Env.below3 {w w' : World} {base b3 b5 b7 b8 : Nat} {A : Option Addr} {c : Nat} {ns : List Nd} {L : List Int} (h : Env w base b3 b5 b7 b8 A c ns L) (hb : But base b7 w w') : Below b3 w w' := by
  have h1 := h.n3
  have h2 := h.n5
  have h3 := h.n7
  have h4 := h.n8
  exact ⟨hb.os, hb.tape, hb.output, hb.size, fun k hk => hb.block k (by omega) (by omega)⟩

theorem But.refl (base g : Nat) (w : World) : But base g w w := ⟨rfl, rfl, rfl, Nat.le_refl _, fun _ _ _ => rfl⟩
theorem But.of_below {base g : Nat} {w w' : World} (h : Below w.heap.size w w') (hb : base ≤ w.heap.size) : But base g w w' := ⟨h.os, h.tape, h.output, h.size, fun k hk _ => h.block k (by omega)⟩

def WalkDone (base b3 b5 b7 b8 : Nat) (A : Option Addr) (c : Nat) (ns : List Nd) (R : List Int) (w : World) (e : Ending) (w' : World) : Prop :=
  e = .returned (.tuple #[]) ∧ Env w' base b3 b5 b7 b8 A c ns R ∧ But base b7 w w'

set_option maxRecDepth 100000 in
set_option maxHeartbeats 4000000 in
theorem walk1_any (ns : List Nd) (ent : Int → Bool) (hF : Enters ns ent) (hk : KidsIn ns) (hsm : ns.length ≤ 1048576) (base b3 b5 b7 b8 : Nat) (A : Option Addr) (c : Nat) (f : Nat)
    (ih : ∀ (i : Nat) (L : List Int) (w : World), i < ns.length → Met ns L → Env w base b3 b5 b7 b8 A c ns L → ns.length < f + L.length →
      Calls Try.prog 65 #[.int .i64 (i : Int), .pointer (some ⟨b5, 0, none⟩), .pointer (some ⟨b3, 0, none⟩), .pointer (some ⟨b7, 0, none⟩), .pointer (some ⟨b8, 0, none⟩)] w (WalkDone base b3 b5 b7 b8 A c ns (dfs ns ent f i L) w))
    (i : Nat) (L : List Int) (w : World) (hi : i < ns.length) (hL : Met ns L) (he : Env w base b3 b5 b7 b8 A c ns L) (hf : ns.length < f + 1 + L.length) :
      Calls Try.prog 65 #[.int .i64 (i : Int), .pointer (some ⟨b5, 0, none⟩), .pointer (some ⟨b3, 0, none⟩), .pointer (some ⟨b7, 0, none⟩), .pointer (some ⟨b8, 0, none⟩)] w (WalkDone base b3 b5 b7 b8 A c ns (dfs ns ent (f + 1) i L) w) := by
  have x5 := he.enter.cell 0
  have x3 := he.nodes.cell 0
  simp at x5 x3
  obtain ⟨b, off, n, rfl, hbl, hat, hmem, hN⟩ := he.read.at_ hi
  obtain ⟨hn_k, hn_v, ⟨A1, c1, hn_s, hI1, _⟩, _, _⟩ := hN
  have hi1 : (0 : Int) ≤ (i : Int) := by omega
  have hi2 : (i : Int) < (ns.length : Int) := by omega
  have hin64 : In64 (i : Int) := by constructor <;> omega
  have HIn := hide hin64
  have Hat := hide hat
  have Hih := hide ih
  have HF := hide hF
  have HL := hide hL
  have hlL := hL.len
  have hhb := he.hb
  have hn3 := he.n3
  have hn5 := he.n5
  have hn7 := he.n7
  have hn8 := he.n8
  have hkids : Hid (kidsOf ns (i : Int) = n.kids) := kidsOf_at hat
  have hI2 : IntsAt w.drew b3 A1 n.kids := hI1.below (Below.refl _ _).drew
  have hr2 : NdsAt w.drew b3 (some ⟨b, off, none⟩) ns := he.read.below (Below.refl _ _).drew
  have He := hide (he.later (Below.refl _ w).drew)
  have hbt : But base b7 w w.drew := But.of_below (Below.refl _ w).drew he.hb
  have hsz2 : w.drew.heap.size = w.heap.size := rfl
  clear hat ih hF he hmem hin64 hL hI1
  go_enter Try.func65, Try.ntmps65
  go_wp2_with fail
  go_still_tail 5, (by kernel_rfl)
  change wpList _ _ _ _ _ w.drew
  generalize hwd : w.drew = w2 at He hI2 hr2 hbt hsz2 ⊢
  clear hwd x5 x3 hn_k hn_v hn_s
  go_wp2_with fail
  refine (HF.out i n A1 c1 w2 Hat.out).mono ?_
  rintro e w3 ⟨rfl, hb3⟩
  have He3 := hide (He.out.later hb3)
  have hI3 : IntsAt w3 b3 A1 n.kids := hI2.below (hb3.mono (by omega))
  have hr3 : NdsAt w3 b3 (some ⟨b, off, none⟩) ns := hr2.below (hb3.mono (by omega))
  have hbt3 : But base b7 w w3 := hbt.trans (But.of_below hb3 (by omega))
  have hsz3 : base ≤ w3.heap.size := by have := hb3.size; omega
  clear hb3 He hI2 hr2 hbt hsz2
  cases hent : ent (i : Int) with
  | false =>
    have Hd := hide (show dfs ns ent (f + 1) i L = L from dfs_stop (.inl hent))
    clear hent hI3 hr3
    go_wp2
    go_end0
    exact ⟨rfl, by rw [Hd.out]; exact He3.out, hbt3⟩
  | true =>
    obtain ⟨m, Am, cm, hset⟩ := He3.out.set
    by_cases hmem : (i : Int) ∈ L
    · have Hd := hide (show dfs ns ent (f + 1) i L = L from dfs_stop (.inr hmem))
      clear hent hI3 hr3
      go_wp2_with fail
      refine (addI_seen b7 base m Am cm L i w3 hset HIn.out hmem).mono ?_
      rintro e w' ⟨rfl, rfl⟩
      clear hset hmem
      go_wp2
      go_end0
      exact ⟨rfl, by rw [Hd.out]; exact He3.out, hbt3⟩
    · have Hd := hide (show dfs ns ent (f + 1) i L = dfsL ns ent f n.kids (L ++ [(i : Int)]) from (dfs_go hent hmem).trans (by rw [hkids.out]))
      have HM := hide (HL.out.snoc ⟨hi1, hi2⟩ hmem)
      clear hent
      go_wp2_with fail
      refine (addI_new b7 base m cm Am L i w3 hset HIn.out hsz3 hmem (by omega)).mono ?_
      rintro e w4 ⟨rfl, hset4, hb4⟩
      have He4 := hide (He3.out.added hset4 hb4)
      have hbt4 := hbt3.trans hb4
      have hB34 := He3.out.below3 hb4
      have hI4 : IntsAt w4 b3 A1 n.kids := hI3.below hB34
      have hr4 : NdsAt w4 b3 (some ⟨b, off, none⟩) ns := hr3.below hB34
      clear hset4 hb4 hset hmem hI3 hr3 hB34 He3 hbt3
      have y3 := He4.out.nodes.cell 0
      simp at y3
      obtain ⟨_, _, n', hq, _, hat', _, hN'⟩ := hr4.at_ hi
      simp only [Option.some.injEq, Addr.mk.injEq, and_true] at hq
      obtain ⟨rfl, rfl⟩ := hq
      obtain rfl := Option.some.inj (Hat.out.symm.trans hat')
      obtain ⟨_, _, ⟨A2, c2, hn_s, hI5, _⟩, _, _⟩ := hN'
      clear hat' hI4
      have hlk := hI5.len
      go_wp2_with fail
      go_loopw [26] (fun iv wr => ∃ k : Nat, k ≤ n.kids.length ∧ iv = .int .i64 k ∧ Env wr base b3 b5 b7 b8 (some ⟨b, off, none⟩) c ns (dfsL ns ent f (n.kids.take k) (L ++ [(i : Int)])) ∧ But base b7 w wr ∧ IntsAt wr b3 A2 n.kids) (fun iv _ => n.kids.length - (intOf iv).toNat)
      case atStart => exact ⟨0, Nat.zero_le _, rfl, by rw [List.take_zero, dfsL_nil]; exact He4.out, hbt4, hI5⟩
      case round =>
        obtain ⟨k, hkl, rfl, her, hbr, hIr⟩ := hrel
        have Her := hide her
        have Hbr := hide hbr
        clear her hbr He4 hbt4 hI5 y3 hn_s hr4
        by_cases hlt : k < n.kids.length
        · obtain ⟨bk, ok, x, rfl, hbk, hx, hxm, hcx⟩ := hIr.at_ hlt
          obtain ⟨hx0, hx1⟩ := hk.of (i : Int) x (by rw [hkids.out]; exact hxm)
          obtain ⟨y, rfl⟩ := Int.eq_ofNat_of_zero_le hx0
          have ys := Her.out.self.cell 0
          simp at ys
          have hwk := walkedAll ns ent hk (n.kids.take k) (L ++ [(i : Int)]) f HM.out (fun z hz => hk.of (i : Int) z (by rw [hkids.out]; exact List.mem_of_mem_take hz)) (by simp; omega)
          have hlen2 := hwk.len
          have Hwk := hide hwk.met
          have Hx := hide hx
          have hk1 : (0 : Int) ≤ (k : Int) := by omega
          have hk2 : (k : Int) < (n.kids.length : Int) := by omega
          clear hx hxm hwk
          go_wp2_with fail
          refine (Hih.out y _ wr (by omega) Hwk.out Her.out (by simp at hlen2; omega)).mono ?_
          rintro e w5 ⟨rfl, he5, hb5⟩
          have He5 := hide he5
          have Hb5 := hide (Hbr.out.trans hb5)
          have hI6 := hIr.below (Her.out.below3 hb5)
          clear he5 hb5 hlen2 hIr ys hcx
          go_wp2
          go_roundw
          case rel => exact ⟨k + 1, by omega, by go_num, by rw [List.take_add_one, Hx.out, Option.toList_some, dfsL_snoc]; exact He5.out, Hb5.out, hI6⟩
          case measure => simp [intOf]; omega
        · obtain rfl : k = n.kids.length := by omega
          clear hlt hIr
          go_wp2
          go_end0
          exact ⟨rfl, by rw [Hd.out]; have := Her.out; rw [List.take_length] at this; exact this, Hbr.out⟩

theorem walk_any (ns : List Nd) (ent : Int → Bool) (hF : Enters ns ent) (hk : KidsIn ns) (hsm : ns.length ≤ 1048576) (base b3 b5 b7 b8 : Nat) (A : Option Addr) (c : Nat) : ∀ (f i : Nat) (L : List Int) (w : World), i < ns.length → Met ns L → Env w base b3 b5 b7 b8 A c ns L → ns.length < f + L.length →
    Calls Try.prog 65 #[.int .i64 (i : Int), .pointer (some ⟨b5, 0, none⟩), .pointer (some ⟨b3, 0, none⟩), .pointer (some ⟨b7, 0, none⟩), .pointer (some ⟨b8, 0, none⟩)] w (WalkDone base b3 b5 b7 b8 A c ns (dfs ns ent f i L) w)
  | 0, _, _, _, _, hL, _, hf => by have := hL.len; omega
  | f + 1, i, L, w, hi, hL, he, hf => walk1_any ns ent hF hk hsm base b3 b5 b7 b8 A c f (fun i L w h1 h2 h3 h4 => walk_any ns ent hF hk hsm base b3 b5 b7 b8 A c f i L w h1 h2 h3 h4) i L w hi hL he hf

set_option maxRecDepth 100000 in
set_option maxHeartbeats 2000000 in
theorem walkFrom_any (ns : List Nd) (ent : Int → Bool) (hF : Enters ns ent) (hk : KidsIn ns) (hsm : ns.length ≤ 1048576) (A : Option Addr) (c : Nat) (A2 : Option Addr) (xs : List Int) (c2 : Nat) (w : World) (hr : NdsAt w w.heap.size A ns) (hx : IntsAt w w.heap.size A2 xs)
    (hin : ∀ x ∈ xs, 0 ≤ x ∧ x < ns.length) :
    Calls Try.prog 59 #[.slice A ns.length c, .slice A2 xs.length c2, .func (.func 42) #[] #[]] w (GivesInts w (dfsL ns ent (ns.length + 1) xs [])) := by
  have HF := hide hF
  have Hin := hide hin
  have hxl := hx.len
  have hB : Below w.heap.size w ((((w.alloc (.cells #[.slice A ns.length c] 23)).alloc (.cells #[.func (.func 42) #[] #[]] 65)).alloc (.cells #[.map none, .slice none 0 0] 87)).alloc
    (.cells #[.func (.func 65) #[] #[.pointer (some ⟨w.heap.size + 1, 0, none⟩), .pointer (some ⟨w.heap.size, 0, none⟩), .pointer (some ⟨w.heap.size + 1 + 1, 0, none⟩), .pointer (some ⟨w.heap.size + 1 + 1 + 1, 0, none⟩)]] 88)) :=
    ((((Below.refl _ w).alloc (Nat.le_refl _) _).alloc (by simp) _).alloc (by simp <;> omega) _).alloc (by simp <;> omega) _
  have henv : Env ((((w.alloc (.cells #[.slice A ns.length c] 23)).alloc (.cells #[.func (.func 42) #[] #[]] 65)).alloc (.cells #[.map none, .slice none 0 0] 87)).alloc
    (.cells #[.func (.func 65) #[] #[.pointer (some ⟨w.heap.size + 1, 0, none⟩), .pointer (some ⟨w.heap.size, 0, none⟩), .pointer (some ⟨w.heap.size + 1 + 1, 0, none⟩), .pointer (some ⟨w.heap.size + 1 + 1 + 1, 0, none⟩)]] 88)) (w.heap.size + 1 + 1 + 1 + 1) w.heap.size (w.heap.size + 1) (w.heap.size + 1 + 1) (w.heap.size + 1 + 1 + 1) A c ns [] := by
    refine ⟨?_, ?_, ⟨none, none, 0, SetI.start ?_ (by omega)⟩, ?_, hr.below hB, by omega, by omega, by omega, by omega, by simp⟩
    · have := ((Lies.new (w.alloc (.cells #[.slice A ns.length c] 23)) #[.func (.func 42) #[] #[]] 65).alloc (.cells #[.map none, .slice none 0 0] 87)).alloc (.cells #[.func (.func 65) #[] #[.pointer (some ⟨w.heap.size + 1, 0, none⟩), .pointer (some ⟨w.heap.size, 0, none⟩), .pointer (some ⟨w.heap.size + 1 + 1, 0, none⟩), .pointer (some ⟨w.heap.size + 1 + 1 + 1, 0, none⟩)]] 88)
      simpa using this
    · exact (((Lies.new w #[.slice A ns.length c] 23).alloc _).alloc _).alloc _
    · have := (Lies.new ((w.alloc (.cells #[.slice A ns.length c] 23)).alloc (.cells #[.func (.func 42) #[] #[]] 65)) #[.map none, .slice none 0 0] 87).alloc (.cells #[.func (.func 65) #[] #[.pointer (some ⟨w.heap.size + 1, 0, none⟩), .pointer (some ⟨w.heap.size, 0, none⟩), .pointer (some ⟨w.heap.size + 1 + 1, 0, none⟩), .pointer (some ⟨w.heap.size + 1 + 1 + 1, 0, none⟩)]] 88)
      simpa using this
    · have := Lies.new (((w.alloc (.cells #[.slice A ns.length c] 23)).alloc (.cells #[.func (.func 42) #[] #[]] 65)).alloc (.cells #[.map none, .slice none 0 0] 87)) #[.func (.func 65) #[] #[.pointer (some ⟨w.heap.size + 1, 0, none⟩), .pointer (some ⟨w.heap.size, 0, none⟩), .pointer (some ⟨w.heap.size + 1 + 1, 0, none⟩), .pointer (some ⟨w.heap.size + 1 + 1 + 1, 0, none⟩)]] 88
      simpa using this
  have Henv := hide henv
  have hx2 := hx.below hB
  clear hF hin henv hr hx
  go_enter Try.func59, Try.ntmps59
  go_wp2_with fail
  generalize ((((w.alloc (.cells #[.slice A ns.length c] 23)).alloc (.cells #[.func (.func 42) #[] #[]] 65)).alloc (.cells #[.map none, .slice none 0 0] 87)).alloc
    (.cells #[.func (.func 65) #[] #[.pointer (some ⟨w.heap.size + 1, 0, none⟩), .pointer (some ⟨w.heap.size, 0, none⟩), .pointer (some ⟨w.heap.size + 1 + 1, 0, none⟩), .pointer (some ⟨w.heap.size + 1 + 1 + 1, 0, none⟩)]] 88)) = W at hB Henv hx2 ⊢
  go_loopw [14] (fun iv wr => ∃ k : Nat, k ≤ xs.length ∧ iv = .int .i64 k ∧ Env wr (w.heap.size + 1 + 1 + 1 + 1) w.heap.size (w.heap.size + 1) (w.heap.size + 1 + 1) (w.heap.size + 1 + 1 + 1) A c ns (dfsL ns ent (ns.length + 1) (xs.take k) []) ∧ But (w.heap.size + 1 + 1 + 1 + 1) (w.heap.size + 1 + 1) W wr ∧ IntsAt wr w.heap.size A2 xs) (fun iv _ => xs.length - (intOf iv).toNat)
  case atStart => exact ⟨0, Nat.zero_le _, rfl, by rw [List.take_zero, dfsL_nil]; exact Henv.out, But.refl _ _ _, hx2⟩
  case round =>
    obtain ⟨k, hkl, rfl, her, hbr, hIr⟩ := hrel
    have Her := hide her
    have Hbr := hide hbr
    clear her hbr hx2 Henv
    by_cases hlt : k < xs.length
    · obtain ⟨bk, ok, x, rfl, hbk, hx, hxm, hcx⟩ := hIr.at_ hlt
      obtain ⟨hx0, hx1⟩ := Hin.out x hxm
      obtain ⟨y, rfl⟩ := Int.eq_ofNat_of_zero_le hx0
      have ys := Her.out.self.cell 0
      simp at ys
      have hwk := walkedAll ns ent hk (xs.take k) [] (ns.length + 1) (Met.nil ns) (fun z hz => Hin.out z (List.mem_of_mem_take hz)) (by simp)
      have Hwk := hide hwk.met
      have Hx := hide hx
      have hk1 : (0 : Int) ≤ (k : Int) := by omega
      have hk2 : (k : Int) < (xs.length : Int) := by omega
      clear hx hxm hwk
      go_wp2_with fail
      refine (walk_any ns ent HF.out hk hsm _ _ _ _ _ A c (ns.length + 1) y _ wr (by omega) Hwk.out Her.out (by omega)).mono ?_
      rintro e w5 ⟨rfl, he5, hb5⟩
      have He5 := hide he5
      have Hb5 := hide (Hbr.out.trans hb5)
      have hI6 := hIr.below (Her.out.below3 hb5)
      clear he5 hb5 hIr ys hcx
      go_wp2
      go_roundw
      case rel => exact ⟨k + 1, by omega, by go_num, by rw [List.take_add_one, Hx.out, Option.toList_some, dfsL_snoc]; exact He5.out, Hb5.out, hI6⟩
      case measure => simp [intOf]; omega
    · obtain rfl : k = xs.length := by omega
      have he9 := Her.out
      rw [List.take_length] at he9
      obtain ⟨m, Am, cm, hset⟩ := he9.set
      have z1 := hset.box.cell 1
      simp at z1
      have hrow9 := hset.row
      clear hlt hIr he9 hset
      generalize hR : dfsL ns ent (ns.length + 1) xs [] = R at z1 hrow9
      have Hfin : Hid (GivesInts w (dfsL ns ent (ns.length + 1) xs []) (.returned (.slice Am R.length cm)) wr) :=
        ⟨Am, cm, by rw [hR], by rw [hR]; exact hrow9.mono (by omega), Hbr.out.below hB (by omega) (by omega)⟩
      clear hR hrow9
      go_wp2
      go_ret
      exact Hfin.out

end Go.Proofs.Ytkgnijbdbkopkab.WalkT
