/-
  The model's pruned: what it returns.
-/
import Derived.Test.YtpcfjdhalglebaaPjAi
import Derived.Test.YtpcfjdhalglebaaPjAk
import Derived.Test.YtpcfjdhalglebaaPlIn
import Derived.Test.YtpcfjdhalglebaaPjAb
import Derived.Deep.RegionLaw
import Derived.Deep.LoopGhost
import Derived.Deep.RegionHeld3
import Derived.Deep.Cut
namespace Go.Proofs.Ytpcfjdhalglebaa
open Go.RowKit Go.Maps
set_option linter.unusedVariables false

/-- a graph in a row of the call's own comes back that reads as ms with the root r -/
def ReadsG (w : World) (ms : List Nd) (r : Int) (e : Ending) (w' : World) : Prop :=
  ∃ A c, e = .returned (.agg #[.slice A ms.length c, .int .i64 r]) ∧ RowN w' w.heap.size A c ms ∧ WfN ms ∧ Below w.heap.size w w'

theorem RowN.low {w : World} {base base' : Nat} {A : Option Addr} {c : Nat} {ns : List Nd} (h : RowN w base A c ns) (hb : base' ≤ base) : RowN w base' A c ns := by
  obtain ⟨cs, h1, h2⟩ := h.row
  refine ⟨⟨cs, ⟨h1.1, ?_⟩, fun j n hj => ?_⟩⟩
  · rcases h1.2 with h3 | ⟨g, cap, cur, hv, hg, r⟩
    · exact .inl h3
    · exact .inr ⟨g, cap, cur, hv, by omega, r⟩
  · obtain ⟨A1, c1, a1, a2, a3, a4⟩ := h2 j n hj
    exact ⟨A1, c1, a1, a2, a3, a4.lowB hb⟩

/-- the memory of the model's pruned: nodes are added -/
structure PsA (W3 wr : World) (ns : List Nd) (L : List Int) (k : Nat) : Prop where
  bel : Below W3.heap.size W3 wr
  out : ∃ An cn, Lies wr W3.heap.size #[.slice An ((pickNs ns L).take k).length cn, .int .i64 0] 25 ∧ RowN wr (W3.heap.size + 1) An cn ((pickNs ns L).take k)
  size : W3.heap.size + 1 ≤ wr.heap.size

theorem RowN.keep {w w' : World} {base : Nat} {A : Option Addr} {c : Nat} {ns : List Nd} (h : RowN w base A c ns) (hb : ∀ b, base ≤ b → b < w.heap.size → w'.heap[b]? = w.heap[b]?) : RowN w' base A c ns := by
  obtain ⟨cs, h1, h2⟩ := h.row
  refine ⟨⟨cs, ⟨h1.1, ?_⟩, fun j n hj => ?_⟩⟩
  · rcases h1.2 with h3 | ⟨g, cap, cur, hv, hg, hh, r⟩
    · exact .inl h3
    · exact .inr ⟨g, cap, cur, hv, hg, (hb g hg (lt_of_block hh)).trans hh, r⟩
  · obtain ⟨A1, c1, a1, a2, a3, a4⟩ := h2 j n hj
    exact ⟨A1, c1, a1, a2, a3, a4.of_blk (fun b hb' => hb b (a4.blocks b hb').1 (a4.blocks b hb').2)⟩

theorem PsA.step {W3 W5 wi w9 : World} {ns : List Nd} {L : List Int} {k i c' cn : Nat} {An A' : Option Addr} {n : Nd} {ks : List Int} {ob : Obj} (h : PsA W3 W5 ns L k) (hb : Below W5.heap.size W5 wi) (hlO : Lies W5 W3.heap.size #[.slice An ((pickNs ns L).take k).length cn, .int .i64 0] 25) (hAn : ∀ b, blockOf An = some b → W3.heap.size + 1 ≤ b)
    (hk : L[k]? = some (i : Int)) (hn : ns[i]? = some n) (hks : ks = n.kids.map (place L)) (hrow : RowN w9 (W3.heap.size + 1) A' c' ((pickNs ns L).take k ++ [⟨n.kind, n.value, ks⟩])) (hg : (wi.alloc ob).grownBy w9 (blockOf An)) :
    PsA W3 (w9.setCell ⟨W3.heap.size, 0, none⟩ (.slice A' (((pickNs ns L).take k).length + 1) c')) ns L (k + 1) := by
  have h1 := h.size
  have h2 := hb.size
  have h3 := hg.size
  simp only [World.size_alloc] at h3
  have hbi : Below W3.heap.size W3 (wi.alloc ob) := (h.bel.trans (hb.mono (by omega))).alloc (by omega) _
  have l9 : Lies w9 W3.heap.size _ _ := (hg.block W3.heap.size (by simp; omega) (fun e => by have := hAn _ e.symm; omega)).trans ((hlO.below hb (by omega)).alloc ob)
  have l10 := l9.set 0 (.slice A' (((pickNs ns L).take k).length + 1) c')
  simp only [List.setIfInBounds_toArray, List.set_cons_zero] at l10
  refine ⟨(below_grown hbi hg (by simp; omega) (fun b hb' => by have := hAn b hb'; omega)).setCell (p := ⟨W3.heap.size, 0, none⟩) (Nat.le_refl _) _, ⟨A', c', ?_, ?_⟩, by simp; omega⟩
  · rw [pickNs_take hk hn]
    simpa using l10
  · rw [pickNs_take hk hn, ← hks]
    exact hrow.keep (fun b hb' _ => Below.heap_setCell _ _ _ _ (by show b ≠ W3.heap.size; omega))

/-- the memory of its inner loop: kids are added to the new node -/
structure PsM (W2 wi : World) (bM : Nat) (n : Nd) (L : List Int) (j : Nat) (Ak : Option Addr) (ck : Nat) (ks : List Int) : Prop where
  bel : Below bM W2 wi
  lM : Lies wi bM #[.int .i64 n.kind, .int .i64 n.value, .slice Ak ks.length ck] 50
  own : OwnI wi (bM + 1) Ak ck ks
  eq : ks = (n.kids.take j).map (place L)
  size : bM + 1 ≤ wi.heap.size
  le : ks.length ≤ 1000

theorem PsM.start {W7 : World} {bM : Nat} {n : Nd} (L : List Int) (l : Lies W7 bM #[.int .i64 n.kind, .int .i64 n.value, .slice none 0 0] 50) : PsM W7 W7 bM n L 0 none 0 [] :=
  ⟨Below.refl _ _, l, OwnI.empty _ _, by simp, l.lt, by simp⟩

theorem PsM.step {W7 wi w9 : World} {bM : Nat} {n : Nd} {L : List Int} {j : Nat} {Ak A' : Option Addr} {ck c' : Nat} {ks zs : List Int} {y : Int} {ob : Obj} (h : PsM W7 wi bM n L j Ak ck ks) (hy : n.kids[j]? = some y) (hk : n.kids.length ≤ 1000) (hz : zs = ks ++ [place L y]) (hown : OwnI w9 (bM + 1) A' c' zs) (hg : (wi.alloc ob).drew.grownBy w9 (blockOf Ak)) :
    PsM W7 (w9.setCell ⟨bM, 2, none⟩ (.slice A' zs.length c')) bM n L (j + 1) A' c' zs := by
  have hs := h.size
  have hgs := hg.size
  have hgs2 : wi.heap.size + 1 ≤ w9.heap.size := by
    have : (wi.alloc ob).heap.size ≤ w9.heap.size := hgs
    simpa using this
  have hbM : ∀ b, blockOf Ak = some b → bM + 1 ≤ b := fun b hb => (h.own.blocks b hb).1
  have l9 : Lies w9 bM #[.int .i64 n.kind, .int .i64 n.value, .slice Ak ks.length ck] 50 := by
    have h1 := hg.block bM (by show bM < (wi.alloc ob).heap.size; simp; omega) (fun e => by have := hbM bM e.symm; omega)
    have h2 : Lies (wi.alloc ob).drew bM #[.int .i64 n.kind, .int .i64 n.value, .slice Ak ks.length ck] 50 := h.lM.alloc _
    exact h1.trans h2
  have l10 := l9.set 2 (.slice A' zs.length c')
  simp only [List.setIfInBounds_toArray, List.set_cons_succ, List.set_cons_zero] at l10
  have hd : Below bM W7 (wi.alloc ob).drew := (h.bel.alloc (by omega) _).drew
  have hjl := (List.getElem?_eq_some_iff.1 hy).1
  have heq : zs = (n.kids.take (j + 1)).map (place L) := by rw [hz, h.eq, List.take_add_one, hy]; simp
  refine ⟨(below_grown hd hg (by show bM ≤ (wi.alloc ob).heap.size; simp; omega) (fun b hb => by have := hbM b hb; omega)).setCell (p := ⟨bM, 2, none⟩) (Nat.le_refl _) _, l10, hown.of_blk (fun b hb => Below.heap_setCell _ _ _ _ (by show b ≠ bM; have := (hown.blocks b hb).1; omega)), heq, by simp; omega, by rw [heq]; simp; omega⟩

set_option maxRecDepth 100000 in
set_option maxHeartbeats 2000000 in
theorem specPruned_yes (A : Option Addr) (ns : List Nd) (c : Nat) (i : Nat) (w : World) (hr : NdsAt w w.heap.size A ns) (hv : ValidG ns (i : Int)) :
    Calls Try.prog 25 #[.agg #[.slice A ns.length c, .int .i64 (i : Int)]] w (ReadsG w (pickNs ns (reachOf ns i)) 0) := by
  have hB2 : Below w.heap.size w ((w.alloc (.cells #[.slice A ns.length c, .int .i64 (i : Int)] 25)).alloc (.cells #[.slice none 0 0, .int .i64 0] 25)) := ((Below.refl _ _).alloc (Nat.le_refl _) _).alloc (by simp) _
  have lG := (Lies.new w #[.slice A ns.length c, .int .i64 (i : Int)] 25).alloc (.cells #[.slice none 0 0, .int .i64 0] 25)
  have lR := Lies.new (w.alloc (.cells #[.slice A ns.length c, .int .i64 (i : Int)] 25)) #[.slice none 0 0, .int .i64 0] 25
  simp only [World.size_alloc] at lR
  have hr2 := hr.later hB2 (Nat.le_refl _)
  have hi : i < ns.length := by have := hv.root; omega
  have HV := hide hv
  have e0 := lG.cell 0
  have e1 := lG.cell 1
  simp at e0 e1
  clear hr hv
  go_enter Try.func25, Try.ntmps25
  go_wp2_with fail
  generalize hWd : (w.alloc (.cells #[.slice A ns.length c, .int .i64 (i : Int)] 25)).alloc (.cells #[.slice none 0 0, .int .i64 0] 25) = W at hB2 lG lR hr2 e0 e1 ⊢
  have hWs : W.heap.size = w.heap.size + 1 + 1 := by rw [← hWd]; simp
  clear hWd
  have hb1 : Below W.heap.size W (W.alloc (.cells #[] 3)) := (Below.refl _ _).alloc (Nat.le_refl _) _
  have hr3 := hr2.later hb1 (Nat.le_refl _)
  have hB3 := hB2.trans (hb1.mono hB2.size)
  have hI : IntsAt (W.alloc (.cells #[] 3)) (W.alloc (.cells #[] 3)).heap.size (some ⟨W.heap.size, 0, none⟩) [] := (OwnI.bare W).ints (by simp) (by simp)
  rw [show (⟨W.heap.size, 0, none⟩ : Addr) = ⟨w.heap.size + 1 + 1, 0, none⟩ by rw [hWs]] at hI
  have lG1 := lG.below hb1 lG.lt
  have lR1 := lR.below hb1 lR.lt
  clear lG lR hr2 hB2 hb1 hWs
  generalize W.alloc (.cells #[] 3) = w2 at hr3 hB3 hI lG1 lR1 ⊢
  refine (reach_any ns (kidsIn_of_valid HV.out) (fun n hn => (HV.out.nodes n hn).few) HV.out.few A c i (ns.length + 1) i [] (some ⟨w.heap.size + 1 + 1, 0, none⟩) 0 w2 hi (Met.nil ns) hr3 hI (fun e => by cases e) (by simp)).mono ?_
  rintro e w3 ⟨A2, c2, rfl, hb3, hI3, hnil3, hor⟩
  have HP := hide (reach_pickable HV.out)
  have hLd : reachOf ns (i : Int) = dfs ns anyB (ns.length + 1) i [] := by unfold reachOf; rw [if_pos HV.out]
  rw [← hLd] at hI3 ⊢
  generalize hLL : reachOf ns (i : Int) = L at HP hI3 ⊢
  have HLL := hide hLL
  clear hLL
  have lG3 := lG1.below hb3 lG1.lt
  have lR3 := lR1.below hb3 lR1.lt
  have hr4 := hr3.later hb3 (Nat.le_refl _)
  have hB4 := hB3.trans (hb3.mono hB3.size)
  have HLI := hide hI3
  have HR := hide hr4
  have hfew := HP.out.few
  have hS0 : PsA w3 (w3.alloc (.cells #[.slice none 0 0, .int .i64 0] 25)) ns L 0 := ⟨(Below.refl _ _).alloc (Nat.le_refl _) _, ⟨none, 0, Lies.new w3 _ _, RowN.nil _ _⟩, by simp⟩
  have HS0 := hide hS0
  have HG3 := hide lG3
  have HR3 := hide lR3
  have HB4 := hide hB4
  clear hor hnil3 hb3 hI3 hr4 hr3 hI lG1 lR1 hLd hS0 lG3 lR3 hB3 hB4 e0 e1
  go_wp2_with fail
  generalize w3.alloc (.cells #[.slice none 0 0, .int .i64 0] 25) = w4 at HS0 ⊢
  go_loopg [5] L.length (fun gk iv wr => ∃ k : Nat, k ≤ L.length ∧ gk = L.length - k ∧ iv = .int .i64 (k : Int) ∧ PsA w3 wr ns L k)
  case atStart => exact ⟨0, Nat.zero_le _, rfl, rfl, HS0.out⟩
  case round =>
    clear HS0
    obtain ⟨W5, hW5⟩ : ∃ X, X = wr := ⟨_, rfl⟩
    subst hW5
    obtain ⟨k, hk, rfl, rfl, hS⟩ := hrel
    by_cases hlt : k < L.length
    · have HS := hide hS
      obtain ⟨b, off, x, rfl, hbl, hx, hm, hc⟩ := (HLI.out.below hS.bel).at_ hlt
      obtain ⟨hx0, hx1⟩ := HP.out.range x hm
      obtain ⟨q, rfl⟩ := Int.eq_ofNat_of_zero_le hx0
      have hil : q < ns.length := by omega
      obtain ⟨b', off', n, rfl, hbl', hn, _, hnd⟩ := (HR.out.below hS.bel).at_ hil
      obtain ⟨A1, c1, k2, hki, _⟩ := hnd.kids
      have k0 := hnd.kind
      have k1 := hnd.value
      obtain ⟨hk1000, hkin⟩ := HP.out.closed q n hm hn
      have lG5 := HG3.out.below hS.bel HG3.out.lt
      have g0 := lG5.cell 0
      simp at g0
      have HX := hide hx
      have HN := hide hn
      have hi1 : (0 : Int) ≤ (k : Int) := by omega
      have hi2 : (k : Int) < (L.length : Int) := by omega
      have hi3 : (0 : Int) ≤ (q : Int) := by omega
      have hi4 : (q : Int) < (ns.length : Int) := by omega
      have HKI := hide (hki.more (by exact hS.bel.size : w3.heap.size ≤ W5.heap.size))
      have u0 := World.new_ne W5 _ g0
      have u1 := World.new_ne W5 _ hc
      have u2 := World.new_ne W5 _ k0
      clear hx hm hn hkin hnd hki hS lG5 hx0 hx1 hbl hbl'
      go_wp2_with fail
      go_region_held3 (fun w' => w'.cell? ⟨w.heap.size, 0, none⟩ = some (.slice (some ⟨b', off', none⟩) ns.length c) ∧ w'.cell? ⟨b, off + k, none⟩ = some (.int .i64 (q : Int)) ∧ w'.cell? ⟨b', off' + q * 3, none⟩ = some (.int .i64 n.kind) ∧ w'.cell? ⟨b', off' + q * 3 + 1, none⟩ = some (.int .i64 n.value) ∧ w'.cell? ⟨b', off' + q * 3 + 2, none⟩ = some (.slice A1 n.kids.length c1))
        (first
          | (go_split_ands; refine ⟨?_, ?_, ?_, ?_, ?_⟩ <;> assumption)
          | go_keep)
        (fail)
      go_wp2_with fail
      have hb7 : Below W5.heap.size W5 (((W5.alloc (.cells #[.int .i64 n.kind, .int .i64 n.value, .slice A1 n.kids.length c1] 50)).alloc (.cells #[.int .i64 n.kind, .int .i64 n.value, .slice none 0 0] 50)).drew) := (((Below.refl _ _).alloc (Nat.le_refl _) _).alloc (by simp) _).drew
      have lN7 : Lies (((W5.alloc (.cells #[.int .i64 n.kind, .int .i64 n.value, .slice A1 n.kids.length c1] 50)).alloc (.cells #[.int .i64 n.kind, .int .i64 n.value, .slice none 0 0] 50)).drew) W5.heap.size #[.int .i64 n.kind, .int .i64 n.value, .slice A1 n.kids.length c1] 50 := (Lies.new W5 _ _).alloc _
      have lM7 : Lies (((W5.alloc (.cells #[.int .i64 n.kind, .int .i64 n.value, .slice A1 n.kids.length c1] 50)).alloc (.cells #[.int .i64 n.kind, .int .i64 n.value, .slice none 0 0] 50)).drew) (W5.heap.size + 1) #[.int .i64 n.kind, .int .i64 n.value, .slice none 0 0] 50 := by
        have := Lies.new (W5.alloc (.cells #[.int .i64 n.kind, .int .i64 n.value, .slice A1 n.kids.length c1] 50)) #[.int .i64 n.kind, .int .i64 n.value, .slice none 0 0] 50
        simp only [World.size_alloc] at this
        exact this
      generalize ((W5.alloc (.cells #[.int .i64 n.kind, .int .i64 n.value, .slice A1 n.kids.length c1] 50)).alloc (.cells #[.int .i64 n.kind, .int .i64 n.value, .slice none 0 0] 50)).drew = W7 at hb7 lN7 lM7 ⊢
      have HM0 := hide (PsM.start L lM7)
      have HB7 := hide hb7
      have HN7 := hide lN7
      clear hb7 lN7 lM7 k0 k1 k2 hc g0 u0 u1 u2
      go_loopg [8] n.kids.length (fun gk jv wi => ∃ (j : Nat) (Ak : Option Addr) (ck : Nat) (ks : List Int), j ≤ n.kids.length ∧ gk = n.kids.length - j ∧ jv = .int .i64 (j : Int) ∧ PsM W7 wi (W5.heap.size + 1) n L j Ak ck ks)
      case atStart => exact ⟨0, none, 0, [], Nat.zero_le _, rfl, rfl, HM0.out⟩
      case round =>
        clear HM0
        obtain ⟨j, Ak, ck, ks, hj, rfl, rfl, hM⟩ := hrel
        have HM := hide hM
        have hsM := hM.size
        have hBW := hide (HB7.out.trans (hM.bel.mono (by omega)))
        have lN := HN7.out.below hM.bel (by omega)
        have n2 := lN.cell 2
        have m2 := hM.lM.cell 2
        have f2 := hM.lM.frozen 2
        simp at n2 m2
        have hkl := hM.le
        by_cases hlj : j < n.kids.length
        · obtain ⟨b3, off3, y, rfl, hbl3, hy, hym, hcy⟩ := (HKI.out.below hBW.out).at_ hlj
          have HY := hide hy
          have hj1 : (0 : Int) ≤ (j : Int) := by omega
          have hj2 : (j : Int) < (n.kids.length : Int) := by omega
          have HLd : Hid (IntsAt wr.drew wr.drew.heap.size (some ⟨b, off, none⟩) L) := hide (HLI.out.later (HS.out.bel.trans ((hBW.out.mono HS.out.bel.size).drew)) (Nat.le_refl _))
          have hq64 := hide (place_in64 (L := L) (by omega) y)
          have hne : Hid (some (W5.heap.size + 1) ≠ blockOf Ak) := hide (fun e => by have := (HM.out.own.blocks _ e.symm).1; omega)
          have hlt3 : b3 < wr.heap.size := by omega
          have hlt4 : W5.heap.size + 1 < wr.heap.size := by omega
          have hlt5 : W5.heap.size < wr.heap.size := by omega
          clear hy hym hM lN
          go_wp2_with fail
          go_region_law (first
            | (go_simp; go_at_call 35; refine (placeIn_any (some ⟨b, off, none⟩) L c2 y wr.drew HLd.out).mono ?_; rintro e w' ⟨rfl, rfl⟩; try dsimp only)
            | (refine step_append_ints (by rfl) _ _ (by rfl) (W5.heap.size + 1 + 1) Ak ck ks (by rfl) (HM.out.own.alloc _).drew ⟨wr.heap.size, 0, none⟩ 1 [place L y] (by simp) (by rfl) (by have h0 := (IntsAt.lit wr [place L y] (by intro z hz; simp at hz; rw [hz]; exact hq64.out) (by simp)).below (Below.refl _ _).drew; simpa using h0) (by simp; omega) (by simp; omega) ?_; intro zs A' c' w9 hz9 hown9 hg9 hat9
               have t2 : w9.cell? ⟨W5.heap.size + 1, 2, none⟩ = some (.slice Ak ks.length ck) := (hg9.cell_far _ (by simp; omega) hne.out).trans ((World.cell?_alloc_lt _ _ _ (by show W5.heap.size + 1 < wr.heap.size; omega)).trans m2)
               have t3 : w9.frozen? ⟨W5.heap.size + 1, 2, none⟩ = false := (hg9.frozen_far _ (by simp; omega) hne.out).trans ((HM.out.lM.alloc _).frozen 2)))
          all_goals
            have HM1 := hide (HM.out.step HY.out hk1000 hz9.out hown9 hg9)
            clear t2 t3 hown9 hg9 hat9 n2 m2 f2 hcy
            go_wp2
            go_roundg (n.kids.length - (j + 1))
            case measure => omega
            case rel => exact ⟨j + 1, A', c', zs, by omega, rfl, by go_num, HM1.out⟩
        · obtain rfl : j = n.kids.length := by omega
          obtain ⟨An, cn, hlO, hRow⟩ := HS.out.out
          have hlOw := hlO.below hBW.out hlO.lt
          have o0 := hlOw.cell 0
          have o1 := hlOw.frozen 0
          have m0 := hM.lM.cell 0
          have m1 := hM.lM.cell 1
          simp only [List.getElem?_toArray, List.getElem?_cons_zero] at o0
          simp at m0 m1
          have hOlt := hlO.lt
          have hsS := HS.out.size
          have HAn := hide (fun b hb => (hRow.blocks b hb).1 : ∀ b, blockOf An = some b → w3.heap.size + 1 ≤ b)
          have HRow := hide (hRow.below hBW.out)
          have HlO := hide hlO
          have hks : ks = n.kids.map (place L) := by rw [hM.eq, List.take_length]
          have Hks := hide hks
          have HOw := hide (hM.own.lowB (base' := w3.heap.size + 1) (by omega))
          have hne : Hid (some w3.heap.size ≠ blockOf An) := hide (fun e => by have := HAn.out _ e.symm; omega)
          have hll : ((pickNs ns L).take k).length ≤ 1000 := by simp [pickNs_len]; omega
          have hlt6 : w3.heap.size < wr.heap.size := by omega
          clear hlO hRow hks hM lN hlj f2
          generalize hPd : (pickNs ns L).take k = P at o0 HRow HlO hll hlOw ⊢
          have HPd := hide hPd
          clear hPd
          go_wp2_with (at_builtin; refine append_ndK rfl (.tmp 54) (.tmp 56) rfl (w3.heap.size + 1) An cn P rfl (HRow.out.below ((Below.refl _ _).alloc (Nat.le_refl _) _)) wr.heap.size ⟨n.kind, n.value, ks⟩ Ak ck 50 rfl (heap_alloc_new wr _) (HOw.out.alloc _) (by simp; omega) hll ?_; intro A' c' w9 hrow9 hg9; have t2 : w9.cell? ⟨w3.heap.size, 0, none⟩ = some (.slice An P.length cn) := (hg9.cell_far _ (by simp; omega) hne.out).trans ((World.cell?_alloc_lt _ _ _ hlt6).trans o0); have t3 : w9.frozen? ⟨w3.heap.size, 0, none⟩ = false := (hg9.frozen_far _ (by simp; omega) hne.out).trans ((hlOw.alloc _).frozen 0))
          have hN2 := HS.out.step hBW.out (by rw [HPd.out]; exact HlO.out) HAn.out HX.out HN.out Hks.out (by rw [HPd.out]; exact hrow9) hg9
          rw [HPd.out] at hN2
          have HN2 := hide hN2
          clear hN2 t2 t3 hrow9 hg9 o0 o1 m0 m1 m2 n2
          go_wp2
          go_roundg (L.length - (k + 1))
          case measure => omega
          case rel => exact ⟨k + 1, by omega, rfl, by go_num, HN2.out⟩
    · obtain rfl : k = L.length := by omega
      obtain ⟨An, cn, hlO, hRow⟩ := hS.out
      rw [List.take_of_length_le (by rw [pickNs_len]; exact Nat.le_refl _)] at hlO hRow
      have hsS := hS.size
      have hBr := hS.bel
      have hGR := HR3.out.lt
      have lRw := HR3.out.below hS.bel hGR
      have hwf : WfN (pickNs ns L) := by
        intro m hm
        obtain ⟨x, hx, rfl⟩ := List.mem_map.1 hm
        obtain ⟨hx0, hx1⟩ := HP.out.range x hx
        obtain ⟨q, rfl⟩ := Int.eq_ofNat_of_zero_le hx0
        obtain ⟨_, _, n, _, _, hn, _, hnd⟩ := HR.out.at_ (k := q) (by omega)
        rw [pickN_at hn]
        exact ⟨hnd.wfk, hnd.wfv, fun z hz => by
          obtain ⟨y, _, rfl⟩ := List.mem_map.1 hz
          exact place_in64 (by omega) y, by have := (HP.out.closed q n hx hn).1; simp; omega⟩
      have l5 := (lRw.set 0 (.slice An (pickNs ns L).length cn)).set 1 (.int .i64 0)
      simp only [List.setIfInBounds_toArray, List.set_cons_succ, List.set_cons_zero] at l5
      have s0 := l5.cell 0
      have s1 := l5.cell 1
      have q0 := lRw.cell 0
      have q1 := lRw.cell 1
      have f0 := lRw.frozen 0
      have f1 := lRw.frozen 1
      have o0 := hlO.cell 0
      have o1 := hlO.cell 1
      simp only [List.getElem?_toArray, List.getElem?_cons_zero, List.getElem?_cons_succ] at s0 s1 q0 q1 o0 o1
      have hfin : ReadsG w (pickNs ns L) 0 (.returned (.agg #[.slice An (pickNs ns L).length cn, .int .i64 0])) ((W5.setCell ⟨w.heap.size + 1, 0, none⟩ (.slice An (pickNs ns L).length cn)).setCell ⟨w.heap.size + 1, 1, none⟩ (.int .i64 0)) := by
        have hk := hRow.keep (w' := (W5.setCell ⟨w.heap.size + 1, 0, none⟩ (.slice An (pickNs ns L).length cn)).setCell ⟨w.heap.size + 1, 1, none⟩ (.int .i64 0)) (fun b hb _ => (Below.heap_setCell _ _ _ _ (by show b ≠ w.heap.size + 1; omega)).trans (Below.heap_setCell _ _ _ _ (by show b ≠ w.heap.size + 1; omega)))
        exact ⟨An, cn, rfl, hk.low (by omega), hwf, ((HB4.out.trans (hBr.mono HB4.out.size)).setCell (p := ⟨w.heap.size + 1, 0, none⟩) (by show w.heap.size ≤ w.heap.size + 1; omega) _).setCell (p := ⟨w.heap.size + 1, 1, none⟩) (by show w.heap.size ≤ w.heap.size + 1; omega) _⟩
      have HFin := hide hfin
      have hlenP := hide (pickNs_len ns L)
      clear hfin hwf l5 lRw hlO hRow hS hBr hlt
      go_wp2
      refine bodyPost_ret (v := .agg #[.slice An (pickNs ns L).length cn, .int .i64 0]) (by simp [results, Try.results25, go_sem, s0, s1]) rfl ?_
      rw [HLL.out]
      exact HFin.out

end Go.Proofs.Ytpcfjdhalglebaa
