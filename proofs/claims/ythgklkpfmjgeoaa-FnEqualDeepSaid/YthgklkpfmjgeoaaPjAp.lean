/-
  Lemmas, several texts in one: PrunS, ClaI.
-/
import Derived.Test.YthgklkpfmjgeoaaPjAh
import Derived.Test.YthgklkpfmjgeoaaPjAm
import Derived.Test.YthgklkpfmjgeoaaPjAi
import Derived.Test.YthgklkpfmjgeoaaPlIn
import Derived.Test.YthgklkpfmjgeoaaPjAe
import Derived.Deep.RegionLaw
import Derived.Deep.LoopGhost
import Derived.Deep.RegionHeld3
import Derived.Deep.Cut
import Derived.Test.YthgklkpfmjgeoaaPjAk
import Derived.Test.YthgklkpfmjgeoaaPjAl
import Derived.Test.YthgklkpfmjgeoaaPjAo
import Derived.WalkMore
namespace Go.Proofs.Ythgklkpfmjgeoaa
open Go.RowKit Go.Maps
set_option linter.unusedVariables false

/-- a graph in a row of the call's own comes back that reads as ms with the root r -/
def ReadsG (w : World) (ms : List Nd) (r : Int) (e : Ending) (w' : World) : Prop :=
  ∃ A c, e = .returned (.agg #[.slice A ms.length c, .int .i64 r]) ∧ RowN w' w.heap.size A c ms ∧ WfN ms ∧ Below w.heap.size w w'

theorem RowN.low {w : World} {base base' : Nat} {A : Option Addr} {c : Nat} {ns : List Nd} (h : RowN w base A c ns) (hb : base' ≤ base) : RowN w base' A c ns := by
  obtain ⟨cs, h1, h2⟩ := h.row
  refine ⟨⟨cs, ⟨h1.1, ?_⟩, fun j n hj => ?_⟩⟩
  · rcases h1.2 with h3 | ⟨g, cap, cur, hv, hg, r⟩
    · exact .inl h3
    · exact .inr ⟨g, cap, cur, hv, by omega, r⟩
  · obtain ⟨A1, c1, a1, a2, a3, a4⟩ := h2 j n hj
    exact ⟨A1, c1, a1, a2, a3, a4.lowB hb⟩

/-- the memory of the model's pruned: nodes are added -/
structure PsA (W3 wr : World) (ns : List Nd) (L : List Int) (k : Nat) : Prop where
  bel : Below W3.heap.size W3 wr
  out : ∃ An cn, Lies wr W3.heap.size #[.slice An ((pickNs ns L).take k).length cn, .int .i64 0] 25 ∧ RowN wr (W3.heap.size + 1) An cn ((pickNs ns L).take k)
  size : W3.heap.size + 1 ≤ wr.heap.size

theorem RowN.keep {w w' : World} {base : Nat} {A : Option Addr} {c : Nat} {ns : List Nd} (h : RowN w base A c ns) (hb : ∀ b, base ≤ b → b < w.heap.size → w'.heap[b]? = w.heap[b]?) : RowN w' base A c ns := by
  obtain ⟨cs, h1, h2⟩ := h.row
  refine ⟨⟨cs, ⟨h1.1, ?_⟩, fun j n hj => ?_⟩⟩
  · rcases h1.2 with h3 | ⟨g, cap, cur, hv, hg, hh, r⟩
    · exact .inl h3
    · exact .inr ⟨g, cap, cur, hv, hg, (hb g hg (lt_of_block hh)).trans hh, r⟩
  · obtain ⟨A1, c1, a1, a2, a3, a4⟩ := h2 j n hj
    exact ⟨A1, c1, a1, a2, a3, a4.of_blk (fun b hb' => hb b (a4.blocks b hb').1 (a4.blocks b hb').2)⟩

theorem PsA.step {W3 W5 wi w9 : World} {ns : List Nd} {L : List Int} {k i c' cn : Nat} {An A' : Option Addr} {n : Nd} {ks : List Int} {ob : Obj} (h : PsA W3 W5 ns L k) (hb : Below W5.heap.size W5 wi) (hlO : Lies W5 W3.heap.size #[.slice An ((pickNs ns L).take k).length cn, .int .i64 0] 25) (hAn : ∀ b, blockOf An = some b → W3.heap.size + 1 ≤ b)
    (hk : L[k]? = some (i : Int)) (hn : ns[i]? = some n) (hks : ks = n.kids.map (place L)) (hrow : RowN w9 (W3.heap.size + 1) A' c' ((pickNs ns L).take k ++ [⟨n.kind, n.value, ks⟩])) (hg : (wi.alloc ob).grownBy w9 (blockOf An)) :
    PsA W3 (w9.setCell ⟨W3.heap.size, 0, none⟩ (.slice A' (((pickNs ns L).take k).length + 1) c')) ns L (k + 1) := by
  have h1 := h.size
  have h2 := hb.size
  have h3 := hg.size
  simp only [World.size_alloc] at h3
  have hbi : Below W3.heap.size W3 (wi.alloc ob) := (h.bel.trans (hb.mono (by omega))).alloc (by omega) _
  have l9 : Lies w9 W3.heap.size _ _ := (hg.block W3.heap.size (by simp; omega) (fun e => by have := hAn _ e.symm; omega)).trans ((hlO.below hb (by omega)).alloc ob)
  have l10 := l9.set 0 (.slice A' (((pickNs ns L).take k).length + 1) c')
  simp only [List.setIfInBounds_toArray, List.set_cons_zero] at l10
  refine ⟨(below_grown hbi hg (by simp; omega) (fun b hb' => by have := hAn b hb'; omega)).setCell (p := ⟨W3.heap.size, 0, none⟩) (Nat.le_refl _) _, ⟨A', c', ?_, ?_⟩, by simp; omega⟩
  · rw [pickNs_take hk hn]
    simpa using l10
  · rw [pickNs_take hk hn, ← hks]
    exact hrow.keep (fun b hb' _ => Below.heap_setCell _ _ _ _ (by show b ≠ W3.heap.size; omega))

/-- the memory of its inner loop: kids are added to the new node -/
structure PsM (W2 wi : World) (bM : Nat) (n : Nd) (L : List Int) (j : Nat) (Ak : Option Addr) (ck : Nat) (ks : List Int) : Prop where
  bel : Below bM W2 wi
  lM : Lies wi bM #[.int .i64 n.kind, .int .i64 n.value, .slice Ak ks.length ck] 43
  own : OwnI wi (bM + 1) Ak ck ks
  eq : ks = (n.kids.take j).map (place L)
  size : bM + 1 ≤ wi.heap.size
  le : ks.length ≤ 1000

theorem PsM.start {W7 : World} {bM : Nat} {n : Nd} (L : List Int) (l : Lies W7 bM #[.int .i64 n.kind, .int .i64 n.value, .slice none 0 0] 43) : PsM W7 W7 bM n L 0 none 0 [] :=
  ⟨Below.refl _ _, l, OwnI.empty _ _, by simp, l.lt, by simp⟩

theorem PsM.step {W7 wi w9 : World} {bM : Nat} {n : Nd} {L : List Int} {j : Nat} {Ak A' : Option Addr} {ck c' : Nat} {ks zs : List Int} {y : Int} {ob : Obj} (h : PsM W7 wi bM n L j Ak ck ks) (hy : n.kids[j]? = some y) (hk : n.kids.length ≤ 1000) (hz : zs = ks ++ [place L y]) (hown : OwnI w9 (bM + 1) A' c' zs) (hg : (wi.alloc ob).drew.grownBy w9 (blockOf Ak)) :
    PsM W7 (w9.setCell ⟨bM, 2, none⟩ (.slice A' zs.length c')) bM n L (j + 1) A' c' zs := by
  have hs := h.size
  have hgs := hg.size
  have hgs2 : wi.heap.size + 1 ≤ w9.heap.size := by
    have : (wi.alloc ob).heap.size ≤ w9.heap.size := hgs
    simpa using this
  have hbM : ∀ b, blockOf Ak = some b → bM + 1 ≤ b := fun b hb => (h.own.blocks b hb).1
  have l9 : Lies w9 bM #[.int .i64 n.kind, .int .i64 n.value, .slice Ak ks.length ck] 43 := by
    have h1 := hg.block bM (by show bM < (wi.alloc ob).heap.size; simp; omega) (fun e => by have := hbM bM e.symm; omega)
    have h2 : Lies (wi.alloc ob).drew bM #[.int .i64 n.kind, .int .i64 n.value, .slice Ak ks.length ck] 43 := h.lM.alloc _
    exact h1.trans h2
  have l10 := l9.set 2 (.slice A' zs.length c')
  simp only [List.setIfInBounds_toArray, List.set_cons_succ, List.set_cons_zero] at l10
  have hd : Below bM W7 (wi.alloc ob).drew := (h.bel.alloc (by omega) _).drew
  have hjl := (List.getElem?_eq_some_iff.1 hy).1
  have heq : zs = (n.kids.take (j + 1)).map (place L) := by rw [hz, h.eq, List.take_add_one, hy]; simp
  refine ⟨(below_grown hd hg (by show bM ≤ (wi.alloc ob).heap.size; simp; omega) (fun b hb => by have := hbM b hb; omega)).setCell (p := ⟨bM, 2, none⟩) (Nat.le_refl _) _, l10, hown.of_blk (fun b hb => Below.heap_setCell _ _ _ _ (by show b ≠ bM; have := (hown.blocks b hb).1; omega)), heq, by simp; omega, by rw [heq]; simp; omega⟩

set_option maxRecDepth 100000 in
set_option maxHeartbeats 2000000 in
theorem specPruned_yes (A : Option Addr) (ns : List Nd) (c : Nat) (i : Nat) (w : World) (hr : NdsAt w w.heap.size A ns) (hv : ValidG ns (i : Int)) :
    Calls Try.prog 34 #[.agg #[.slice A ns.length c, .int .i64 (i : Int)]] w (ReadsG w (pickNs ns (reachOf ns i)) 0) := by
  have hB2 : Below w.heap.size w ((w.alloc (.cells #[.slice A ns.length c, .int .i64 (i : Int)] 25)).alloc (.cells #[.slice none 0 0, .int .i64 0] 25)) := ((Below.refl _ _).alloc (Nat.le_refl _) _).alloc (by simp) _
  have lG := (Lies.new w #[.slice A ns.length c, .int .i64 (i : Int)] 25).alloc (.cells #[.slice none 0 0, .int .i64 0] 25)
  have lR := Lies.new (w.alloc (.cells #[.slice A ns.length c, .int .i64 (i : Int)] 25)) #[.slice none 0 0, .int .i64 0] 25
  simp only [World.size_alloc] at lR
  have hr2 := hr.later hB2 (Nat.le_refl _)
  have hi : i < ns.length := by have := hv.root; omega
  have HV := hide hv
  have e0 := lG.cell 0
  have e1 := lG.cell 1
  simp at e0 e1
  clear hr hv
  go_enter Try.func34, Try.ntmps34
  go_wp2_with fail
  generalize hWd : (w.alloc (.cells #[.slice A ns.length c, .int .i64 (i : Int)] 25)).alloc (.cells #[.slice none 0 0, .int .i64 0] 25) = W at hB2 lG lR hr2 e0 e1 ⊢
  have hWs : W.heap.size = w.heap.size + 1 + 1 := by rw [← hWd]; simp
  clear hWd
  have hb1 : Below W.heap.size W (W.alloc (.cells #[] 3)) := (Below.refl _ _).alloc (Nat.le_refl _) _
  have hr3 := hr2.later hb1 (Nat.le_refl _)
  have hB3 := hB2.trans (hb1.mono hB2.size)
  have hI : IntsAt (W.alloc (.cells #[] 3)) (W.alloc (.cells #[] 3)).heap.size (some ⟨W.heap.size, 0, none⟩) [] := (OwnI.bare W).ints (by simp) (by simp)
  rw [show (⟨W.heap.size, 0, none⟩ : Addr) = ⟨w.heap.size + 1 + 1, 0, none⟩ by rw [hWs]] at hI
  have lG1 := lG.below hb1 lG.lt
  have lR1 := lR.below hb1 lR.lt
  clear lG lR hr2 hB2 hb1 hWs
  generalize W.alloc (.cells #[] 3) = w2 at hr3 hB3 hI lG1 lR1 ⊢
  refine (reach_any ns (kidsIn_of_valid HV.out) (fun n hn => (HV.out.nodes n hn).few) HV.out.few A c i (ns.length + 1) i [] (some ⟨w.heap.size + 1 + 1, 0, none⟩) 0 w2 hi (Met.nil ns) hr3 hI (fun e => by cases e) (by simp)).mono ?_
  rintro e w3 ⟨A2, c2, rfl, hb3, hI3, hnil3, hor⟩
  have HP := hide (reach_pickable HV.out)
  have hLd : reachOf ns (i : Int) = dfs ns anyB (ns.length + 1) i [] := by unfold reachOf; rw [if_pos HV.out]
  rw [← hLd] at hI3 ⊢
  generalize hLL : reachOf ns (i : Int) = L at HP hI3 ⊢
  have HLL := hide hLL
  clear hLL
  have lG3 := lG1.below hb3 lG1.lt
  have lR3 := lR1.below hb3 lR1.lt
  have hr4 := hr3.later hb3 (Nat.le_refl _)
  have hB4 := hB3.trans (hb3.mono hB3.size)
  have HLI := hide hI3
  have HR := hide hr4
  have hfew := HP.out.few
  have hS0 : PsA w3 (w3.alloc (.cells #[.slice none 0 0, .int .i64 0] 25)) ns L 0 := ⟨(Below.refl _ _).alloc (Nat.le_refl _) _, ⟨none, 0, Lies.new w3 _ _, RowN.nil _ _⟩, by simp⟩
  have HS0 := hide hS0
  have HG3 := hide lG3
  have HR3 := hide lR3
  have HB4 := hide hB4
  clear hor hnil3 hb3 hI3 hr4 hr3 hI lG1 lR1 hLd hS0 lG3 lR3 hB3 hB4 e0 e1
  go_wp2_with fail
  generalize w3.alloc (.cells #[.slice none 0 0, .int .i64 0] 25) = w4 at HS0 ⊢
  go_loopg [5] L.length (fun gk iv wr => ∃ k : Nat, k ≤ L.length ∧ gk = L.length - k ∧ iv = .int .i64 (k : Int) ∧ PsA w3 wr ns L k)
  case atStart => exact ⟨0, Nat.zero_le _, rfl, rfl, HS0.out⟩
  case round =>
    clear HS0
    obtain ⟨W5, hW5⟩ : ∃ X, X = wr := ⟨_, rfl⟩
    subst hW5
    obtain ⟨k, hk, rfl, rfl, hS⟩ := hrel
    by_cases hlt : k < L.length
    · have HS := hide hS
      obtain ⟨b, off, x, rfl, hbl, hx, hm, hc⟩ := (HLI.out.below hS.bel).at_ hlt
      obtain ⟨hx0, hx1⟩ := HP.out.range x hm
      obtain ⟨q, rfl⟩ := Int.eq_ofNat_of_zero_le hx0
      have hil : q < ns.length := by omega
      obtain ⟨b', off', n, rfl, hbl', hn, _, hnd⟩ := (HR.out.below hS.bel).at_ hil
      obtain ⟨A1, c1, k2, hki, _⟩ := hnd.kids
      have k0 := hnd.kind
      have k1 := hnd.value
      obtain ⟨hk1000, hkin⟩ := HP.out.closed q n hm hn
      have lG5 := HG3.out.below hS.bel HG3.out.lt
      have g0 := lG5.cell 0
      simp at g0
      have HX := hide hx
      have HN := hide hn
      have hi1 : (0 : Int) ≤ (k : Int) := by omega
      have hi2 : (k : Int) < (L.length : Int) := by omega
      have hi3 : (0 : Int) ≤ (q : Int) := by omega
      have hi4 : (q : Int) < (ns.length : Int) := by omega
      have HKI := hide (hki.more (by exact hS.bel.size : w3.heap.size ≤ W5.heap.size))
      have u0 := World.new_ne W5 _ g0
      have u1 := World.new_ne W5 _ hc
      have u2 := World.new_ne W5 _ k0
      clear hx hm hn hkin hnd hki hS lG5 hx0 hx1 hbl hbl'
      go_wp2_with fail
      go_region_held3 (fun w' => w'.cell? ⟨w.heap.size, 0, none⟩ = some (.slice (some ⟨b', off', none⟩) ns.length c) ∧ w'.cell? ⟨b, off + k, none⟩ = some (.int .i64 (q : Int)) ∧ w'.cell? ⟨b', off' + q * 3, none⟩ = some (.int .i64 n.kind) ∧ w'.cell? ⟨b', off' + q * 3 + 1, none⟩ = some (.int .i64 n.value) ∧ w'.cell? ⟨b', off' + q * 3 + 2, none⟩ = some (.slice A1 n.kids.length c1))
        (first
          | (go_split_ands; refine ⟨?_, ?_, ?_, ?_, ?_⟩ <;> assumption)
          | go_keep)
        (fail)
      go_wp2_with fail
      have hb7 : Below W5.heap.size W5 (((W5.alloc (.cells #[.int .i64 n.kind, .int .i64 n.value, .slice A1 n.kids.length c1] 43)).alloc (.cells #[.int .i64 n.kind, .int .i64 n.value, .slice none 0 0] 43)).drew) := (((Below.refl _ _).alloc (Nat.le_refl _) _).alloc (by simp) _).drew
      have lN7 : Lies (((W5.alloc (.cells #[.int .i64 n.kind, .int .i64 n.value, .slice A1 n.kids.length c1] 43)).alloc (.cells #[.int .i64 n.kind, .int .i64 n.value, .slice none 0 0] 43)).drew) W5.heap.size #[.int .i64 n.kind, .int .i64 n.value, .slice A1 n.kids.length c1] 43 := (Lies.new W5 _ _).alloc _
      have lM7 : Lies (((W5.alloc (.cells #[.int .i64 n.kind, .int .i64 n.value, .slice A1 n.kids.length c1] 43)).alloc (.cells #[.int .i64 n.kind, .int .i64 n.value, .slice none 0 0] 43)).drew) (W5.heap.size + 1) #[.int .i64 n.kind, .int .i64 n.value, .slice none 0 0] 43 := by
        have := Lies.new (W5.alloc (.cells #[.int .i64 n.kind, .int .i64 n.value, .slice A1 n.kids.length c1] 43)) #[.int .i64 n.kind, .int .i64 n.value, .slice none 0 0] 43
        simp only [World.size_alloc] at this
        exact this
      generalize ((W5.alloc (.cells #[.int .i64 n.kind, .int .i64 n.value, .slice A1 n.kids.length c1] 43)).alloc (.cells #[.int .i64 n.kind, .int .i64 n.value, .slice none 0 0] 43)).drew = W7 at hb7 lN7 lM7 ⊢
      have HM0 := hide (PsM.start L lM7)
      have HB7 := hide hb7
      have HN7 := hide lN7
      clear hb7 lN7 lM7 k0 k1 k2 hc g0 u0 u1 u2
      go_loopg [8] n.kids.length (fun gk jv wi => ∃ (j : Nat) (Ak : Option Addr) (ck : Nat) (ks : List Int), j ≤ n.kids.length ∧ gk = n.kids.length - j ∧ jv = .int .i64 (j : Int) ∧ PsM W7 wi (W5.heap.size + 1) n L j Ak ck ks)
      case atStart => exact ⟨0, none, 0, [], Nat.zero_le _, rfl, rfl, HM0.out⟩
      case round =>
        clear HM0
        obtain ⟨j, Ak, ck, ks, hj, rfl, rfl, hM⟩ := hrel
        have HM := hide hM
        have hsM := hM.size
        have hBW := hide (HB7.out.trans (hM.bel.mono (by omega)))
        have lN := HN7.out.below hM.bel (by omega)
        have n2 := lN.cell 2
        have m2 := hM.lM.cell 2
        have f2 := hM.lM.frozen 2
        simp at n2 m2
        have hkl := hM.le
        by_cases hlj : j < n.kids.length
        · obtain ⟨b3, off3, y, rfl, hbl3, hy, hym, hcy⟩ := (HKI.out.below hBW.out).at_ hlj
          have HY := hide hy
          have hj1 : (0 : Int) ≤ (j : Int) := by omega
          have hj2 : (j : Int) < (n.kids.length : Int) := by omega
          have HLd : Hid (IntsAt wr.drew wr.drew.heap.size (some ⟨b, off, none⟩) L) := hide (HLI.out.later (HS.out.bel.trans ((hBW.out.mono HS.out.bel.size).drew)) (Nat.le_refl _))
          have hq64 := hide (place_in64 (L := L) (by omega) y)
          have hne : Hid (some (W5.heap.size + 1) ≠ blockOf Ak) := hide (fun e => by have := (HM.out.own.blocks _ e.symm).1; omega)
          have hlt3 : b3 < wr.heap.size := by omega
          have hlt4 : W5.heap.size + 1 < wr.heap.size := by omega
          have hlt5 : W5.heap.size < wr.heap.size := by omega
          clear hy hym hM lN
          go_wp2_with fail
          go_region_law (first
            | (go_simp; go_at_call 41; refine (placeIn_any (some ⟨b, off, none⟩) L c2 y wr.drew HLd.out).mono ?_; rintro e w' ⟨rfl, rfl⟩; try dsimp only)
            | (refine step_append_ints (by rfl) _ _ (by rfl) (W5.heap.size + 1 + 1) Ak ck ks (by rfl) (HM.out.own.alloc _).drew ⟨wr.heap.size, 0, none⟩ 1 [place L y] (by simp) (by rfl) (by have h0 := (IntsAt.lit wr [place L y] (by intro z hz; simp at hz; rw [hz]; exact hq64.out) (by simp)).below (Below.refl _ _).drew; simpa using h0) (by simp; omega) (by simp; omega) ?_; intro zs A' c' w9 hz9 hown9 hg9 hat9
               have t2 : w9.cell? ⟨W5.heap.size + 1, 2, none⟩ = some (.slice Ak ks.length ck) := (hg9.cell_far _ (by simp; omega) hne.out).trans ((World.cell?_alloc_lt _ _ _ (by show W5.heap.size + 1 < wr.heap.size; omega)).trans m2)
               have t3 : w9.frozen? ⟨W5.heap.size + 1, 2, none⟩ = false := (hg9.frozen_far _ (by simp; omega) hne.out).trans ((HM.out.lM.alloc _).frozen 2)))
          all_goals
            have HM1 := hide (HM.out.step HY.out hk1000 hz9.out hown9 hg9)
            clear t2 t3 hown9 hg9 hat9 n2 m2 f2 hcy
            go_wp2
            go_roundg (n.kids.length - (j + 1))
            case measure => omega
            case rel => exact ⟨j + 1, A', c', zs, by omega, rfl, by go_num, HM1.out⟩
        · obtain rfl : j = n.kids.length := by omega
          obtain ⟨An, cn, hlO, hRow⟩ := HS.out.out
          have hlOw := hlO.below hBW.out hlO.lt
          have o0 := hlOw.cell 0
          have o1 := hlOw.frozen 0
          have m0 := hM.lM.cell 0
          have m1 := hM.lM.cell 1
          simp only [List.getElem?_toArray, List.getElem?_cons_zero] at o0
          simp at m0 m1
          have hOlt := hlO.lt
          have hsS := HS.out.size
          have HAn := hide (fun b hb => (hRow.blocks b hb).1 : ∀ b, blockOf An = some b → w3.heap.size + 1 ≤ b)
          have HRow := hide (hRow.below hBW.out)
          have HlO := hide hlO
          have hks : ks = n.kids.map (place L) := by rw [hM.eq, List.take_length]
          have Hks := hide hks
          have HOw := hide (hM.own.lowB (base' := w3.heap.size + 1) (by omega))
          have hne : Hid (some w3.heap.size ≠ blockOf An) := hide (fun e => by have := HAn.out _ e.symm; omega)
          have hll : ((pickNs ns L).take k).length ≤ 1000 := by simp [pickNs_len]; omega
          have hlt6 : w3.heap.size < wr.heap.size := by omega
          clear hlO hRow hks hM lN hlj f2
          generalize hPd : (pickNs ns L).take k = P at o0 HRow HlO hll hlOw ⊢
          have HPd := hide hPd
          clear hPd
          go_wp2_with (at_builtin; refine append_ndK rfl (.tmp 54) (.tmp 56) rfl (w3.heap.size + 1) An cn P rfl (HRow.out.below ((Below.refl _ _).alloc (Nat.le_refl _) _)) wr.heap.size ⟨n.kind, n.value, ks⟩ Ak ck 43 rfl (heap_alloc_new wr _) (HOw.out.alloc _) (by simp; omega) hll ?_; intro A' c' w9 hrow9 hg9; have t2 : w9.cell? ⟨w3.heap.size, 0, none⟩ = some (.slice An P.length cn) := (hg9.cell_far _ (by simp; omega) hne.out).trans ((World.cell?_alloc_lt _ _ _ hlt6).trans o0); have t3 : w9.frozen? ⟨w3.heap.size, 0, none⟩ = false := (hg9.frozen_far _ (by simp; omega) hne.out).trans ((hlOw.alloc _).frozen 0))
          have hN2 := HS.out.step hBW.out (by rw [HPd.out]; exact HlO.out) HAn.out HX.out HN.out Hks.out (by rw [HPd.out]; exact hrow9) hg9
          rw [HPd.out] at hN2
          have HN2 := hide hN2
          clear hN2 t2 t3 hrow9 hg9 o0 o1 m0 m1 m2 n2
          go_wp2
          go_roundg (L.length - (k + 1))
          case measure => omega
          case rel => exact ⟨k + 1, by omega, rfl, by go_num, HN2.out⟩
    · obtain rfl : k = L.length := by omega
      obtain ⟨An, cn, hlO, hRow⟩ := hS.out
      rw [List.take_of_length_le (by rw [pickNs_len]; exact Nat.le_refl _)] at hlO hRow
      have hsS := hS.size
      have hBr := hS.bel
      have hGR := HR3.out.lt
      have lRw := HR3.out.below hS.bel hGR
      have hwf : WfN (pickNs ns L) := by
        intro m hm
        obtain ⟨x, hx, rfl⟩ := List.mem_map.1 hm
        obtain ⟨hx0, hx1⟩ := HP.out.range x hx
        obtain ⟨q, rfl⟩ := Int.eq_ofNat_of_zero_le hx0
        obtain ⟨_, _, n, _, _, hn, _, hnd⟩ := HR.out.at_ (k := q) (by omega)
        rw [pickN_at hn]
        exact ⟨hnd.wfk, hnd.wfv, fun z hz => by
          obtain ⟨y, _, rfl⟩ := List.mem_map.1 hz
          exact place_in64 (by omega) y, by have := (HP.out.closed q n hx hn).1; simp; omega⟩
      have l5 := (lRw.set 0 (.slice An (pickNs ns L).length cn)).set 1 (.int .i64 0)
      simp only [List.setIfInBounds_toArray, List.set_cons_succ, List.set_cons_zero] at l5
      have s0 := l5.cell 0
      have s1 := l5.cell 1
      have q0 := lRw.cell 0
      have q1 := lRw.cell 1
      have f0 := lRw.frozen 0
      have f1 := lRw.frozen 1
      have o0 := hlO.cell 0
      have o1 := hlO.cell 1
      simp only [List.getElem?_toArray, List.getElem?_cons_zero, List.getElem?_cons_succ] at s0 s1 q0 q1 o0 o1
      have hfin : ReadsG w (pickNs ns L) 0 (.returned (.agg #[.slice An (pickNs ns L).length cn, .int .i64 0])) ((W5.setCell ⟨w.heap.size + 1, 0, none⟩ (.slice An (pickNs ns L).length cn)).setCell ⟨w.heap.size + 1, 1, none⟩ (.int .i64 0)) := by
        have hk := hRow.keep (w' := (W5.setCell ⟨w.heap.size + 1, 0, none⟩ (.slice An (pickNs ns L).length cn)).setCell ⟨w.heap.size + 1, 1, none⟩ (.int .i64 0)) (fun b hb _ => (Below.heap_setCell _ _ _ _ (by show b ≠ w.heap.size + 1; omega)).trans (Below.heap_setCell _ _ _ _ (by show b ≠ w.heap.size + 1; omega)))
        exact ⟨An, cn, rfl, hk.low (by omega), hwf, ((HB4.out.trans (hBr.mono HB4.out.size)).setCell (p := ⟨w.heap.size + 1, 0, none⟩) (by show w.heap.size ≤ w.heap.size + 1; omega) _).setCell (p := ⟨w.heap.size + 1, 1, none⟩) (by show w.heap.size ≤ w.heap.size + 1; omega) _⟩
      have HFin := hide hfin
      have hlenP := hide (pickNs_len ns L)
      clear hfin hwf l5 lRw hlO hRow hS hBr hlt
      go_wp2
      refine bodyPost_ret (v := .agg #[.slice An (pickNs ns L).length cn, .int .i64 0]) (by simp [results, Try.results34, go_sem, s0, s1]) rfl ?_
      rw [HLL.out]
      exact HFin.out

end Go.Proofs.Ythgklkpfmjgeoaa

namespace Go.Proofs.Ythgklkpfmjgeoaa
open Go.RowKit
set_option linter.unusedVariables false

theorem cls_64 {ns : List Nd} (hn : ns.length ≤ 1000) (d : Nat) : ∀ x ∈ clsN ns d, In64 x := by
  intro x hx
  have := clsN_in ns d x hx
  constructor <;> omega

set_option maxRecDepth 100000 in
set_option maxHeartbeats 4000000 in
theorem classesUpTo_any (A : Option Addr) (ns : List Nd) (c : Nat) (d : Nat) (w : World) (hr : NdsAt w w.heap.size A ns) (hK : KidsIn ns) (hn : ns.length ≤ 1000) (hd : d ≤ 1000) (hc : ns.length ≤ c) :
    Calls Try.prog 35 #[.slice A ns.length c, .int .i64 (d : Int)] w (GivesInts w (clsN ns d)) := by
  have hmk : ∀ w : World, _ := run_make_row' (P := Try.prog) 35 3 (.int .i64 0) 8 Try.underlying35 infoInt rfl .i64 .i64 ns.length (by omega) (by omega)
  have Hr := hide hr
  have HK := hide hK
  have hB0 := ((Below.refl w.heap.size w).alloc (Nat.le_refl _) (.cells (madeCells #[.int .i64 0] ns.length) 3)).alloc (by simp) (.cells (madeCells #[.int .i64 0] ns.length) 3)
  have hR1 := RowL.made w ns.length
  have hR1' : RowL ((w.alloc (.cells (madeCells #[.int .i64 0] ns.length) 3)).alloc (.cells (madeCells #[.int .i64 0] ns.length) 3)) w.heap.size (List.replicate ns.length 0) := hR1.later ((Below.refl _ _).alloc (Nat.le_refl _) _)
  have hR2 := RowL.made (w.alloc (.cells (madeCells #[.int .i64 0] ns.length) 3)) ns.length
  simp only [World.size_alloc] at hR2
  clear hr hK hR1
  go_enter Try.func35, Try.ntmps35
  go_wp2_with fail
  clear hmk
  generalize (w.alloc (.cells (madeCells #[.int .i64 0] ns.length) 3)).alloc (.cells (madeCells #[.int .i64 0] ns.length) 3) = W at hB0 hR1' hR2 ⊢
  have HB0 := hide hB0
  have HR1 := hide hR1'
  have HR2 := hide hR2
  have hW2 : w.heap.size + 1 < W.heap.size := hR2.lt
  clear hB0 hR1' hR2
  go_loopg [7, 8, 9, 10, 18, 25, 34] d (fun gk _ _ _ _ rv _ _ wr => ∃ (r : Nat) (bs : List Int), r ≤ d ∧ gk = d - r ∧ rv = .int .i64 (r : Int) ∧ Hid (bs.length = ns.length) ∧ RowL wr w.heap.size (clsN ns r) ∧ RowL wr (w.heap.size + 1) bs ∧ Below w.heap.size w wr)
  case atStart => exact ⟨0, List.replicate ns.length 0, Nat.zero_le _, rfl, rfl, hide (by simp), HR1.out, HR2.out, HB0.out⟩
  case round =>
    clear HR1 HR2
    obtain ⟨r, bs, hrd, rfl, rfl, hbs, h1, h2, hb⟩ := hrel
    have hC64 := hide (cls_64 hn r)
    have hl0 : Hid ((clsN ns r).length = ns.length) := clsN_len ns r
    have hl1 : Hid ((finer ns (clsN ns r)).length = ns.length) := finer_len ns _
    have hin := hide (clsN_in ns r)
    have HK2 := hide (fun (x : Int) (hx : 0 ≤ x ∧ x < ns.length) => show 0 ≤ x ∧ x < ((clsN ns r).length : Int) by rw [hl0.out]; exact hx)
    have Hb := hide hb
    have H1 := hide h1
    have H2 := hide h2
    clear h1 h2 hb
    by_cases hlt : r < d
    · have hlt2 : (r : Int) < (d : Int) := by omega
      have HSt : Hid (finer ns (clsN ns r) = clsN ns (r + 1)) := rfl
      generalize hC : clsN ns r = C at *
      have HC := hide hC
      clear hC
      have hcl : C.length ≤ 1000 := by rw [hl0.out]; exact hn
      have hw1 : w.heap.size + 1 < wr.heap.size := H2.out.lt
      have hg12 : w.heap.size < w.heap.size + 1 := by omega
      go_wp2_with fail
      go_step3
      go_wp2_with (with_reducible refine copy_rowL rfl (.tmp 20) (.tmp 21) rfl ns.length w.heap.size (w.heap.size + 1) rfl rfl C bs H1.out H2.out hl0.out hbs.out ?_; intro w2 hc2 hb2)
      go_step3
      have HR1 := hide (H1.out.below hb2 hg12)
      have HR2 := hide hc2
      have HB2 := hide (Hb.out.trans (hb2.mono (by omega)))
      have hs2 := hb2.size
      clear hc2 hb2
      generalize hC1 : finer ns C = C1 at hl1 HSt
      have HC1 := hide hC1
      clear hC1
      go_wp2_with fail
      go_loopg [7, 8, 9, 10, 25, 34] ns.length (fun gk _ _ _ _ iv _ wi => ∃ i : Nat, i ≤ ns.length ∧ gk = ns.length - i ∧ iv = .int .i64 (i : Int) ∧ RowL wi w.heap.size (mixL C1 C i) ∧ RowL wi (w.heap.size + 1) C ∧ Below w.heap.size w wi)
      case atStart => exact ⟨0, Nat.zero_le _, rfl, rfl, by rw [mixL_zero]; exact HR1.out, HR2.out, HB2.out⟩
      case round =>
        clear HR1 HR2 HB2 H1 H2 Hb
        obtain ⟨i, hi, rfl, rfl, h1, h2, hb⟩ := hrel
        have H1 := hide h1
        have H2 := hide h2
        have Hb := hide hb
        clear h1 h2 hb
        by_cases hli : i < ns.length
        · obtain ⟨b, off, n, rfl, hbn, hn', hmn, hnd⟩ := (Hr.out.below Hb.out).at_ hli
          obtain ⟨An, cn, kn2, hkn, _⟩ := hnd.kids
          have kn0 := hnd.kind
          have kn1 := hnd.value
          have HN := hide hn'
          have HKn := hide (HK.out n hmn)
          have Hkl := hide hkn.len
          have hi0 : (0 : Int) ≤ (i : Int) := by omega
          have hi1 : (i : Int) < (ns.length : Int) := by omega
          have hi2 : (i : Int) ≤ (ns.length : Int) := by omega
          have hi3 : (i : Int) ≤ (c : Int) := by omega
          have hwle : w.heap.size ≤ wr.heap.size := Hb.out.size
          have hb8 := (Below.refl wr.heap.size wr).alloc (Nat.le_refl _) (.cells #[.int .i64 n.kind, .int .i64 n.value, .slice An n.kids.length cn] 43)
          have l8 := Lies.new wr #[.int .i64 n.kind, .int .i64 n.value, .slice An n.kids.length cn] 43
          have HR1 := hide (H1.out.later hb8)
          have HR2 := hide (H2.out.later hb8)
          have HB8 := hide (Hb.out.trans (hb8.mono hwle))
          have HkN := hide (hkn.below (hb8.mono hwle))
          have hw1 : w.heap.size + 1 < wr.heap.size := H2.out.lt
          clear hn' hmn hnd hkn
          go_wp2_with fail
          generalize wr.alloc (.cells #[.int .i64 n.kind, .int .i64 n.value, .slice An n.kids.length cn] 43) = w8 at HR1 HR2 HB8 HkN l8 ⊢
          have HL8 := hide l8
          generalize wr.heap.size = b8 at HL8 hw1 hwle ⊢
          have hb8l : b8 < w8.heap.size := HL8.out.lt
          clear l8 hb8 H1 H2 Hb
          go_loopg [9, 10, 34] i (fun gk _ _ jv wi => ∃ j : Nat, j ≤ i ∧ gk = i - j ∧ jv = .int .i64 (j : Int) ∧ Below w8.heap.size w8 wi ∧ ∀ (k : Nat) (q : Nd), k < j → ns[k]? = some q → sigOf C q ≠ sigOf C n)
          case atStart => exact ⟨0, Nat.zero_le _, rfl, rfl, Below.refl _ _, fun k q hk => absurd hk (by omega)⟩
          case round =>
            obtain ⟨j, hj, rfl, rfl, hb, hall0⟩ := hrel
            have hall := hide hall0
            have Hb := hide hb
            have hszw := hb.size
            clear hall0 hb
            have HBw := hide (HB8.out.trans (Hb.out.mono HB8.out.size))
            have H1 := hide (HR1.out.later Hb.out)
            have H2 := hide (HR2.out.later Hb.out)
            have hLi := HL8.out.below Hb.out hb8l
            have g0 := hLi.cell 0
            have g1 := hLi.cell 1
            have g2 := hLi.cell 2
            simp only [List.getElem?_toArray, List.getElem?_cons_zero, List.getElem?_cons_succ] at g0 g1 g2
            clear hLi
            by_cases hlj : j < i
            · obtain ⟨b', off', m, e1, hbm, hm, hmm, hmd⟩ := (Hr.out.below HBw.out).at_ (k := j) (by omega)
              injection e1 with e1
              injection e1 with e2 e3
              subst e2 e3
              obtain ⟨Am, cm, km2, hkm, _⟩ := hmd.kids
              have km0 := hmd.kind
              have km1 := hmd.value
              have HM := hide hm
              have HKm := hide (HK.out m hmm)
              have hj0 : (0 : Int) ≤ (j : Int) := by omega
              have hj1 : (j : Int) < (i : Int) := by omega
              have hbx := (Below.refl wr.heap.size wr).alloc (Nat.le_refl _) (.cells #[.int .i64 m.kind, .int .i64 m.value, .slice Am m.kids.length cm] 43)
              have hww : w.heap.size ≤ wr.heap.size := HBw.out.size
              have hw8 : w.heap.size ≤ w8.heap.size := HB8.out.size
              have hwx : w.heap.size ≤ (wr.alloc (.cells #[.int .i64 m.kind, .int .i64 m.value, .slice Am m.kids.length cm] 43)).heap.size := by simp; omega
              have hcall := hide (areAlike_any Am An m n cm cn (some ⟨w.heap.size + 1, 0, none⟩) C ns.length (wr.alloc (.cells #[.int .i64 m.kind, .int .i64 m.value, .slice Am m.kids.length cm] 43)) ((H2.out.later hbx).ints hC64.out (by omega)) ((hkm.below (hbx.mono hww)).more hwx) (((HkN.out.below (Hb.out.mono hw8)).below (hbx.mono hww)).more hwx) (fun x hx => HK2.out x (HKm.out x hx)) (fun x hx => HK2.out x (HKn.out x hx)))
              rw [hl0.out] at hcall
              have hrow1 := hide (H1.out.later hbx)
              have hrow2 := hide (H2.out.later hbx)
              have HBx := hide (HBw.out.trans (hbx.mono HBw.out.size))
              have HBx8 := hide (Hb.out.trans (hbx.mono hszw))
              have lx := Lies.new wr #[.int .i64 m.kind, .int .i64 m.value, .slice Am m.kids.length cm] 43
              have x0 := lx.cell 0
              have x1 := lx.cell 1
              have x2 := lx.cell 2
              simp only [List.getElem?_toArray, List.getElem?_cons_zero, List.getElem?_cons_succ] at x0 x1 x2
              have f0 := (hbx.cell (p := ⟨b8, 0, none⟩) (by show b8 < _; omega)).trans g0
              have f1 := (hbx.cell (p := ⟨b8, 1, none⟩) (by show b8 < _; omega)).trans g1
              have f2 := (hbx.cell (p := ⟨b8, 2, none⟩) (by show b8 < _; omega)).trans g2
              clear hm hmm hmd hkm lx hbx g0 g1 g2 hwx
              go_upto_region 12 with fail
              generalize wr.alloc (.cells #[.int .i64 m.kind, .int .i64 m.value, .slice Am m.kids.length cm] 43) = wx at hcall hrow1 hrow2 HBx HBx8 x0 x1 x2 f0 f1 f2 ⊢
              generalize wr.heap.size = bx at x0 x1 x2 hww hszw ⊢
              by_cases hs : sigOf C m = sigOf C n
              · have hfin := hide (finer_first (cl := C) HN.out HM.out hs (fun k q hk hq => hall.out k q hk hq))
                rw [tf_true hs] at hcall
                clear hs
                go_wp2_with fail
                refine hcall.out.mono ?_
                rintro e wy ⟨rfl, hby⟩
                have hR1 := hrow1.out.later hby
                have hR2 := hrow2.out.later hby
                have HBy := hide (HBx.out.trans (hby.mono HBx.out.size))
                have hfr := hR1.frozen i
                have hml : (mixL C1 C i).length = C.length := mixL_len (by rw [hl1.out, hl0.out])
                obtain ⟨v0, hv0⟩ : ∃ v, (mixL C1 C i)[i]? = some v := ⟨_, List.getElem?_eq_getElem (by rw [hml, hl0.out]; exact hli)⟩
                have hce := hR1.cell hv0
                have hset := hR1.set i (j : Int)
                have hfi : C1[i]? = some (j : Int) := by rw [← HC1.out]; exact hfin.out
                rw [mixL_set (by rw [hl1.out, hl0.out]) hfi] at hset
                have HS1 := hide hset
                have HS2 := hide (hR2.far (q := w.heap.size) (j := i) (v := .int .i64 (j : Int)) (by omega))
                have HBs := hide (HBy.out.setCell (p := ⟨w.heap.size, i, none⟩) (Nat.le_refl _) (.int .i64 (j : Int)))
                clear hby hR1 hR2 hset hv0 hml hfi hfin hcall x0 x1 x2 f0 f1 f2
                go_wp2
                go_roundg (ns.length - (i + 1))
                case measure => omega
                case rel => exact ⟨i + 1, by omega, rfl, by go_num, HS1.out, HS2.out, HBs.out⟩
              · have Hs := hide hs
                rw [tf_false hs] at hcall
                clear hs
                go_wp2_with fail
                refine hcall.out.mono ?_
                rintro e wy ⟨rfl, hby⟩
                have HBy := hide (HBx8.out.trans (hby.mono HBx8.out.size))
                clear hby hcall x0 x1 x2 f0 f1 f2
                go_wp2
                go_roundg (i - (j + 1))
                case measure => omega
                case rel => exact ⟨j + 1, by omega, rfl, by go_num, HBy.out, fun k q hk hq => by
                  by_cases e : k = j
                  · subst e
                    rw [HM.out] at hq
                    injection hq with hq
                    rw [← hq]
                    exact Hs.out
                  · exact hall.out k q (by omega) hq⟩
            · obtain rfl : j = i := by omega
              have hfin := hide (finer_first (cl := C) HN.out HN.out rfl (fun k q hk hq => hall.out k q hk hq))
              have hjj : decide ((j : Int) < (j : Int)) = false := by simp
              have hR1 := H1.out
              have hfr := hR1.frozen j
              have hml : (mixL C1 C j).length = C.length := mixL_len (by rw [hl1.out, hl0.out])
              obtain ⟨v0, hv0⟩ : ∃ v, (mixL C1 C j)[j]? = some v := ⟨_, List.getElem?_eq_getElem (by rw [hml, hl0.out]; exact hli)⟩
              have hce := hR1.cell hv0
              have hset := hR1.set j (j : Int)
              have hfi : C1[j]? = some (j : Int) := by rw [← HC1.out]; exact hfin.out
              rw [mixL_set (by rw [hl1.out, hl0.out]) hfi] at hset
              have HS1 := hide hset
              have HS2 := hide (H2.out.far (q := w.heap.size) (j := j) (v := .int .i64 (j : Int)) (by omega))
              have HBs := hide (HBw.out.setCell (p := ⟨w.heap.size, j, none⟩) (Nat.le_refl _) (.int .i64 (j : Int)))
              clear hR1 hset hv0 hml hfi hfin g0 g1 g2 hlj
              go_wp2
              go_roundg (ns.length - (j + 1))
              case measure => omega
              case rel => exact ⟨j + 1, by omega, rfl, by go_num, HS1.out, HS2.out, HBs.out⟩
        · obtain rfl : i = ns.length := by omega
          have hii : decide ((ns.length : Int) < (ns.length : Int)) = false := by simp
          have H1' : Hid (RowL wr w.heap.size C1) := by
            have := H1.out
            rw [← hl0.out, mixL_all (by rw [hl1.out, hl0.out])] at this
            exact this
          clear H1
          have hcl1 : C1.length ≤ 1000 := by rw [hl1.out]; exact hn
          have h164 : ∀ x ∈ C1, In64 x := by rw [HSt.out]; exact cls_64 hn (r + 1)
          have hi1 := H1'.out.ints h164 (by omega)
          have hi2 := H2.out.ints hC64.out (by omega)
          have HEQ := hide (equalI_any (some ⟨w.heap.size + 1, 0, none⟩) (some ⟨w.heap.size, 0, none⟩) C C1 ns.length ns.length wr hi2 hi1)
          rw [hl0.out, hl1.out] at HEQ
          clear hi1 hi2 h164
          by_cases he : C = C1
          · have hst : clsN ns d = C1 := by
              have h1 : clsN ns (r + 1) = clsN ns r := by rw [← HSt.out, HC.out, ← he]
              have h2 := cls_stays h1 (d - r)
              rw [show r + (d - r) = d by omega] at h2
              rw [h2, HC.out, he]
            have HE := hide he
            rw [decide_eq_true he] at HEQ
            clear he
            go_wp2_with fail
            refine HEQ.out.mono ?_
            rintro e wy ⟨rfl, hby⟩
            have HO := hide ((H1'.out.later hby).own (base := w.heap.size) (Nat.le_refl _) (by unfold maxLen; omega))
            have HBy := hide (Hb.out.trans (hby.mono Hb.out.size))
            clear hby HEQ
            have Hst := hide hst
            clear hst
            go_wp2
            rw [Exit.noGoto_exit]
            go_wp2
            go_ret
            refine ⟨some ⟨w.heap.size, 0, none⟩, ns.length, by rw [Hst.out, hl1.out]; rfl, ?_, HBy.out⟩
            have h3 := HO.out
            rw [hl1.out] at h3
            rw [Hst.out]
            exact h3
          · rw [decide_eq_false he] at HEQ
            have HL : Hid (bs.length = ns.length) := hbs
            go_wp2_with fail
            refine HEQ.out.mono ?_
            rintro e wy ⟨rfl, hby⟩
            have HBy := hide (Hb.out.trans (hby.mono Hb.out.size))
            have HR1 := hide (H1'.out.later hby)
            have HR2 := hide (H2.out.later hby)
            clear hby HEQ
            go_wp2
            rw [Exit.noGoto_normal]
            go_wp2
            go_roundg (d - (r + 1))
            case measure => omega
            case rel => exact ⟨r + 1, C, by omega, rfl, by go_num, hl0, by rw [← HSt.out]; exact HR1.out, HR2.out, HBy.out⟩
    · obtain rfl : r = d := by omega
      have hlt2 : decide ((r : Int) < (r : Int)) = false := by simp
      have HO := hide (H1.out.own (Nat.le_refl _) (by rw [hl0.out]; unfold maxLen; omega))
      have HE : Hid ((clsN ns r).length = ns.length) := hl0
      go_wp2
      go_ret
      refine ⟨some ⟨w.heap.size, 0, none⟩, ns.length, by rw [HE.out]; rfl, ?_, Hb.out⟩
      have := HO.out
      rw [HE.out] at this
      exact this

end Go.Proofs.Ythgklkpfmjgeoaa
