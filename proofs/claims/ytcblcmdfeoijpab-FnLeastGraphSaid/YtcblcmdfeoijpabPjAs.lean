/-
  Lemmas, several texts in one: PrunI, InpM.
-/
import Derived.Test.YtcblcmdfeoijpabPjAo
import Derived.Test.YtcblcmdfeoijpabPjAr
import Derived.Test.YtcblcmdfeoijpabPjAl
import Derived.Deep.RegionHeld3
import Derived.Test.YtcblcmdfeoijpabPjAb
namespace Go.Proofs.Ytcblcmdfeoijpab
open Go.RowKit Go.Maps
set_option linter.unusedVariables false

theorem reach_pickable {ns : List Nd} {r : Int} (hv : ValidG ns r) : Pickable ns r (reachOf ns r) := by
  have hR := reachOf_reached hv
  have hm : r ∈ reachOf ns r := by
    unfold reachOf
    rw [if_pos hv]
    have w := walked ns anyB (kidsIn_of_valid hv) (ns.length + 1) r [] (Met.nil ns) hv.root0 hv.root (by simp)
    exact w.starts r (by simp) rfl
  refine ⟨hR.met.nodup, hR.met.range, fun i n hi hn => ⟨?_, fun k hk => hR.closed i hi k (by rw [kidsOf_at hn]; exact hk)⟩, hm, reachOf_few, hv.few⟩
  have := (hv.nodes n (List.mem_of_getElem? hn)).few
  omega

theorem reach_place {ns : List Nd} {r : Int} (hv : ValidG ns r) : place (reachOf ns r) r = 0 := by
  have hR := reachOf_reached hv
  have hp := reachOf_some hv
  have h0 : (reachOf ns r)[0]? = some (reachOf ns r)[0] := List.getElem?_eq_getElem hp
  have e := hR.ord.first _ h0
  have hm : r ∈ reachOf ns r := by
    have hm0 := List.getElem_mem hp
    generalize (reachOf ns r)[0] = x at e hm0
    subst e
    exact hm0
  rw [place_pos hm]
  cases hL : reachOf ns r with
  | nil => rw [hL] at hp; simp at hp
  | cons x xs =>
    have : x = r := by simpa [hL] using e
    subst this
    simp

open Classical in
/-- the graph without the nodes that are not reached -/
noncomputable def prunedOf (ns : List Nd) (r : Int) : List Nd := if ValidG ns r then pickNs ns (reachOf ns r) else []

set_option maxHeartbeats 1000000 in
theorem implPruned_any (A : Option Addr) (ns : List Nd) (c : Nat) (r : Int) (w : World) (hr : NdsAt w w.heap.size A ns) :
    Calls Try.prog 14 #[.agg #[.slice A ns.length c, .int .i64 r]] w (GivesG w (prunedOf ns r) 0) := by
  have hB2 : Below w.heap.size w ((w.alloc (.cells #[.slice A ns.length c, .int .i64 r] 25)).alloc (.cells #[.slice none 0 0, .int .i64 0] 25)) := ((Below.refl _ _).alloc (Nat.le_refl _) _).alloc (by simp) _
  have lG := (Lies.new w #[.slice A ns.length c, .int .i64 r] 25).alloc (.cells #[.slice none 0 0, .int .i64 0] 25)
  have lR := Lies.new (w.alloc (.cells #[.slice A ns.length c, .int .i64 r] 25)) #[.slice none 0 0, .int .i64 0] 25
  simp only [World.size_alloc] at lR
  have hr2 := hr.later hB2 (Nat.le_refl _)
  clear hr
  go_enter Try.func14, Try.ntmps14
  go_wp2_with fail
  generalize (w.alloc (.cells #[.slice A ns.length c, .int .i64 r] 25)).alloc (.cells #[.slice none 0 0, .int .i64 0] 25) = W at hB2 lG lR hr2 ⊢
  refine (implValid_any A ns c r W hr2).mono ?_
  rintro e w1 ⟨rfl, hb1⟩
  have lG1 := lG.below hb1 lG.lt
  have lR1 := lR.below hb1 lR.lt
  have hr3 := hr2.later hb1 (Nat.le_refl _)
  have hB3 := hB2.trans (hb1.mono hB2.size)
  have e0 := lG1.cell 0
  have e1 := lG1.cell 1
  simp at e0 e1
  clear lG lR hr2 hB2 hb1
  by_cases hv : ValidG ns r
  · rw [tf_true hv]
    have HV := hide hv
    have hGl := lG1.lt
    have hRl := lR1.lt
    have hne : w.heap.size + 1 ≠ w.heap.size := by omega
    have hr3d : NdsAt w1.drew w1.drew.heap.size A ns := hr3.later (Below.refl _ _).drew (Nat.le_refl _)
    have lRd : Lies w1.drew (w.heap.size + 1) #[.slice none 0 0, .int .i64 0] 25 := lR1
    have hGd : w.heap.size < w1.drew.heap.size := hGl
    have hRd : w.heap.size + 1 < w1.drew.heap.size := hRl
    have hBd : Below w.heap.size w w1.drew := hB3.drew
    clear hv
    go_wp2_with fail
    go_region_held3 (fun w' => w'.cell? ⟨w.heap.size, 0, none⟩ = some (.slice A ns.length c) ∧ w'.cell? ⟨w.heap.size, 1, none⟩ = some (.int .i64 r))
      (first
        | (go_split_ands; refine ⟨?_, ?_⟩ <;> assumption)
        | go_keep)
      (first
        | (go_at_call 11; refine (implReachOf_any A ns c r w1.drew hr3d).mono ?_; rintro e w2 ⟨Ag, cg, rfl, hoG, hb2⟩; have q0 := (hb2.cell (p := ⟨w.heap.size, 0, none⟩) hGd).trans e0; have q1 := (hb2.cell (p := ⟨w.heap.size, 1, none⟩) hGd).trans e1; have lR2 := lRd.below hb2 hRd; have HoG := hide hoG; clear hoG)
        | (go_at_call 30; refine (implPicked_any A ns c r Ag (reachOf ns r) cg w2 (hr3d.later hb2 (Nat.le_refl _)) (HoG.out.ints (in64_met HV.out.few reachOf_met) (by have := @reachOf_few ns r; omega)) (reach_pickable HV.out)).mono ?_; rintro e w3 ⟨Ap, cp, rfl, hoP, hb3⟩; have z0 := (hb3.cell (p := ⟨w.heap.size, 0, none⟩) (Nat.lt_of_lt_of_le hGd hb2.size)).trans q0; have z1 := (hb3.cell (p := ⟨w.heap.size, 1, none⟩) (Nat.lt_of_lt_of_le hGd hb2.size)).trans q1; have lR3 := lR2.below hb3 lR2.lt; have HoP := hide hoP; have b0 := lR3.cell 0; have b1 := lR3.cell 1; have f0 := lR3.frozen 0; have f1 := lR3.frozen 1; simp at b0 b1; clear hoP))
    have l5 := (lR3.set 0 (.slice Ap (pickNs ns (reachOf ns r)).length cp)).set 1 (.int .i64 (place (reachOf ns r) r))
    simp only [List.setIfInBounds_toArray, List.set_cons_succ, List.set_cons_zero] at l5
    have s0 := l5.cell 0
    have s1 := l5.cell 1
    simp only [List.getElem?_toArray, List.getElem?_cons_zero, List.getElem?_cons_succ] at s0 s1
    have HG := hide (GivesG.put (r := place (reachOf ns r) r) hRd hBd hb2 hb3 HoP.out)
    clear l5 lR3 lR2 hb2 hb3 q0 q1 z0 z1 b0 b1 f0 f1 lR1 lG1 hr3 hr3d lRd hBd hB3 e0 e1
    go_wp2
    refine bodyPost_ret (v := .agg #[.slice Ap (pickNs ns (reachOf ns r)).length cp, .int .i64 (place (reachOf ns r) r)]) (by simp [results, Try.results14, go_sem, s0, s1]) rfl ?_
    have h := HG.out
    unfold prunedOf
    rw [if_pos HV.out]
    rw [reach_place HV.out] at h ⊢
    exact h
  · rw [tf_false hv]
    have HV := hide hv
    have l5 := (lR1.set 0 (.slice none 0 0)).set 1 (.int .i64 0)
    simp only [List.setIfInBounds_toArray, List.set_cons_succ, List.set_cons_zero] at l5
    have s0 := l5.cell 0
    have s1 := l5.cell 1
    have b0 := lR1.cell 0
    have b1 := lR1.cell 1
    have f0 := lR1.frozen 0
    have f1 := lR1.frozen 1
    simp only [List.getElem?_toArray, List.getElem?_cons_zero, List.getElem?_cons_succ] at s0 s1 b0 b1
    have HB := hide ((hB3.setCell (p := ⟨w.heap.size + 1, 0, none⟩) (by show w.heap.size ≤ w.heap.size + 1; omega) (.slice none 0 0)).setCell (p := ⟨w.heap.size + 1, 1, none⟩) (by show w.heap.size ≤ w.heap.size + 1; omega) (.int .i64 0))
    clear hv l5 lR1 lG1 hr3 hB3 e0 e1
    go_wp2
    refine bodyPost_ret (v := .agg #[.slice none 0 0, .int .i64 0]) (by simp [results, Try.results14, go_sem, s0, s1]) rfl ?_
    unfold prunedOf
    rw [if_neg HV.out]
    exact GivesG.zero _ _ HB.out

end Go.Proofs.Ytcblcmdfeoijpab

namespace Go.Proofs.Ytcblcmdfeoijpab
open Go.RowKit Go.Maps
set_option linter.unusedVariables false

/-- a node of which the first k kids are written -/
def halfK (cl : List Int) (ks : List Int) (k : Nat) : List Int := (ks.take k).map (look cl) ++ ks.drop k
theorem halfK_len (cl ks : List Int) (k : Nat) : (halfK cl ks k).length = ks.length := by
  unfold halfK
  simp
  omega
theorem halfK_zero (cl ks : List Int) : halfK cl ks 0 = ks := by simp [halfK]
theorem halfK_all (cl ks : List Int) : halfK cl ks ks.length = ks.map (look cl) := by simp [halfK]
theorem halfK_at {cl ks : List Int} {k : Nat} {x : Int} (h : ks[k]? = some x) : (halfK cl ks k)[k]? = some x := by
  have hk := (List.getElem?_eq_some_iff.1 h).1
  unfold halfK
  rw [List.getElem?_append_right (by simp; omega)]
  simp only [List.length_map, List.length_take]
  rw [Nat.min_eq_left (by omega), Nat.sub_self, List.getElem?_drop, Nat.add_zero, h]
theorem halfK_set {cl ks : List Int} {k : Nat} {x : Int} (h : ks[k]? = some x) : (halfK cl ks k).set k (look cl x) = halfK cl ks (k + 1) := by
  have hk := (List.getElem?_eq_some_iff.1 h).1
  have hd : ks.drop k = x :: ks.drop (k + 1) := drop_at h
  have hl : ((ks.take k).map (look cl)).length = k := by simp; omega
  unfold halfK
  rw [List.set_append, if_neg (by omega), hl, Nat.sub_self, hd, List.set_cons_zero, List.take_add_one, h]
  simp

/-- the nodes when those before i are written, and the first k kids of i -/
def stNd (cl : List Int) (i k j : Nat) (n : Nd) : Nd := if j < i then replNd cl n else if j = i then ⟨n.kind, n.value, halfK cl n.kids k⟩ else n
def stN (ns : List Nd) (cl : List Int) (i k : Nat) : List Nd := ns.mapIdx (stNd cl i k)
theorem stN_len (ns : List Nd) (cl : List Int) (i k : Nat) : (stN ns cl i k).length = ns.length := by simp [stN]
theorem stN_get (ns : List Nd) (cl : List Int) (i k j : Nat) : (stN ns cl i k)[j]? = (ns[j]?).map (stNd cl i k j) := by
  unfold stN
  rw [List.getElem?_mapIdx]
theorem stN_at {ns : List Nd} {cl : List Int} {i k : Nat} {n : Nd} (h : ns[i]? = some n) : (stN ns cl i k)[i]? = some ⟨n.kind, n.value, halfK cl n.kids k⟩ := by
  rw [stN_get, h]
  simp [stNd]
theorem stN_zero (ns : List Nd) (cl : List Int) : stN ns cl 0 0 = ns := by
  apply List.ext_getElem?
  intro j
  rw [stN_get]
  cases h : ns[j]? with
  | none => rfl
  | some n =>
    simp only [Option.map_some, stNd, Nat.not_lt_zero, if_false, halfK_zero]
    split <;> rfl
theorem stN_all (ns : List Nd) (cl : List Int) (k : Nat) : stN ns cl ns.length k = replNs ns cl := by
  apply List.ext_getElem?
  intro j
  rw [stN_get]
  unfold replNs
  rw [List.getElem?_map]
  cases h : ns[j]? with
  | none => rfl
  | some n =>
    have := (List.getElem?_eq_some_iff.1 h).1
    simp only [Option.map_some, stNd, if_pos this]
theorem stN_next {ns : List Nd} {cl : List Int} {i : Nat} {n : Nd} (h : ns[i]? = some n) : stN ns cl i n.kids.length = stN ns cl (i + 1) 0 := by
  apply List.ext_getElem?
  intro j
  rw [stN_get, stN_get]
  cases hj : ns[j]? with
  | none => rfl
  | some m =>
    simp only [Option.map_some, stNd, halfK_zero]
    by_cases h1 : j < i
    · rw [if_pos h1, if_pos (by omega)]
    · by_cases h2 : j = i
      · subst h2
        rw [h] at hj
        injection hj with hj
        subst hj
        rw [if_neg h1, if_pos rfl, if_pos (by omega), halfK_all]
        rfl
      · rw [if_neg h1, if_neg h2, if_neg (by omega)]
        split <;> rfl
theorem stN_set {ns : List Nd} {cl : List Int} {i k : Nat} {n : Nd} {x : Int} (h : ns[i]? = some n) (hx : n.kids[k]? = some x) : (stN ns cl i k).set i ⟨n.kind, n.value, (halfK cl n.kids k).set k (look cl x)⟩ = stN ns cl i (k + 1) := by
  apply List.ext_getElem?
  intro j
  have hi := (List.getElem?_eq_some_iff.1 h).1
  rw [List.getElem?_set, stN_get, stN_get]
  by_cases e : i = j
  · subst e
    rw [if_pos rfl, if_pos (by rw [stN_len]; exact hi), h, halfK_set hx]
    simp [stNd]
  · rw [if_neg e]
    cases hj : ns[j]? with
    | none => rfl
    | some m =>
      simp only [Option.map_some, stNd]
      by_cases h1 : j < i
      · rw [if_pos h1, if_pos h1]
      · rw [if_neg h1, if_neg h1, if_neg (by omega), if_neg (by omega)]

/-- the memory: old memory stays; the graph's box; its row -/
structure InpA (w wr : World) (hi gr cap q : Nat) (ns : List Nd) (cl : List Int) (r : Int) (i k : Nat) : Prop where
  bel : Below w.heap.size w wr
  box : Lies wr q #[.slice (some ⟨gr, 0, none⟩) ns.length cap, .int .i64 r] 25
  row : OwnRow wr w.heap.size hi gr cap (stN ns cl i k)
  hq : hi ≤ q

theorem InpA.below {w wr w' : World} {hi gr cap q i k : Nat} {ns : List Nd} {cl : List Int} {r : Int} (h : InpA w wr hi gr cap q ns cl r i k) (hb : Below wr.heap.size wr w') : InpA w w' hi gr cap q ns cl r i k :=
  ⟨h.bel.trans (hb.mono h.bel.size), h.box.below hb h.box.lt, h.row.kept (fun b _ hb2 => hb.block b (by have := h.box.lt; have := h.hq; omega)), h.hq⟩

theorem InpA.next {w wr : World} {hi gr cap q i : Nat} {ns : List Nd} {cl : List Int} {r : Int} {n : Nd} (hn : ns[i]? = some n) (h : InpA w wr hi gr cap q ns cl r i n.kids.length) : InpA w wr hi gr cap q ns cl r (i + 1) 0 :=
  ⟨h.bel, h.box, by rw [← stN_next hn]; exact h.row, h.hq⟩

/-- the kids of the node i -/
theorem InpA.kids {w wr : World} {hi gr cap q i k : Nat} {ns : List Nd} {cl : List Int} {r : Int} {n : Nd} (hn : ns[i]? = some n) (h : InpA w wr hi gr cap q ns cl r i k) :
    ∃ (A : Option Addr) (c : Nat), wr.cell? ⟨gr, i * 3 + 2, none⟩ = some (.slice A n.kids.length c) ∧ OwnI wr w.heap.size A c (halfK cl n.kids k) ∧ ∀ b, blockOf A = some b → b < hi ∧ b ≠ gr := by
  obtain ⟨A, c, h1, h2, h3⟩ := (h.row.nd i _ (stN_at hn)).kids
  simp only [halfK_len] at h1
  exact ⟨A, c, h1, h2, h3⟩

/-- a kid is written -/
theorem InpA.store {w wr : World} {hi gr cap q i k b c : Nat} {ns : List Nd} {cl : List Int} {r : Int} {n : Nd} {x : Int} (h : InpA w wr hi gr cap q ns cl r i k) (hn : ns[i]? = some n) (hx : n.kids[k]? = some x)
    (hc : wr.cell? ⟨gr, i * 3 + 2, none⟩ = some (.slice (some ⟨b, 0, none⟩) n.kids.length c)) (ho : OwnI wr w.heap.size (some ⟨b, 0, none⟩) c (halfK cl n.kids k)) (hb : b < hi) :
    InpA w (wr.setCell ⟨b, k, none⟩ (.int .i64 (look cl x))) hi gr cap q ns cl r i (k + 1) := by
  have hbl := (ho.blocks b rfl).1
  refine ⟨h.bel.setCell (p := ⟨b, k, none⟩) hbl _, h.box.far (p := ⟨b, k, none⟩) (by have := h.hq; show q ≠ b; omega) _, ?_, h.hq⟩
  have hs := ho.setAt k (look cl x)
  have h2 := h.row.setKids (w' := wr.setCell ⟨b, k, none⟩ (.int .i64 (look cl x))) (stN_at hn) (cj := c) (Aj := some ⟨b, 0, none⟩) (ks := (halfK cl n.kids k).set k (look cl x)) (by simp only [halfK_len]; exact hc) (by simp) hs (fun q hq => Below.heap_setCell _ _ _ _ (by intro e; exact hq (by rw [e]; rfl)))
  simp only at h2
  rw [stN_set hn hx] at h2
  exact h2

theorem OwnNs.rowI {w : World} {lo hi : Nat} {A : Option Addr} {c : Nat} {ns : List Nd} (h : OwnNs w lo hi A c ns) (hne : 0 < ns.length) : ∃ g, A = some ⟨g, 0, none⟩ ∧ OwnRow w lo hi g c ns := by
  rcases h with ⟨_, _, h⟩ | h
  · subst h; simp at hne
  · exact h

end Go.Proofs.Ytcblcmdfeoijpab
