/-
  Lemmas, several texts in one: SameGI, ShqM.
-/
import Derived.Test.YtpcfjdhalglebabPjAq
import Derived.Test.YtpcfjdhalglebabPjAj
import Derived.Deep.RegionHeld3
import Derived.Deep.RegionWith
import Derived.Test.YtpcfjdhalglebabPjAn
import Derived.Test.YtpcfjdhalglebabPjAo
namespace Go.Proofs.Ytpcfjdhalglebab
open Go.RowKit Go.Maps
set_option linter.unusedVariables false

/-- both valid, with equal codes -/
def SameG (ns : List Nd) (r : Int) (ms : List Nd) (s : Int) : Prop := ValidG ns r ∧ ValidG ms s ∧ codeOf ns r = codeOf ms s

set_option maxRecDepth 100000 in
set_option maxHeartbeats 2000000 in
theorem implSame_any (A A' : Option Addr) (ns ms : List Nd) (c c' : Nat) (r s : Int) (w : World) (hr : NdsAt w w.heap.size A ns) (hq : NdsAt w w.heap.size A' ms) :
    Calls Try.prog 11 #[.agg #[.slice A ns.length c, .int .i64 r], .agg #[.slice A' ms.length c', .int .i64 s]] w fun e w' =>
      e = .returned (.bool (tf (SameG ns r ms s))) ∧ Below w.heap.size w w' := by
  have hB : Below w.heap.size w ((w.alloc (.cells #[.slice A ns.length c, .int .i64 r] 25)).alloc (.cells #[.slice A' ms.length c', .int .i64 s] 25)) :=
    ((Below.refl _ _).alloc (Nat.le_refl _) _).alloc (by simp) _
  have l1 := (Lies.new w #[.slice A ns.length c, .int .i64 r] 25).alloc (.cells #[.slice A' ms.length c', .int .i64 s] 25)
  have l2 := Lies.new (w.alloc (.cells #[.slice A ns.length c, .int .i64 r] 25)) #[.slice A' ms.length c', .int .i64 s] 25
  simp only [World.size_alloc] at l2
  have hr2 := hr.below hB
  have hq2 := hq.below hB
  have hwfn := hide hr.wf
  have hwfm := hide hq.wf
  have yesA := fun (h : ValidG ns r) (X : World) (hx : NdsAt X X.heap.size A ns) => (implValid_any A ns c r X hx).mono (R' := fun e w' => e = .returned (.bool true) ∧ Below X.heap.size X w') fun e w' ⟨h1, h2⟩ => ⟨by rw [h1, tf_true h], h2⟩
  have noA := fun (h : ¬ ValidG ns r) (X : World) (hx : NdsAt X X.heap.size A ns) => (implValid_any A ns c r X hx).mono (R' := fun e w' => e = .returned (.bool false) ∧ Below X.heap.size X w') fun e w' ⟨h1, h2⟩ => ⟨by rw [h1, tf_false h], h2⟩
  have yesB := fun (h : ValidG ms s) (X : World) (hx : NdsAt X X.heap.size A' ms) => (implValid_any A' ms c' s X hx).mono (R' := fun e w' => e = .returned (.bool true) ∧ Below X.heap.size X w') fun e w' ⟨h1, h2⟩ => ⟨by rw [h1, tf_true h], h2⟩
  have noB := fun (h : ¬ ValidG ms s) (X : World) (hx : NdsAt X X.heap.size A' ms) => (implValid_any A' ms c' s X hx).mono (R' := fun e w' => e = .returned (.bool false) ∧ Below X.heap.size X w') fun e w' ⟨h1, h2⟩ => ⟨by rw [h1, tf_false h], h2⟩
  clear hr hq
  by_cases hva : ValidG ns r
  · have YA := hide (yesA hva)
    by_cases hvb : ValidG ms s
    · have YB := hide (yesB hvb)
      have CA := hide (fun (X : World) (hx : NdsAt X X.heap.size A ns) => implCodeOf_any A ns c r X hx)
      have CB := hide (fun (X : World) (hx : NdsAt X X.heap.size A' ms) => implCodeOf_any A' ms c' s X hx)
      have HF := hide (show tf (SameG ns r ms s) = decide (codeOf ns r = codeOf ms s) from by
        by_cases he : codeOf ns r = codeOf ms s
        · rw [tf_true ⟨hva, hvb, he⟩]; simp [he]
        · rw [tf_false (fun h => he h.2.2)]; simp [he])
      have ha64 := hide (codeOf_64 (r := r) hwfn.out)
      have hb64 := hide (codeOf_64 (r := s) hwfm.out)
      have hal := codeOf_few (r := r) hwfn.out
      have hbl := codeOf_few (r := s) hwfm.out
      generalize codeOf ns r = xs at CA HF ha64 hal
      generalize codeOf ms s = ys at CB HF hb64 hbl
      clear yesA noA yesB noB hva hvb
      go_enter Try.func11, Try.ntmps11
      go_wp2_with fail
      generalize hWd : (w.alloc (.cells #[.slice A ns.length c, .int .i64 r] 25)).alloc (.cells #[.slice A' ms.length c', .int .i64 s] 25) = W at hB l1 l2 hr2 hq2 ⊢
      have hWs : Hid (W.heap.size = w.heap.size + 1 + 1) := by show _ = _; rw [← hWd]; simp
      clear hWd
      have z1 := l1.lt
      have z2 := l2.lt
      have e0 := l1.cell 0
      have e1 := l1.cell 1
      have d0 := l2.cell 0
      have d1 := l2.cell 1
      simp at e0 e1 d0 d1
      have tok1 : True := trivial
      have tok2 : True := trivial
      have tok3 : True := trivial
      have tok4 : True := trivial
      go_region_held3 (fun w' => w'.cell? ⟨w.heap.size, 0, none⟩ = some (.slice A ns.length c) ∧ w'.cell? ⟨w.heap.size, 1, none⟩ = some (.int .i64 r) ∧ w'.cell? ⟨w.heap.size + 1, 0, none⟩ = some (.slice A' ms.length c') ∧ w'.cell? ⟨w.heap.size + 1, 1, none⟩ = some (.int .i64 s))
        (first
          | (go_split_ands; refine ⟨?_, ?_, ?_, ?_⟩ <;> assumption))
        (first
          | (go_at_call 8; have _t := tok1; clear tok1; refine (YA.out _ (hr2.later (Below.refl _ _).drew (by omega))).mono ?_; rintro e w3 ⟨rfl, hb3⟩; have hbw : Below W.heap.size W w3 := (Below.refl _ _).drew.trans (hb3.mono (by simp)); have q0 := (hbw.cell (p := ⟨w.heap.size, 0, none⟩) z1).trans e0; have q1 := (hbw.cell (p := ⟨w.heap.size, 1, none⟩) z1).trans e1; have q2 := (hbw.cell (p := ⟨w.heap.size + 1, 0, none⟩) z2).trans d0; have q3 := (hbw.cell (p := ⟨w.heap.size + 1, 1, none⟩) z2).trans d1)
          | (go_at_call 8; have _t := tok2; clear tok2; refine (YB.out _ (hq2.later (hbw.mono (by omega)) (by omega))).mono ?_; rintro e w4 ⟨rfl, hb4⟩; have hbx : Below W.heap.size W w4 := hbw.trans (hb4.mono hbw.size); have p0 := (hbx.cell (p := ⟨w.heap.size, 0, none⟩) z1).trans e0; have p1 := (hbx.cell (p := ⟨w.heap.size, 1, none⟩) z1).trans e1; have p2 := (hbx.cell (p := ⟨w.heap.size + 1, 0, none⟩) z2).trans d0; have p3 := (hbx.cell (p := ⟨w.heap.size + 1, 1, none⟩) z2).trans d1)
          | (go_at_call 28; have _t := tok3; clear tok3; refine (CA.out _ (hr2.later (hbx.mono (by omega)) (by omega))).mono ?_; rintro e w5 ⟨Aa, ca, rfl, hoA, hb5⟩; have hby : Below W.heap.size W w5 := hbx.trans (hb5.mono hbx.size); have o0 := (hby.cell (p := ⟨w.heap.size, 0, none⟩) z1).trans e0; have o1 := (hby.cell (p := ⟨w.heap.size, 1, none⟩) z1).trans e1; have o2 := (hby.cell (p := ⟨w.heap.size + 1, 0, none⟩) z2).trans d0; have o3 := (hby.cell (p := ⟨w.heap.size + 1, 1, none⟩) z2).trans d1)
          | (go_at_call 28; have _t := tok4; clear tok4; refine (CB.out _ (hq2.later (hby.mono (by omega)) (by omega))).mono ?_; rintro e w6 ⟨Ab, cb, rfl, hoB, hb6⟩; have hbz : Below W.heap.size W w6 := hby.trans (hb6.mono hby.size); have n0 := (hbz.cell (p := ⟨w.heap.size, 0, none⟩) z1).trans e0; have n1 := (hbz.cell (p := ⟨w.heap.size, 1, none⟩) z1).trans e1; have n2 := (hbz.cell (p := ⟨w.heap.size + 1, 0, none⟩) z2).trans d0; have n3 := (hbz.cell (p := ⟨w.heap.size + 1, 1, none⟩) z2).trans d1)
          | (go_at_call 27; refine (equalI_any Aa Ab xs ys ca cb w6 ((hoA.below hb6).ints ha64.out (by omega)) (hoB.ints hb64.out (by omega))).mono ?_; rintro e w7 ⟨rfl, hb7⟩; have hbt : Below W.heap.size W w7 := hbz.trans (hb7.mono hbz.size); have m0 := (hbt.cell (p := ⟨w.heap.size, 0, none⟩) z1).trans e0; have m1 := (hbt.cell (p := ⟨w.heap.size, 1, none⟩) z1).trans e1; have m2 := (hbt.cell (p := ⟨w.heap.size + 1, 0, none⟩) z2).trans d0; have m3 := (hbt.cell (p := ⟨w.heap.size + 1, 1, none⟩) z2).trans d1))
      go_wp2
      go_ret
      exact ⟨ret_bool HF.out.symm, hB.trans (hbt.mono (by have := hWs.out; omega))⟩
    · have NB := hide (noB hvb)
      have HF := hide (show tf (SameG ns r ms s) = false from tf_false fun h => hvb h.2.1)
      clear yesA noA yesB noB hva hvb
      go_enter Try.func11, Try.ntmps11
      go_wp2_with fail
      generalize hWd : (w.alloc (.cells #[.slice A ns.length c, .int .i64 r] 25)).alloc (.cells #[.slice A' ms.length c', .int .i64 s] 25) = W at hB l1 l2 hr2 hq2 ⊢
      have hWs : Hid (W.heap.size = w.heap.size + 1 + 1) := by show _ = _; rw [← hWd]; simp
      clear hWd
      have z1 := l1.lt
      have z2 := l2.lt
      have e0 := l1.cell 0
      have e1 := l1.cell 1
      have d0 := l2.cell 0
      have d1 := l2.cell 1
      simp at e0 e1 d0 d1
      have tok1 : True := trivial
      have tok2 : True := trivial
      have tok3 : True := trivial
      have tok4 : True := trivial
      go_region_with
        (first
          | (go_at_call 8; have _t := tok1; clear tok1; refine (YA.out _ (hr2.later (Below.refl _ _).drew (by omega))).mono ?_; rintro e w3 ⟨rfl, hb3⟩; have hbw : Below W.heap.size W w3 := (Below.refl _ _).drew.trans (hb3.mono (by simp)); have q0 := (hbw.cell (p := ⟨w.heap.size, 0, none⟩) z1).trans e0; have q1 := (hbw.cell (p := ⟨w.heap.size, 1, none⟩) z1).trans e1; have q2 := (hbw.cell (p := ⟨w.heap.size + 1, 0, none⟩) z2).trans d0; have q3 := (hbw.cell (p := ⟨w.heap.size + 1, 1, none⟩) z2).trans d1)
          | (go_at_call 8; have _t := tok2; clear tok2; refine (NB.out _ (hq2.later (hbw.mono (by omega)) (by omega))).mono ?_; rintro e w4 ⟨rfl, hb4⟩; have hbx : Below W.heap.size W w4 := hbw.trans (hb4.mono hbw.size); have p0 := (hbx.cell (p := ⟨w.heap.size, 0, none⟩) z1).trans e0; have p1 := (hbx.cell (p := ⟨w.heap.size, 1, none⟩) z1).trans e1; have p2 := (hbx.cell (p := ⟨w.heap.size + 1, 0, none⟩) z2).trans d0; have p3 := (hbx.cell (p := ⟨w.heap.size + 1, 1, none⟩) z2).trans d1))
      all_goals
        go_wp2
        go_ret
        exact ⟨ret_bool HF.out.symm, hB.trans (hbx.mono (by have := hWs.out; omega))⟩
  · have NA := hide (noA hva)
    have HF := hide (show tf (SameG ns r ms s) = false from tf_false fun h => hva h.1)
    clear yesA noA yesB noB hva
    go_enter Try.func11, Try.ntmps11
    go_wp2_with fail
    generalize hWd : (w.alloc (.cells #[.slice A ns.length c, .int .i64 r] 25)).alloc (.cells #[.slice A' ms.length c', .int .i64 s] 25) = W at hB l1 l2 hr2 hq2 ⊢
    have hWs : Hid (W.heap.size = w.heap.size + 1 + 1) := by show _ = _; rw [← hWd]; simp
    clear hWd
    have z1 := l1.lt
    have z2 := l2.lt
    have e0 := l1.cell 0
    have e1 := l1.cell 1
    have d0 := l2.cell 0
    have d1 := l2.cell 1
    simp at e0 e1 d0 d1
    go_region_with
      (first
        | (go_at_call 8; refine (NA.out _ (hr2.later (Below.refl _ _).drew (by omega))).mono ?_; rintro e w3 ⟨rfl, hb3⟩; have hbw : Below W.heap.size W w3 := (Below.refl _ _).drew.trans (hb3.mono (by simp)); have q0 := (hbw.cell (p := ⟨w.heap.size, 0, none⟩) z1).trans e0; have q1 := (hbw.cell (p := ⟨w.heap.size, 1, none⟩) z1).trans e1; have q2 := (hbw.cell (p := ⟨w.heap.size + 1, 0, none⟩) z2).trans d0; have q3 := (hbw.cell (p := ⟨w.heap.size + 1, 1, none⟩) z2).trans d1))
    all_goals
      go_wp2
      go_ret
      exact ⟨ret_bool HF.out.symm, hB.trans (hbw.mono (by have := hWs.out; omega))⟩

end Go.Proofs.Ytpcfjdhalglebab

namespace Go.Proofs.Ytpcfjdhalglebab
open Go.RowKit
set_option linter.unusedVariables false

theorem snoc_old {ns : List Nd} {n : Nd} {i : Nat} (hi : i < ns.length) : (ns ++ [n])[i]? = ns[i]? := List.getElem?_append_left hi
theorem snoc_new (ns : List Nd) (n : Nd) : (ns ++ [n])[ns.length]? = some n := by simp

theorem snoc_nd {ns : List Nd} {n m : Nd} {kids : List Int} (hin : InG ns kids) {p : Nat} : KidNd (ns ++ [n]) kids p m ↔ KidNd ns kids p m := by
  constructor
  · rintro ⟨k, h1, h2⟩
    have hk := (hin _ (List.mem_of_getElem? h1)).2
    exact ⟨k, h1, by rwa [snoc_old (by omega)] at h2⟩
  · rintro ⟨k, h1, h2⟩
    have hk := (List.getElem?_eq_some_iff.1 h2).1
    exact ⟨k, h1, by rwa [snoc_old hk]⟩

theorem snoc_dict {ns : List Nd} {n : Nd} {kids : List Int} (hin : InG ns kids) (h : DictOk ns kids) : DictOk (ns ++ [n]) kids :=
  ⟨h.even, fun p m hp hm => h.key p m hp ((snoc_nd hin).1 hm), fun p q m n' hp hq hl h1 h2 => h.diff p q m n' hp hq hl ((snoc_nd hin).1 h1) ((snoc_nd hin).1 h2)⟩

theorem snoc_ok {ns : List Nd} {n m : Nd} (h : NodeOk ns m) : NodeOk (ns ++ [n]) m := by
  refine ⟨h.few, fun k hk => ?_, ?_⟩
  · have := h.inn k hk
    simp
    omega
  · have := h.kind
    unfold KindOk at this ⊢
    rcases this with h1 | h1 | h1 | h1 | h1 | h1
    · exact .inl h1
    · exact .inr (.inl h1)
    · exact .inr (.inr (.inl h1))
    · exact .inr (.inr (.inr (.inl h1)))
    · exact .inr (.inr (.inr (.inr (.inl ⟨h1.1, h1.2.1, snoc_dict h.inn h1.2.2⟩))))
    · exact .inr (.inr (.inr (.inr (.inr h1))))

theorem snoc_reach {ns : List Nd} {n : Nd} {r : Int} (hv : ValidG ns r) {a : Nat} (ha : a < ns.length) {x : Int} (h : TReach (ns ++ [n]) (a : Int) x) : (0 ≤ x ∧ x < ns.length) ∧ TReach ns (a : Int) x := by
  have hk := validG_kids hv
  have same : ∀ i : Nat, i < ns.length → kidsOf (ns ++ [n]) (i : Int) = kidsOf ns (i : Int) ∧ kindOf (ns ++ [n]) (i : Int) = kindOf ns (i : Int) := fun i hi => by
    unfold kidsOf kindOf
    rw [Int.toNat_natCast, snoc_old hi]
    exact ⟨rfl, rfl⟩
  have rng : ∀ (i : Nat) (y : Int), i < ns.length → y ∈ kidsOf ns (i : Int) → 0 ≤ y ∧ y < ns.length := fun i y hi hy => by
    have hn : ns[i]? = some ns[i] := List.getElem?_eq_getElem hi
    rw [kidsOf_at hn] at hy
    exact hk _ (List.getElem_mem hi) y hy
  induction h with
  | kid x hx =>
    rw [(same a ha).1] at hx
    exact ⟨rng a x ha hx, .kid x hx⟩
  | step y x hy hy2 hx ih =>
    obtain ⟨⟨y0, y1⟩, ihr⟩ := ih
    obtain ⟨j, rfl⟩ := Int.eq_ofNat_of_zero_le y0
    have hj : j < ns.length := by omega
    rw [(same j hj).1] at hx
    rw [(same j hj).2] at hy2
    exact ⟨rng j x hj hx, .step _ x ihr hy2 hx⟩

theorem snoc_valid {ns : List Nd} {r : Int} (hv : ValidG ns r) (h12 : ns.length ≠ 12) {n : Nd} (hn : n ∈ ns) {s : Int} (s0 : 0 ≤ s) (s1 : s < (ns.length : Int) + 1) : ValidG (ns ++ [n]) s := by
  refine ⟨by simp, by have := hv.few; simp; omega, s0, by simp; omega, fun m hm => ?_, fun i m hi h2 ht => ?_⟩
  · rcases List.mem_append.1 hm with h | h
    · exact snoc_ok (hv.nodes m h)
    · rw [List.mem_singleton.1 h]; exact snoc_ok (hv.nodes n hn)
  · by_cases hil : i < ns.length
    · exact hv.tuples i m (by rwa [snoc_old hil] at hi) h2 (snoc_reach hv hil ht).2
    · have hi2 := (List.getElem?_eq_some_iff.1 hi).1
      simp at hi2
      obtain rfl : i = ns.length := by omega
      -- what the copy leads to lies before it
      have key : ∀ x, TReach (ns ++ [n]) (ns.length : Int) x → 0 ≤ x ∧ x < ns.length := by
        intro x hx
        induction hx with
        | kid x hx =>
          rw [kidsOf_at (snoc_new ns n)] at hx
          exact (hv.nodes n hn).inn x hx
        | step y x _ hy2 hx ih =>
          obtain ⟨y0, y1⟩ := ih
          obtain ⟨j, rfl⟩ := Int.eq_ofNat_of_zero_le y0
          have hj : j < ns.length := by omega
          have hnj : ns[j]? = some ns[j] := List.getElem?_eq_getElem hj
          rw [kidsOf_at (show (ns ++ [n])[j]? = some ns[j] by rw [snoc_old hj]; exact hnj)] at hx
          exact (hv.nodes _ (List.getElem_mem hj)).inn x hx
      have := key _ ht
      omega

/-- the nodes that were there keep their names -/
theorem snoc_iso {ns : List Nd} {r : Int} (hv : ValidG ns r) (n : Nd) : Iso (ns ++ [n]) ns (fun x => 0 ≤ x ∧ x < ns.length) (fun x => x) := by
  refine ⟨fun x hx => ?_, fun x hx => hx, fun x y _ _ e => e, fun i m hi hm => ?_, fun i m hi hm k hk => ?_⟩
  · simp
    omega
  · rw [snoc_old (by omega)] at hm
    rw [Int.toNat_natCast, hm]
    simp
  · rw [snoc_old (by omega)] at hm
    exact (hv.nodes m (List.mem_of_getElem? hm)).inn k hk

/-- what the law asks of a shallow copy -/
theorem shal_facts {ns : List Nd} {r : Int} (hv : ValidG ns r) (h12 : ns.length ≠ 12) (hwf : Wf ns) :
    ValidG (ns ++ [rootNd ns r]) (ns.length : Int) ∧ EqDeepG (ns ++ [rootNd ns r]) (ns.length : Int) ns r ∧ SameG (ns ++ [rootNd ns r]) r ns r := by
  have hm := rootNd_mem hv
  have h1 : ValidG (ns ++ [rootNd ns r]) (ns.length : Int) := snoc_valid hv h12 hm (by omega) (by omega)
  have h2 : ValidG (ns ++ [rootNd ns r]) r := snoc_valid hv h12 hm hv.root0 (by have := hv.root; omega)
  refine ⟨h1, (eqDeep_iff h1 hv).2 ?_, h2, hv, ?_⟩
  · intro d
    obtain ⟨i, rfl⟩ := Int.eq_ofNat_of_zero_le hv.root0
    have hil : i < ns.length := by have := hv.root; omega
    have hn : ns[i]? = some ns[i] := List.getElem?_eq_getElem hil
    cases d with
    | zero => trivial
    | succ d =>
      refine (eqq_step (snoc_new ns _) hn d).2 ?_
      rw [rootNd_at hn]
      refine ⟨⟨rfl, rfl, rfl⟩, fun p a b ha hb => ?_⟩
      obtain rfl := Option.some.inj (ha.symm.trans hb)
      exact (snoc_iso hv _).eqq d a (validG_kids hv _ (List.getElem_mem hil) a (List.mem_of_getElem? ha))
  · have h3 := Iso.code (snoc_iso hv (rootNd ns r)) h2 hv hwf ⟨hv.root0, hv.root⟩ (by simp)
    unfold codeOf
    rw [if_pos h2, if_pos hv]
    exact h3.symm

end Go.Proofs.Ytpcfjdhalglebab
