/-
  SameGraph of the program: whether two graphs are valid and have equal codes.
-/
import Derived.Test.YtigelbilfddhgabPjAi
import Derived.Test.YtigelbilfddhgabPjAg
import Derived.Deep.RegionHeld3
import Derived.Deep.RegionWith
namespace Go.Proofs.Ytigelbilfddhgab
open Go.RowKit Go.Maps
set_option linter.unusedVariables false

/-- both valid, with equal codes -/
def SameG (ns : List Nd) (r : Int) (ms : List Nd) (s : Int) : Prop := ValidG ns r ∧ ValidG ms s ∧ codeOf ns r = codeOf ms s

set_option maxRecDepth 100000 in
set_option maxHeartbeats 2000000 in
theorem implSame_any (A A' : Option Addr) (ns ms : List Nd) (c c' : Nat) (r s : Int) (w : World) (hr : NdsAt w w.heap.size A ns) (hq : NdsAt w w.heap.size A' ms) :
    Calls Try.prog 9 #[.agg #[.slice A ns.length c, .int .i64 r], .agg #[.slice A' ms.length c', .int .i64 s]] w fun e w' =>
      e = .returned (.bool (tf (SameG ns r ms s))) ∧ Below w.heap.size w w' := by
  have hB : Below w.heap.size w ((w.alloc (.cells #[.slice A ns.length c, .int .i64 r] 25)).alloc (.cells #[.slice A' ms.length c', .int .i64 s] 25)) :=
    ((Below.refl _ _).alloc (Nat.le_refl _) _).alloc (by simp) _
  have l1 := (Lies.new w #[.slice A ns.length c, .int .i64 r] 25).alloc (.cells #[.slice A' ms.length c', .int .i64 s] 25)
  have l2 := Lies.new (w.alloc (.cells #[.slice A ns.length c, .int .i64 r] 25)) #[.slice A' ms.length c', .int .i64 s] 25
  simp only [World.size_alloc] at l2
  have hr2 := hr.below hB
  have hq2 := hq.below hB
  have hwfn := hide hr.wf
  have hwfm := hide hq.wf
  have yesA := fun (h : ValidG ns r) (X : World) (hx : NdsAt X X.heap.size A ns) => (implValid_any A ns c r X hx).mono (R' := fun e w' => e = .returned (.bool true) ∧ Below X.heap.size X w') fun e w' ⟨h1, h2⟩ => ⟨by rw [h1, tf_true h], h2⟩
  have noA := fun (h : ¬ ValidG ns r) (X : World) (hx : NdsAt X X.heap.size A ns) => (implValid_any A ns c r X hx).mono (R' := fun e w' => e = .returned (.bool false) ∧ Below X.heap.size X w') fun e w' ⟨h1, h2⟩ => ⟨by rw [h1, tf_false h], h2⟩
  have yesB := fun (h : ValidG ms s) (X : World) (hx : NdsAt X X.heap.size A' ms) => (implValid_any A' ms c' s X hx).mono (R' := fun e w' => e = .returned (.bool true) ∧ Below X.heap.size X w') fun e w' ⟨h1, h2⟩ => ⟨by rw [h1, tf_true h], h2⟩
  have noB := fun (h : ¬ ValidG ms s) (X : World) (hx : NdsAt X X.heap.size A' ms) => (implValid_any A' ms c' s X hx).mono (R' := fun e w' => e = .returned (.bool false) ∧ Below X.heap.size X w') fun e w' ⟨h1, h2⟩ => ⟨by rw [h1, tf_false h], h2⟩
  clear hr hq
  by_cases hva : ValidG ns r
  · have YA := hide (yesA hva)
    by_cases hvb : ValidG ms s
    · have YB := hide (yesB hvb)
      have CA := hide (fun (X : World) (hx : NdsAt X X.heap.size A ns) => implCodeOf_any A ns c r X hx)
      have CB := hide (fun (X : World) (hx : NdsAt X X.heap.size A' ms) => implCodeOf_any A' ms c' s X hx)
      have HF := hide (show tf (SameG ns r ms s) = decide (codeOf ns r = codeOf ms s) from by
        by_cases he : codeOf ns r = codeOf ms s
        · rw [tf_true ⟨hva, hvb, he⟩]; simp [he]
        · rw [tf_false (fun h => he h.2.2)]; simp [he])
      have ha64 := hide (codeOf_64 (r := r) hwfn.out)
      have hb64 := hide (codeOf_64 (r := s) hwfm.out)
      have hal := codeOf_few (r := r) hwfn.out
      have hbl := codeOf_few (r := s) hwfm.out
      generalize codeOf ns r = xs at CA HF ha64 hal
      generalize codeOf ms s = ys at CB HF hb64 hbl
      clear yesA noA yesB noB hva hvb
      go_enter Try.func9, Try.ntmps9
      go_wp2_with fail
      generalize hWd : (w.alloc (.cells #[.slice A ns.length c, .int .i64 r] 25)).alloc (.cells #[.slice A' ms.length c', .int .i64 s] 25) = W at hB l1 l2 hr2 hq2 ⊢
      have hWs : Hid (W.heap.size = w.heap.size + 1 + 1) := by show _ = _; rw [← hWd]; simp
      clear hWd
      have z1 := l1.lt
      have z2 := l2.lt
      have e0 := l1.cell 0
      have e1 := l1.cell 1
      have d0 := l2.cell 0
      have d1 := l2.cell 1
      simp at e0 e1 d0 d1
      have tok1 : True := trivial
      have tok2 : True := trivial
      have tok3 : True := trivial
      have tok4 : True := trivial
      go_region_held3 (fun w' => w'.cell? ⟨w.heap.size, 0, none⟩ = some (.slice A ns.length c) ∧ w'.cell? ⟨w.heap.size, 1, none⟩ = some (.int .i64 r) ∧ w'.cell? ⟨w.heap.size + 1, 0, none⟩ = some (.slice A' ms.length c') ∧ w'.cell? ⟨w.heap.size + 1, 1, none⟩ = some (.int .i64 s))
        (first
          | (go_split_ands; refine ⟨?_, ?_, ?_, ?_⟩ <;> assumption))
        (first
          | (go_at_call 8; have _t := tok1; clear tok1; refine (YA.out _ (hr2.later (Below.refl _ _).drew (by omega))).mono ?_; rintro e w3 ⟨rfl, hb3⟩; have hbw : Below W.heap.size W w3 := (Below.refl _ _).drew.trans (hb3.mono (by simp)); have q0 := (hbw.cell (p := ⟨w.heap.size, 0, none⟩) z1).trans e0; have q1 := (hbw.cell (p := ⟨w.heap.size, 1, none⟩) z1).trans e1; have q2 := (hbw.cell (p := ⟨w.heap.size + 1, 0, none⟩) z2).trans d0; have q3 := (hbw.cell (p := ⟨w.heap.size + 1, 1, none⟩) z2).trans d1)
          | (go_at_call 8; have _t := tok2; clear tok2; refine (YB.out _ (hq2.later (hbw.mono (by omega)) (by omega))).mono ?_; rintro e w4 ⟨rfl, hb4⟩; have hbx : Below W.heap.size W w4 := hbw.trans (hb4.mono hbw.size); have p0 := (hbx.cell (p := ⟨w.heap.size, 0, none⟩) z1).trans e0; have p1 := (hbx.cell (p := ⟨w.heap.size, 1, none⟩) z1).trans e1; have p2 := (hbx.cell (p := ⟨w.heap.size + 1, 0, none⟩) z2).trans d0; have p3 := (hbx.cell (p := ⟨w.heap.size + 1, 1, none⟩) z2).trans d1)
          | (go_at_call 26; have _t := tok3; clear tok3; refine (CA.out _ (hr2.later (hbx.mono (by omega)) (by omega))).mono ?_; rintro e w5 ⟨Aa, ca, rfl, hoA, hb5⟩; have hby : Below W.heap.size W w5 := hbx.trans (hb5.mono hbx.size); have o0 := (hby.cell (p := ⟨w.heap.size, 0, none⟩) z1).trans e0; have o1 := (hby.cell (p := ⟨w.heap.size, 1, none⟩) z1).trans e1; have o2 := (hby.cell (p := ⟨w.heap.size + 1, 0, none⟩) z2).trans d0; have o3 := (hby.cell (p := ⟨w.heap.size + 1, 1, none⟩) z2).trans d1)
          | (go_at_call 26; have _t := tok4; clear tok4; refine (CB.out _ (hq2.later (hby.mono (by omega)) (by omega))).mono ?_; rintro e w6 ⟨Ab, cb, rfl, hoB, hb6⟩; have hbz : Below W.heap.size W w6 := hby.trans (hb6.mono hby.size); have n0 := (hbz.cell (p := ⟨w.heap.size, 0, none⟩) z1).trans e0; have n1 := (hbz.cell (p := ⟨w.heap.size, 1, none⟩) z1).trans e1; have n2 := (hbz.cell (p := ⟨w.heap.size + 1, 0, none⟩) z2).trans d0; have n3 := (hbz.cell (p := ⟨w.heap.size + 1, 1, none⟩) z2).trans d1)
          | (go_at_call 25; refine (equalI_any Aa Ab xs ys ca cb w6 ((hoA.below hb6).ints ha64.out (by omega)) (hoB.ints hb64.out (by omega))).mono ?_; rintro e w7 ⟨rfl, hb7⟩; have hbt : Below W.heap.size W w7 := hbz.trans (hb7.mono hbz.size); have m0 := (hbt.cell (p := ⟨w.heap.size, 0, none⟩) z1).trans e0; have m1 := (hbt.cell (p := ⟨w.heap.size, 1, none⟩) z1).trans e1; have m2 := (hbt.cell (p := ⟨w.heap.size + 1, 0, none⟩) z2).trans d0; have m3 := (hbt.cell (p := ⟨w.heap.size + 1, 1, none⟩) z2).trans d1))
      go_wp2
      go_ret
      exact ⟨ret_bool HF.out.symm, hB.trans (hbt.mono (by have := hWs.out; omega))⟩
    · have NB := hide (noB hvb)
      have HF := hide (show tf (SameG ns r ms s) = false from tf_false fun h => hvb h.2.1)
      clear yesA noA yesB noB hva hvb
      go_enter Try.func9, Try.ntmps9
      go_wp2_with fail
      generalize hWd : (w.alloc (.cells #[.slice A ns.length c, .int .i64 r] 25)).alloc (.cells #[.slice A' ms.length c', .int .i64 s] 25) = W at hB l1 l2 hr2 hq2 ⊢
      have hWs : Hid (W.heap.size = w.heap.size + 1 + 1) := by show _ = _; rw [← hWd]; simp
      clear hWd
      have z1 := l1.lt
      have z2 := l2.lt
      have e0 := l1.cell 0
      have e1 := l1.cell 1
      have d0 := l2.cell 0
      have d1 := l2.cell 1
      simp at e0 e1 d0 d1
      have tok1 : True := trivial
      have tok2 : True := trivial
      have tok3 : True := trivial
      have tok4 : True := trivial
      go_region_with
        (first
          | (go_at_call 8; have _t := tok1; clear tok1; refine (YA.out _ (hr2.later (Below.refl _ _).drew (by omega))).mono ?_; rintro e w3 ⟨rfl, hb3⟩; have hbw : Below W.heap.size W w3 := (Below.refl _ _).drew.trans (hb3.mono (by simp)); have q0 := (hbw.cell (p := ⟨w.heap.size, 0, none⟩) z1).trans e0; have q1 := (hbw.cell (p := ⟨w.heap.size, 1, none⟩) z1).trans e1; have q2 := (hbw.cell (p := ⟨w.heap.size + 1, 0, none⟩) z2).trans d0; have q3 := (hbw.cell (p := ⟨w.heap.size + 1, 1, none⟩) z2).trans d1)
          | (go_at_call 8; have _t := tok2; clear tok2; refine (NB.out _ (hq2.later (hbw.mono (by omega)) (by omega))).mono ?_; rintro e w4 ⟨rfl, hb4⟩; have hbx : Below W.heap.size W w4 := hbw.trans (hb4.mono hbw.size); have p0 := (hbx.cell (p := ⟨w.heap.size, 0, none⟩) z1).trans e0; have p1 := (hbx.cell (p := ⟨w.heap.size, 1, none⟩) z1).trans e1; have p2 := (hbx.cell (p := ⟨w.heap.size + 1, 0, none⟩) z2).trans d0; have p3 := (hbx.cell (p := ⟨w.heap.size + 1, 1, none⟩) z2).trans d1))
      all_goals
        go_wp2
        go_ret
        exact ⟨ret_bool HF.out.symm, hB.trans (hbx.mono (by have := hWs.out; omega))⟩
  · have NA := hide (noA hva)
    have HF := hide (show tf (SameG ns r ms s) = false from tf_false fun h => hva h.1)
    clear yesA noA yesB noB hva
    go_enter Try.func9, Try.ntmps9
    go_wp2_with fail
    generalize hWd : (w.alloc (.cells #[.slice A ns.length c, .int .i64 r] 25)).alloc (.cells #[.slice A' ms.length c', .int .i64 s] 25) = W at hB l1 l2 hr2 hq2 ⊢
    have hWs : Hid (W.heap.size = w.heap.size + 1 + 1) := by show _ = _; rw [← hWd]; simp
    clear hWd
    have z1 := l1.lt
    have z2 := l2.lt
    have e0 := l1.cell 0
    have e1 := l1.cell 1
    have d0 := l2.cell 0
    have d1 := l2.cell 1
    simp at e0 e1 d0 d1
    go_region_with
      (first
        | (go_at_call 8; refine (NA.out _ (hr2.later (Below.refl _ _).drew (by omega))).mono ?_; rintro e w3 ⟨rfl, hb3⟩; have hbw : Below W.heap.size W w3 := (Below.refl _ _).drew.trans (hb3.mono (by simp)); have q0 := (hbw.cell (p := ⟨w.heap.size, 0, none⟩) z1).trans e0; have q1 := (hbw.cell (p := ⟨w.heap.size, 1, none⟩) z1).trans e1; have q2 := (hbw.cell (p := ⟨w.heap.size + 1, 0, none⟩) z2).trans d0; have q3 := (hbw.cell (p := ⟨w.heap.size + 1, 1, none⟩) z2).trans d1))
    all_goals
      go_wp2
      go_ret
      exact ⟨ret_bool HF.out.symm, hB.trans (hbw.mono (by have := hWs.out; omega))⟩

end Go.Proofs.Ytigelbilfddhgab
