/-
  The walk of the law FnExactNewMachine: for every number it returns true and writes nothing that was there.
-/
import Derived.Test.YtekmghlgcfknaakNewI
namespace Go.Proofs.Ytekmghlgcfknaak
open Go.RowKit
set_option linter.unusedVariables false

theorem newNs_small (f : Int) : SmallN (newNs f) := by
  unfold newNs
  split
  · exact ⟨by simp, fun n hn => by simp at hn; subst hn; simp⟩
  · exact ⟨by simp, fun n hn => by simp at hn⟩
theorem newNs_wf (f : Int) : WfN (newNs f) := by
  unfold newNs
  split
  · intro n hn
    simp at hn
    subst hn
    exact ⟨⟨by simp, by simp⟩, ⟨by simp, by simp⟩, fun x hx => by simp at hx, by simp⟩
  · intro n hn; simp at hn
theorem newMs_len (f : Int) : (newMs f).length ≤ 20 := by
  unfold newMs
  split
  · simp
  · split <;> simp
theorem newMs_64 (f : Int) : ∀ x ∈ newMs f, In64 x := by
  unfold newMs
  split
  · intro x hx
    have := List.eq_of_mem_replicate hx
    subst this
    constructor <;> omega
  · split
    · intro x hx
      rcases List.mem_cons.1 hx with h | h
      · subst h; constructor <;> omega
      · have := List.eq_of_mem_replicate h
        subst this
        constructor <;> omega
    · intro x hx; simp at hx

theorem marks_64 {k : Int} {n : Nat} (h0 : 0 ≤ k) (h1 : k ≤ 1048576) (hn : n ≤ 1048576) : ∀ x ∈ marks k n, In64 x := fun x hx => by
  obtain ⟨j, hj, rfl⟩ := List.mem_map.1 hx
  have := List.mem_range.1 hj
  constructor <;> omega

theorem OwnMach.reads {X : World} {L H : Nat} {A : Option Addr} {c : Nat} {ns : List Nd} {S : Option Addr} {cs : Nat} {ss : List Int} {M : Option Addr} {cm : Nat} {ms : List Int} (h : OwnMach X L H A c ns S cs ss M cm ms) (hwf : WfN ns) (hl : ns.length ≤ 9223372036854775807) (hs : ∀ x ∈ ss, In64 x) (hsl : ss.length ≤ 9223372036854775807) (hm : ∀ x ∈ ms, In64 x) (hml : ms.length ≤ 9223372036854775807) :
    NdsAt X X.heap.size A ns ∧ IntsAt X X.heap.size S ss ∧ IntsAt X X.heap.size M ms := by
  obtain ⟨lo, hi, _, _, _, h4, _, _⟩ := h.nodes
  exact ⟨h4.nds hwf hl, h.stack.ints hs hsl, h.memo.ints hm hml⟩

set_option maxRecDepth 100000 in
set_option maxHeartbeats 4000000 in
theorem exNM_any (f : Int) (w : World) :
    Calls Try.prog 3 #[.int .i64 f] w fun e w' => e = .returned (.bool true) ∧ Below w.heap.size w w' := by
  have hsm := newNs_small f
  have hwf := newNs_wf f
  have hml := newMs_len f
  have hm64 := newMs_64 f
  have Hwf := hide hwf
  have H64 := hide hm64
  have hme := marksEnd_grows 1 (newNs f)
  have hmf := marksEnd_few hsm 1
  have hspec := specNewMachine_any f
  have himpl := implNewMachine_any f
  have hnl := hsm.len
  have Hmwf := hide (marksN_wf (k := 1) hsm (by omega) (by omega))
  have hmnl := marksN_len 1 (newNs f)
  have Hmnl := hide hmnl
  clear hwf hm64 hmnl
  generalize newNs f = ns at hsm Hwf hme hmf hspec himpl hnl Hmwf Hmnl
  generalize newMs f = ms at hml H64 hspec himpl
  go_enter Try.func3, Try.ntmps3
  go_wp2_with fail
  refine (hspec w).mono ?_
  rintro e w1 ⟨A, c, M, cm, rfl, hO, hB1⟩
  clear hspec
  unfold machV
  have l1 := Lies.new w1 #[.slice A ns.length c, .slice none 0 0, .slice M ms.length cm, .bool false] 25
  have hb2 := (Below.refl w1.heap.size w1).alloc (Nat.le_refl _) (.cells #[.slice A ns.length c, .slice none 0 0, .slice M ms.length cm, .bool false] 25)
  have hO2 := hO.below hb2 (Nat.le_refl _)
  have hB2 := hB1.trans (hb2.mono hB1.size)
  have hw1 : w.heap.size ≤ w1.heap.size := hB1.size
  clear hO hb2 hB1
  go_wp2_with fail
  generalize w1.alloc (.cells #[.slice A ns.length c, .slice none 0 0, .slice M ms.length cm, .bool false] 25) = w2 at l1 hO2 hB2 ⊢
  generalize w1.heap.size = b1 at l1 hO2 hw1 ⊢
  have hl1 := l1.lt
  refine (himpl w2).mono ?_
  rintro e w3 ⟨A2, c2, M2, cm2, rfl, hP, hb3⟩
  unfold machV
  have l3 := l1.below hb3 l1.lt
  have hO3 := hO2.below hb3 (by omega)
  have hB3 := hB2.trans (hb3.mono hB2.size)
  have lg := Lies.new w3 #[.slice A2 ns.length c2, .slice none 0 0, .slice M2 ms.length cm2, .bool false] 25
  have hb4 := (Below.refl w3.heap.size w3).alloc (Nat.le_refl _) (.cells #[.slice A2 ns.length c2, .slice none 0 0, .slice M2 ms.length cm2, .bool false] 25)
  have l4 := l3.below hb4 l3.lt
  have hO4 := hO3.below hb4 (by have := hb3.size; omega)
  have hP4 := hP.below hb4 (Nat.le_refl _)
  have hB4 := hB3.trans (hb4.mono hB3.size)
  have hw23 : w2.heap.size ≤ w3.heap.size := hb3.size
  have e0 := l4.cell 0
  have e1 := l4.cell 1
  have e2 := l4.cell 2
  have e3 := l4.cell 3
  simp at e0 e1 e2 e3
  clear l1 l3 hO2 hO3 hP hB2 hB3 hb3 hb4
  go_wp2_with fail
  generalize w3.alloc (.cells #[.slice A2 ns.length c2, .slice none 0 0, .slice M2 ms.length cm2, .bool false] 25) = w4 at lg l4 hO4 hP4 hB4 e0 e1 e2 e3 ⊢
  generalize w3.heap.size = b3 at lg hP4 hw23 ⊢
  have hl3 := lg.lt
  have rP4 := hP4.reads Hwf.out (by omega) (by simp) (by simp) H64.out (by omega)
  have rO4 := hO4.reads Hwf.out (by omega) (by simp) (by simp) H64.out (by omega)
  have HEQ := hide (eqMachine_same A2 A ns c2 c none none [] 0 0 M2 M ms cm2 cm false w4 rP4.1 rO4.1 rP4.2.1 rO4.2.1 rP4.2.2 rO4.2.2)
  clear rP4 rO4
  unfold machV at HEQ
  refine HEQ.out.mono ?_
  rintro e w5 ⟨rfl, hb5⟩
  have hO5 := hO4.below hb5 (by omega)
  have hP5 := hP4.below hb5 (by omega)
  have l5 := l4.below hb5 l4.lt
  have lg5 := lg.below hb5 lg.lt
  have hB5 := hB4.trans (hb5.mono hB4.size)
  have hw45 : w4.heap.size ≤ w5.heap.size := hb5.size
  have g0 := lg5.cell 0
  have g1 := lg5.cell 1
  have g2 := lg5.cell 2
  have g3 := lg5.cell 3
  simp at g0 g1 g2 g3
  clear HEQ hO4 hP4 l4 lg hB4 hb5 e0 e1 e2 e3
  have HMK := hide (markMachine_any w2.heap.size b3 A2 c2 ns none 0 [] M2 cm2 ms false w5 hP5 hsm (by simp) (by omega) (by omega))
  unfold machV at HMK
  go_wp2_with fail
  refine HMK.out.mono ?_
  rintro e w6 ⟨rfl, hP6, hkeep, ho6, ht6, hu6, hs6⟩
  have hbl : ∀ b, b < w5.heap.size → b < w2.heap.size ∨ b3 ≤ b → w6.heap[b]? = w5.heap[b]? := hkeep (by omega)
  have hO6 := hO5.kept (w' := w6) (fun b _ h2 => hbl b (by omega) (.inl (by omega)))
  have l6 : Lies w6 b1 _ _ := (hbl b1 (by omega) (.inl (by omega))).trans l5
  have lg6 : Lies w6 b3 _ _ := (hbl b3 (by omega) (.inr (Nat.le_refl _))).trans lg5
  have hB6 : Below w.heap.size w w6 := hB5.trans ⟨ho6, ht6, hu6, hs6, fun b hb => hbl b (by omega) (.inl (by omega))⟩
  clear HMK hO5 hP5 l5 lg5 hB5 hkeep hbl g0 g1 g2 g3 ho6 ht6 hu6
  have g0 := lg6.cell 0
  have g1 := lg6.cell 1
  have g2 := lg6.cell 2
  have g3 := lg6.cell 3
  simp at g0 g1 g2 g3
  have rP := hP6.reads Hmwf.out (by rw [Hmnl.out]; omega) (marks_64 (by omega) (by omega) (by simp)) (by rw [marks_len]; simp) (marks_64 (by simp; omega) (by simp; omega) (by omega)) (by rw [marks_len]; omega)
  have HHD := hide (heldMachine_any A2 c2 ns none 0 [] M2 cm2 ms false w6 hsm (by simp) (by omega) rP.1 rP.2.1 rP.2.2)
  clear rP
  unfold machV at HHD
  have hq0 : 0 ≤ machEnd 1 ns [] ms := by unfold machEnd; simp; omega
  generalize hqd : machEnd 1 ns [] ms = q at hq0 HHD ⊢
  have HQ := hide hqd
  clear hqd
  have dq : decide (q < 0) = false := by simp; omega
  have dn : (q != q) = false := by simp
  go_wp2_with fail
  refine HHD.out.mono ?_
  rintro e w7 ⟨rfl, hb7⟩
  have hO7 := hO6.below hb7 (by omega)
  have hP7 := hP6.below hb7 (by omega)
  have l7 := l6.below hb7 l6.lt
  have lg7 := lg6.below hb7 lg6.lt
  have hB7 := hB6.trans (hb7.mono hB6.size)
  have hw67 : w6.heap.size ≤ w7.heap.size := hb7.size
  clear HHD hO6 hP6 l6 lg6 hB6 hb7 g0 g1 g2 g3
  go_wp2_with fail
  refine (himpl w7).mono ?_
  rintro e w8 ⟨A3, c3, M3, cm3, rfl, hR, hb8⟩
  clear himpl
  unfold machV
  have hbA := (Below.refl w8.heap.size w8).alloc (Nat.le_refl _) (.cells #[.slice A3 ns.length c3, .slice none 0 0, .slice M3 ms.length cm3, .bool false] 25)
  have hb9 := hb8.trans (hbA.mono hb8.size)
  have hO9 := hO7.below hb9 (by omega)
  have hP9 := hP7.below hb9 (by omega)
  have hR9 := hR.below hbA (Nat.le_refl _)
  have l9 := l7.below hb9 l7.lt
  have lg9 := lg7.below hb9 lg7.lt
  have hB9 := hB7.trans (hb9.mono hB7.size)
  have hw79 := hb9.size
  have e0 := l9.cell 0
  have e1 := l9.cell 1
  have e2 := l9.cell 2
  have e3 := l9.cell 3
  simp at e0 e1 e2 e3
  clear hO7 hP7 hR l7 lg7 hB7 hb8 hb9 hbA
  go_wp2_with fail
  generalize w8.alloc (.cells #[.slice A3 ns.length c3, .slice none 0 0, .slice M3 ms.length cm3, .bool false] 25) = w9 at hO9 hP9 hR9 l9 lg9 hB9 hw79 e0 e1 e2 e3 ⊢
  have rP4 := hR9.reads Hwf.out (by omega) (by simp) (by simp) H64.out (by omega)
  have rO4 := hO9.reads Hwf.out (by omega) (by simp) (by simp) H64.out (by omega)
  have HEQ := hide (eqMachine_same A3 A ns c3 c none none [] 0 0 M3 M ms cm3 cm false w9 rP4.1 rO4.1 rP4.2.1 rO4.2.1 rP4.2.2 rO4.2.2)
  clear rP4 rO4
  unfold machV at HEQ
  refine HEQ.out.mono ?_
  rintro e w10 ⟨rfl, hb10⟩
  have hP10 := hP9.below hb10 (by omega)
  have lg10 := lg9.below hb10 lg9.lt
  have hB10 := hB9.trans (hb10.mono hB9.size)
  clear HEQ hO9 hP9 hR9 l9 lg9 hB9 hb10 e0 e1 e2 e3
  have g0 := lg10.cell 0
  have g1 := lg10.cell 1
  have g2 := lg10.cell 2
  have g3 := lg10.cell 3
  simp at g0 g1 g2 g3
  have rP := hP10.reads Hmwf.out (by rw [Hmnl.out]; omega) (marks_64 (by omega) (by omega) (by simp)) (by rw [marks_len]; simp) (marks_64 (by simp; omega) (by simp; omega) (by omega)) (by rw [marks_len]; omega)
  have HHD := hide (heldMachine_any A2 c2 ns none 0 [] M2 cm2 ms false w10 hsm (by simp) (by omega) rP.1 rP.2.1 rP.2.2)
  clear rP
  unfold machV at HHD
  rw [HQ.out] at HHD
  go_wp2_with fail
  refine HHD.out.mono ?_
  rintro e w11 ⟨rfl, hb11⟩
  have hB11 := hB10.trans (hb11.mono hB10.size)
  clear HHD hP10 lg10 hB10 hb11 g0 g1 g2 g3
  go_wp2
  go_ret
  exact ⟨rfl, hB11⟩

end Go.Proofs.Ytekmghlgcfknaak
