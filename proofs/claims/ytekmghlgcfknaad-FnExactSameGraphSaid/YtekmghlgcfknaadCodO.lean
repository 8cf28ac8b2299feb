/-
  The program's CodeOf and the model's codeOf.
-/
import Derived.Test.YtekmghlgcfknaadCodF
import Derived.Test.YtekmghlgcfknaadCodS
import Derived.Test.YtekmghlgcfknaadImplD
namespace Go.Proofs.Ytekmghlgcfknaad
open Go.RowKit Go.Maps
set_option linter.unusedVariables false

open Classical in
/-- the code of a valid graph; nothing for another one -/
noncomputable def codeOf (ns : List Nd) (r : Int) : List Int := if ValidG ns r then (cod ns (ns.length + 1) r ([], [])).1 else []

theorem codG_of_valid {ns : List Nd} {r : Int} (h : ValidG ns r) (hwf : Wf ns) : CodG ns 6 := by
  refine ⟨fun n hn => (h.nodes n hn).inn, fun n hn => (h.nodes n hn).few, fun n hn h0 => ?_, hwf⟩
  have hk := (h.nodes n hn).kind
  apply List.eq_nil_of_length_eq_zero
  rcases hk with hk | hk | hk | hk | hk | hk
  · exact hk.2.2.2
  · omega
  · omega
  · omega
  · omega
  · omega

theorem codeOf_few {ns : List Nd} {r : Int} (hwf : Wf ns) : (codeOf ns r).length ≤ 300 := by
  unfold codeOf
  split
  next h =>
    have hc := (coded ns 6 (codG_of_valid h hwf) (by have := h.few; omega) (ns.length + 1) r ([], []) (CInv.start ns) h.root0 h.root (by simp))
    have h1 := hc.len
    have h2 := hc.inv.met.len
    have := h.few
    simp at h1
    omega
  next => simp

theorem codeOf_64 {ns : List Nd} {r : Int} (hwf : Wf ns) : ∀ x ∈ codeOf ns r, In64 x := by
  unfold codeOf
  split
  next h => exact (coded ns 6 (codG_of_valid h hwf) (by have := h.few; omega) (ns.length + 1) r ([], []) (CInv.start ns) h.root0 h.root (by simp)).inv.wf
  next => simp

set_option maxHeartbeats 1000000 in
theorem specCodeOf1_any (A : Option Addr) (ns : List Nd) (K : Nat) (hg : CodG ns K) (hl : ns.length ≤ 1048576) (hM : 3 + 3 * (K * ns.length) ≤ 16000000) (c : Nat) (i : Nat) (w : World) (hr : NdsAt w w.heap.size A ns) (hi : i < ns.length) :
    Calls Try.prog 12 #[.agg #[.slice A ns.length c, .int .i64 (i : Int)]] w (GivesInts w (cod ns (ns.length + 1) i ([], [])).1) := by
  have Hg := hide hg
  have hMh := hide hM
  have hB : Below w.heap.size w (((w.alloc (.cells #[.slice A ns.length c, .int .i64 (i : Int)] 29)).alloc (.cells #[] 3)).alloc (.cells #[] 3)) := (((Below.refl _ _).alloc (Nat.le_refl _) _).alloc (by simp) _).alloc (by simp; omega) _
  have hr2 := hr.later hB (Nat.le_refl _)
  have o1 := (OwnI.bare (w.alloc (.cells #[.slice A ns.length c, .int .i64 (i : Int)] 29))).alloc (.cells #[] 3)
  have o2 := OwnI.bare ((w.alloc (.cells #[.slice A ns.length c, .int .i64 (i : Int)] 29)).alloc (.cells #[] 3))
  simp only [World.size_alloc] at o1 o2
  clear hr hg hM
  go_enter Try.func12, Try.ntmps12
  go_wp2_with fail
  generalize ((w.alloc (.cells #[.slice A ns.length c, .int .i64 (i : Int)] 29)).alloc (.cells #[] 3)).alloc (.cells #[] 3) = W at hB hr2 o1 o2 ⊢
  have i1 := o1.ints (by simp) (by simp)
  have i2 := o2.ints (by simp) (by simp)
  refine (code_any ns K 16000000 Hg.out hl (by omega) A c i (ns.length + 1) i [] [] _ 0 _ 0 W hi (CInv.start ns) hr2 i1 (fun e => by cases e) i2 (fun e => by cases e) (by simp) (by have := hMh.out; simp; omega)).mono ?_
  rintro e w1 ⟨Ao, co, Am, cm, rfl, hb, hown, _, _, _⟩
  have Hfin : Hid (GivesInts w (cod ns (ns.length + 1) i ([], [])).1 (.returned (.slice Ao (cod ns (ns.length + 1) i ([], [])).1.length co)) w1) := ⟨Ao, co, rfl, hown.mono hB.size, hB.trans (hb.mono hB.size)⟩
  clear hown hb i1 i2 o1 o2
  generalize hR2 : (cod ns (ns.length + 1) i ([], [])).2 = R2
  clear hR2
  go_wp2
  go_ret
  exact Hfin.out

set_option maxHeartbeats 1000000 in
theorem implCodeOf_any (A : Option Addr) (ns : List Nd) (c : Nat) (r : Int) (w : World) (hr : NdsAt w w.heap.size A ns) :
    Calls Try.prog 16 #[.agg #[.slice A ns.length c, .int .i64 r]] w (GivesInts w (codeOf ns r)) := by
  have hB : Below w.heap.size w (w.alloc (.cells #[.slice A ns.length c, .int .i64 r] 29)) := (Below.refl _ _).alloc (Nat.le_refl _) _
  have l1 := Lies.new w #[.slice A ns.length c, .int .i64 r] 29
  have hr2 := hr.later hB (Nat.le_refl _)
  have hwf := hide hr.wf
  clear hr
  by_cases hv : ValidG ns r
  · obtain ⟨i, rfl⟩ := Int.eq_ofNat_of_zero_le hv.root0
    have hg := hide (codG_of_valid hv hwf.out)
    have h12 := hv.few
    have hi : i < ns.length := by have := hv.root; omega
    have HV := hide hv
    have he : Hid (codeOf ns i = (cod ns (ns.length + 1) i ([], [])).1) := by show _ = _; unfold codeOf; rw [if_pos hv]
    clear hv
    go_enter Try.func16, Try.ntmps16
    go_wp2_with fail
    generalize w.alloc (.cells #[.slice A ns.length c, .int .i64 (i : Int)] 29) = W at hB l1 hr2 ⊢
    refine (implValid_any A ns c i W hr2).mono ?_
    rintro e w1 ⟨rfl, hb1⟩
    rw [tf_true HV.out]
    have l2 := l1.below hb1 l1.lt
    have hr3 := hr2.later hb1 (Nat.le_refl _)
    have hB1 := hB.trans (hb1.mono hB.size)
    have e0 := l2.cell 0
    have e1 := l2.cell 1
    simp at e0 e1
    clear l1 hr2 hb1 hB
    go_wp2_with fail
    refine (codeFrom_any ns 6 hg.out (by omega) (by omega) A c i w1 hr3 hi).mono ?_
    rintro e w2 ⟨Ao, co, rfl, hown, hb2⟩
    have Hfin : Hid (GivesInts w (codeOf ns i) (.returned (.slice Ao (cod ns (ns.length + 1) i ([], [])).1.length co)) w2) := by
      show GivesInts _ _ _ _
      rw [he.out]
      exact ⟨Ao, co, rfl, hown.mono hB1.size, hB1.trans (hb2.mono hB1.size)⟩
    clear hown hb2 e0 e1
    go_wp2
    go_ret
    exact Hfin.out
  · have HV := hide hv
    clear hv
    go_enter Try.func16, Try.ntmps16
    go_wp2_with fail
    refine (implValid_any A ns c r _ hr2).mono ?_
    rintro e w1 ⟨rfl, hb1⟩
    rw [tf_false HV.out]
    have hB1 := hB.trans (hb1.mono hB.size)
    clear hb1 hB hr2
    go_wp2
    go_ret
    unfold codeOf
    rw [if_neg HV.out]
    exact ⟨none, 0, rfl, OwnI.empty _ _, hB1⟩

end Go.Proofs.Ytekmghlgcfknaad
