/-
  The program's CyclesOf: it returns the same nodes as the model.
-/
import Derived.Test.YtmpplimghjkjaaeCycI
import Derived.Test.YtmpplimghjkjaaeCycM
import Derived.Test.YtmpplimghjkjaaeSort
namespace Go.Proofs.Ytmpplimghjkjaae
open Go.RowKit Go.Maps
set_option linter.unusedVariables false

theorem sorted_cycles (ns : List Nd) (r : Int) : ((cycIn ns (reachOf ns r)).mergeSort fun x y => decide (x ≤ y)) = cyclesOf ns r := by
  by_cases hv : ValidG ns r
  · exact sort_cycles hv
  · unfold reachOf cyclesOf cycIn
    rw [if_neg hv, if_neg hv]
    simp

set_option maxRecDepth 100000 in
set_option maxHeartbeats 1000000 in
theorem implCyclesOf_any (A : Option Addr) (ns : List Nd) (c : Nat) (r : Int) (w : World) (hr : NdsAt w w.heap.size A ns) :
    Calls Try.prog 13 #[.agg #[.slice A ns.length c, .int .i64 r]] w (GivesInts w (cyclesOf ns r)) := by
  have hB : Below w.heap.size w (w.alloc (.cells #[.slice A ns.length c, .int .i64 r] 25)) := (Below.refl _ _).alloc (Nat.le_refl _) _
  have l1 := Lies.new w #[.slice A ns.length c, .int .i64 r] 25
  have hr2 := hr.below hB
  clear hr
  go_enter Try.func13, Try.ntmps13
  go_wp2_with fail
  generalize w.alloc (.cells #[.slice A ns.length c, .int .i64 r] 25) = W at hB l1 hr2 ⊢
  refine (implReachOf_any A ns c r W (hr2.more hB.size)).mono ?_
  rintro e w1 ⟨A', c', rfl, hown, hb1⟩
  have hR12 : (reachOf ns r).length ≤ 12 := reachOf_few
  have hRm : Met ns (reachOf ns r) := reachOf_met
  have hval : reachOf ns r ≠ [] → ValidG ns r := fun h => by
    by_cases hv : ValidG ns r
    · exact hv
    · unfold reachOf at h; rw [if_neg hv] at h; exact absurd rfl h
  have hfin := sorted_cycles ns r
  generalize hRd : reachOf ns r = R at hR12 hRm hown hval hfin ⊢
  have Hval := hide hval
  have Hfin := hide hfin
  have h64 : ∀ x ∈ R, In64 x := fun x hx => by have := hRm.range x hx; have := (Hval.out (by intro e; subst e; cases hx)).few; constructor <;> omega
  have HM := hide hRm
  have H64 := hide h64
  have l2 := l1.below hb1 l1.lt
  have hr3 := hr2.below (hb1.mono hB.size)
  have hB1 := hB.trans (hb1.mono hB.size)
  have hsz := l2.lt
  have Hown := hide hown
  clear hRd hval hfin hRm h64 l1 hr2 hb1 hB hown
  go_wp2_with fail
  go_loopw [3, 9] (fun ov iv wr => ∃ (k : Nat) (Ao : Option Addr) (co : Nat), k ≤ R.length ∧ iv = .int .i64 k ∧ ov = .slice Ao (cycIn ns (R.take k)).length co ∧ Below w1.heap.size w1 wr ∧ OwnI wr w1.heap.size Ao co (cycIn ns (R.take k))) (fun _ iv _ => R.length - (intOf iv).toNat)
  case atStart => exact ⟨0, none, 0, Nat.zero_le _, rfl, rfl, Below.refl _ _, OwnI.empty _ _⟩
  case round =>
    obtain ⟨k, Ao, co, hkl, rfl, rfl, hb, hown⟩ := hrel
    have hlen := cycIn_len ns (R.take k)
    rw [List.length_take] at hlen
    have hlen2 : (cycIn ns (R.take k)).length ≤ 12 := by omega
    clear hlen
    have hsr := hb.size
    have lr := l2.below hb (by omega)
    have hrr := (hr3.below (hb.mono (by omega))).more (show w.heap.size ≤ wr.heap.size by omega)
    have e0 := lr.cell 0
    simp at e0
    by_cases hlt : k < R.length
    · have hv := Hval.out (by intro e; subst e; simp at hlt)
      obtain ⟨bk, ok, x, rfl, hbk, hx, hxm, hcx⟩ := ((Hown.out.ints H64.out (by omega)).below hb).at_ hlt
      obtain ⟨hx0, hx1⟩ := HM.out.range x hxm
      obtain ⟨i, rfl⟩ := Int.eq_ofNat_of_zero_le hx0
      have h12 := hv.few
      have hk := kidsIn_of_valid hv
      have Hx := hide hx
      have Hk := hide hk
      have Hb := hide hb
      have Ho := hide hown
      clear hv hk hx hxm lr hb hown
      have hk1 : (0 : Int) ≤ (k : Int) := by omega
      have hk2 : (k : Int) < (R.length : Int) := by omega
      go_wp2_with fail
      refine (leadsBackA_any A ns c i wr hrr Hk.out (by omega) (by omega)).mono ?_
      rintro e w5 ⟨rfl, hb5⟩
      have hB5 := Hb.out.trans (hb5.mono hsr)
      have hown5 := Ho.out.below hb5
      have hs5 := hb5.size
      clear hb5 hrr e0 hcx
      by_cases hc : OnCyc ns (i : Int)
      · rw [show tf ((i : Int) ∈ dfsL ns anyB (ns.length + 1) (kidsOf ns i) []) = true from tf_true hc]
        have hyes := hide (cycIn_yes Hx.out hc)
        have hIone := IntsAt.one w5 i (by constructor <;> omega)
        clear hc
        generalize cycIn ns (R.take k) = S at hyes hown5 hlen2 Ho
        go_wp2_with (at_builtin; refine append_ints rfl (.tmp 17) (.tmp 19) rfl w1.heap.size Ao co S rfl (hown5.alloc _) (w5.heap.size + 1) _ 1 [(i : Int)] rfl (fun e => by cases e) hIone (by simp; omega) (by simp; omega) ?_; intro zs Az cz w7 hz hown7 hg7 hat7)
        have hb7 : Below w1.heap.size w1 w7 := below_grown (hB5.alloc (by omega) _) hg7 (by simp; omega) (fun q hq => (hown5.blocks q hq).1)
        have hz2 : Hid (zs = cycIn ns (R.take (k + 1))) := by
          show _ = _
          rw [hyes.out]
          exact hz.out
        have Hown7 := hide hown7
        have Hb7 := hide hb7
        clear hown7 hb7 hg7 hat7 hown5 hIone hz hyes Ho hB5
        go_wp2
        go_roundw
        case rel => exact ⟨k + 1, Az, cz, by omega, by go_num, by rw [hz2.out], Hb7.out, by rw [← hz2.out]; exact Hown7.out⟩
        case measure => simp [intOf]; omega
      · rw [show tf ((i : Int) ∈ dfsL ns anyB (ns.length + 1) (kidsOf ns i) []) = false from tf_false hc]
        have hno := hide (cycIn_no Hx.out hc)
        have HB5 := hide hB5
        have Hown5 := hide hown5
        clear hc hB5 hown5
        go_wp2
        go_roundw
        case rel => exact ⟨k + 1, Ao, co, by omega, by go_num, by rw [hno.out], HB5.out, by rw [hno.out]; exact Hown5.out⟩
        case measure => simp [intOf]; omega
    · obtain rfl : k = R.length := by omega
      rw [List.take_length] at hown hlen2 ⊢
      clear hlt hrr e0 lr
      generalize cycIn ns R = S at hown hlen2 Hfin ⊢
      go_wp2_with fail
      refine (sortI_any w1.heap.size Ao co S wr hown (by omega)).mono ?_
      rintro e w6 ⟨rfl, hown6, hg6⟩
      rw [Hfin.out] at hown6
      have hb6 : Below w1.heap.size w1 w6 := below_grown hb hg6 hsr (fun q hq => (hown.blocks q hq).1)
      have HF : Hid (GivesInts w (cyclesOf ns r) (.returned (.slice Ao S.length co)) w6) := by
        show GivesInts _ _ _ _
        have hll : S.length = (cyclesOf ns r).length := by rw [← Hfin.out, List.length_mergeSort]
        exact ⟨Ao, co, by rw [hll], hown6.mono (by omega), hB1.trans (hb6.mono (by omega))⟩
      clear hown6 hg6 hb6 hown hb
      go_wp2
      go_ret
      exact HF.out

end Go.Proofs.Ytmpplimghjkjaae
