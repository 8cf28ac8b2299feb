/-
  Lemmas, several texts in one: Reach, AlkI.
-/
import Derived.Test.YtcblcmdfeoijpabPjAj
import Derived.StillTailTactics
import Derived.Test.YtcblcmdfeoijpabPjAg
import Derived.Test.YtcblcmdfeoijpabMem
import Derived.Deep.LoopGhost
import Derived.Deep.QuietTactic
import Derived.Deep.Cut
import Derived.BigQuiet
namespace Go.Proofs.Ytcblcmdfeoijpab
open Go.RowKit
set_option linter.unusedVariables false

/-- a call of reach: an int slice that reads as R, of the call's own or the one that was handed in -/
def GivesReachI (w : World) (A : Option Addr) (c : Nat) (L R : List Int) (e : Ending) (w' : World) : Prop :=
  ∃ A' c', e = .returned (.slice A' R.length c') ∧ Below w.heap.size w w' ∧ IntsAt w' w'.heap.size A' R ∧ (A' = none → c' = 0) ∧ ((A' = A ∧ c' = c ∧ R = L) ∨ OwnI w' w.heap.size A' c' R)

set_option maxRecDepth 100000 in
set_option maxHeartbeats 4000000 in
theorem reach1_any (ns : List Nd) (hk : KidsIn ns) (h6 : ∀ n ∈ ns, n.kids.length ≤ 6) (h12 : ns.length ≤ 12) (A : Option Addr) (c : Nat) (r : Int) (f : Nat)
    (ih : ∀ (i : Nat) (L : List Int) (A2 : Option Addr) (c2 : Nat) (w : World), i < ns.length → Met ns L → NdsAt w w.heap.size A ns → IntsAt w w.heap.size A2 L → (A2 = none → c2 = 0) → ns.length < f + L.length →
      Calls Try.prog 58 #[.agg #[.slice A ns.length c, .int .i64 r], .int .i64 (i : Int), .slice A2 L.length c2] w (GivesReachI w A2 c2 L (dfs ns anyB f i L)))
    (i : Nat) (L : List Int) (A2 : Option Addr) (c2 : Nat) (w : World) (hi : i < ns.length) (hL : Met ns L) (hr : NdsAt w w.heap.size A ns) (hI : IntsAt w w.heap.size A2 L) (hnil : A2 = none → c2 = 0) (hf : ns.length < f + 1 + L.length) :
      Calls Try.prog 58 #[.agg #[.slice A ns.length c, .int .i64 r], .int .i64 (i : Int), .slice A2 L.length c2] w (GivesReachI w A2 c2 L (dfs ns anyB (f + 1) i L)) := by
  have hB : Below w.heap.size w (w.alloc (.cells #[.slice A ns.length c, .int .i64 r] 25)) := (Below.refl _ _).alloc (Nat.le_refl _) _
  have l1 := Lies.new w #[.slice A ns.length c, .int .i64 r] 25
  have hr2 := hr.below hB
  have hI2 := hI.later hB (Nat.le_refl _)
  have hlL := hL.len
  have hi1 : (0 : Int) ≤ (i : Int) := by omega
  have hi2 : (i : Int) < (ns.length : Int) := by omega
  have HL := hide hL
  have Hih := hide ih
  have Hnil := hide hnil
  clear hr hI hL ih hnil
  go_enter Try.func58, Try.ntmps58
  go_wp2_with fail
  generalize hWd : w.alloc (.cells #[.slice A ns.length c, .int .i64 r] 25) = W at hB l1 hr2 hI2 ⊢
  have HWs : Hid (W.heap.size = w.heap.size + 1) := by show W.heap.size = _; rw [← hWd]; simp
  clear hWd
  refine (placeIn_any A2 L c2 i W hI2).mono ?_
  rintro e w' ⟨rfl, rfl⟩
  by_cases hmem : (i : Int) ∈ L
  · have hp := place_lt hmem
    have hd : decide (0 ≤ place L i) = true := by simp; omega
    generalize place L i = pl at hp hd ⊢
    have HF : Hid (GivesReachI w A2 c2 L (dfs ns anyB (f + 1) i L) (.returned (.slice A2 L.length c2)) W) := by
      rw [dfs_stop (.inr hmem)]
      exact ⟨A2, c2, rfl, hB, hI2, Hnil.out, .inl ⟨rfl, rfl, rfl⟩⟩
    clear hmem hI2 hr2
    go_wp2
    go_ret
    exact HF.out
  · rw [place_neg hmem]
    have hgo : dfs ns anyB (f + 1) i L = dfsL ns anyB f (kidsOf ns i) (L ++ [(i : Int)]) := dfs_go rfl hmem
    have Hgo := hide hgo
    have hM := HL.out.snoc ⟨hi1, hi2⟩ hmem
    have HM := hide hM
    have hMl := hM.len
    clear hmem hgo hM
    go_wp2_with fail
    refine (copyInts_any A2 L c2 W hI2 Hnil.out (by omega)).mono ?_
    rintro e w1 ⟨A3, c3, rfl, hown, hb1⟩
    have hin64 : In64 (i : Int) := by constructor <;> omega
    have hIone := IntsAt.one w1 i hin64
    go_wp2_with (at_builtin; refine append_ints rfl (.tmp 14) (.tmp 16) rfl W.heap.size A3 c3 L rfl (hown.alloc _) (w1.heap.size + 1) _ 1 [(i : Int)] rfl (fun e => by cases e) hIone (by simp <;> omega) (by have := hb1.size; simp; omega) ?_; intro zs A4 c4 w2 hz hown2 hg2 hat2)
    have hb2 : Below W.heap.size W w2 := below_grown (hb1.alloc hb1.size _) hg2 (by have := hb1.size; simp; omega) (fun k hk => (hown.blocks k hk).1)
    have hzl : zs.length = L.length + 1 := by rw [hz.out]; simp
    have hz2 : Hid (zs = L ++ [(i : Int)]) := hz
    have hMz : Hid (Met ns zs) := by show Met ns zs; rw [hz.out]; exact HM.out
    have hIz := hown2.ints (in64_met h12 hMz.out) (by omega)
    clear hown hb1 hIone hat2 hg2 hI2 hin64
    go_loopw [2, 7] (fun mv iv wr => ∃ (k : Nat) (R : List Int) (A5 : Option Addr) (c5 : Nat), k ≤ (kidsOf ns i).length ∧ iv = .int .i64 k ∧ mv = .slice A5 R.length c5 ∧ R = dfsL ns anyB f ((kidsOf ns i).take k) (L ++ [(i : Int)]) ∧ Below W.heap.size W wr ∧ OwnI wr W.heap.size A5 c5 R) (fun _ iv _ => (kidsOf ns i).length - (intOf iv).toNat)
    case atStart => exact ⟨0, zs, A4, c4, Nat.zero_le _, rfl, rfl, by rw [List.take_zero, dfsL_nil]; exact hz2.out, hb2, hown2⟩
    case round =>
      clear hb2 hown2 hIz hz hz2 hMz hzl
      obtain ⟨k, R, A5, c5, hkl, rfl, rfl, hR, hb, hown5⟩ := hrel
      have HR := hide hR
      clear hR
      obtain ⟨b, off, n, rfl, hbl, hat, hmem, hN⟩ := (hr2.below (hb.mono (by have := HWs.out; omega))).at_ hi
      obtain ⟨hn_k, hn_v, ⟨A1, c1, hn_s, hI1, _⟩, _, _⟩ := hN
      have hkids : Hid (kidsOf ns (i : Int) = n.kids) := kidsOf_at hat
      have hk6 := h6 n hmem
      rw [hkids.out] at hkl
      have e0 := (l1.below hb l1.lt).cell 0
      have e1 := (l1.below hb l1.lt).cell 1
      simp at e0 e1
      clear hat hmem
      by_cases hlt : k < n.kids.length
      · obtain ⟨bk, ok, x, rfl, hbk, hx, hxm, hcx⟩ := hI1.at_ hlt
        obtain ⟨hx0, hx1⟩ := hk.of (i : Int) x (by rw [hkids.out]; exact hxm)
        obtain ⟨y, rfl⟩ := Int.eq_ofNat_of_zero_le hx0
        have hwk := walkedAll ns anyB hk (n.kids.take k) (L ++ [(i : Int)]) f HM.out (fun z hz => hk.of (i : Int) z (by rw [hkids.out]; exact List.mem_of_mem_take hz)) (by simp; omega)
        have hRM : Met ns R := by rw [HR.out, hkids.out]; exact hwk.met
        have hRl : L.length + 1 ≤ R.length := by
          have h1 := hwk.len
          have h2 := HR.out
          rw [hkids.out] at h2
          rw [← h2] at h1
          simpa using h1
        have hR12 := hRM.len
        have hIR := hown5.ints (in64_met h12 hRM) (by omega)
        have HRM := hide hRM
        have Hx := hide hx
        have hk1 : (0 : Int) ≤ (k : Int) := by omega
        have hk2 : (k : Int) < (n.kids.length : Int) := by omega
        have hbd : Below W.heap.size W wr.drew := hb.drew
        have hownd := hown5.drew
        have hrd : NdsAt wr.drew wr.drew.heap.size (some ⟨b, off, none⟩) ns := (hr2.below (hb.mono (by have := HWs.out; omega))).later (Below.refl _ _).drew (by have := HWs.out; have := hb.size; omega)
        have hIRd : IntsAt wr.drew wr.drew.heap.size A5 R := hIR.later (Below.refl _ _).drew (Nat.le_refl _)
        clear hwk hRM hx hxm hIR
        go_wp2_with fail
        go_still_tail 11, (by kernel_rfl)
        change wpList _ _ _ _ _ wr.drew
        generalize wr.drew = w3 at hbd hownd hrd hIRd ⊢
        clear hb hown5 hcx hn_s hn_k hn_v e0 e1 hI1
        go_wp2_with fail
        refine (Hih.out y R A5 c5 w3 (by omega) HRM.out hrd hIRd hownd.nil (by omega)).mono ?_
        rintro e w4 ⟨A6, c6, rfl, hb4, hI6, hnil6, hor⟩
        have hown6 : OwnI w4 W.heap.size A6 c6 (dfs ns anyB f y R) := by
          rcases hor with ⟨h1, h2, h3⟩ | h
          · rw [h1, h2, h3]
            exact hownd.below hb4
          · exact h.mono hbd.size
        have Hown6 := hide hown6
        have HB4 := hide (hbd.trans (hb4.mono hbd.size))
        clear hor hb4 hI6 hnil6 hown6 hownd hIRd hrd hbd
        go_wp2
        go_roundw
        case rel => exact ⟨k + 1, dfs ns anyB f y R, A6, c6, by rw [hkids.out]; omega, by go_num, rfl, by rw [hkids.out, List.take_add_one, Hx.out, Option.toList_some, dfsL_snoc, HR.out, hkids.out], HB4.out, Hown6.out⟩
        case measure => rw [hkids.out]; simp [intOf]; omega
      · obtain rfl : k = n.kids.length := by omega
        have hwk := walkedAll ns anyB hk n.kids (L ++ [(i : Int)]) f HM.out (fun z hz => hk.of (i : Int) z (by rw [hkids.out]; exact hz)) (by simp; omega)
        have hRe : R = dfsL ns anyB f n.kids (L ++ [(i : Int)]) := by
          have := HR.out
          rw [hkids.out, List.take_length] at this
          exact this
        have HF : Hid (GivesReachI w A2 c2 L (dfs ns anyB (f + 1) i L) (.returned (.slice A5 R.length c5)) wr) := by
          rw [Hgo.out, hkids.out, ← hRe]
          have hRM : Met ns R := by rw [hRe]; exact hwk.met
          exact ⟨A5, c5, rfl, hB.trans (hb.mono (by have := HWs.out; omega)), hown5.ints (in64_met h12 hRM) (by have := hRM.len; omega), hown5.nil, .inr (hown5.mono (by have := HWs.out; omega))⟩
        clear hlt hwk hRe
        go_wp2
        go_ret
        exact HF.out

end Go.Proofs.Ytcblcmdfeoijpab

namespace Go.Proofs.Ytcblcmdfeoijpab
open Go.RowKit
set_option linter.unusedVariables false

theorem look_cell {w : World} {b o : Nat} {cl : List Int} {x : Int} (h : IntsAt w w.heap.size (some ⟨b, o, none⟩) cl) (h0 : 0 ≤ x) (h1 : x < cl.length) : ∃ i : Nat, x = (i : Int) ∧ w.cell? ⟨b, o + i, none⟩ = some (.int .i64 (look cl x)) := by
  obtain ⟨i, rfl⟩ := Int.eq_ofNat_of_zero_le h0
  obtain ⟨b', o', u, e1, _, hu, _, hc⟩ := h.at_ (k := i) (by omega)
  injection e1 with e1
  injection e1 with e2 e3
  subst e2 e3
  exact ⟨i, rfl, by rw [look_at hu]; exact hc⟩

set_option maxHeartbeats 1000000 in
theorem oneClass_any (bc : Nat) (Ac : Option Addr) (cl : List Int) (cc : Nat) (x y : Int) (w : World) (hb : w.cell? ⟨bc, 0, none⟩ = some (.slice Ac cl.length cc)) (hC : IntsAt w w.heap.size Ac cl) (hx : 0 ≤ x ∧ x < cl.length) (hy : 0 ≤ y ∧ y < cl.length) :
    Calls Try.prog 70 #[.int .i64 x, .int .i64 y, .pointer (some ⟨bc, 0, none⟩)] w fun e w' => e = .returned (.bool (tf (look cl x = look cl y))) ∧ Below w.heap.size w w' := by
  obtain ⟨b, o, z, rfl, _⟩ := hC.at_ (k := 0) (by omega)
  obtain ⟨i, rfl, hi⟩ := look_cell hC hx.1 hx.2
  obtain ⟨j, rfl, hj⟩ := look_cell hC hy.1 hy.2
  have x0 := hx.1
  have x1 := hx.2
  have y0 := hy.1
  have y1 := hy.2
  clear hx hy hC
  generalize look cl (i : Int) = u at hi ⊢
  generalize look cl (j : Int) = v at hj ⊢
  by_cases huv : u = v
  · have HF := hide (show tf (u = v) = true from tf_true huv)
    have t : (u == v) = true := by simpa using huv
    clear huv
    go_enter Try.func70, Try.ntmps70
    go_wp2_with fail
    go_quiet (fail)
    go_wp2
    go_ret
    exact ⟨ret_bool HF.out.symm, below_drewN (Below.refl _ _) _⟩
  · have HF := hide (show tf (u = v) = false from tf_false huv)
    have t : (u == v) = false := by simpa using huv
    clear huv
    go_enter Try.func70, Try.ntmps70
    go_wp2_with fail
    go_quiet (fail)
    go_wp2
    go_ret
    exact ⟨ret_bool HF.out.symm, below_drewN (Below.refl _ _) _⟩

theorem map_eq_iff {f : Int → Int} {xs ys : List Int} (hl : xs.length = ys.length) : xs.map f = ys.map f ↔ ∀ (j : Nat) (x y : Int), xs[j]? = some x → ys[j]? = some y → f x = f y := by
  constructor
  · intro h j x y hx hy
    have := congrArg (fun l => l[j]?) h
    simp only [List.getElem?_map, hx, hy, Option.map_some] at this
    injection this
  · intro h
    apply List.ext_getElem?
    intro j
    rw [List.getElem?_map, List.getElem?_map]
    by_cases hj : j < xs.length
    · have hx : xs[j]? = some xs[j] := List.getElem?_eq_getElem hj
      have hy : ys[j]? = some ys[j] := List.getElem?_eq_getElem (by omega)
      rw [hx, hy]
      simp only [Option.map_some]
      rw [h j _ _ hx hy]
    · rw [List.getElem?_eq_none (by omega), List.getElem?_eq_none (by omega)]

set_option maxRecDepth 100000 in
set_option maxHeartbeats 1000000 in
theorem equalFunc_any (bc : Nat) (Ac : Option Addr) (cl : List Int) (cc : Nat) (A A' : Option Addr) (xs ys : List Int) (c c' : Nat) (w : World) (hb : w.cell? ⟨bc, 0, none⟩ = some (.slice Ac cl.length cc)) (hbc : bc < w.heap.size) (hC : IntsAt w w.heap.size Ac cl)
    (h : IntsAt w w.heap.size A xs) (h' : IntsAt w w.heap.size A' ys) (hx : ∀ x ∈ xs, 0 ≤ x ∧ x < cl.length) (hy : ∀ x ∈ ys, 0 ≤ x ∧ x < cl.length) :
    Calls Try.prog 71 #[.slice A xs.length c, .slice A' ys.length c', .func (.func 70) #[] #[.pointer (some ⟨bc, 0, none⟩)]] w fun e w' => e = .returned (.bool (tf (xs.map (look cl) = ys.map (look cl)))) ∧ Below w.heap.size w w' := by
  have hl := h.len
  have Hb := hide hb
  have HC := hide hC
  have H := hide h
  have H' := hide h'
  have HX := hide hx
  have HY := hide hy
  clear hb hC h h' hx hy
  by_cases hne : xs.length = ys.length
  · have hb0 : ((xs.length : Int) != (ys.length : Int)) = false := by simp [hne]
    have HM := hide (map_eq_iff (f := look cl) hne)
    have Hne := hide hne
    clear hne
    go_enter Try.func71, Try.ntmps71
    go_wp2_with fail
    go_loopg [7, 8, 9, 17] xs.length (fun gk _ _ _ i wr => ∃ k : Nat, k ≤ xs.length ∧ gk = xs.length - k ∧ i = .int .i64 k ∧ Below w.heap.size w wr ∧ ∀ (j : Nat) (x y : Int), j < k → xs[j]? = some x → ys[j]? = some y → look cl x = look cl y)
    case atStart => exact ⟨0, Nat.zero_le _, rfl, rfl, Below.refl _ _, fun j x y hj => absurd hj (by omega)⟩
    case round =>
      obtain ⟨k, hk, rfl, rfl, hb, he0⟩ := hrel
      have he := hide he0
      have HB := hide hb
      clear he0 hb
      by_cases hlt : k < xs.length
      · obtain ⟨b, off, x, rfl, hbl, hx, hxm, hcx⟩ := (H.out.below HB.out).at_ hlt
        obtain ⟨b', off', y, rfl, hbl', hy, hym, hcy⟩ := (H'.out.below HB.out).at_ (k := k) (by have := Hne.out; omega)
        have Hx := hide hx
        have Hy := hide hy
        have hk1 : (0 : Int) ≤ (k : Int) := by omega
        have hk2 : (k : Int) < (xs.length : Int) := by omega
        have hk3 : (k : Int) < (ys.length : Int) := by have := Hne.out; omega
        have hcall := oneClass_any bc Ac cl cc x y wr ((HB.out.cell (p := ⟨bc, 0, none⟩) hbc).trans Hb.out) (HC.out.later HB.out (Nat.le_refl _)) (HX.out x hxm) (HY.out y hym)
        have Hcall := hide hcall
        clear hx hy hxm hym hcall hbl hbl'
        by_cases hxy : look cl x = look cl y
        · have HXY := hide hxy
          rw [tf_true hxy] at Hcall
          clear hxy
          go_wp2_with fail
          refine Hcall.out.mono ?_
          rintro e w2 ⟨rfl, hb2⟩
          have HB2 := hide (HB.out.trans (hb2.mono HB.out.size))
          clear hb2 Hcall hcx hcy
          go_wp2
          go_roundg (xs.length - (k + 1))
          case measure => omega
          case rel => exact ⟨k + 1, by omega, rfl, by go_num, HB2.out, fun j a b hj ha hb => by
            by_cases e : j = k
            · subst e
              rw [Hx.out] at ha
              rw [Hy.out] at hb
              injection ha with ha
              injection hb with hb
              rw [← ha, ← hb]
              exact HXY.out
            · exact he.out j a b (by omega) ha hb⟩
        · have HF := hide (show tf (xs.map (look cl) = ys.map (look cl)) = false from tf_false fun h => hxy (HM.out.1 h k x y Hx.out Hy.out))
          rw [tf_false hxy] at Hcall
          clear hxy
          go_wp2_with fail
          refine Hcall.out.mono ?_
          rintro e w2 ⟨rfl, hb2⟩
          have HB2 := hide (HB.out.trans (hb2.mono HB.out.size))
          clear hb2 Hcall hcx hcy
          go_wp2
          go_ret
          exact ⟨ret_bool HF.out.symm, HB2.out⟩
      · obtain rfl : k = xs.length := by omega
        have HF := hide (show tf (xs.map (look cl) = ys.map (look cl)) = true from tf_true (HM.out.2 fun j x y hx hy => he.out j x y (List.getElem?_eq_some_iff.1 hx).1 hx hy))
        have hk3 : decide ((xs.length : Int) < (xs.length : Int)) = false := by simp
        go_wp2
        go_ret
        exact ⟨ret_bool HF.out.symm, HB.out⟩
  · have hb0 : ((xs.length : Int) != (ys.length : Int)) = true := bne_iff_ne.2 (by omega)
    have HF := hide (show tf (xs.map (look cl) = ys.map (look cl)) = false from tf_false fun h => hne (by have := congrArg List.length h; simpa using this))
    clear hne
    go_enter Try.func71, Try.ntmps71
    go_wp2
    go_ret
    exact ⟨ret_bool HF.out.symm, Below.refl _ _⟩

set_option maxRecDepth 100000 in
set_option maxHeartbeats 1000000 in
theorem areAlike_any (A A' : Option Addr) (m n : Nd) (c c' : Nat) (Ac : Option Addr) (cl : List Int) (cc : Nat) (w : World) (hC : IntsAt w w.heap.size Ac cl) (hm : IntsAt w w.heap.size A m.kids) (hn : IntsAt w w.heap.size A' n.kids) (hx : ∀ x ∈ m.kids, 0 ≤ x ∧ x < cl.length) (hy : ∀ x ∈ n.kids, 0 ≤ x ∧ x < cl.length) :
    Calls Try.prog 59 #[.agg #[.int .i64 m.kind, .int .i64 m.value, .slice A m.kids.length c], .agg #[.int .i64 n.kind, .int .i64 n.value, .slice A' n.kids.length c'], .slice Ac cl.length cc] w fun e w' => e = .returned (.bool (tf (sigOf cl m = sigOf cl n))) ∧ Below w.heap.size w w' := by
  have hB : Below w.heap.size w (((w.alloc (.cells #[.int .i64 m.kind, .int .i64 m.value, .slice A m.kids.length c] 41)).alloc (.cells #[.int .i64 n.kind, .int .i64 n.value, .slice A' n.kids.length c'] 41)).alloc (.cells #[.slice Ac cl.length cc] 29)) := (((Below.refl _ _).alloc (Nat.le_refl _) _).alloc (by simp) _).alloc (by simp; omega) _
  have l1 := ((Lies.new w #[.int .i64 m.kind, .int .i64 m.value, .slice A m.kids.length c] 41).alloc (.cells #[.int .i64 n.kind, .int .i64 n.value, .slice A' n.kids.length c'] 41)).alloc (.cells #[.slice Ac cl.length cc] 29)
  have l2 := (Lies.new (w.alloc (.cells #[.int .i64 m.kind, .int .i64 m.value, .slice A m.kids.length c] 41)) #[.int .i64 n.kind, .int .i64 n.value, .slice A' n.kids.length c'] 41).alloc (.cells #[.slice Ac cl.length cc] 29)
  have l3 := Lies.new ((w.alloc (.cells #[.int .i64 m.kind, .int .i64 m.value, .slice A m.kids.length c] 41)).alloc (.cells #[.int .i64 n.kind, .int .i64 n.value, .slice A' n.kids.length c'] 41)) #[.slice Ac cl.length cc] 29
  simp only [World.size_alloc] at l2 l3
  have HC := hide (hC.later hB (Nat.le_refl _))
  have Hm := hide (hm.later hB (Nat.le_refl _))
  have Hn := hide (hn.later hB (Nat.le_refl _))
  have HX := hide hx
  have HY := hide hy
  clear hC hm hn hx hy
  go_enter Try.func59, Try.ntmps59
  go_upto_region 1 with fail
  generalize ((w.alloc (.cells #[.int .i64 m.kind, .int .i64 m.value, .slice A m.kids.length c] 41)).alloc (.cells #[.int .i64 n.kind, .int .i64 n.value, .slice A' n.kids.length c'] 41)).alloc (.cells #[.slice Ac cl.length cc] 29) = W at hB l1 l2 l3 HC Hm Hn ⊢
  have a0 := l1.cell 0
  have a1 := l1.cell 1
  have a2 := l1.cell 2
  have b0 := l2.cell 0
  have b1 := l2.cell 1
  have b2 := l2.cell 2
  have c0 := l3.cell 0
  simp only [List.getElem?_toArray, List.getElem?_cons_zero, List.getElem?_cons_succ] at a0 a1 a2 b0 b1 b2 c0
  have HB := hide hB
  have hl3 := l3.lt
  clear l1 l2 l3 hB
  by_cases h0 : m.kind = n.kind
  · have t0 : (m.kind == n.kind) = true := by simpa using h0
    by_cases h1 : m.value = n.value
    · have t1 : (m.value == n.value) = true := by simpa using h1
      have HF := hide (show tf (sigOf cl m = sigOf cl n) = tf (m.kids.map (look cl) = n.kids.map (look cl)) from tf_congr (by unfold sigOf; simp [h0, h1]))
      clear h0 h1
      go_wp2_with fail
      refine (equalFunc_any (w.heap.size + 1 + 1) Ac cl cc A A' m.kids n.kids c c' W c0 hl3 HC.out Hm.out Hn.out HX.out HY.out).mono ?_
      rintro e w2 ⟨rfl, hb2⟩
      have HB2 := hide (HB.out.trans (hb2.mono HB.out.size))
      clear hb2 a0 a1 a2 b0 b1 b2 c0
      go_wp2
      go_ret
      exact ⟨ret_bool HF.out.symm, HB2.out⟩
    · have t1 : (m.value == n.value) = false := by simpa using h1
      have HF := hide (show tf (sigOf cl m = sigOf cl n) = false from tf_false fun h => h1 (by unfold sigOf at h; simp only [Prod.mk.injEq] at h; exact h.2.1))
      clear h0 h1
      go_wp2
      go_ret
      exact ⟨ret_bool HF.out.symm, HB.out⟩
  · have t0 : (m.kind == n.kind) = false := by simpa using h0
    have HF := hide (show tf (sigOf cl m = sigOf cl n) = false from tf_false fun h => h0 (by unfold sigOf at h; simp only [Prod.mk.injEq] at h; exact h.1))
    clear h0
    go_wp2
    go_ret
    exact ⟨ret_bool HF.out.symm, HB.out⟩

end Go.Proofs.Ytcblcmdfeoijpab
