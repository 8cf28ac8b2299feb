/-
  Lemmas, several texts in one: GivG, ReachM, InfoI, Reach, Reach2, EqI, StX, EqS.
-/
import Derived.Test.YtdgmohebnkcohabPickG
import Derived.Test.YtdgmohebnkcohabPjAe
import Derived.Test.YtdgmohebnkcohabPjAi
import Derived.Test.YtdgmohebnkcohabSpecE
import Derived.Test.YtdgmohebnkcohabDfs
import Derived.Test.YtdgmohebnkcohabMem
import Derived.StillTailTactics
import Derived.Test.YtdgmohebnkcohabPjAg
import Derived.Deep.QuietTactic
import Derived.BigQuiet

namespace Go.Proofs.Ytdgmohebnkcohab
open Go.RowKit
set_option linter.unusedVariables false

/-- every node may be entered -/
def anyB (x : Int) : Bool := true

theorem kidsIn_of_valid {ns : List Nd} {r : Int} (h : ValidG ns r) : KidsIn ns := fun n hn => (h.nodes n hn).inn

theorem in64_met {ns : List Nd} {L : List Int} (h12 : ns.length ≤ 12) (h : Met ns L) : ∀ x ∈ L, In64 x := in64_of_range h12 h.range

open Classical in
/-- the nodes that are reached from the root of a valid graph; none for another one -/
noncomputable def reachOf (ns : List Nd) (r : Int) : List Int := if ValidG ns r then dfs ns anyB (ns.length + 1) r [] else []

theorem reachOf_met {ns : List Nd} {r : Int} : Met ns (reachOf ns r) := by
  unfold reachOf
  split
  next h => exact dfs_met ns anyB (kidsIn_of_valid h) _ _ _ (Met.nil ns) ⟨h.root0, h.root⟩
  next => exact Met.nil ns

theorem reachOf_few {ns : List Nd} {r : Int} : (reachOf ns r).length ≤ 12 := by
  unfold reachOf
  split
  next h => exact Nat.le_trans (dfs_met ns anyB (kidsIn_of_valid h) _ _ _ (Met.nil ns) ⟨h.root0, h.root⟩).len h.few
  next => simp

end Go.Proofs.Ytdgmohebnkcohab

namespace Go.Proofs.Ytdgmohebnkcohab

theorem infoInt : (Try.prog.info? 3).map (fun i => (i.zero, i.size, i.bytes)) = some (some (.int .i64 0), 1, 8) := by kernel_rfl

end Go.Proofs.Ytdgmohebnkcohab

namespace Go.Proofs.Ytdgmohebnkcohab
open Go.RowKit
set_option linter.unusedVariables false

/-- a call of reach: an int slice that reads as R, of the call's own or the one that was handed in -/
def GivesReachI (w : World) (A : Option Addr) (c : Nat) (L R : List Int) (e : Ending) (w' : World) : Prop :=
  ∃ A' c', e = .returned (.slice A' R.length c') ∧ Below w.heap.size w w' ∧ IntsAt w' w'.heap.size A' R ∧ (A' = none → c' = 0) ∧ ((A' = A ∧ c' = c ∧ R = L) ∨ OwnI w' w.heap.size A' c' R)

set_option maxRecDepth 100000 in
set_option maxHeartbeats 4000000 in
theorem reach1_any (ns : List Nd) (hk : KidsIn ns) (h6 : ∀ n ∈ ns, n.kids.length ≤ 6) (h12 : ns.length ≤ 12) (A : Option Addr) (c : Nat) (r : Int) (f : Nat)
    (ih : ∀ (i : Nat) (L : List Int) (A2 : Option Addr) (c2 : Nat) (w : World), i < ns.length → Met ns L → NdsAt w w.heap.size A ns → IntsAt w w.heap.size A2 L → (A2 = none → c2 = 0) → ns.length < f + L.length →
      Calls Try.prog 48 #[.agg #[.slice A ns.length c, .int .i64 r], .int .i64 (i : Int), .slice A2 L.length c2] w (GivesReachI w A2 c2 L (dfs ns anyB f i L)))
    (i : Nat) (L : List Int) (A2 : Option Addr) (c2 : Nat) (w : World) (hi : i < ns.length) (hL : Met ns L) (hr : NdsAt w w.heap.size A ns) (hI : IntsAt w w.heap.size A2 L) (hnil : A2 = none → c2 = 0) (hf : ns.length < f + 1 + L.length) :
      Calls Try.prog 48 #[.agg #[.slice A ns.length c, .int .i64 r], .int .i64 (i : Int), .slice A2 L.length c2] w (GivesReachI w A2 c2 L (dfs ns anyB (f + 1) i L)) := by
  have hB : Below w.heap.size w (w.alloc (.cells #[.slice A ns.length c, .int .i64 r] 28)) := (Below.refl _ _).alloc (Nat.le_refl _) _
  have l1 := Lies.new w #[.slice A ns.length c, .int .i64 r] 28
  have hr2 := hr.below hB
  have hI2 := hI.later hB (Nat.le_refl _)
  have hlL := hL.len
  have hi1 : (0 : Int) ≤ (i : Int) := by omega
  have hi2 : (i : Int) < (ns.length : Int) := by omega
  have HL := hide hL
  have Hih := hide ih
  have Hnil := hide hnil
  clear hr hI hL ih hnil
  go_enter Try.func48, Try.ntmps48
  go_wp2_with fail
  generalize hWd : w.alloc (.cells #[.slice A ns.length c, .int .i64 r] 28) = W at hB l1 hr2 hI2 ⊢
  have HWs : Hid (W.heap.size = w.heap.size + 1) := by show W.heap.size = _; rw [← hWd]; simp
  clear hWd
  refine (placeIn_any A2 L c2 i W hI2).mono ?_
  rintro e w' ⟨rfl, rfl⟩
  by_cases hmem : (i : Int) ∈ L
  · have hp := place_lt hmem
    have hd : decide (0 ≤ place L i) = true := by simp; omega
    generalize place L i = pl at hp hd ⊢
    have HF : Hid (GivesReachI w A2 c2 L (dfs ns anyB (f + 1) i L) (.returned (.slice A2 L.length c2)) W) := by
      rw [dfs_stop (.inr hmem)]
      exact ⟨A2, c2, rfl, hB, hI2, Hnil.out, .inl ⟨rfl, rfl, rfl⟩⟩
    clear hmem hI2 hr2
    go_wp2
    go_ret
    exact HF.out
  · rw [place_neg hmem]
    have hgo : dfs ns anyB (f + 1) i L = dfsL ns anyB f (kidsOf ns i) (L ++ [(i : Int)]) := dfs_go rfl hmem
    have Hgo := hide hgo
    have hM := HL.out.snoc ⟨hi1, hi2⟩ hmem
    have HM := hide hM
    have hMl := hM.len
    clear hmem hgo hM
    go_wp2_with fail
    refine (copyInts_any A2 L c2 W hI2 Hnil.out (by omega)).mono ?_
    rintro e w1 ⟨A3, c3, rfl, hown, hb1⟩
    have hin64 : In64 (i : Int) := by constructor <;> omega
    have hIone := IntsAt.one w1 i hin64
    go_wp2_with (at_builtin; refine append_ints rfl (.tmp 14) (.tmp 16) rfl W.heap.size A3 c3 L rfl (hown.alloc _) (w1.heap.size + 1) _ 1 [(i : Int)] rfl (fun e => by cases e) hIone (by simp <;> omega) (by have := hb1.size; simp; omega) ?_; intro zs A4 c4 w2 hz hown2 hg2 hat2)
    have hb2 : Below W.heap.size W w2 := below_grown (hb1.alloc hb1.size _) hg2 (by have := hb1.size; simp; omega) (fun k hk => (hown.blocks k hk).1)
    have hzl : zs.length = L.length + 1 := by rw [hz.out]; simp
    have hz2 : Hid (zs = L ++ [(i : Int)]) := hz
    have hMz : Hid (Met ns zs) := by show Met ns zs; rw [hz.out]; exact HM.out
    have hIz := hown2.ints (in64_met h12 hMz.out) (by omega)
    clear hown hb1 hIone hat2 hg2 hI2 hin64
    go_loopw [2, 7] (fun mv iv wr => ∃ (k : Nat) (R : List Int) (A5 : Option Addr) (c5 : Nat), k ≤ (kidsOf ns i).length ∧ iv = .int .i64 k ∧ mv = .slice A5 R.length c5 ∧ R = dfsL ns anyB f ((kidsOf ns i).take k) (L ++ [(i : Int)]) ∧ Below W.heap.size W wr ∧ OwnI wr W.heap.size A5 c5 R) (fun _ iv _ => (kidsOf ns i).length - (intOf iv).toNat)
    case atStart => exact ⟨0, zs, A4, c4, Nat.zero_le _, rfl, rfl, by rw [List.take_zero, dfsL_nil]; exact hz2.out, hb2, hown2⟩
    case round =>
      clear hb2 hown2 hIz hz hz2 hMz hzl
      obtain ⟨k, R, A5, c5, hkl, rfl, rfl, hR, hb, hown5⟩ := hrel
      have HR := hide hR
      clear hR
      obtain ⟨b, off, n, rfl, hbl, hat, hmem, hN⟩ := (hr2.below (hb.mono (by have := HWs.out; omega))).at_ hi
      obtain ⟨hn_k, hn_v, ⟨A1, c1, hn_s, hI1, _⟩, _, _⟩ := hN
      have hkids : Hid (kidsOf ns (i : Int) = n.kids) := kidsOf_at hat
      have hk6 := h6 n hmem
      rw [hkids.out] at hkl
      have e0 := (l1.below hb l1.lt).cell 0
      have e1 := (l1.below hb l1.lt).cell 1
      simp at e0 e1
      clear hat hmem
      by_cases hlt : k < n.kids.length
      · obtain ⟨bk, ok, x, rfl, hbk, hx, hxm, hcx⟩ := hI1.at_ hlt
        obtain ⟨hx0, hx1⟩ := hk.of (i : Int) x (by rw [hkids.out]; exact hxm)
        obtain ⟨y, rfl⟩ := Int.eq_ofNat_of_zero_le hx0
        have hwk := walkedAll ns anyB hk (n.kids.take k) (L ++ [(i : Int)]) f HM.out (fun z hz => hk.of (i : Int) z (by rw [hkids.out]; exact List.mem_of_mem_take hz)) (by simp; omega)
        have hRM : Met ns R := by rw [HR.out, hkids.out]; exact hwk.met
        have hRl : L.length + 1 ≤ R.length := by
          have h1 := hwk.len
          have h2 := HR.out
          rw [hkids.out] at h2
          rw [← h2] at h1
          simpa using h1
        have hR12 := hRM.len
        have hIR := hown5.ints (in64_met h12 hRM) (by omega)
        have HRM := hide hRM
        have Hx := hide hx
        have hk1 : (0 : Int) ≤ (k : Int) := by omega
        have hk2 : (k : Int) < (n.kids.length : Int) := by omega
        have hbd : Below W.heap.size W wr.drew := hb.drew
        have hownd := hown5.drew
        have hrd : NdsAt wr.drew wr.drew.heap.size (some ⟨b, off, none⟩) ns := (hr2.below (hb.mono (by have := HWs.out; omega))).later (Below.refl _ _).drew (by have := HWs.out; have := hb.size; omega)
        have hIRd : IntsAt wr.drew wr.drew.heap.size A5 R := hIR.later (Below.refl _ _).drew (Nat.le_refl _)
        clear hwk hRM hx hxm hIR
        go_wp2_with fail
        go_still_tail 11, (by kernel_rfl)
        change wpList _ _ _ _ _ wr.drew
        generalize wr.drew = w3 at hbd hownd hrd hIRd ⊢
        clear hb hown5 hcx hn_s hn_k hn_v e0 e1 hI1
        go_wp2_with fail
        refine (Hih.out y R A5 c5 w3 (by omega) HRM.out hrd hIRd hownd.nil (by omega)).mono ?_
        rintro e w4 ⟨A6, c6, rfl, hb4, hI6, hnil6, hor⟩
        have hown6 : OwnI w4 W.heap.size A6 c6 (dfs ns anyB f y R) := by
          rcases hor with ⟨h1, h2, h3⟩ | h
          · rw [h1, h2, h3]
            exact hownd.below hb4
          · exact h.mono hbd.size
        have Hown6 := hide hown6
        have HB4 := hide (hbd.trans (hb4.mono hbd.size))
        clear hor hb4 hI6 hnil6 hown6 hownd hIRd hrd hbd
        go_wp2
        go_roundw
        case rel => exact ⟨k + 1, dfs ns anyB f y R, A6, c6, by rw [hkids.out]; omega, by go_num, rfl, by rw [hkids.out, List.take_add_one, Hx.out, Option.toList_some, dfsL_snoc, HR.out, hkids.out], HB4.out, Hown6.out⟩
        case measure => rw [hkids.out]; simp [intOf]; omega
      · obtain rfl : k = n.kids.length := by omega
        have hwk := walkedAll ns anyB hk n.kids (L ++ [(i : Int)]) f HM.out (fun z hz => hk.of (i : Int) z (by rw [hkids.out]; exact hz)) (by simp; omega)
        have hRe : R = dfsL ns anyB f n.kids (L ++ [(i : Int)]) := by
          have := HR.out
          rw [hkids.out, List.take_length] at this
          exact this
        have HF : Hid (GivesReachI w A2 c2 L (dfs ns anyB (f + 1) i L) (.returned (.slice A5 R.length c5)) wr) := by
          rw [Hgo.out, hkids.out, ← hRe]
          have hRM : Met ns R := by rw [hRe]; exact hwk.met
          exact ⟨A5, c5, rfl, hB.trans (hb.mono (by have := HWs.out; omega)), hown5.ints (in64_met h12 hRM) (by have := hRM.len; omega), hown5.nil, .inr (hown5.mono (by have := HWs.out; omega))⟩
        clear hlt hwk hRe
        go_wp2
        go_ret
        exact HF.out

end Go.Proofs.Ytdgmohebnkcohab

namespace Go.Proofs.Ytdgmohebnkcohab
open Go.RowKit
set_option linter.unusedVariables false

theorem reach_any (ns : List Nd) (hk : KidsIn ns) (h6 : ∀ n ∈ ns, n.kids.length ≤ 6) (h12 : ns.length ≤ 12) (A : Option Addr) (c : Nat) (r : Int) : ∀ (f i : Nat) (L : List Int) (A2 : Option Addr) (c2 : Nat) (w : World), i < ns.length → Met ns L → NdsAt w w.heap.size A ns → IntsAt w w.heap.size A2 L → (A2 = none → c2 = 0) → ns.length < f + L.length →
    Calls Try.prog 48 #[.agg #[.slice A ns.length c, .int .i64 r], .int .i64 (i : Int), .slice A2 L.length c2] w (GivesReachI w A2 c2 L (dfs ns anyB f i L))
  | 0, _, _, _, _, _, _, hL, _, _, _, hf => by have := hL.len; omega
  | f + 1, i, L, A2, c2, w, hi, hL, hr, hI, hn, hf => reach1_any ns hk h6 h12 A c r f (fun i L A2 c2 w h1 h2 h3 h4 h5 h6' => reach_any ns hk h6 h12 A c r f i L A2 c2 w h1 h2 h3 h4 h5 h6') i L A2 c2 w hi hL hr hI hn hf

end Go.Proofs.Ytdgmohebnkcohab

namespace Go.Proofs.Ytdgmohebnkcohab

theorem eq_of_prefix {α : Type} [DecidableEq α] {xs ys : List α} (h : xs.length = ys.length) {k : Nat} (hk : k = xs.length) (he : ∀ j, j < k → xs[j]? = ys[j]?) : xs = ys := by
  apply List.ext_getElem?
  intro j
  by_cases hj : j < k
  · exact he j hj
  · rw [List.getElem?_eq_none (by omega), List.getElem?_eq_none (by omega)]

end Go.Proofs.Ytdgmohebnkcohab

namespace Go.Proofs.Ytdgmohebnkcohab
open Go.RowKit
set_option linter.unusedVariables false

/-- the copy of the argument that the program gets -/
structure StX (wr : World) (xl bx : Nat) (ns : List Nd) (r : Int) : Prop where
  lx : Lies wr bx #[.slice (some ⟨xl, 0, none⟩) ns.length ns.length, .int .i64 r] 28
  hx : NdsAt wr bx (some ⟨xl, 0, none⟩) ns
  hM : Markable wr xl xl bx 47 3 ns
  z : xl < bx

theorem StX.lt {wr : World} {xl bx : Nat} {ns : List Nd} {r : Int} (h : StX wr xl bx ns r) : bx < wr.heap.size := h.lx.lt

theorem StX.below {wr w' : World} {xl bx B : Nat} {ns : List Nd} {r : Int} (h : StX wr xl bx ns r) (hb : Below B wr w') (hB : bx < B) : StX w' xl bx ns r :=
  ⟨h.lx.below hb hB, h.hx.below (hb.mono (by omega)), h.hM.kept (hb.block _ (by have := h.z; omega)) (fun k _ hk => hb.block k (by omega)), h.z⟩

theorem StX.make {w4 : World} {g : Nat} {ns : List Nd} {r : Int} (hm : MadeNds w4 g 47 3 ns) (hwf : Wf ns) (hl : ns.length ≤ 9223372036854775807) :
    StX (w4.alloc (.cells #[.slice (some ⟨g, 0, none⟩) ns.length ns.length, .int .i64 r] 28)) g w4.heap.size ns r := by
  have hb : Below w4.heap.size w4 (w4.alloc (.cells #[.slice (some ⟨g, 0, none⟩) ns.length ns.length, .int .i64 r] 28)) := (Below.refl _ _).alloc (Nat.le_refl _) _
  have hg : g < w4.heap.size := by obtain ⟨f, hf⟩ := hm.row; exact hf.lt
  exact ⟨Lies.new _ _ _, (hm.at_ hwf hl).below hb, hm.markable.kept (hb.block _ hg) (fun k _ hk => hb.block k hk), hg⟩

theorem StX.cells {wr : World} {xl bx : Nat} {ns : List Nd} {r : Int} (h : StX wr xl bx ns r) : wr.cell? ⟨bx, 0, none⟩ = some (.slice (some ⟨xl, 0, none⟩) ns.length ns.length) ∧ wr.cell? ⟨bx, 1, none⟩ = some (.int .i64 r) := by
  have e0 := h.lx.cell 0
  have e1 := h.lx.cell 1
  simp at e0 e1
  exact ⟨e0, e1⟩

end Go.Proofs.Ytdgmohebnkcohab

namespace Go.Proofs.Ytdgmohebnkcohab
open Go.RowKit

set_option maxHeartbeats 1000000 in
theorem eqIntS_any (A A' : Option Addr) (xs ys : List Int) (c c' : Nat) (w : World) (h : IntsAt w w.heap.size A xs) (h' : IntsAt w w.heap.size A' ys) :
    Calls Try.prog 58 #[.slice A xs.length c, .slice A' ys.length c'] w fun e w' => e = .returned (.bool (decide (xs = ys))) ∧ Below w.heap.size w w' := by
  have hl := h.len
  by_cases hne : xs.length = ys.length
  · have hb0 : ((xs.length : Int) != (ys.length : Int)) = false := by simp [hne]
    go_enter Try.func58, Try.ntmps58
    go_wp2_with fail
    go_loopw [5] (fun i wr => ∃ k : Nat, k ≤ xs.length ∧ i = .int .i64 k ∧ Below w.heap.size w wr ∧ ∀ j, j < k → xs[j]? = ys[j]?) (fun i _ => xs.length - (intOf i).toNat)
    case atStart => exact ⟨0, Nat.zero_le _, rfl, Below.refl _ _, fun j hj => absurd hj (by omega)⟩
    case round =>
      obtain ⟨k, hk, rfl, hb, he0⟩ := hrel
      have he := hide he0
      clear he0
      by_cases hlt : k < xs.length
      · obtain ⟨b, off, x, rfl, hbl, hx, _, hcx⟩ := (h.below hb).at_ hlt
        obtain ⟨b', off', y, rfl, hbl', hy, _, hcy⟩ := (h'.below hb).at_ (k := k) (by omega)
        have Hx := hide hx
        have Hy := hide hy
        clear hx hy
        have hk1 : (0 : Int) ≤ (k : Int) := by omega
        have hk2 : (k : Int) < (xs.length : Int) := by omega
        have hk3 : (k : Int) < (ys.length : Int) := by omega
        by_cases hxy : x = y
        · subst hxy
          go_wp2_with fail
          go_quiet (fail)
          go_wp2
          go_roundw
          case rel => exact ⟨k + 1, by omega, by go_num, below_drewN hb _, fun j hj => by
            by_cases e : j = k
            · subst e; rw [Hx.out, Hy.out]
            · exact he.out j (by omega)⟩
          case measure => simp [intOf]; omega
        · have hn1 : (x != y) = true := by simpa using hxy
          have hF : decide (xs = ys) = false := by
            simp only [decide_eq_false_iff_not]
            intro e
            subst e
            have := Hx.out.symm.trans Hy.out
            injection this with this
            exact hxy this
          have HF := hide hF
          clear hF
          go_wp2_with fail
          go_quiet (fail)
          go_wp2
          go_ret
          exact ⟨ret_bool HF.out.symm, below_drewN hb _⟩
      · obtain rfl : k = xs.length := by omega
        have hF : decide (xs = ys) = true := by
          simp only [decide_eq_true_eq]
          exact eq_of_prefix hne rfl he.out
        have HF := hide hF
        clear hF hlt
        go_wp2
        go_ret
        exact ⟨ret_bool HF.out.symm, hb⟩
  · have hb1 : ((xs.length : Int) != (ys.length : Int)) = true := by simp; omega
    have hF : decide (xs = ys) = false := by
      simp only [decide_eq_false_iff_not]
      intro e
      exact hne (by rw [e])
    have HF := hide hF
    clear hF
    go_enter Try.func58, Try.ntmps58
    go_wp2
    go_ret
    exact ⟨ret_bool HF.out.symm, Below.refl _ _⟩

end Go.Proofs.Ytdgmohebnkcohab
