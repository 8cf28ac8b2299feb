/-
  Lemmas, several texts in one: PickA, Reach, Reach2, GivNd.
-/
import Derived.Test.YthgklkpfmjgeoaaPjAe
import Derived.Test.YthgklkpfmjgeoaaPjAf
import Derived.StillTailTactics
import Derived.Test.YthgklkpfmjgeoaaPjAa
namespace Go.Proofs.Ythgklkpfmjgeoaa
open Go.RowKit Go.Maps
set_option linter.unusedVariables false

/-- what the list of the picked nodes must be -/
structure Pickable (ns : List Nd) (r : Int) (L : List Int) : Prop where
  nodup : L.Nodup
  range : ∀ x ∈ L, 0 ≤ x ∧ x < ns.length
  closed : ∀ (i : Nat) (n : Nd), (i : Int) ∈ L → ns[i]? = some n → n.kids.length ≤ 1000 ∧ ∀ k ∈ n.kids, k ∈ L
  root : r ∈ L
  few : L.length ≤ 12
  many : ns.length ≤ 12

end Go.Proofs.Ythgklkpfmjgeoaa

namespace Go.Proofs.Ythgklkpfmjgeoaa
open Go.RowKit
set_option linter.unusedVariables false

/-- a call of reach: an int slice that reads as R, of the call's own or the one that was handed in -/
def GivesReachI (w : World) (A : Option Addr) (c : Nat) (L R : List Int) (e : Ending) (w' : World) : Prop :=
  ∃ A' c', e = .returned (.slice A' R.length c') ∧ Below w.heap.size w w' ∧ IntsAt w' w'.heap.size A' R ∧ (A' = none → c' = 0) ∧ ((A' = A ∧ c' = c ∧ R = L) ∨ OwnI w' w.heap.size A' c' R)

set_option maxRecDepth 100000 in
set_option maxHeartbeats 4000000 in
theorem reach1_any (ns : List Nd) (hk : KidsIn ns) (h6 : ∀ n ∈ ns, n.kids.length ≤ 6) (h12 : ns.length ≤ 12) (A : Option Addr) (c : Nat) (r : Int) (f : Nat)
    (ih : ∀ (i : Nat) (L : List Int) (A2 : Option Addr) (c2 : Nat) (w : World), i < ns.length → Met ns L → NdsAt w w.heap.size A ns → IntsAt w w.heap.size A2 L → (A2 = none → c2 = 0) → ns.length < f + L.length →
      Calls Try.prog 58 #[.agg #[.slice A ns.length c, .int .i64 r], .int .i64 (i : Int), .slice A2 L.length c2] w (GivesReachI w A2 c2 L (dfs ns anyB f i L)))
    (i : Nat) (L : List Int) (A2 : Option Addr) (c2 : Nat) (w : World) (hi : i < ns.length) (hL : Met ns L) (hr : NdsAt w w.heap.size A ns) (hI : IntsAt w w.heap.size A2 L) (hnil : A2 = none → c2 = 0) (hf : ns.length < f + 1 + L.length) :
      Calls Try.prog 58 #[.agg #[.slice A ns.length c, .int .i64 r], .int .i64 (i : Int), .slice A2 L.length c2] w (GivesReachI w A2 c2 L (dfs ns anyB (f + 1) i L)) := by
  have hB : Below w.heap.size w (w.alloc (.cells #[.slice A ns.length c, .int .i64 r] 25)) := (Below.refl _ _).alloc (Nat.le_refl _) _
  have l1 := Lies.new w #[.slice A ns.length c, .int .i64 r] 25
  have hr2 := hr.below hB
  have hI2 := hI.later hB (Nat.le_refl _)
  have hlL := hL.len
  have hi1 : (0 : Int) ≤ (i : Int) := by omega
  have hi2 : (i : Int) < (ns.length : Int) := by omega
  have HL := hide hL
  have Hih := hide ih
  have Hnil := hide hnil
  clear hr hI hL ih hnil
  go_enter Try.func58, Try.ntmps58
  go_wp2_with fail
  generalize hWd : w.alloc (.cells #[.slice A ns.length c, .int .i64 r] 25) = W at hB l1 hr2 hI2 ⊢
  have HWs : Hid (W.heap.size = w.heap.size + 1) := by show W.heap.size = _; rw [← hWd]; simp
  clear hWd
  refine (placeIn_any A2 L c2 i W hI2).mono ?_
  rintro e w' ⟨rfl, rfl⟩
  by_cases hmem : (i : Int) ∈ L
  · have hp := place_lt hmem
    have hd : decide (0 ≤ place L i) = true := by simp; omega
    generalize place L i = pl at hp hd ⊢
    have HF : Hid (GivesReachI w A2 c2 L (dfs ns anyB (f + 1) i L) (.returned (.slice A2 L.length c2)) W) := by
      rw [dfs_stop (.inr hmem)]
      exact ⟨A2, c2, rfl, hB, hI2, Hnil.out, .inl ⟨rfl, rfl, rfl⟩⟩
    clear hmem hI2 hr2
    go_wp2
    go_ret
    exact HF.out
  · rw [place_neg hmem]
    have hgo : dfs ns anyB (f + 1) i L = dfsL ns anyB f (kidsOf ns i) (L ++ [(i : Int)]) := dfs_go rfl hmem
    have Hgo := hide hgo
    have hM := HL.out.snoc ⟨hi1, hi2⟩ hmem
    have HM := hide hM
    have hMl := hM.len
    clear hmem hgo hM
    go_wp2_with fail
    refine (copyInts_any A2 L c2 W hI2 Hnil.out (by omega)).mono ?_
    rintro e w1 ⟨A3, c3, rfl, hown, hb1⟩
    have hin64 : In64 (i : Int) := by constructor <;> omega
    have hIone := IntsAt.one w1 i hin64
    go_wp2_with (at_builtin; refine append_ints rfl (.tmp 14) (.tmp 16) rfl W.heap.size A3 c3 L rfl (hown.alloc _) (w1.heap.size + 1) _ 1 [(i : Int)] rfl (fun e => by cases e) hIone (by simp <;> omega) (by have := hb1.size; simp; omega) ?_; intro zs A4 c4 w2 hz hown2 hg2 hat2)
    have hb2 : Below W.heap.size W w2 := below_grown (hb1.alloc hb1.size _) hg2 (by have := hb1.size; simp; omega) (fun k hk => (hown.blocks k hk).1)
    have hzl : zs.length = L.length + 1 := by rw [hz.out]; simp
    have hz2 : Hid (zs = L ++ [(i : Int)]) := hz
    have hMz : Hid (Met ns zs) := by show Met ns zs; rw [hz.out]; exact HM.out
    have hIz := hown2.ints (in64_met h12 hMz.out) (by omega)
    clear hown hb1 hIone hat2 hg2 hI2 hin64
    go_loopw [2, 7] (fun mv iv wr => ∃ (k : Nat) (R : List Int) (A5 : Option Addr) (c5 : Nat), k ≤ (kidsOf ns i).length ∧ iv = .int .i64 k ∧ mv = .slice A5 R.length c5 ∧ R = dfsL ns anyB f ((kidsOf ns i).take k) (L ++ [(i : Int)]) ∧ Below W.heap.size W wr ∧ OwnI wr W.heap.size A5 c5 R) (fun _ iv _ => (kidsOf ns i).length - (intOf iv).toNat)
    case atStart => exact ⟨0, zs, A4, c4, Nat.zero_le _, rfl, rfl, by rw [List.take_zero, dfsL_nil]; exact hz2.out, hb2, hown2⟩
    case round =>
      clear hb2 hown2 hIz hz hz2 hMz hzl
      obtain ⟨k, R, A5, c5, hkl, rfl, rfl, hR, hb, hown5⟩ := hrel
      have HR := hide hR
      clear hR
      obtain ⟨b, off, n, rfl, hbl, hat, hmem, hN⟩ := (hr2.below (hb.mono (by have := HWs.out; omega))).at_ hi
      obtain ⟨hn_k, hn_v, ⟨A1, c1, hn_s, hI1, _⟩, _, _⟩ := hN
      have hkids : Hid (kidsOf ns (i : Int) = n.kids) := kidsOf_at hat
      have hk6 := h6 n hmem
      rw [hkids.out] at hkl
      have e0 := (l1.below hb l1.lt).cell 0
      have e1 := (l1.below hb l1.lt).cell 1
      simp at e0 e1
      clear hat hmem
      by_cases hlt : k < n.kids.length
      · obtain ⟨bk, ok, x, rfl, hbk, hx, hxm, hcx⟩ := hI1.at_ hlt
        obtain ⟨hx0, hx1⟩ := hk.of (i : Int) x (by rw [hkids.out]; exact hxm)
        obtain ⟨y, rfl⟩ := Int.eq_ofNat_of_zero_le hx0
        have hwk := walkedAll ns anyB hk (n.kids.take k) (L ++ [(i : Int)]) f HM.out (fun z hz => hk.of (i : Int) z (by rw [hkids.out]; exact List.mem_of_mem_take hz)) (by simp; omega)
        have hRM : Met ns R := by rw [HR.out, hkids.out]; exact hwk.met
        have hRl : L.length + 1 ≤ R.length := by
          have h1 := hwk.len
          have h2 := HR.out
          rw [hkids.out] at h2
          rw [← h2] at h1
          simpa using h1
        have hR12 := hRM.len
        have hIR := hown5.ints (in64_met h12 hRM) (by omega)
        have HRM := hide hRM
        have Hx := hide hx
        have hk1 : (0 : Int) ≤ (k : Int) := by omega
        have hk2 : (k : Int) < (n.kids.length : Int) := by omega
        have hbd : Below W.heap.size W wr.drew := hb.drew
        have hownd := hown5.drew
        have hrd : NdsAt wr.drew wr.drew.heap.size (some ⟨b, off, none⟩) ns := (hr2.below (hb.mono (by have := HWs.out; omega))).later (Below.refl _ _).drew (by have := HWs.out; have := hb.size; omega)
        have hIRd : IntsAt wr.drew wr.drew.heap.size A5 R := hIR.later (Below.refl _ _).drew (Nat.le_refl _)
        clear hwk hRM hx hxm hIR
        go_wp2_with fail
        go_still_tail 11, (by kernel_rfl)
        change wpList _ _ _ _ _ wr.drew
        generalize wr.drew = w3 at hbd hownd hrd hIRd ⊢
        clear hb hown5 hcx hn_s hn_k hn_v e0 e1 hI1
        go_wp2_with fail
        refine (Hih.out y R A5 c5 w3 (by omega) HRM.out hrd hIRd hownd.nil (by omega)).mono ?_
        rintro e w4 ⟨A6, c6, rfl, hb4, hI6, hnil6, hor⟩
        have hown6 : OwnI w4 W.heap.size A6 c6 (dfs ns anyB f y R) := by
          rcases hor with ⟨h1, h2, h3⟩ | h
          · rw [h1, h2, h3]
            exact hownd.below hb4
          · exact h.mono hbd.size
        have Hown6 := hide hown6
        have HB4 := hide (hbd.trans (hb4.mono hbd.size))
        clear hor hb4 hI6 hnil6 hown6 hownd hIRd hrd hbd
        go_wp2
        go_roundw
        case rel => exact ⟨k + 1, dfs ns anyB f y R, A6, c6, by rw [hkids.out]; omega, by go_num, rfl, by rw [hkids.out, List.take_add_one, Hx.out, Option.toList_some, dfsL_snoc, HR.out, hkids.out], HB4.out, Hown6.out⟩
        case measure => rw [hkids.out]; simp [intOf]; omega
      · obtain rfl : k = n.kids.length := by omega
        have hwk := walkedAll ns anyB hk n.kids (L ++ [(i : Int)]) f HM.out (fun z hz => hk.of (i : Int) z (by rw [hkids.out]; exact hz)) (by simp; omega)
        have hRe : R = dfsL ns anyB f n.kids (L ++ [(i : Int)]) := by
          have := HR.out
          rw [hkids.out, List.take_length] at this
          exact this
        have HF : Hid (GivesReachI w A2 c2 L (dfs ns anyB (f + 1) i L) (.returned (.slice A5 R.length c5)) wr) := by
          rw [Hgo.out, hkids.out, ← hRe]
          have hRM : Met ns R := by rw [hRe]; exact hwk.met
          exact ⟨A5, c5, rfl, hB.trans (hb.mono (by have := HWs.out; omega)), hown5.ints (in64_met h12 hRM) (by have := hRM.len; omega), hown5.nil, .inr (hown5.mono (by have := HWs.out; omega))⟩
        clear hlt hwk hRe
        go_wp2
        go_ret
        exact HF.out

end Go.Proofs.Ythgklkpfmjgeoaa

namespace Go.Proofs.Ythgklkpfmjgeoaa
open Go.RowKit
set_option linter.unusedVariables false

theorem reach_any (ns : List Nd) (hk : KidsIn ns) (h6 : ∀ n ∈ ns, n.kids.length ≤ 6) (h12 : ns.length ≤ 12) (A : Option Addr) (c : Nat) (r : Int) : ∀ (f i : Nat) (L : List Int) (A2 : Option Addr) (c2 : Nat) (w : World), i < ns.length → Met ns L → NdsAt w w.heap.size A ns → IntsAt w w.heap.size A2 L → (A2 = none → c2 = 0) → ns.length < f + L.length →
    Calls Try.prog 58 #[.agg #[.slice A ns.length c, .int .i64 r], .int .i64 (i : Int), .slice A2 L.length c2] w (GivesReachI w A2 c2 L (dfs ns anyB f i L))
  | 0, _, _, _, _, _, _, hL, _, _, _, hf => by have := hL.len; omega
  | f + 1, i, L, A2, c2, w, hi, hL, hr, hI, hn, hf => reach1_any ns hk h6 h12 A c r f (fun i L A2 c2 w h1 h2 h3 h4 h5 h6' => reach_any ns hk h6 h12 A c r f i L A2 c2 w h1 h2 h3 h4 h5 h6') i L A2 c2 w hi hL hr hI hn hf

end Go.Proofs.Ythgklkpfmjgeoaa

namespace Go.Proofs.Ythgklkpfmjgeoaa
open Go.RowKit
set_option linter.unusedVariables false

/-- a node, its kids in memory of the call's own -/
def GivesNd (w : World) (k v : Int) (ks : List Int) (e : Ending) (w' : World) : Prop := ∃ A c, e = .returned (.agg #[.int .i64 k, .int .i64 v, .slice A ks.length c]) ∧ OwnI w' w.heap.size A c ks ∧ Below w.heap.size w w'

end Go.Proofs.Ythgklkpfmjgeoaa
