/-
  Lemmas, several texts in one: ReachM, Ord, PrunA, Reach, Reach2, ClsO, MrgM, MrgN, EqdM.
-/
import Derived.Test.YtkgnijbdbkopkabPjAk
import Derived.Test.YtkgnijbdbkopkabSpecE
import Derived.Test.YtkgnijbdbkopkabPjAb
import Derived.Test.YtkgnijbdbkopkabPjAi
import Derived.StillTailTactics
import Derived.Test.YtkgnijbdbkopkabPjAf
import Derived.Test.YtkgnijbdbkopkabPjAe
namespace Go.Proofs.Ytkgnijbdbkopkab
open Go.RowKit
set_option linter.unusedVariables false

/-- every node may be entered -/
def anyB (x : Int) : Bool := true

theorem kidsIn_of_valid {ns : List Nd} {r : Int} (h : ValidG ns r) : KidsIn ns := fun n hn => (h.nodes n hn).inn

theorem in64_met {ns : List Nd} {L : List Int} (h12 : ns.length ≤ 12) (h : Met ns L) : ∀ x ∈ L, In64 x := in64_of_range h12 h.range

open Classical in
/-- the nodes that are reached from the root of a valid graph; none for another one -/
noncomputable def reachOf (ns : List Nd) (r : Int) : List Int := if ValidG ns r then dfs ns anyB (ns.length + 1) r [] else []

theorem reachOf_met {ns : List Nd} {r : Int} : Met ns (reachOf ns r) := by
  unfold reachOf
  split
  next h => exact dfs_met ns anyB (kidsIn_of_valid h) _ _ _ (Met.nil ns) ⟨h.root0, h.root⟩
  next => exact Met.nil ns

theorem reachOf_few {ns : List Nd} {r : Int} : (reachOf ns r).length ≤ 12 := by
  unfold reachOf
  split
  next h => exact Nat.le_trans (dfs_met ns anyB (kidsIn_of_valid h) _ _ _ (Met.nil ns) ⟨h.root0, h.root⟩).len h.few
  next => simp

end Go.Proofs.Ytkgnijbdbkopkab

namespace Go.Proofs.Ytkgnijbdbkopkab

/-- each but the first is a kid of one before it, and the first is r -/
structure Ord (ns : List Nd) (r : Int) (L : List Int) : Prop where
  first : ∀ x, L[0]? = some x → x = r
  later : ∀ i x, 0 < i → L[i]? = some x → ∃ k y, k < i ∧ L[k]? = some y ∧ x ∈ kidsOf ns y

theorem Ord.snoc {ns : List Nd} {r x y : Int} {L : List Int} (h : Ord ns r L) (hy : y ∈ L) (hk : x ∈ kidsOf ns y) : Ord ns r (L ++ [x]) := by
  have hl : 0 < L.length := List.length_pos_of_mem hy
  refine ⟨fun z hz => h.first z (by rw [List.getElem?_append_left hl] at hz; exact hz), fun i z hi hz => ?_⟩
  by_cases e : i < L.length
  · rw [List.getElem?_append_left e] at hz
    obtain ⟨k, v, h1, h2, h3⟩ := h.later i z hi hz
    exact ⟨k, v, h1, by rw [List.getElem?_append_left (by omega)]; exact h2, h3⟩
  · have hie : i = L.length := by
      have := (List.getElem?_eq_some_iff.1 hz).1
      simp at this
      omega
    subst hie
    rw [List.getElem?_concat_length] at hz
    injection hz with hz
    subst hz
    obtain ⟨k, hk2, rfl⟩ := List.getElem_of_mem hy
    exact ⟨k, L[k], hk2, by rw [List.getElem?_append_left hk2]; exact List.getElem?_eq_getElem hk2, hk⟩

theorem ord_dfs (ns : List Nd) (ent : Int → Bool) (r : Int) : ∀ (f : Nat) (x y : Int) (L : List Int), Ord ns r L → y ∈ L → x ∈ kidsOf ns y → Ord ns r (dfs ns ent f x L) ∧ ∀ z ∈ L, z ∈ dfs ns ent f x L
  | 0, x, y, L, h, _, _ => ⟨h, fun _ hz => hz⟩
  | f + 1, x, y, L, h, hy, hk => by
    by_cases hs : ent x = false ∨ x ∈ L
    · rw [dfs_stop hs]
      exact ⟨h, fun _ hz => hz⟩
    · have he : ent x = true := by
        cases hx : ent x
        · exact absurd (.inl hx) hs
        · rfl
      rw [dfs_go he (fun hm => hs (.inr hm))]
      have key : ∀ (ks M : List Int), Ord ns r M → x ∈ M → (∀ k ∈ ks, k ∈ kidsOf ns x) → Ord ns r (dfsL ns ent f ks M) ∧ ∀ z ∈ M, z ∈ dfsL ns ent f ks M := by
        intro ks
        induction ks with
        | nil => intro M hM _ _; exact ⟨hM, fun _ hz => hz⟩
        | cons k ks ih =>
          intro M hM hx hks
          rw [dfsL_cons]
          have h1 := ord_dfs ns ent r f k x M hM hx (hks k (by simp))
          have h2 := ih (dfs ns ent f k M) h1.1 (h1.2 x hx) (fun k' hk' => hks k' (by simp [hk']))
          exact ⟨h2.1, fun z hz => h2.2 z (h1.2 z hz)⟩
      have h2 := key (kidsOf ns x) (L ++ [x]) (h.snoc hy hk) (by simp) (fun _ hk' => hk')
      exact ⟨h2.1, fun z hz => h2.2 z (List.mem_append_left _ hz)⟩

/-- the walk from a node in an empty list -/
theorem ord_start (ns : List Nd) (ent : Int → Bool) (r : Int) (f : Nat) (he : ent r = true) : Ord ns r (dfs ns ent (f + 1) r []) := by
  rw [dfs_go he (by simp), List.nil_append]
  have key : ∀ (ks M : List Int), Ord ns r M → r ∈ M → (∀ k ∈ ks, k ∈ kidsOf ns r) → Ord ns r (dfsL ns ent f ks M) := by
    intro ks
    induction ks with
    | nil => intro M hM _ _; exact hM
    | cons k ks ih =>
      intro M hM hx hks
      rw [dfsL_cons]
      have h1 := ord_dfs ns ent r f k r M hM hx (hks k (by simp))
      exact ih (dfs ns ent f k M) h1.1 (h1.2 r hx) (fun k' hk' => hks k' (by simp [hk']))
  refine key (kidsOf ns r) [r] ⟨fun x hx => by simp at hx; exact hx.symm, fun i x hi hx => ?_⟩ (by simp) (fun _ h => h)
  have := (List.getElem?_eq_some_iff.1 hx).1
  simp at this
  omega

/-- all that the law says of the nodes that are reached -/
structure Reached (ns : List Nd) (r : Int) (L : List Int) : Prop where
  met : Met ns L
  closed : ∀ y ∈ L, ∀ k ∈ kidsOf ns y, k ∈ L
  ord : Ord ns r L

theorem reachOf_reached {ns : List Nd} {r : Int} (h : ValidG ns r) : Reached ns r (reachOf ns r) := by
  unfold reachOf
  rw [if_pos h]
  have w := walked ns anyB (kidsIn_of_valid h) (ns.length + 1) r [] (Met.nil ns) h.root0 h.root (by simp)
  exact ⟨w.met, fun y hy k hk => w.closed y hy (by simp) k hk rfl, ord_start ns anyB r ns.length rfl⟩

theorem reachOf_none {ns : List Nd} {r : Int} (h : ¬ ValidG ns r) : reachOf ns r = [] := by
  unfold reachOf
  rw [if_neg h]

theorem reachOf_some {ns : List Nd} {r : Int} (h : ValidG ns r) : 0 < (reachOf ns r).length := by
  unfold reachOf
  rw [if_pos h]
  have w := walked ns anyB (kidsIn_of_valid h) (ns.length + 1) r [] (Met.nil ns) h.root0 h.root (by simp)
  exact List.length_pos_of_mem (w.starts r (by simp) rfl)

end Go.Proofs.Ytkgnijbdbkopkab

namespace Go.Proofs.Ytkgnijbdbkopkab
open Go.RowKit Go.Maps
set_option linter.unusedVariables false

theorem reach_pickable {ns : List Nd} {r : Int} (hv : ValidG ns r) : Pickable ns r (reachOf ns r) := by
  have hR := reachOf_reached hv
  have hm : r ∈ reachOf ns r := by
    unfold reachOf
    rw [if_pos hv]
    have w := walked ns anyB (kidsIn_of_valid hv) (ns.length + 1) r [] (Met.nil ns) hv.root0 hv.root (by simp)
    exact w.starts r (by simp) rfl
  refine ⟨hR.met.nodup, hR.met.range, fun i n hi hn => ⟨?_, fun k hk => hR.closed i hi k (by rw [kidsOf_at hn]; exact hk)⟩, hm, reachOf_few, hv.few⟩
  have := (hv.nodes n (List.mem_of_getElem? hn)).few
  omega

theorem reach_place {ns : List Nd} {r : Int} (hv : ValidG ns r) : place (reachOf ns r) r = 0 := by
  have hR := reachOf_reached hv
  have hp := reachOf_some hv
  have h0 : (reachOf ns r)[0]? = some (reachOf ns r)[0] := List.getElem?_eq_getElem hp
  have e := hR.ord.first _ h0
  have hm : r ∈ reachOf ns r := by
    have hm0 := List.getElem_mem hp
    generalize (reachOf ns r)[0] = x at e hm0
    subst e
    exact hm0
  rw [place_pos hm]
  cases hL : reachOf ns r with
  | nil => rw [hL] at hp; simp at hp
  | cons x xs =>
    have : x = r := by simpa [hL] using e
    subst this
    simp

open Classical in
/-- the graph without the nodes that are not reached -/
noncomputable def prunedOf (ns : List Nd) (r : Int) : List Nd := if ValidG ns r then pickNs ns (reachOf ns r) else []

end Go.Proofs.Ytkgnijbdbkopkab

namespace Go.Proofs.Ytkgnijbdbkopkab
open Go.RowKit
set_option linter.unusedVariables false

/-- a call of reach: an int slice that reads as R, of the call's own or the one that was handed in -/
def GivesReachI (w : World) (A : Option Addr) (c : Nat) (L R : List Int) (e : Ending) (w' : World) : Prop :=
  ∃ A' c', e = .returned (.slice A' R.length c') ∧ Below w.heap.size w w' ∧ IntsAt w' w'.heap.size A' R ∧ (A' = none → c' = 0) ∧ ((A' = A ∧ c' = c ∧ R = L) ∨ OwnI w' w.heap.size A' c' R)

set_option maxRecDepth 100000 in
set_option maxHeartbeats 4000000 in
theorem reach1_any (ns : List Nd) (hk : KidsIn ns) (h6 : ∀ n ∈ ns, n.kids.length ≤ 6) (h12 : ns.length ≤ 12) (A : Option Addr) (c : Nat) (r : Int) (f : Nat)
    (ih : ∀ (i : Nat) (L : List Int) (A2 : Option Addr) (c2 : Nat) (w : World), i < ns.length → Met ns L → NdsAt w w.heap.size A ns → IntsAt w w.heap.size A2 L → (A2 = none → c2 = 0) → ns.length < f + L.length →
      Calls Try.prog 50 #[.agg #[.slice A ns.length c, .int .i64 r], .int .i64 (i : Int), .slice A2 L.length c2] w (GivesReachI w A2 c2 L (dfs ns anyB f i L)))
    (i : Nat) (L : List Int) (A2 : Option Addr) (c2 : Nat) (w : World) (hi : i < ns.length) (hL : Met ns L) (hr : NdsAt w w.heap.size A ns) (hI : IntsAt w w.heap.size A2 L) (hnil : A2 = none → c2 = 0) (hf : ns.length < f + 1 + L.length) :
      Calls Try.prog 50 #[.agg #[.slice A ns.length c, .int .i64 r], .int .i64 (i : Int), .slice A2 L.length c2] w (GivesReachI w A2 c2 L (dfs ns anyB (f + 1) i L)) := by
  have hB : Below w.heap.size w (w.alloc (.cells #[.slice A ns.length c, .int .i64 r] 25)) := (Below.refl _ _).alloc (Nat.le_refl _) _
  have l1 := Lies.new w #[.slice A ns.length c, .int .i64 r] 25
  have hr2 := hr.below hB
  have hI2 := hI.later hB (Nat.le_refl _)
  have hlL := hL.len
  have hi1 : (0 : Int) ≤ (i : Int) := by omega
  have hi2 : (i : Int) < (ns.length : Int) := by omega
  have HL := hide hL
  have Hih := hide ih
  have Hnil := hide hnil
  clear hr hI hL ih hnil
  go_enter Try.func50, Try.ntmps50
  go_wp2_with fail
  generalize hWd : w.alloc (.cells #[.slice A ns.length c, .int .i64 r] 25) = W at hB l1 hr2 hI2 ⊢
  have HWs : Hid (W.heap.size = w.heap.size + 1) := by show W.heap.size = _; rw [← hWd]; simp
  clear hWd
  refine (placeIn_any A2 L c2 i W hI2).mono ?_
  rintro e w' ⟨rfl, rfl⟩
  by_cases hmem : (i : Int) ∈ L
  · have hp := place_lt hmem
    have hd : decide (0 ≤ place L i) = true := by simp; omega
    generalize place L i = pl at hp hd ⊢
    have HF : Hid (GivesReachI w A2 c2 L (dfs ns anyB (f + 1) i L) (.returned (.slice A2 L.length c2)) W) := by
      rw [dfs_stop (.inr hmem)]
      exact ⟨A2, c2, rfl, hB, hI2, Hnil.out, .inl ⟨rfl, rfl, rfl⟩⟩
    clear hmem hI2 hr2
    go_wp2
    go_ret
    exact HF.out
  · rw [place_neg hmem]
    have hgo : dfs ns anyB (f + 1) i L = dfsL ns anyB f (kidsOf ns i) (L ++ [(i : Int)]) := dfs_go rfl hmem
    have Hgo := hide hgo
    have hM := HL.out.snoc ⟨hi1, hi2⟩ hmem
    have HM := hide hM
    have hMl := hM.len
    clear hmem hgo hM
    go_wp2_with fail
    refine (copyInts_any A2 L c2 W hI2 Hnil.out (by omega)).mono ?_
    rintro e w1 ⟨A3, c3, rfl, hown, hb1⟩
    have hin64 : In64 (i : Int) := by constructor <;> omega
    have hIone := IntsAt.one w1 i hin64
    go_wp2_with (at_builtin; refine append_ints rfl (.tmp 14) (.tmp 16) rfl W.heap.size A3 c3 L rfl (hown.alloc _) (w1.heap.size + 1) _ 1 [(i : Int)] rfl (fun e => by cases e) hIone (by simp <;> omega) (by have := hb1.size; simp; omega) ?_; intro zs A4 c4 w2 hz hown2 hg2 hat2)
    have hb2 : Below W.heap.size W w2 := below_grown (hb1.alloc hb1.size _) hg2 (by have := hb1.size; simp; omega) (fun k hk => (hown.blocks k hk).1)
    have hzl : zs.length = L.length + 1 := by rw [hz.out]; simp
    have hz2 : Hid (zs = L ++ [(i : Int)]) := hz
    have hMz : Hid (Met ns zs) := by show Met ns zs; rw [hz.out]; exact HM.out
    have hIz := hown2.ints (in64_met h12 hMz.out) (by omega)
    clear hown hb1 hIone hat2 hg2 hI2 hin64
    go_loopw [2, 7] (fun mv iv wr => ∃ (k : Nat) (R : List Int) (A5 : Option Addr) (c5 : Nat), k ≤ (kidsOf ns i).length ∧ iv = .int .i64 k ∧ mv = .slice A5 R.length c5 ∧ R = dfsL ns anyB f ((kidsOf ns i).take k) (L ++ [(i : Int)]) ∧ Below W.heap.size W wr ∧ OwnI wr W.heap.size A5 c5 R) (fun _ iv _ => (kidsOf ns i).length - (intOf iv).toNat)
    case atStart => exact ⟨0, zs, A4, c4, Nat.zero_le _, rfl, rfl, by rw [List.take_zero, dfsL_nil]; exact hz2.out, hb2, hown2⟩
    case round =>
      clear hb2 hown2 hIz hz hz2 hMz hzl
      obtain ⟨k, R, A5, c5, hkl, rfl, rfl, hR, hb, hown5⟩ := hrel
      have HR := hide hR
      clear hR
      obtain ⟨b, off, n, rfl, hbl, hat, hmem, hN⟩ := (hr2.below (hb.mono (by have := HWs.out; omega))).at_ hi
      obtain ⟨hn_k, hn_v, ⟨A1, c1, hn_s, hI1, _⟩, _, _⟩ := hN
      have hkids : Hid (kidsOf ns (i : Int) = n.kids) := kidsOf_at hat
      have hk6 := h6 n hmem
      rw [hkids.out] at hkl
      have e0 := (l1.below hb l1.lt).cell 0
      have e1 := (l1.below hb l1.lt).cell 1
      simp at e0 e1
      clear hat hmem
      by_cases hlt : k < n.kids.length
      · obtain ⟨bk, ok, x, rfl, hbk, hx, hxm, hcx⟩ := hI1.at_ hlt
        obtain ⟨hx0, hx1⟩ := hk.of (i : Int) x (by rw [hkids.out]; exact hxm)
        obtain ⟨y, rfl⟩ := Int.eq_ofNat_of_zero_le hx0
        have hwk := walkedAll ns anyB hk (n.kids.take k) (L ++ [(i : Int)]) f HM.out (fun z hz => hk.of (i : Int) z (by rw [hkids.out]; exact List.mem_of_mem_take hz)) (by simp; omega)
        have hRM : Met ns R := by rw [HR.out, hkids.out]; exact hwk.met
        have hRl : L.length + 1 ≤ R.length := by
          have h1 := hwk.len
          have h2 := HR.out
          rw [hkids.out] at h2
          rw [← h2] at h1
          simpa using h1
        have hR12 := hRM.len
        have hIR := hown5.ints (in64_met h12 hRM) (by omega)
        have HRM := hide hRM
        have Hx := hide hx
        have hk1 : (0 : Int) ≤ (k : Int) := by omega
        have hk2 : (k : Int) < (n.kids.length : Int) := by omega
        have hbd : Below W.heap.size W wr.drew := hb.drew
        have hownd := hown5.drew
        have hrd : NdsAt wr.drew wr.drew.heap.size (some ⟨b, off, none⟩) ns := (hr2.below (hb.mono (by have := HWs.out; omega))).later (Below.refl _ _).drew (by have := HWs.out; have := hb.size; omega)
        have hIRd : IntsAt wr.drew wr.drew.heap.size A5 R := hIR.later (Below.refl _ _).drew (Nat.le_refl _)
        clear hwk hRM hx hxm hIR
        go_wp2_with fail
        go_still_tail 11, (by kernel_rfl)
        change wpList _ _ _ _ _ wr.drew
        generalize wr.drew = w3 at hbd hownd hrd hIRd ⊢
        clear hb hown5 hcx hn_s hn_k hn_v e0 e1 hI1
        go_wp2_with fail
        refine (Hih.out y R A5 c5 w3 (by omega) HRM.out hrd hIRd hownd.nil (by omega)).mono ?_
        rintro e w4 ⟨A6, c6, rfl, hb4, hI6, hnil6, hor⟩
        have hown6 : OwnI w4 W.heap.size A6 c6 (dfs ns anyB f y R) := by
          rcases hor with ⟨h1, h2, h3⟩ | h
          · rw [h1, h2, h3]
            exact hownd.below hb4
          · exact h.mono hbd.size
        have Hown6 := hide hown6
        have HB4 := hide (hbd.trans (hb4.mono hbd.size))
        clear hor hb4 hI6 hnil6 hown6 hownd hIRd hrd hbd
        go_wp2
        go_roundw
        case rel => exact ⟨k + 1, dfs ns anyB f y R, A6, c6, by rw [hkids.out]; omega, by go_num, rfl, by rw [hkids.out, List.take_add_one, Hx.out, Option.toList_some, dfsL_snoc, HR.out, hkids.out], HB4.out, Hown6.out⟩
        case measure => rw [hkids.out]; simp [intOf]; omega
      · obtain rfl : k = n.kids.length := by omega
        have hwk := walkedAll ns anyB hk n.kids (L ++ [(i : Int)]) f HM.out (fun z hz => hk.of (i : Int) z (by rw [hkids.out]; exact hz)) (by simp; omega)
        have hRe : R = dfsL ns anyB f n.kids (L ++ [(i : Int)]) := by
          have := HR.out
          rw [hkids.out, List.take_length] at this
          exact this
        have HF : Hid (GivesReachI w A2 c2 L (dfs ns anyB (f + 1) i L) (.returned (.slice A5 R.length c5)) wr) := by
          rw [Hgo.out, hkids.out, ← hRe]
          have hRM : Met ns R := by rw [hRe]; exact hwk.met
          exact ⟨A5, c5, rfl, hB.trans (hb.mono (by have := HWs.out; omega)), hown5.ints (in64_met h12 hRM) (by have := hRM.len; omega), hown5.nil, .inr (hown5.mono (by have := HWs.out; omega))⟩
        clear hlt hwk hRe
        go_wp2
        go_ret
        exact HF.out

end Go.Proofs.Ytkgnijbdbkopkab

namespace Go.Proofs.Ytkgnijbdbkopkab
open Go.RowKit
set_option linter.unusedVariables false

theorem reach_any (ns : List Nd) (hk : KidsIn ns) (h6 : ∀ n ∈ ns, n.kids.length ≤ 6) (h12 : ns.length ≤ 12) (A : Option Addr) (c : Nat) (r : Int) : ∀ (f i : Nat) (L : List Int) (A2 : Option Addr) (c2 : Nat) (w : World), i < ns.length → Met ns L → NdsAt w w.heap.size A ns → IntsAt w w.heap.size A2 L → (A2 = none → c2 = 0) → ns.length < f + L.length →
    Calls Try.prog 50 #[.agg #[.slice A ns.length c, .int .i64 r], .int .i64 (i : Int), .slice A2 L.length c2] w (GivesReachI w A2 c2 L (dfs ns anyB f i L))
  | 0, _, _, _, _, _, _, hL, _, _, _, hf => by have := hL.len; omega
  | f + 1, i, L, A2, c2, w, hi, hL, hr, hI, hn, hf => reach1_any ns hk h6 h12 A c r f (fun i L A2 c2 w h1 h2 h3 h4 h5 h6' => reach_any ns hk h6 h12 A c r f i L A2 c2 w h1 h2 h3 h4 h5 h6') i L A2 c2 w hi hL hr hI hn hf

end Go.Proofs.Ytkgnijbdbkopkab

namespace Go.Proofs.Ytkgnijbdbkopkab
open Go.RowKit Go.Maps
set_option linter.unusedVariables false

open Classical in
/-- the class of each node of a valid graph; nothing for another one -/
noncomputable def clsOf (ns : List Nd) (r : Int) : List Int := if ValidG ns r then clsN ns ns.length else []
theorem cls_yes {ns : List Nd} {r : Int} (h : ValidG ns r) : clsOf ns r = clsN ns ns.length := by unfold clsOf; rw [if_pos h]
theorem cls_no {ns : List Nd} {r : Int} (h : ¬ ValidG ns r) : clsOf ns r = [] := by unfold clsOf; rw [if_neg h]
theorem validG_kids {ns : List Nd} {r : Int} (h : ValidG ns r) : KidsIn ns := fun n hn => (h.nodes n hn).inn
theorem clsOf_few {ns : List Nd} {r : Int} : (clsOf ns r).length ≤ 12 := by
  by_cases h : ValidG ns r
  · rw [cls_yes h, clsN_len]; exact h.few
  · rw [cls_no h]; simp
theorem clsOf_64 {ns : List Nd} {r : Int} : ∀ x ∈ clsOf ns r, In64 x := by
  by_cases h : ValidG ns r
  · rw [cls_yes h]
    intro x hx
    have := clsN_in ns _ x hx
    have := h.few
    constructor <;> omega
  · rw [cls_no h]; simp

end Go.Proofs.Ytkgnijbdbkopkab

namespace Go.Proofs.Ytkgnijbdbkopkab
open Go.RowKit Go.Maps
set_option linter.unusedVariables false

/-- a text of a value -/
def IsTx (v : Int) (m : Nd) : Prop := m.kind = 1 ∧ m.value = v
instance (v : Int) (m : Nd) : Decidable (IsTx v m) := inferInstanceAs (Decidable (_ ∧ _))
def firstT (ns : List Nd) (v : Int) : Nat := ns.findIdx (fun m => decide (IsTx v m))

theorem firstT_is {ns : List Nd} {v : Int} {j : Nat} {m : Nd} (hj : ns[j]? = some m) (hm : IsTx v m) (hf : ∀ (k : Nat) (q : Nd), k < j → ns[k]? = some q → ¬ IsTx v q) : firstT ns v = j := by
  obtain ⟨hl, he⟩ := List.getElem?_eq_some_iff.1 hj
  unfold firstT
  rw [List.findIdx_eq hl]
  refine ⟨by rw [he]; exact decide_eq_true hm, fun k hk => ?_⟩
  exact decide_eq_false (hf k _ hk (List.getElem?_eq_getElem (by omega)))

theorem firstT_le {ns : List Nd} {v : Int} {j : Nat} {m : Nd} (hj : ns[j]? = some m) (hm : IsTx v m) : firstT ns v ≤ j := by
  obtain ⟨hl, he⟩ := List.getElem?_eq_some_iff.1 hj
  apply Nat.le_of_not_lt
  intro h
  have := List.not_of_lt_findIdx (p := fun m => decide (IsTx v m)) h
  rw [he] at this
  simp [hm] at this

/-- the first one of the texts that are equal to a node, or the node itself -/
def ftx (ns : List Nd) (i : Nat) : Int := match ns[i]? with
  | some n => if n.kind = 1 then (firstT ns n.value : Int) else (i : Int)
  | none => (i : Int)
theorem ftx_text {ns : List Nd} {i : Nat} {n : Nd} (h : ns[i]? = some n) (hk : n.kind = 1) : ftx ns i = (firstT ns n.value : Int) := by
  unfold ftx
  rw [h]
  simp only
  rw [if_pos hk]
theorem ftx_else {ns : List Nd} {i : Nat} {n : Nd} (h : ns[i]? = some n) (hk : ¬ n.kind = 1) : ftx ns i = (i : Int) := by
  unfold ftx
  rw [h]
  simp only
  rw [if_neg hk]
theorem ftx_range {ns : List Nd} {i : Nat} (hi : i < ns.length) : 0 ≤ ftx ns i ∧ ftx ns i ≤ i := by
  have h : ns[i]? = some ns[i] := List.getElem?_eq_getElem hi
  by_cases hk : ns[i].kind = 1
  · rw [ftx_text h hk]
    have := firstT_le h ⟨hk, rfl⟩
    omega
  · rw [ftx_else h hk]; omega

def txtCl (ns : List Nd) : List Int := (List.range ns.length).map (ftx ns)
theorem txtCl_len (ns : List Nd) : (txtCl ns).length = ns.length := by simp [txtCl]
theorem txtCl_at {ns : List Nd} {i : Nat} (hi : i < ns.length) : (txtCl ns)[i]? = some (ftx ns i) := by
  unfold txtCl
  rw [List.getElem?_map, List.getElem?_range hi]
  rfl
theorem txtCl_64 {ns : List Nd} (hl : ns.length ≤ 1000) : ∀ x ∈ txtCl ns, In64 x := by
  intro x hx
  obtain ⟨i, hi, rfl⟩ := List.mem_map.1 hx
  have := ftx_range (List.mem_range.1 hi)
  have := List.mem_range.1 hi
  constructor <;> omega

open Classical in
/-- the graph in which equal texts are one node -/
noncomputable def mrgN (ns : List Nd) (r : Int) : List Nd := if ValidG ns r then replNs ns (txtCl ns) else []
open Classical in
noncomputable def mrgR (ns : List Nd) (r : Int) : Int := if ValidG ns r then look (txtCl ns) r else 0
theorem mrgN_yes {ns : List Nd} {r : Int} (h : ValidG ns r) : mrgN ns r = replNs ns (txtCl ns) := if_pos h
theorem mrgR_yes {ns : List Nd} {r : Int} (h : ValidG ns r) : mrgR ns r = look (txtCl ns) r := if_pos h
theorem mrgN_no {ns : List Nd} {r : Int} (h : ¬ ValidG ns r) : mrgN ns r = [] := if_neg h
theorem mrgR_no {ns : List Nd} {r : Int} (h : ¬ ValidG ns r) : mrgR ns r = 0 := if_neg h

end Go.Proofs.Ytkgnijbdbkopkab

namespace Go.Proofs.Ytkgnijbdbkopkab
open Go.RowKit
set_option linter.unusedVariables false

theorem replNs_smallN {ns : List Nd} {r : Int} (h : ValidG ns r) (cl : List Int) : SmallN (replNs ns cl) := by
  have hf := h.few
  refine ⟨by rw [replNs_len]; omega, fun n hn => ?_⟩
  obtain ⟨m, hm, rfl⟩ := List.mem_map.1 hn
  have := (h.nodes m hm).few
  simp [replNd]
  omega

theorem mrgN_smallN (ns : List Nd) (r : Int) : SmallN (mrgN ns r) := by
  by_cases h : ValidG ns r
  · rw [mrgN_yes h]; exact replNs_smallN h _
  · rw [mrgN_no h]; exact ⟨by simp, fun n hn => by simp at hn⟩

theorem mrgN_wf {ns : List Nd} (r : Int) (hw : WfN ns) : WfN (mrgN ns r) := by
  by_cases h : ValidG ns r
  · rw [mrgN_yes h]
    intro n hn
    obtain ⟨m, hm, rfl⟩ := List.mem_map.1 hn
    obtain ⟨a1, a2, a3, a4⟩ := hw m hm
    refine ⟨a1, a2, fun x hx => ?_, by simpa [replNd] using a4⟩
    obtain ⟨k, hk, rfl⟩ := List.mem_map.1 (show x ∈ m.kids.map (look (txtCl ns)) from hx)
    have h2 := (h.nodes m hm).inn k hk
    exact txtCl_64 (by have := h.few; omega) _ (look_mem h2.1 (by rw [txtCl_len]; omega))
  · rw [mrgN_no h]
    intro n hn
    simp at hn

end Go.Proofs.Ytkgnijbdbkopkab

namespace Go.Proofs.Ytkgnijbdbkopkab
open Go.RowKit Go.Maps
set_option linter.unusedVariables false

theorem joinNs_kids {ns ms : List Nd} (hn : KidsIn ns) (hm : KidsIn ms) : KidsIn (joinNs ns ms) := by
  intro n h k hk
  rw [joinNs_len]
  unfold joinNs at h
  rcases List.mem_append.1 h with h | h
  · have := hn n h k hk
    omega
  · obtain ⟨m, h1, rfl⟩ := List.mem_map.1 h
    obtain ⟨x, h2, rfl⟩ := List.mem_map.1 (show k ∈ m.kids.map (fun k => (ns.length : Int) + k) from hk)
    have := hm m h1 x h2
    omega

/-- the roots are in one class up to a depth -/
def RootsEq (ns : List Nd) (r : Int) (ms : List Nd) (s : Int) (d : Nat) : Prop := look (clsN (joinNs ns ms) d) r = look (clsN (joinNs ns ms) d) ((ns.length : Int) + s)
/-- the roots of valid graphs are equal however deep -/
def EqDeepG (ns : List Nd) (r : Int) (ms : List Nd) (s : Int) : Prop := ValidG ns r ∧ ValidG ms s ∧ RootsEq ns r ms s (joinNs ns ms).length
/-- .. up to a depth -/
def EqToG (ns : List Nd) (r : Int) (ms : List Nd) (s d : Int) : Prop := ValidG ns r ∧ ValidG ms s ∧ 0 ≤ d ∧ d ≤ 8 ∧ RootsEq ns r ms s d.toNat

theorem RootsEq.tf_def (ns : List Nd) (r : Int) (ms : List Nd) (s : Int) (d : Nat) : decide (look (clsN (joinNs ns ms) d) r = look (clsN (joinNs ns ms) d) ((ns.length : Int) + s)) = tf (RootsEq ns r ms s d) := by
  by_cases h : RootsEq ns r ms s d
  · rw [tf_true h]; exact decide_eq_true h
  · rw [tf_false h]; exact decide_eq_false h

theorem joined_small {ns ms : List Nd} {r s : Int} (hv : ValidG ns r) (hw : ValidG ms s) : (joinNs ns ms).length ≤ 24 := by
  have := hv.few
  have := hw.few
  rw [joinNs_len]
  omega

end Go.Proofs.Ytkgnijbdbkopkab
