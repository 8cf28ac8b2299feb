/-
  Lemmas, several texts in one: SpecE, ShpUa, ChkI, ChkJ, ChkK, NewSh.
-/
import Derived.Test.YtbihgafkmmcjlaaDoorSpecC
import Derived.Test.YtbihgafkmmcjlaaDoorPjAj
import Derived.Test.YtbihgafkmmcjlaaDoorShpT
import Derived.Test.YtbihgafkmmcjlaaDoorPjAd
import Derived.Test.YtbihgafkmmcjlaaDoorPjAe
import Derived.Deep.QuietTactic
import Derived.Deep.RegionLaw
import Derived.Deep.RegionHeld
import Derived.Deep.Cut
import Derived.BigQuiet
import Derived.Test.YtbihgafkmmcjlaaDoorPjAk
import Derived.Test.YtbihgafkmmcjlaaDoorPjAg
namespace Go.Proofs.YtbihgafkmmcjlaaDoor
open Go.RowKit
set_option linter.unusedVariables false
structure ValidG (ns : List Nd) (r : Int) : Prop where
  one : 1 ≤ ns.length
  few : ns.length ≤ 12
  root0 : 0 ≤ r
  root : r < ns.length
  nodes : ∀ n ∈ ns, NodeOk ns n
  tuples : ∀ (i : Nat) (n : Nd), ns[i]? = some n → n.kind = 2 → ¬ TReach ns i i
theorem NodeOk.kidsOk {ns : List Nd} (h12 : ns.length ≤ 12) (h : ∀ n ∈ ns, NodeOk ns n) : KidsOk ns :=
  ⟨h12, fun n hn => ⟨(h n hn).few, (h n hn).inn⟩⟩
set_option maxRecDepth 100000 in
set_option maxHeartbeats 4000000 in
theorem validGraph_in (A : Option Addr) (ns : List Nd) (c : Nat) (r : Int) (w : World) (hr : NdsAt w w.heap.size A ns) (h1 : 1 ≤ ns.length) (h12 : ns.length ≤ 12) (hr0 : 0 ≤ r) (hrl : r < ns.length) :
    Calls Tryd.prog 60 #[.agg #[.slice A ns.length c, .int .i64 r]] w fun e w' => e = .returned (.bool (tf (ValidG ns r))) ∧ Below w.heap.size w w' := by
  have hB : Below w.heap.size w (w.alloc (.cells #[.slice A ns.length c, .int .i64 r] 49)) := (Below.refl _ _).alloc (Nat.le_refl _) _
  have l1 := Lies.new w #[.slice A ns.length c, .int .i64 r] 49
  have hr2 := hr.later hB (Nat.le_refl _)
  clear hr
  have a1 : (1 : Int) ≤ (ns.length : Int) := by omega
  have a2 : (ns.length : Int) ≤ 12 := by omega
  have a3 : r ≤ (ns.length : Int) - 1 := by omega
  go_enter Tryd.func60, Tryd.ntmps60
  go_wp2_with fail
  refine (inRange_yes ns.length 1 12 _ a1 a2).mono ?_
  rintro e w' ⟨rfl, rfl⟩
  go_wp2_with fail
  refine (inRange_yes r 0 ((ns.length : Int) - 1) _ hr0 a3).mono ?_
  rintro e w' ⟨rfl, rfl⟩
  go_wp2_with fail
  generalize w.alloc (.cells #[.slice A ns.length c, .int .i64 r] 49) = W at hB l1 hr2 ⊢
  have hW1 := l1.lt
  go_loopw [3] (fun i wr => ∃ k : Nat, k ≤ ns.length ∧ i = .int .i64 k ∧ Below W.heap.size W wr ∧ (∀ j n, j < k → ns[j]? = some n → NodeOk ns n)) (fun i _ => ns.length - (intOf i).toNat)
  case atStart => exact ⟨0, Nat.zero_le _, rfl, Below.refl _ _, fun j n hj => absurd hj (by omega)⟩
  case round =>
    obtain ⟨k, hkl, rfl, hb, hok0⟩ := hrel
    have hok := hide hok0
    clear hok0
    have e0 := (l1.below hb hW1).cell 0
    have e1 := (l1.below hb hW1).cell 1
    simp at e0 e1
    by_cases hlt : k < ns.length
    · obtain ⟨b, off, n, rfl, hbl, hat, hmem, hN⟩ := (hr2.below hb).at_ hlt
      obtain ⟨hn_k, hn_v, ⟨A1, c1, hn_s, hI1', _⟩, _, _⟩ := hN
      have hk1 : (0 : Int) ≤ (k : Int) := by omega
      have hk3 : (k : Int) < (ns.length : Int) := by omega
      have hbd : Below W.heap.size W wr.drew := hb.drew
      have hI1 : IntsAt wr.drew wr.drew.heap.size A1 n.kids := hI1'.later (Below.refl _ _).drew hb.size
      have hrd : NdsAt wr.drew wr.drew.heap.size (some ⟨b, off, none⟩) ns := hr2.later hb.drew (Nat.le_refl _)
      have Hat := hide hat
      clear hI1' hat
      go_wp2_with fail
      go_still_tail 6, (by kernel_rfl)
      change wpList _ _ _ _ _ wr.drew
      generalize wr.drew = w2 at hbd hI1 hrd ⊢
      clear hb hn_k hn_v hn_s e0 e1
      go_wp2_with fail
      refine (validNode_any _ ns c r A1 n c1 w2 hrd hI1).mono ?_
      rintro e w' ⟨rfl, hb3⟩
      have hb4 := hbd.trans (hb3.mono hbd.size)
      clear hbd hb3 hI1 hrd
      by_cases hnk : NodeOk ns n
      · rw [tf_true hnk]
        go_wp2
        go_roundw
        case rel => exact ⟨k + 1, by omega, by go_num, hb4, fun j m hj hm => by
            by_cases e : j = k
            · subst e
              obtain rfl := Option.some.inj (Hat.out.symm.trans hm)
              exact hnk
            · exact hok.out j m (by omega) hm⟩
        case measure => simp [intOf]; omega
      · rw [tf_false hnk]
        have HF := hide (show tf (ValidG ns r) = false from tf_false fun h => hnk (h.nodes n hmem))
        clear hnk hmem
        go_wp2
        go_ret
        exact ⟨ret_bool HF.out.symm, hB.trans (hb4.mono hB.size)⟩
    · obtain rfl : k = ns.length := by omega
      have hall : ∀ n ∈ ns, NodeOk ns n := fun n hn => by
        obtain ⟨j, hj, rfl⟩ := List.getElem_of_mem hn
        exact hok.out j _ hj (List.getElem?_eq_getElem hj)
      have Hall := hide hall
      clear hall hok hlt
      go_wp2_with fail
      obtain ⟨wo, rfl⟩ : ∃ wo : World, wo = wr := ⟨_, rfl⟩
      go_loopw [4] (fun i wr => ∃ k : Nat, k ≤ ns.length ∧ i = .int .i64 k ∧ Below W.heap.size W wr ∧ (∀ (j : Nat) (n : Nd), j < k → ns[j]? = some n → n.kind = 2 → ¬ TReach ns j j)) (fun i _ => ns.length - (intOf i).toNat)
      case atStart => exact ⟨0, Nat.zero_le _, rfl, hb, fun j n hj => absurd hj (by omega)⟩
      case round =>
        clear e0 e1 hb
        obtain ⟨k, hkl, rfl, hb, hok0⟩ := hrel
        have hok := hide hok0
        clear hok0
        have e0 := (l1.below hb hW1).cell 0
        have e1 := (l1.below hb hW1).cell 1
        simp at e0 e1
        by_cases hlt : k < ns.length
        · obtain ⟨b, off, n, rfl, hbl, hat, hmem, hN⟩ := (hr2.below hb).at_ hlt
          obtain ⟨hn_k, hn_v, ⟨A1, c1, hn_s, hI1', _⟩, _, _⟩ := hN
          have hrd : NdsAt wr wr.heap.size (some ⟨b, off, none⟩) ns := hr2.later hb (Nat.le_refl _)
          have Hat := hide hat
          clear hI1' hat hmem
          by_cases h2 : n.kind = 2
          · have t2 : (n.kind == 2) = true := by rw [beq_iff_eq]; exact h2
            have H2 := hide h2
            clear h2
            go_wp2_with fail
            refine (tupleReach_any _ ns c r k wr hrd (NodeOk.kidsOk h12 Hall.out) hlt).mono ?_
            rintro e w' ⟨A2, c2, out, rfl, hown, hb3, hiff, hrange, _⟩
            have hb4 := hb.trans (hb3.mono hb.size)
            have hio := hown.ints (in64_of_range h12 hrange) (by have := hrange; omega)
            clear hb3 hown hrd
            go_wp2_with fail
            refine (placeIn_any A2 out c2 k w' hio).mono ?_
            rintro e w2 ⟨rfl, rfl⟩
            by_cases hin : (k : Int) ∈ out
            · have hp := place_lt hin
              have HF := hide (show tf (ValidG ns r) = false from tf_false fun h => h.tuples k n Hat.out H2.out ((hiff k).1 hin))
              have hd : decide (0 ≤ place out k) = true := by simp; omega
              generalize place out k = pl at hp hd ⊢
              clear hin hiff hrange
              go_wp2
              go_ret
              exact ⟨ret_bool HF.out.symm, hB.trans (hb4.mono hB.size)⟩
            · rw [place_neg hin]
              have hno : ¬ TReach ns k k := fun h => hin ((hiff k).2 h)
              have Hno := hide hno
              clear hin hiff hrange hno
              go_wp2
              go_roundw
              case rel => exact ⟨k + 1, by omega, by go_num, hb4, fun j m hj hm hm2 => by
                  by_cases e : j = k
                  · subst e; exact Hno.out
                  · exact hok.out j m (by omega) hm hm2⟩
              case measure => simp [intOf]; omega
          · have t2 : (n.kind == 2) = false := by rw [beq_eq_false_iff_ne]; exact h2
            have H2 := hide h2
            clear h2
            go_wp2
            go_roundw
            case rel => exact ⟨k + 1, by omega, by go_num, hb, fun j m hj hm hm2 => by
                by_cases e : j = k
                · subst e
                  obtain rfl := Option.some.inj (Hat.out.symm.trans hm)
                  exact absurd hm2 H2.out
                · exact hok.out j m (by omega) hm hm2⟩
            case measure => simp [intOf]; omega
        · obtain rfl : k = ns.length := by omega
          have HF := hide (show tf (ValidG ns r) = true from tf_true ⟨h1, h12, hr0, hrl, Hall.out, fun i n hn h2 => hok.out i n (List.getElem?_eq_some_iff.1 hn).1 hn h2⟩)
          clear hlt
          go_wp2
          go_ret
          exact ⟨ret_bool HF.out.symm, hB.trans (hb.mono hB.size)⟩
set_option maxHeartbeats 1000000 in
theorem validGraph_len (A : Option Addr) (ns : List Nd) (c : Nat) (r : Int) (w : World) (hr : NdsAt w w.heap.size A ns) (h : ns.length < 1 ∨ 12 < ns.length) :
    Calls Tryd.prog 60 #[.agg #[.slice A ns.length c, .int .i64 r]] w fun e w' => e = .returned (.bool (tf (ValidG ns r))) ∧ Below w.heap.size w w' := by
  have hB : Below w.heap.size w (w.alloc (.cells #[.slice A ns.length c, .int .i64 r] 49)) := (Below.refl _ _).alloc (Nat.le_refl _) _
  have HF := hide (show tf (ValidG ns r) = false from tf_false fun hv => by have := hv.one; have := hv.few; omega)
  have hl := hr.len
  have h' : (ns.length : Int) < 1 ∨ 12 < (ns.length : Int) := by omega
  clear hr h
  go_enter Tryd.func60, Tryd.ntmps60
  go_wp2_with fail
  refine (inRange_no ns.length 1 12 _ h').mono ?_
  rintro e w' ⟨rfl, rfl⟩
  clear h'
  go_wp2
  go_ret
  exact ⟨ret_bool HF.out.symm, hB⟩
set_option maxHeartbeats 1000000 in
theorem validGraph_root (A : Option Addr) (ns : List Nd) (c : Nat) (r : Int) (w : World) (h1 : 1 ≤ ns.length) (h12 : ns.length ≤ 12) (h : r < 0 ∨ (ns.length : Int) ≤ r) :
    Calls Tryd.prog 60 #[.agg #[.slice A ns.length c, .int .i64 r]] w fun e w' => e = .returned (.bool (tf (ValidG ns r))) ∧ Below w.heap.size w w' := by
  have hB : Below w.heap.size w (w.alloc (.cells #[.slice A ns.length c, .int .i64 r] 49)) := (Below.refl _ _).alloc (Nat.le_refl _) _
  have HF := hide (show tf (ValidG ns r) = false from tf_false fun hv => by have := hv.root0; have := hv.root; omega)
  have a1 : (1 : Int) ≤ (ns.length : Int) := by omega
  have a2 : (ns.length : Int) ≤ 12 := by omega
  have h' : r < 0 ∨ (ns.length : Int) - 1 < r := by omega
  clear h
  go_enter Tryd.func60, Tryd.ntmps60
  go_wp2_with fail
  refine (inRange_yes ns.length 1 12 _ a1 a2).mono ?_
  rintro e w' ⟨rfl, rfl⟩
  go_wp2_with fail
  refine (inRange_no r 0 ((ns.length : Int) - 1) _ h').mono ?_
  rintro e w' ⟨rfl, rfl⟩
  clear h'
  go_wp2
  go_ret
  exact ⟨ret_bool HF.out.symm, hB⟩
theorem specValidGraph_any (A : Option Addr) (ns : List Nd) (c : Nat) (r : Int) (w : World) (hr : NdsAt w w.heap.size A ns) :
    Calls Tryd.prog 60 #[.agg #[.slice A ns.length c, .int .i64 r]] w fun e w' => e = .returned (.bool (tf (ValidG ns r))) ∧ Below w.heap.size w w' := by
  by_cases h : 1 ≤ ns.length ∧ ns.length ≤ 12
  · by_cases h2 : 0 ≤ r ∧ r < ns.length
    · exact validGraph_in A ns c r w hr h.1 h.2 h2.1 h2.2
    · exact validGraph_root A ns c r w h.1 h.2 (by omega)
  · exact validGraph_len A ns c r w hr (by omega)
end Go.Proofs.YtbihgafkmmcjlaaDoor

namespace Go.Proofs.YtbihgafkmmcjlaaDoor
open Go.RowKit
set_option linter.unusedVariables false
set_option linter.unusedSimpArgs false
set_option maxRecDepth 100000 in
set_option maxHeartbeats 4000000 in
theorem stepShapes_done (p : ShPtr) (s : Shp) (cd ar : Int) (hd : s.done = true) (base : Nat) (w : World) (h : ShOwn w base p s) (hbase : base ≤ w.heap.size) (hs : s.Small) :
    Calls Tryd.prog 33 #[shVal p s, .agg #[.int .i64 cd, .int .i64 ar]] w (TriesSh w p base (stepShp s ⟨cd, ar⟩)) := by
  obtain ⟨K, c1, F, c2, S, c3, M, c4⟩ := p
  have hS := ShSt.enter3 h hbase (.cells #[.int .i64 cd, .int .i64 ar] 42)
  have lo : Lies (((w.alloc (.cells (shCells ⟨K, c1, F, c2, S, c3, M, c4⟩ s) 38)).alloc (.cells #[.int .i64 cd, .int .i64 ar] 42)).alloc (.cells zero5 38)) (w.heap.size + 1) #[.int .i64 cd, .int .i64 ar] 42 := by
    have := (Lies.new (w.alloc (.cells (shCells ⟨K, c1, F, c2, S, c3, M, c4⟩ s) 38)) #[.int .i64 cd, .int .i64 ar] 42).alloc (.cells zero5 38)
    simpa using this
  have hst := hs.t
  have hkl := hs.k
  have Hs := hide hs
  have Hd := hide hd
  have hoffo := h.off (q := w.heap.size + 1) (.inr (by omega))
  clear h hs hd
  unfold shVal
  unfold shCells zero5 at *
  dsimp only at hS lo ⊢
  go_enter Tryd.func33, Tryd.ntmps33
  go_upto_region 1 with fail
  generalize ((w.alloc (.cells #[.slice K s.kinds.length c1, .slice F s.full.length c2, .slice S s.stack.length c3, .slice M s.memo.length c4, .bool s.done] 38)).alloc (.cells #[.int .i64 cd, .int .i64 ar] 42)).alloc (.cells #[.slice none 0 0, .slice none 0 0, .slice none 0 0, .slice none 0 0, .bool false] 38) = W at hS lo ⊢
  obtain ⟨e0, e1, e2, e3, e4⟩ := hS.bx.cells
  dsimp only at e0 e1 e2 e3 e4
  have d0 := lo.cell 0
  have d1 := lo.cell 1
  simp only [jD, jE, jF] at d0 d1
  have hd := Hd.out
  rw [hd] at e4
  have HN := hide (show stepShp s ⟨cd, ar⟩ = none from stepShp_none (by unfold stepFree; rw [if_pos hd]))
  obtain ⟨_, hs5, _, hbel, hfr⟩ := hS.ret
  obtain ⟨r0, r1, r2, r3, r4, f0, f1, f2, f3, f4, s0, s1, s2, s3, s4⟩ := hs5
  have HR := hide (And.intro hbel hfr)
  clear hbel hfr hS d0 d1 lo
  dsimp only at r0 r1 r2 r3 r4 s0 s1 s2 s3 s4
  rw [hd] at s0 s1 s2 s3 s4 HR
  go_wp2
  refine bodyPost_ret (v := .tuple #[shVal ⟨K, c1, F, c2, S, c3, M, c4⟩ s, .bool false]) (by simp [shVal, shCells, hd, results, Tryd.results33, go_sem, s0, s1, s2, s3, s4]) rfl ?_
  exact ⟨_, _, _, rfl, HR.out.1, HR.out.2, fun t ht => by (rw [HN.out] at ht; cases ht), fun _ => rfl⟩
end Go.Proofs.YtbihgafkmmcjlaaDoor

namespace Go.Proofs.YtbihgafkmmcjlaaDoor
open Go.RowKit
set_option linter.unusedVariables false
def HasGot (w : World) (b : Bool) (e : Ending) (w' : World) : Prop := e = .returned (.bool b) ∧ Below w.heap.size w w'
set_option maxRecDepth 100000 in
set_option maxHeartbeats 4000000 in
theorem hasNeeded_got (q base off : Nat) (p : ShPtr) (s : Shp) (c : Nat) (ar : Int) (m0 m1 m2 : Nat) (b : Bool) (w : World) (h : SbAt w base q off p s) (hs : s.Small) (hF : FormsAt w w.heap.size) (hN : NeedsAt w w.heap.size) (hc : c < 20) (ha : c = 16 → 0 ≤ ar ∧ ar < 20 ∧ 0 ≤ s.memo.getD ar.toNat 0)
    (hm0 : s.view0 (c : Int) &&& need0 (c : Int) = m0) (hm1 : s.view1 (c : Int) &&& need1 (c : Int) = m1) (hm2 : s.view2 (c : Int) &&& need2 (c : Int) = m2)
    (hb : (((m0 : Int) == (need0 (c : Int) : Int)) && (((m1 : Int) == (need1 (c : Int) : Int)) && ((m2 : Int) == (need2 (c : Int) : Int)))) = b) :
    Calls Tryd.prog 28 #[.pointer (some ⟨q, off, none⟩), .agg #[.int .i64 (c : Int), .int .i64 ar]] w (HasGot w b) := by
  have hB0 := (Below.refl w.heap.size w).alloc (Nat.le_refl _) (.cells #[.int .i64 (c : Int), .int .i64 ar] 42)
  have hB := hide hB0
  have hlo := hide (Lies.new w #[.int .i64 (c : Int), .int .i64 ar] 42)
  have H2 := hide (h.alloc (.cells #[.int .i64 (c : Int), .int .i64 ar] 42))
  have HF := hide (hF.later hB0 (Nat.le_refl _))
  have HN := hide (hN.later hB0 (Nat.le_refl _))
  have Hs := hide hs
  have HB := hide hb
  have hwW : w.heap.size < (w.alloc (.cells #[.int .i64 (c : Int), .int .i64 ar] 42)).heap.size := by simp
  have hi0 : (0 : Int) ≤ (c : Int) := by omega
  have hi1 : (c : Int) < 20 := by omega
  have HV : ∀ W, SbAt W base q off p s → Calls Tryd.prog 44 #[.pointer (some ⟨q, off, none⟩), .int .i64 (takesOf c)] W (GivesV W (s.view0 (c : Int)) (s.view1 (c : Int)) (s.view2 (c : Int))) := fun W hW => viewOf_code q base off p s c W hW hs hc
  have HW : ∀ W, Calls Tryd.prog 45 #[.agg #[.int .i64 (s.view0 (c : Int) : Int), .int .i64 (s.view1 (c : Int) : Int), .int .i64 (s.view2 (c : Int) : Int)], .agg #[.int .i64 (need0 (c : Int) : Int), .int .i64 (need1 (c : Int) : Int), .int .i64 (need2 (c : Int) : Int)]] W (GivesV W m0 m1 m2) := fun W => by
    rw [← hm0, ← hm1, ← hm2]
    exact within_any _ _ _ _ _ _ W (view_small _ _).1 (view_small _ _).2.1 (view_small _ _).2.2 (need_small _).1 (need_small _).2.1 (need_small _).2.2
  generalize s.view0 (c : Int) = v0 at HV HW hm0
  generalize s.view1 (c : Int) = v1 at HV HW hm1
  generalize s.view2 (c : Int) = v2 at HV HW hm2
  have hVH := hide HV
  have hWH := hide HW
  clear HV HW hm0 hm1 hm2 hb
  have hoff := h.lt
  by_cases h16 : c = 16
  · obtain ⟨ha0, ha1, ham⟩ := ha h16
    obtain ⟨j, rfl⟩ := Int.eq_ofNat_of_zero_le ha0
    have t16 : ((c : Int) == 16) = true := by simp; omega
    rw [Int.toNat_natCast] at ham
    have hml := hs.ok.ml
    obtain ⟨x, hx⟩ : ∃ x, s.memo[j]? = some x := ⟨_, List.getElem?_eq_getElem (by omega)⟩
    have hgd : s.memo.getD j 0 = x := by rw [List.getD_eq_getElem?_getD, hx]; rfl
    rw [hgd] at ham
    have hxn : (x == -1) = false := by simp; omega
    obtain ⟨gm, hM, hg1, hg2, hcm, hfm⟩ := H2.out.own.m.atJ hx
    obtain ⟨e0, e1, e2, e3, e4, f0, f1, f2, f3, f4⟩ := H2.out.c
    rw [hM] at e3
    have d0 := hlo.out.cell 0
    have d1 := hlo.out.cell 1
    simp only [jD, jE, jF] at d0 d1
    have hj1 : (j : Int) < (s.memo.length : Int) := by omega
    clear h hs hx hgd hml hM hF hN hB0 ha ham h16
    go_enter Tryd.func28, Tryd.ntmps28
    go_upto_region 1 with fail
    generalize w.alloc (.cells #[.int .i64 (c : Int), .int .i64 (j : Int)] 42) = W at hB hlo H2 HF HN hwW e0 e1 e2 e3 e4 f0 f1 f2 f3 f4 d0 d1 hcm hfm hg2 ⊢
    go_quiet (fail)
    have hDr := below_drewN (Below.refl W.heap.size W) nq
    have HB2 := hide (below_drewN hB.out nq)
    have hlo2 := hlo.out.below hDr hwW
    have HS2 := hide (H2.out.below hDr)
    have HF2 := hide (HF.out.later hDr (Nat.le_refl _))
    have HN2 := hide (HN.out.later hDr (Nat.le_refl _))
    clear hDr e0 e1 e2 e3 e4 f0 f1 f2 f3 f4 d0 d1 hcm hfm hg2 H2 HF HN hB hlo
    have hwV : w.heap.size < (W.drewN nq).heap.size := by simpa using hwW
    generalize W.drewN nq = V at HB2 hlo2 HS2 HF2 HN2 hwV ⊢
    have d0 := hlo2.cell 0
    have d1 := hlo2.cell 1
    simp only [jD, jE, jF] at d0 d1
    have hn0 := HN2.out.n0 c hc
    have hn1 := HN2.out.n1 c hc
    have hn2 := HN2.out.n2 c hc
    clear hlo2 hwW
    go_upto_region 4 with fail
    have l3 := Lies.new V #[.int .i64 (need0 (c : Int) : Int), .int .i64 (need1 (c : Int) : Int), .int .i64 (need2 (c : Int) : Int)] 78
    have hA := (Below.refl V.heap.size V).alloc (Nat.le_refl _) (.cells #[.int .i64 (need0 (c : Int) : Int), .int .i64 (need1 (c : Int) : Int), .int .i64 (need2 (c : Int) : Int)] 78)
    have d0a := (hA.cell (p := ⟨w.heap.size, 0, none⟩) hwV).trans d0
    have HS3 := hide (HS2.out.below hA)
    have hft := (HF2.out.later hA (Nat.le_refl _)).takes c hc
    have hfl := (HF2.out.later hA (Nat.le_refl _)).lt
    have HB3 := hide (HB2.out.trans (hA.mono (by omega)))
    have hVX : w.heap.size < (V.alloc (.cells #[.int .i64 (need0 (c : Int) : Int), .int .i64 (need1 (c : Int) : Int), .int .i64 (need2 (c : Int) : Int)] 78)).heap.size := by simp; omega
    clear hA d0 d1 hn0 hn1 hn2 HB2 HS2 HF2 HN2
    generalize V.alloc (.cells #[.int .i64 (need0 (c : Int) : Int), .int .i64 (need1 (c : Int) : Int), .int .i64 (need2 (c : Int) : Int)] 78) = X at l3 d0a HS3 hft hfl HB3 hVX ⊢
    have hnX := l3.lt
    have r0 := l3.cell 0
    have r1 := l3.cell 1
    have r2 := l3.cell 2
    simp only [jD, jE, jF] at r0 r1 r2
    clear l3
    generalize V.heap.size = nb at r0 r1 r2 hnX ⊢
    generalize takesOf c = tk at hft hVH
    generalize need0 (c : Int) = n0 at r0 hWH HB ⊢
    generalize need1 (c : Int) = n1 at r1 hWH HB ⊢
    generalize need2 (c : Int) = n2 at r2 hWH HB ⊢
    have hE : ∀ w' : World, (Op.equalIn 10000 78 (.agg #[.int .i64 (m0 : Int), .int .i64 (m1 : Int), .int .i64 (m2 : Int)]) (.agg #[.int .i64 (n0 : Int), .int .i64 (n1 : Int), .int .i64 (n2 : Int)])).run Tryd.prog w' = .ok b w' := fun w' => by rw [eqView, HB.out]
    go_region_held3 (fun w' => w'.cell? ⟨w.heap.size, 0, none⟩ = some (.int .i64 (c : Int)) ∧ w'.cell? ⟨0, c * 3, none⟩ = some (.int .i64 tk) ∧ w'.cell? ⟨nb, 0, none⟩ = some (.int .i64 (n0 : Int)) ∧ w'.cell? ⟨nb, 1, none⟩ = some (.int .i64 (n1 : Int)) ∧ w'.cell? ⟨nb, 2, none⟩ = some (.int .i64 (n2 : Int)))
      (first
        | (go_split_ands; refine ⟨?_, ?_, ?_, ?_, ?_⟩ <;> assumption))
      (first
        | (go_at_call 44; refine (hVH.out _ HS3.out.drew).mono ?_; rintro e w6 ⟨rfl, hb6⟩; have q0 := (hb6.cell (p := ⟨w.heap.size, 0, none⟩) hVX).trans d0a; have q1 := (hb6.cell (p := ⟨0, c * 3, none⟩) hfl).trans hft; have q2 := (hb6.cell (p := ⟨nb, 0, none⟩) hnX).trans r0; have q3 := (hb6.cell (p := ⟨nb, 1, none⟩) hnX).trans r1; have q4 := (hb6.cell (p := ⟨nb, 2, none⟩) hnX).trans r2)
        | (go_at_call 45; refine (hWH.out _).mono ?_; rintro e w7 ⟨rfl, hb7⟩; have y0 := (hb7.cell (p := ⟨w.heap.size, 0, none⟩) (Nat.lt_of_lt_of_le hVX hb6.size)).trans q0; have y1 := (hb7.cell (p := ⟨0, c * 3, none⟩) (Nat.lt_of_lt_of_le hfl hb6.size)).trans q1; have y2 := (hb7.cell (p := ⟨nb, 0, none⟩) (Nat.lt_of_lt_of_le hnX hb6.size)).trans q2; have y3 := (hb7.cell (p := ⟨nb, 1, none⟩) (Nat.lt_of_lt_of_le hnX hb6.size)).trans q3; have y4 := (hb7.cell (p := ⟨nb, 2, none⟩) (Nat.lt_of_lt_of_le hnX hb6.size)).trans q4))
    have HE := hide ((HB3.out.drew.trans (hb6.mono (by simp; omega))).trans (hb7.mono (by have := hb6.size; simp at this; omega)))
    clear hE hb6 hb7 q0 q1 q2 q3 q4 y0 y1 y2 y3 y4 r0 r1 r2 hft d0a
    go_wp2
    go_ret
    exact ⟨rfl, HE.out⟩
  · have t16 : ((c : Int) == 16) = false := by simp; omega
    obtain ⟨e0, e1, e2, e3, e4, f0, f1, f2, f3, f4⟩ := H2.out.c
    have d0 := hlo.out.cell 0
    have d1 := hlo.out.cell 1
    simp only [jD, jE, jF] at d0 d1
    clear h hs hF hN hB0 ha h16
    go_enter Tryd.func28, Tryd.ntmps28
    go_upto_region 1 with fail
    generalize w.alloc (.cells #[.int .i64 (c : Int), .int .i64 ar] 42) = W at hB hlo H2 HF HN hwW e0 e1 e2 e3 e4 f0 f1 f2 f3 f4 d0 d1 ⊢
    go_quiet (fail)
    have hDr := below_drewN (Below.refl W.heap.size W) nq
    have HB2 := hide (below_drewN hB.out nq)
    have hlo2 := hlo.out.below hDr hwW
    have HS2 := hide (H2.out.below hDr)
    have HF2 := hide (HF.out.later hDr (Nat.le_refl _))
    have HN2 := hide (HN.out.later hDr (Nat.le_refl _))
    clear hDr e0 e1 e2 e3 e4 f0 f1 f2 f3 f4 d0 d1 H2 HF HN hB hlo
    have hwV : w.heap.size < (W.drewN nq).heap.size := by simpa using hwW
    generalize W.drewN nq = V at HB2 hlo2 HS2 HF2 HN2 hwV ⊢
    have d0 := hlo2.cell 0
    have d1 := hlo2.cell 1
    simp only [jD, jE, jF] at d0 d1
    have hn0 := HN2.out.n0 c hc
    have hn1 := HN2.out.n1 c hc
    have hn2 := HN2.out.n2 c hc
    clear hlo2 hwW
    go_upto_region 4 with fail
    have l3 := Lies.new V #[.int .i64 (need0 (c : Int) : Int), .int .i64 (need1 (c : Int) : Int), .int .i64 (need2 (c : Int) : Int)] 78
    have hA := (Below.refl V.heap.size V).alloc (Nat.le_refl _) (.cells #[.int .i64 (need0 (c : Int) : Int), .int .i64 (need1 (c : Int) : Int), .int .i64 (need2 (c : Int) : Int)] 78)
    have d0a := (hA.cell (p := ⟨w.heap.size, 0, none⟩) hwV).trans d0
    have HS3 := hide (HS2.out.below hA)
    have hft := (HF2.out.later hA (Nat.le_refl _)).takes c hc
    have hfl := (HF2.out.later hA (Nat.le_refl _)).lt
    have HB3 := hide (HB2.out.trans (hA.mono (by omega)))
    have hVX : w.heap.size < (V.alloc (.cells #[.int .i64 (need0 (c : Int) : Int), .int .i64 (need1 (c : Int) : Int), .int .i64 (need2 (c : Int) : Int)] 78)).heap.size := by simp; omega
    clear hA d0 d1 hn0 hn1 hn2 HB2 HS2 HF2 HN2
    generalize V.alloc (.cells #[.int .i64 (need0 (c : Int) : Int), .int .i64 (need1 (c : Int) : Int), .int .i64 (need2 (c : Int) : Int)] 78) = X at l3 d0a HS3 hft hfl HB3 hVX ⊢
    have hnX := l3.lt
    have r0 := l3.cell 0
    have r1 := l3.cell 1
    have r2 := l3.cell 2
    simp only [jD, jE, jF] at r0 r1 r2
    clear l3
    generalize V.heap.size = nb at r0 r1 r2 hnX ⊢
    generalize takesOf c = tk at hft hVH
    generalize need0 (c : Int) = n0 at r0 hWH HB ⊢
    generalize need1 (c : Int) = n1 at r1 hWH HB ⊢
    generalize need2 (c : Int) = n2 at r2 hWH HB ⊢
    have hE : ∀ w' : World, (Op.equalIn 10000 78 (.agg #[.int .i64 (m0 : Int), .int .i64 (m1 : Int), .int .i64 (m2 : Int)]) (.agg #[.int .i64 (n0 : Int), .int .i64 (n1 : Int), .int .i64 (n2 : Int)])).run Tryd.prog w' = .ok b w' := fun w' => by rw [eqView, HB.out]
    go_region_held3 (fun w' => w'.cell? ⟨w.heap.size, 0, none⟩ = some (.int .i64 (c : Int)) ∧ w'.cell? ⟨0, c * 3, none⟩ = some (.int .i64 tk) ∧ w'.cell? ⟨nb, 0, none⟩ = some (.int .i64 (n0 : Int)) ∧ w'.cell? ⟨nb, 1, none⟩ = some (.int .i64 (n1 : Int)) ∧ w'.cell? ⟨nb, 2, none⟩ = some (.int .i64 (n2 : Int)))
      (first
        | (go_split_ands; refine ⟨?_, ?_, ?_, ?_, ?_⟩ <;> assumption))
      (first
        | (go_at_call 44; refine (hVH.out _ HS3.out.drew).mono ?_; rintro e w6 ⟨rfl, hb6⟩; have q0 := (hb6.cell (p := ⟨w.heap.size, 0, none⟩) hVX).trans d0a; have q1 := (hb6.cell (p := ⟨0, c * 3, none⟩) hfl).trans hft; have q2 := (hb6.cell (p := ⟨nb, 0, none⟩) hnX).trans r0; have q3 := (hb6.cell (p := ⟨nb, 1, none⟩) hnX).trans r1; have q4 := (hb6.cell (p := ⟨nb, 2, none⟩) hnX).trans r2)
        | (go_at_call 45; refine (hWH.out _).mono ?_; rintro e w7 ⟨rfl, hb7⟩; have y0 := (hb7.cell (p := ⟨w.heap.size, 0, none⟩) (Nat.lt_of_lt_of_le hVX hb6.size)).trans q0; have y1 := (hb7.cell (p := ⟨0, c * 3, none⟩) (Nat.lt_of_lt_of_le hfl hb6.size)).trans q1; have y2 := (hb7.cell (p := ⟨nb, 0, none⟩) (Nat.lt_of_lt_of_le hnX hb6.size)).trans q2; have y3 := (hb7.cell (p := ⟨nb, 1, none⟩) (Nat.lt_of_lt_of_le hnX hb6.size)).trans q3; have y4 := (hb7.cell (p := ⟨nb, 2, none⟩) (Nat.lt_of_lt_of_le hnX hb6.size)).trans q4))
    have HE := hide ((HB3.out.drew.trans (hb6.mono (by simp; omega))).trans (hb7.mono (by have := hb6.size; simp at this; omega)))
    clear hE hb6 hb7 q0 q1 q2 q3 q4 y0 y1 y2 y3 y4 r0 r1 r2 hft d0a
    go_wp2
    go_ret
    exact ⟨rfl, HE.out⟩
end Go.Proofs.YtbihgafkmmcjlaaDoor

namespace Go.Proofs.YtbihgafkmmcjlaaDoor
open Go.RowKit
set_option linter.unusedVariables false
set_option linter.unusedSimpArgs false
theorem stepFree_facts {s t : Shp} {o : Od} (h : s.Ok) (hd : s.done = false) (ho : 0 ≤ o.code ∧ o.code ≤ 19) (he : stepFree s o = some t) :
    (takesN o.code = -1 → ∃ a, above s.stack = a + 1) ∧ (takesN o.code ≠ -1 → 0 ≤ takesN o.code ∧ takesN o.code ≤ s.stack.length) ∧ (o.code = 14 → 0 ≤ (s.took o.code).thing 0) ∧ (o.code = 15 → 0 < s.stack.length) := by
  obtain ⟨cd, ar⟩ := o
  simp only at ho he ⊢
  have hk0 := h.kindAt 0
  have hk1 := h.kindAt 1
  have l0 : ¬ s.kindAt 0 < 0 → 0 < s.stack.length := fun hn => Shp.kind_lt hn
  have l1 : ¬ s.kindAt 1 < 0 → 1 < s.stack.length := fun hn => Shp.kind_lt hn
  have hma : above s.stack ≠ 0 → ∃ a, above s.stack = a + 1 := fun hn => ⟨above s.stack - 1, by omega⟩
  have h20 : cd = 0 ∨ cd = 1 ∨ cd = 2 ∨ cd = 3 ∨ cd = 4 ∨ cd = 5 ∨ cd = 6 ∨ cd = 7 ∨ cd = 8 ∨ cd = 9 ∨ cd = 10 ∨ cd = 11 ∨ cd = 12 ∨ cd = 13 ∨ cd = 14 ∨ cd = 15 ∨ cd = 16 ∨ cd = 17 ∨ cd = 18 ∨ cd = 19 := by omega
  rcases h20 with rfl | rfl | rfl | rfl | rfl | rfl | rfl | rfl | rfl | rfl | rfl | rfl | rfl | rfl | rfl | rfl | rfl | rfl | rfl | rfl
  case inr.inr.inr.inr.inr.inr.inr.inr.inr.inr.inr.inr.inr.inr.inl =>
    have hh : ¬ s.kindAt 0 < 0 ∧ s.kindAt 1 = 5 := by
      simp [stepFree, newK, hd, IsMarkOp, takeStep] at he
      omega
    have hl := l1 (by omega)
    refine ⟨fun hh => by simp [takesN] at hh, fun _ => by simp [takesN]; omega, fun _ => ?_, fun hh => by omega⟩
    have hth : 0 ≤ s.thing 1 := by have := hk1.2.2; omega
    have hlc : (s.cutTo (s.stack.length - 1)).stack.length = s.stack.length - 1 := by unfold Shp.cutTo; simp
    have e : (s.took 14).thing 0 = s.thing 1 := by
      have e0 : s.took 14 = s.cutTo (s.stack.length - 1) := by unfold Shp.took; simp [takesN]
      rw [e0]
      unfold Shp.thing
      rw [hlc, if_pos (by omega), if_pos (by omega)]
      unfold Shp.cutTo
      rw [List.getD_eq_getElem?_getD, List.getD_eq_getElem?_getD, List.getElem?_take, if_pos (by omega)]
      congr 2
    rw [e]
    exact hth
  all_goals
    simp [stepFree, newK, hd, IsMarkOp, takeStep, markStep] at he
    refine ⟨fun hh => ?_, fun hh => ?_, fun hh => by clear hma; omega, fun hh => ?_⟩
    · first | (simp [takesN] at hh; done) | (exact hma (by omega)) | (exact hma he.1)
    · clear hma; first | (simp [takesN] at hh; done) | (simp [takesN]; done) | (simp [takesN]; omega) | (have hky := he.2.1.1; unfold KeyK at hky; simp [takesN]; omega)
    · clear hma; first | omega | (exact l0 (by omega))
theorem took_small {s : Shp} (h : s.Small) (c : Int) : (s.took c).Small := by
  unfold Shp.took
  have : ∀ n, (s.cutTo n).Small := fun n => ⟨h.k, by have := h.t; unfold Shp.cutTo; simp; omega, h.ok.cut n⟩
  split <;> exact this _
theorem take_code (q base off : Nat) (p : ShPtr) (s : Shp) (c : Nat) (w : World) (h : SbAt w base q off p s) (hs : s.Small) (hc : c < 20) (h1 : takesN (c : Int) = -1 → ∃ a, above s.stack = a + 1) (h2 : takesN (c : Int) ≠ -1 → 0 ≤ takesN (c : Int) ∧ takesN (c : Int) ≤ s.stack.length) :
    Calls Tryd.prog 29 #[.pointer (some ⟨q, off, none⟩), .int .i64 (takesOf c)] w (TurnsSb w base q off p (s.took (c : Int))) := by
  rw [takes_same c hc]
  unfold Shp.took
  by_cases ht : takesN (c : Int) = -1
  · rw [if_pos ht, ht]
    obtain ⟨a, ha⟩ := h1 ht
    rw [show above s.stack - 1 = a by omega]
    exact take_all q base off p s a w h hs ha
  · rw [if_neg ht]
    obtain ⟨h3, h4⟩ := h2 ht
    exact take_any q base off p s (takesN (c : Int)) _ w h hs (by omega) ht (by omega) h3
theorem act_code (q base off : Nat) (p : ShPtr) (s : Shp) (c : Nat) (ar : Int) (w : World) (h : SbAt w base q off p s) (hs : s.Small) (hbase : base ≤ w.heap.size) (hc : c < 20) (ha : c = 15 ∨ c = 16 → 0 ≤ ar ∧ ar < 20) (h14 : c = 14 → 0 ≤ s.thing 0) (h15 : c = 15 → 0 < s.stack.length) :
    Calls Tryd.prog 30 #[.pointer (some ⟨q, off, none⟩), .agg #[.int .i64 (c : Int), .int .i64 ar]] w (TurnsSb w base q off p (s.acted ⟨(c : Int), ar⟩)) := by
  match c, hc, ha, h14, h15 with
  | 0, _, _, _, _ => exact act_new q base off p s 0 ar 0 w h hs hbase (by unfold IsNewOp; omega)
  | 1, _, _, _, _ => exact act_new q base off p s 1 ar 1 w h hs hbase (by unfold IsNewOp; omega)
  | 2, _, _, _, _ => exact act_mark q base off p s ar w h hs hbase
  | 3, _, _, _, _ => exact act_new q base off p s 3 ar 2 w h hs hbase (by unfold IsNewOp; omega)
  | 4, _, _, _, _ => exact act_new q base off p s 4 ar 2 w h hs hbase (by unfold IsNewOp; omega)
  | 5, _, _, _, _ => exact act_new q base off p s 5 ar 2 w h hs hbase (by unfold IsNewOp; omega)
  | 6, _, _, _, _ => exact act_new q base off p s 6 ar 2 w h hs hbase (by unfold IsNewOp; omega)
  | 7, _, _, _, _ => exact act_new q base off p s 7 ar 3 w h hs hbase (by unfold IsNewOp; omega)
  | 8, _, _, _, _ => exact act_idle q base off p s 8 ar w h hs hbase (by unfold IsIdleOp; omega)
  | 9, _, _, _, _ => exact act_idle q base off p s 9 ar w h hs hbase (by unfold IsIdleOp; omega)
  | 10, _, _, _, _ => exact act_new q base off p s 10 ar 4 w h hs hbase (by unfold IsNewOp; omega)
  | 11, _, _, _, _ => exact act_idle q base off p s 11 ar w h hs hbase (by unfold IsIdleOp; omega)
  | 12, _, _, _, _ => exact act_idle q base off p s 12 ar w h hs hbase (by unfold IsIdleOp; omega)
  | 13, _, _, _, _ => exact act_new q base off p s 13 ar 5 w h hs hbase (by unfold IsNewOp; omega)
  | 14, _, _, h14, _ => exact act_state q base off p s ar w h hs hbase (h14 rfl)
  | 15, _, ha, _, h15 =>
    obtain ⟨h1, h2⟩ := ha (.inl rfl)
    obtain ⟨j, rfl⟩ := Int.eq_ofNat_of_zero_le h1
    exact act_put q base off p s j w h hs hbase (by omega) (h15 rfl)
  | 16, _, ha, _, _ =>
    obtain ⟨h1, h2⟩ := ha (.inr rfl)
    obtain ⟨j, rfl⟩ := Int.eq_ofNat_of_zero_le h1
    exact act_get q base off p s j w h hs hbase (by omega)
  | 17, _, _, _, _ => exact act_idle q base off p s 17 ar w h hs hbase (by unfold IsIdleOp; omega)
  | 18, _, _, _, _ => exact act_idle q base off p s 18 ar w h hs hbase (by unfold IsIdleOp; omega)
  | 19, _, _, _, _ => exact act_stop q base off p s ar w h hs hbase
  | n + 20, hc, _, _, _ => omega
end Go.Proofs.YtbihgafkmmcjlaaDoor

namespace Go.Proofs.YtbihgafkmmcjlaaDoor
open Go.RowKit
set_option linter.unusedVariables false
theorem bits_of (a b : Nat) (h : a = b) : ((a : Int) == (b : Int)) = true := by subst h; simp
theorem bits_ne (a b : Nat) (h : a ≠ b) : ((a : Int) == (b : Int)) = false := by simp; omega
theorem hasNeeded_any (q base off : Nat) (p : ShPtr) (s : Shp) (c : Nat) (ar : Int) (w : World) (h : SbAt w base q off p s) (hs : s.Small) (hF : FormsAt w w.heap.size) (hN : NeedsAt w w.heap.size) (hc : c < 20) (ha : c = 16 → 0 ≤ ar ∧ ar < 20) :
    Calls Tryd.prog 28 #[.pointer (some ⟨q, off, none⟩), .agg #[.int .i64 (c : Int), .int .i64 ar]] w (HasGot w (tf (s.Has ⟨(c : Int), ar⟩))) := by
  by_cases hm : c = 16 ∧ s.memo.getD ar.toNat 0 < 0
  · obtain ⟨rfl, hm⟩ := hm
    obtain ⟨h1, h2⟩ := ha rfl
    obtain ⟨j, rfl⟩ := Int.eq_ofNat_of_zero_le h1
    rw [Int.toNat_natCast] at hm
    have ht : tf (s.Has ⟨((16 : Nat) : Int), (j : Int)⟩) = false := tf_false fun hh => by
      have := hh.1 rfl
      simp only [Int.toNat_natCast] at this
      omega
    rw [ht]
    exact hasNeeded_no q base off p s j w h hs (by omega) hm
  · have hcase : c = 16 → 0 ≤ ar ∧ ar < 20 ∧ 0 ≤ s.memo.getD ar.toNat 0 := fun e => ⟨(ha e).1, (ha e).2, by
      by_cases hh : s.memo.getD ar.toNat 0 < 0
      · exact absurd ⟨e, hh⟩ hm
      · omega⟩
    refine hasNeeded_got q base off p s c ar _ _ _ _ w h hs hF hN hc hcase rfl rfl rfl ?_
    by_cases e0 : s.view0 (c : Int) &&& need0 (c : Int) = need0 (c : Int)
    · by_cases e1 : s.view1 (c : Int) &&& need1 (c : Int) = need1 (c : Int)
      · by_cases e2 : s.view2 (c : Int) &&& need2 (c : Int) = need2 (c : Int)
        · rw [bits_of _ _ e0, bits_of _ _ e1, bits_of _ _ e2, tf_true ⟨fun e => (hcase (by simp only at e; omega)).2.2, e0, e1, e2⟩]; rfl
        · rw [bits_ne _ _ e2, tf_false fun hh => e2 hh.2.2.2]; simp
      · rw [bits_ne _ _ e1, tf_false fun hh => e1 hh.2.2.1]; simp
    · rw [bits_ne _ _ e0, tf_false fun hh => e0 hh.2.1]; simp
set_option maxRecDepth 100000 in
set_option maxHeartbeats 4000000 in
theorem step_no (q base off : Nat) (p : ShPtr) (s : Shp) (c : Nat) (ar : Int) (w : World) (h : SbAt w base q off p s) (hs : s.Small) (hbase : base ≤ w.heap.size) (hF : FormsAt w w.heap.size) (hN : NeedsAt w w.heap.size) (hc : c < 20) (ha : c = 15 ∨ c = 16 → 0 ≤ ar ∧ ar < 20) (hr : stepFree s ⟨(c : Int), ar⟩ = none) :
    Calls Tryd.prog 15 #[.pointer (some ⟨q, off, none⟩), .agg #[.int .i64 (c : Int), .int .i64 ar]] w (StepsSb w base q off p false s) := by
  have hB0 := (Below.refl w.heap.size w).alloc (Nat.le_refl _) (.cells #[.int .i64 (c : Int), .int .i64 ar] 42)
  have hB := hide hB0
  have hlt := h.lt
  have lo := Lies.new w #[.int .i64 (c : Int), .int .i64 ar] 42
  have H2 := hide (h.alloc (.cells #[.int .i64 (c : Int), .int .i64 ar] 42))
  have HF := hide (hF.later hB0 (Nat.le_refl _))
  have HN := hide (hN.later hB0 (Nat.le_refl _))
  have Hs := hide hs
  obtain ⟨e0, e1, e2, e3, e4, f0, f1, f2, f3, f4⟩ := H2.out.c
  have d0 := lo.cell 0
  have d1 := lo.cell 1
  simp only [jD, jE, jF] at d0 d1
  by_cases hd : s.done = true
  · rw [hd] at e4
    clear h hs hF hN hB0 lo hr ha hd
    go_enter Tryd.func15, Tryd.ntmps15
    go_upto_region 1 with fail
    generalize w.alloc (.cells #[.int .i64 (c : Int), .int .i64 ar] 42) = W at hB H2 HF HN e0 e1 e2 e3 e4 f0 f1 f2 f3 f4 d0 d1 ⊢
    go_wp2
    go_ret
    exact ⟨rfl, p, H2.out, SbFr.of_below hB.out hlt⟩
  · have hdf : s.done = false := by cases hx : s.done <;> simp_all
    rw [hdf] at e4
    have HC := hasNeeded_any q base off p s c ar _ H2.out hs HF.out HN.out hc (fun e => ha (.inr e))
    have ht : tf (s.Has ⟨(c : Int), ar⟩) = false := tf_false fun hh => by
      have := (stepFree_has hs.ok hdf (o := ⟨(c : Int), ar⟩) (by simp only; omega) (fun e => by simp only at e ⊢; have := ha (.inr (by omega)); omega)).1 hh
      rw [hr] at this
      cases this
    rw [ht] at HC
    have HCC := hide HC
    clear h hs hF hN hB0 lo hr ha hd HC ht hdf
    go_enter Tryd.func15, Tryd.ntmps15
    go_upto_region 1 with fail
    generalize w.alloc (.cells #[.int .i64 (c : Int), .int .i64 ar] 42) = W at hB H2 HF HN HCC e0 e1 e2 e3 e4 f0 f1 f2 f3 f4 d0 d1 ⊢
    go_wp2_with fail
    refine HCC.out.mono ?_
    rintro e w' ⟨rfl, hb⟩
    have HX := hide (And.intro (H2.out.below hb) (hB.out.trans (hb.mono hB.out.size)))
    clear hb
    go_wp2
    go_ret
    exact ⟨rfl, p, HX.out.1, SbFr.of_below HX.out.2 hlt⟩
set_option maxRecDepth 100000 in
set_option maxHeartbeats 4000000 in
theorem step_yes (q base off : Nat) (p : ShPtr) (s t : Shp) (c : Nat) (ar : Int) (w : World) (h : SbAt w base q off p s) (hs : s.Small) (hbase : base ≤ w.heap.size) (hF : FormsAt w w.heap.size) (hN : NeedsAt w w.heap.size) (hc : c < 20) (ha : c = 15 ∨ c = 16 → 0 ≤ ar ∧ ar < 20) (hr : stepFree s ⟨(c : Int), ar⟩ = some t) :
    Calls Tryd.prog 15 #[.pointer (some ⟨q, off, none⟩), .agg #[.int .i64 (c : Int), .int .i64 ar]] w (StepsSb w base q off p true t) := by
  have hB0 := (Below.refl w.heap.size w).alloc (Nat.le_refl _) (.cells #[.int .i64 (c : Int), .int .i64 ar] 42)
  have hB := hide hB0
  have hlt := h.lt
  have hlo := hide (Lies.new w #[.int .i64 (c : Int), .int .i64 ar] 42)
  have H2 := hide (h.alloc (.cells #[.int .i64 (c : Int), .int .i64 ar] 42))
  have HF := hide (hF.later hB0 (Nat.le_refl _))
  have HN := hide (hN.later hB0 (Nat.le_refl _))
  have Hs := hide hs
  have hoffo := h.own.off (q := w.heap.size) (.inr (Nat.le_refl _))
  have hdf : s.done = false := by
    cases hx : s.done
    · rfl
    · simp [stepFree, hx] at hr
  obtain ⟨t1, t2, t3, t4⟩ := stepFree_facts hs.ok hdf (by simp only; omega) hr
  simp only at t1 t2 t3 t4
  have hHas : s.Has ⟨(c : Int), ar⟩ := by
    by_cases hh : s.Has ⟨(c : Int), ar⟩
    · exact hh
    · have := (stepFree_has hs.ok hdf (o := ⟨(c : Int), ar⟩) (by simp only; omega) (fun e => by simp only at e ⊢; have := ha (.inr (by omega)); omega)).2 hh
      rw [hr] at this
      cases this
  have htt : t = (s.took (c : Int)).acted ⟨(c : Int), ar⟩ := by
    have := (stepFree_has hs.ok hdf (o := ⟨(c : Int), ar⟩) (by simp only; omega) (fun e => by simp only at e ⊢; have := ha (.inr (by omega)); omega)).1 hHas
    rw [hr] at this
    exact Option.some.inj this
  have h15 : c = 15 → 0 < (s.took (c : Int)).stack.length := fun e => by
    subst e
    have : s.took ((15 : Nat) : Int) = s.cutTo (s.stack.length - 0) := by unfold Shp.took; simp [takesN]
    rw [this, Nat.sub_zero, Shp.cutTo_all]
    exact t4 rfl
  have HC := hasNeeded_any q base off p s c ar _ H2.out hs HF.out HN.out hc (fun e => ha (.inr e))
  rw [tf_true hHas] at HC
  have HCC := hide HC
  have HT : Hid (∀ W, SbAt W base q off p s → Calls Tryd.prog 29 #[.pointer (some ⟨q, off, none⟩), .int .i64 (takesOf c)] W (TurnsSb W base q off p (s.took (c : Int)))) := hide fun W hW => take_code q base off p s c W hW hs hc t1 t2
  have HA : Hid (∀ W p', base ≤ W.heap.size → SbAt W base q off p' (s.took (c : Int)) → Calls Tryd.prog 30 #[.pointer (some ⟨q, off, none⟩), .agg #[.int .i64 (c : Int), .int .i64 ar]] W (TurnsSb W base q off p' t)) := hide fun W p' hb hW => by
    rw [htt]
    exact act_code q base off p' (s.took (c : Int)) c ar W hW (took_small hs _) hb hc ha (fun e => t3 (by omega)) h15
  obtain ⟨e0, e1, e2, e3, e4, f0, f1, f2, f3, f4⟩ := H2.out.c
  have d0 := hlo.out.cell 0
  have d1 := hlo.out.cell 1
  simp only [jD, jE, jF] at d0 d1
  rw [hdf] at e4
  have hi0 : (0 : Int) ≤ (c : Int) := by omega
  have hi1 : (c : Int) < 20 := by omega
  have hbW : base ≤ (w.alloc (.cells #[.int .i64 (c : Int), .int .i64 ar] 42)).heap.size := by simp; omega
  have hwW : w.heap.size < (w.alloc (.cells #[.int .i64 (c : Int), .int .i64 ar] 42)).heap.size := by simp
  have hqo : w.heap.size ≠ q := by omega
  generalize s.took (c : Int) = s1 at HT HA
  clear h hs hF hN hB0 hr ha hdf t1 t2 t3 t4 hHas htt h15 HC
  go_enter Tryd.func15, Tryd.ntmps15
  go_upto_region 1 with fail
  generalize w.alloc (.cells #[.int .i64 (c : Int), .int .i64 ar] 42) = W at hB hlo H2 HF HN HCC hbW hwW e0 e1 e2 e3 e4 f0 f1 f2 f3 f4 d0 d1 ⊢
  go_wp2_with fail
  refine HCC.out.mono ?_
  rintro e w1 ⟨rfl, hb⟩
  have H3 := hide (H2.out.below hb)
  have HB3 := hide (hB.out.trans (hb.mono hB.out.size))
  have hlo3 := hlo.out.below hb hwW
  have hft := (HF.out.later hb (Nat.le_refl _)).takes c hc
  have hw1 : w.heap.size < w1.heap.size := Nat.lt_of_lt_of_le hwW hb.size
  have hb1 : base ≤ w1.heap.size := Nat.le_trans hbW hb.size
  have d0 := hlo3.cell 0
  have d1 := hlo3.cell 1
  simp only [jD, jE, jF] at d0 d1
  have Hlo3 := hide hlo3
  clear hb e0 e1 e2 e3 e4 f0 f1 f2 f3 f4 HCC H2 HF HN hB hlo hlo3
  go_wp2_with fail
  refine (HT.out _ H3.out).mono ?_
  rintro e w2 ⟨rfl, p2, hS2, hF2⟩
  have hblk := hF2.blk w.heap.size hw1 hqo hoffo
  have hlo4 : Lies w2 w.heap.size #[.int .i64 (c : Int), .int .i64 ar] 42 := hblk.trans Hlo3.out
  have d0 := hlo4.cell 0
  have d1 := hlo4.cell 1
  simp only [jD, jE, jF] at d0 d1
  have hb2 : base ≤ w2.heap.size := Nat.le_trans hb1 hF2.size
  have HF2 := hide hF2
  have HS2 := hide hS2
  clear hblk hlo4 hF2 hS2 hft HT H3
  go_wp2_with fail
  refine (HA.out _ p2 hb2 HS2.out).mono ?_
  rintro e w3 ⟨rfl, p3, hS3, hF3⟩
  have HE := hide (And.intro hS3 (((SbFr.of_below HB3.out hlt).trans HF2.out).trans hF3))
  clear hS3 hF3 HF2 HS2 HA
  go_wp2
  go_ret
  exact ⟨rfl, p3, HE.out.1, HE.out.2⟩
end Go.Proofs.YtbihgafkmmcjlaaDoor

namespace Go.Proofs.YtbihgafkmmcjlaaDoor
open Go.RowKit
set_option linter.unusedVariables false
set_option maxRecDepth 100000 in
set_option maxHeartbeats 1000000 in
theorem implNewShapes_any (w : World) : Calls Tryd.prog 42 #[] w (GivesSh w w.heap.size Shp.new) := by
  obtain ⟨R, hR⟩ : ∃ R, R = List.replicate 20 (-1 : Int) := ⟨_, rfl⟩
  rw [show Shp.new = ⟨[], [], [], R, false⟩ from by rw [hR]; rfl]
  have HR := hide hR
  clear hR
  have hB0 := (Below.refl w.heap.size w).alloc (Nat.le_refl _) (.cells zero5 38)
  have L0 := Lies.new w zero5 38
  have HB0 := hide hB0
  have HL0 := hide L0
  clear hB0 L0
  go_enter Tryd.func42, Tryd.ntmps42
  go_upto_region 1 with fail
  unfold zero5 at HB0 HL0
  generalize w.alloc (.cells #[.slice none 0 0, .slice none 0 0, .slice none 0 0, .slice none 0 0, .bool false] 38) = W at HB0 HL0 ⊢
  have hlt := HL0.out.lt
  have HC := hide (repeat_20 W.heap.size (-1) 1 (W.alloc (.cells #[.int .i64 (-1)] 3)) (by simp) (by simp) (by constructor <;> omega))
  have HA := hide ((Below.refl W.heap.size W).alloc (Nat.le_refl _) (.cells #[.int .i64 (-1)] 3))
  have hz : (W.alloc (.cells #[.int .i64 (-1)] 3)).heap.size = W.heap.size + 1 := by simp
  rw [← HR.out] at HC
  generalize hV : W.alloc (.cells #[.int .i64 (-1)] 3) = V at HC HA hz
  have HV := hide hV
  clear hV
  go_wp2_with (go_at_call 62; rw [HV.out]; refine HC.out.mono ?_; rintro e w2 ⟨A, c, rfl, ho, hb⟩; have hS := (show Lies w2 w.heap.size #[.slice none 0 0, .slice none 0 0, .slice none 0 0, .slice none 0 0, .bool false] 38 from (Lies.below (HL0.out.below HA.out hlt) hb (by omega))); obtain ⟨⟨r0, r1, r2, r3, r4, f0, f1, f2, f3, f4, s0, s1, s2, s3, s4⟩, hlf⟩ := Lies.set5 hS (.slice none 0 0) (.slice none 0 0) (.slice none 0 0) (.slice A R.length c) (.bool false); have HS := hide hS; clear hS; have HO := hide (And.intro ho hb); clear ho hb hlf)
  refine bodyPost_ret (v := shVal ⟨none, 0, none, 0, none, 0, A, c⟩ ⟨[], [], [], R, false⟩) (by simp [shVal, shCells, results, Tryd.results42, go_sem, s0, s1, s2, s3, s4]) rfl ?_
  obtain ⟨ho, hb⟩ := HO.out
  have hbw : Below w.heap.size w w2 := (HB0.out.trans (HA.out.mono (by omega))).trans (hb.mono (by omega))
  have hoff : ShPtr.Off ⟨none, 0, none, 0, none, 0, A, c⟩ w.heap.size := ⟨by simp [blockOf], by simp [blockOf], by simp [blockOf], fun e => by have := ho.blocks w.heap.size e; omega⟩
  refine ⟨⟨none, 0, none, 0, none, 0, A, c⟩, rfl, ?_, set5_below hbw (Nat.le_refl _)⟩
  refine ShOwn.set5 ⟨OwnI.empty _ _, OwnB.empty _ _, OwnI.empty _ _, ho.mono (by omega), ?_, ?_, ?_, ?_, ?_, ?_⟩ hoff <;> simp [blockOf]
end Go.Proofs.YtbihgafkmmcjlaaDoor
