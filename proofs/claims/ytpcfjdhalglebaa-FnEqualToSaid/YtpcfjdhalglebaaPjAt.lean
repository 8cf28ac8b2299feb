/-
  Lemmas, several texts in one: CngE, MgqM, EqualI, ClaI.
-/
import Derived.Test.YtpcfjdhalglebaaPjAl
import Derived.Test.YtpcfjdhalglebaaPjAo
import Derived.Test.YtpcfjdhalglebaaPjAh
import Derived.Test.YtpcfjdhalglebaaPjAk
import Derived.Deep.QuietTactic
import Derived.BigQuiet
import Derived.Test.YtpcfjdhalglebaaPjAj
import Derived.Test.YtpcfjdhalglebaaPjAp
import Derived.Deep.LoopGhost
import Derived.Deep.Cut
import Derived.Deep.RegionLaw
import Derived.WalkMore
namespace Go.Proofs.Ytpcfjdhalglebaa
open Go.RowKit
set_option linter.unusedVariables false

theorem repl_eqq {ns : List Nd} {cl : List Int} (hk : KidsIn ns) (hc : Cong ns cl) : ∀ (d : Nat) (i j : Nat), i < ns.length → j < ns.length → look cl (i : Int) = look cl (j : Int) → Eqq (replNs ns cl) ns d (i : Int) (j : Int)
  | 0, _, _, _, _, _ => trivial
  | d + 1, i, j, hi, hj, h => by
    have hn : ns[i]? = some ns[i] := List.getElem?_eq_getElem hi
    have hm : ns[j]? = some ns[j] := List.getElem?_eq_getElem hj
    have hs := hc.same i j _ _ hn hm h
    obtain ⟨s1, s2, s3⟩ := sig_parts hs
    refine (eqq_step (replNs_at hn) hm d).2 ⟨⟨s1, s2, by have := congrArg List.length s3; simpa [replNd] using this⟩, fun p a b ha hb => ?_⟩
    have ha' : (ns[i].kids.map (look cl))[p]? = some a := ha
    rw [s3, List.getElem?_map, hb] at ha'
    obtain rfl := Option.some.inj ha'
    have hbr := hk _ (List.getElem_mem hj) b (List.mem_of_getElem? hb)
    obtain ⟨b0, hb0⟩ := Int.eq_ofNat_of_zero_le hbr.1
    subst hb0
    have hlr := hc.rng (b0 : Int) hbr.1 hbr.2
    obtain ⟨a0, ha0⟩ := Int.eq_ofNat_of_zero_le hlr.1
    rw [ha0]
    exact repl_eqq hk hc d a0 b0 (by omega) (by omega) (by rw [← ha0, hc.idem _ hbr.1 hbr.2])

theorem repl_eqAll {ns : List Nd} {cl : List Int} (hk : KidsIn ns) (hc : Cong ns cl) {x : Int} (x0 : 0 ≤ x) (x1 : x < ns.length) : EqqAll (replNs ns cl) ns (look cl x) x := fun d => by
  obtain ⟨i, rfl⟩ := Int.eq_ofNat_of_zero_le x0
  have hlr := hc.rng (i : Int) x0 x1
  obtain ⟨j, hj⟩ := Int.eq_ofNat_of_zero_le hlr.1
  rw [hj]
  exact repl_eqq hk hc d j i (by omega) (by omega) (by rw [← hj, hc.idem _ x0 x1])

/-- what is reached in it are nodes that stay as they are -/
theorem repl_reached {ns : List Nd} {cl : List Int} {r : Int} (hv : ValidG ns r) (hc : Cong ns cl) {L : List Int} (hR : Reached (replNs ns cl) (look cl r) L) : ∀ x ∈ L, (0 ≤ x ∧ x < ns.length) ∧ look cl x = x := by
  intro x hx
  have hxr := hR.met.range x hx
  rw [replNs_len] at hxr
  refine ⟨hxr, ?_⟩
  obtain ⟨k, hk, e⟩ := List.getElem_of_mem hx
  have hat : L[k]? = some x := by rw [List.getElem?_eq_getElem hk, e]
  rcases Nat.eq_zero_or_pos k with h0 | h0
  · subst h0
    rw [hR.ord.first x hat]
    exact hc.idem r hv.root0 hv.root
  · obtain ⟨m, y, hm, hy, hin⟩ := hR.ord.later k x h0 hat
    have hyr := hR.met.range y (List.mem_of_getElem? hy)
    rw [replNs_len] at hyr
    obtain ⟨i, n, rfl, hn⟩ := nd_of hyr.1 hyr.2
    rw [kidsOf_repl hn] at hin
    obtain ⟨z, hz, rfl⟩ := List.mem_map.1 hin
    have hzr := validG_kids hv n (List.mem_of_getElem? hn) z hz
    exact hc.idem z hzr.1 hzr.2

theorem repl_repl {ns : List Nd} {cl : List Int} (hk : KidsIn ns) (hc : Cong ns cl) : replNs (replNs ns cl) cl = replNs ns cl := by
  unfold replNs
  rw [List.map_map]
  apply List.map_congr_left
  intro n hn
  unfold replNd
  simp only [Function.comp, List.map_map, Nd.mk.injEq, true_and]
  apply List.map_congr_left
  intro x hx
  have := hk n hn x hx
  exact hc.idem x this.1 this.2

end Go.Proofs.Ytpcfjdhalglebaa

namespace Go.Proofs.Ytpcfjdhalglebaa
open Go.RowKit
set_option linter.unusedVariables false

theorem firstT_spec {ns : List Nd} {i : Nat} {n : Nd} (h : ns[i]? = some n) (hk : n.kind = 1) : ∃ q, ns[firstT ns n.value]? = some q ∧ IsTx n.value q := by
  have hle := firstT_le h ⟨hk, rfl⟩
  have hi := (List.getElem?_eq_some_iff.1 h).1
  have hl : firstT ns n.value < ns.length := by omega
  refine ⟨_, List.getElem?_eq_getElem hl, ?_⟩
  have := List.findIdx_getElem (xs := ns) (p := fun m => decide (IsTx n.value m)) (w := hl)
  exact of_decide_eq_true this

theorem look_txt {ns : List Nd} {i : Nat} (hi : i < ns.length) : look (txtCl ns) (i : Int) = ftx ns i := look_at (txtCl_at hi)

theorem ftx_idem {ns : List Nd} {i : Nat} (hi : i < ns.length) : ∃ j : Nat, ftx ns i = (j : Int) ∧ j < ns.length ∧ ftx ns j = (j : Int) := by
  have hn : ns[i]? = some ns[i] := List.getElem?_eq_getElem hi
  by_cases hk : ns[i].kind = 1
  · obtain ⟨q, hq, ht⟩ := firstT_spec hn hk
    refine ⟨_, ftx_text hn hk, (List.getElem?_eq_some_iff.1 hq).1, ?_⟩
    rw [ftx_text hq ht.1, ht.2]
  · exact ⟨i, ftx_else hn hk, hi, ftx_else hn hk⟩

theorem text_kids {ns : List Nd} {r : Int} (hv : ValidG ns r) {n : Nd} (hn : n ∈ ns) (hk : n.kind = 1) : n.kids = [] := by
  have := (hv.nodes n hn).kind
  unfold KindOk at this
  rw [hk] at this
  apply List.eq_nil_of_length_eq_zero
  omega

theorem cong_txt {ns : List Nd} {r : Int} (hv : ValidG ns r) : Cong ns (txtCl ns) := by
  refine ⟨txtCl_len ns, fun x h0 h1 => ?_, fun x h0 h1 => ?_, fun i j n m hn hm h => ?_⟩
  · obtain ⟨i, rfl⟩ := Int.eq_ofNat_of_zero_le h0
    rw [look_txt (by omega)]
    have := ftx_range (ns := ns) (i := i) (by omega)
    omega
  · obtain ⟨i, rfl⟩ := Int.eq_ofNat_of_zero_le h0
    obtain ⟨j, g1, g2, g3⟩ := ftx_idem (ns := ns) (i := i) (by omega)
    rw [look_txt (by omega), g1, look_txt g2, g3]
  · have hi := (List.getElem?_eq_some_iff.1 hn).1
    have hj := (List.getElem?_eq_some_iff.1 hm).1
    rw [look_txt hi, look_txt hj] at h
    by_cases hk : n.kind = 1
    · obtain ⟨q, hq, ht⟩ := firstT_spec hn hk
      rw [ftx_text hn hk] at h
      by_cases hk2 : m.kind = 1
      · obtain ⟨q2, hq2, ht2⟩ := firstT_spec hm hk2
        rw [ftx_text hm hk2] at h
        have e : firstT ns n.value = firstT ns m.value := by omega
        rw [e, hq2] at hq
        injection hq with hq
        subst hq
        unfold sigOf
        rw [hk, hk2, ← ht.2, ← ht2.2, text_kids hv (List.mem_of_getElem? hn) hk, text_kids hv (List.mem_of_getElem? hm) hk2]
      · rw [ftx_else hm hk2] at h
        have e : firstT ns n.value = j := by omega
        rw [e, hm] at hq
        injection hq with hq
        subst hq
        exact absurd ht.1 hk2
    · rw [ftx_else hn hk] at h
      by_cases hk2 : m.kind = 1
      · obtain ⟨q2, hq2, ht2⟩ := firstT_spec hm hk2
        rw [ftx_text hm hk2] at h
        have e : firstT ns m.value = i := by omega
        rw [e, hn] at hq2
        injection hq2 with hq2
        subst hq2
        exact absurd ht2.1 hk
      · rw [ftx_else hm hk2] at h
        obtain rfl : i = j := by omega
        rw [hn] at hm
        injection hm with hm
        rw [hm]

theorem firstT_repl (ns : List Nd) (cl : List Int) (v : Int) : firstT (replNs ns cl) v = firstT ns v := by
  unfold firstT replNs
  rw [List.findIdx_map]
  rfl

theorem txtCl_repl (ns : List Nd) (cl : List Int) : txtCl (replNs ns cl) = txtCl ns := by
  unfold txtCl
  rw [replNs_len]
  apply List.map_congr_left
  intro i hi
  have hil := List.mem_range.1 hi
  have hn : ns[i]? = some ns[i] := List.getElem?_eq_getElem hil
  by_cases hk : ns[i].kind = 1
  · rw [ftx_text hn hk, ftx_text (replNs_at (cl := cl) hn) hk, firstT_repl]
    rfl
  · rw [ftx_else hn hk, ftx_else (replNs_at (cl := cl) hn) hk]

theorem mrg_valid {ns : List Nd} {r : Int} (hv : ValidG ns r) : ValidG (mrgN ns r) (mrgR ns r) := by
  rw [mrgN_yes hv, mrgR_yes hv]
  exact repl_valid hv (cong_txt hv)

theorem mrg_equal {ns : List Nd} {r : Int} (hv : ValidG ns r) : EqDeepG (mrgN ns r) (mrgR ns r) ns r := by
  refine (eqDeep_iff (mrg_valid hv) hv).2 ?_
  rw [mrgN_yes hv, mrgR_yes hv]
  exact repl_eqAll (validG_kids hv) (cong_txt hv) hv.root0 hv.root

theorem mrg_again {ns : List Nd} {r : Int} (hv : ValidG ns r) : mrgN (mrgN ns r) (mrgR ns r) = mrgN ns r ∧ mrgR (mrgN ns r) (mrgR ns r) = mrgR ns r := by
  have h := mrg_valid hv
  rw [mrgN_yes h, mrgR_yes h]
  rw [mrgN_yes hv, mrgR_yes hv, txtCl_repl]
  exact ⟨repl_repl (validG_kids hv) (cong_txt hv), (cong_txt hv).idem r hv.root0 hv.root⟩

/-- no two equal texts are reached -/
theorem mrg_texts {ns : List Nd} {r : Int} (hv : ValidG ns r) {L : List Int} (hR : Reached (mrgN ns r) (mrgR ns r) L) {i k : Nat} (hk : k < i) {x y : Nat} {m q : Nd} (hx : L[i]? = some (x : Int)) (hy : L[k]? = some (y : Int)) (hm : (mrgN ns r)[x]? = some m) (hq : (mrgN ns r)[y]? = some q) :
    ¬ (m.kind = 1 ∧ q.kind = 1 ∧ m.value = q.value) := by
  rw [mrgN_yes hv, mrgR_yes hv] at hR
  rw [mrgN_yes hv] at hm hq
  rintro ⟨h1, h2, h3⟩
  obtain ⟨⟨_, hx1⟩, hxs⟩ := repl_reached hv (cong_txt hv) hR (x : Int) (List.mem_of_getElem? hx)
  obtain ⟨⟨_, hy1⟩, hys⟩ := repl_reached hv (cong_txt hv) hR (y : Int) (List.mem_of_getElem? hy)
  have hxl : x < ns.length := by omega
  have hyl : y < ns.length := by omega
  have hn : ns[x]? = some ns[x] := List.getElem?_eq_getElem hxl
  have hp : ns[y]? = some ns[y] := List.getElem?_eq_getElem hyl
  rw [replNs_at hn] at hm
  rw [replNs_at hp] at hq
  injection hm with hm
  injection hq with hq
  rw [← hm] at h1 h3
  rw [← hq] at h2 h3
  rw [look_txt hxl, ftx_text hn h1] at hxs
  rw [look_txt hyl, ftx_text hp h2] at hys
  have e : ns[x].value = ns[y].value := h3
  rw [e] at hxs
  have : x = y := by omega
  subst this
  have hil := (List.getElem?_eq_some_iff.1 hx)
  have hkl := (List.getElem?_eq_some_iff.1 hy)
  have := (List.getElem_inj hR.met.nodup).1 (hil.2.trans hkl.2.symm)
  omega

end Go.Proofs.Ytpcfjdhalglebaa

namespace Go.Proofs.Ytpcfjdhalglebaa
open Go.RowKit

set_option maxHeartbeats 1000000 in
theorem equalI_any (A A' : Option Addr) (xs ys : List Int) (c c' : Nat) (w : World) (h : IntsAt w w.heap.size A xs) (h' : IntsAt w w.heap.size A' ys) :
    Calls Try.prog 30 #[.slice A xs.length c, .slice A' ys.length c'] w fun e w' => e = .returned (.bool (decide (xs = ys))) ∧ Below w.heap.size w w' := by
  have hl := h.len
  by_cases hne : xs.length = ys.length
  · have hb0 : ((xs.length : Int) != (ys.length : Int)) = false := by simp [hne]
    go_enter Try.func30, Try.ntmps30
    go_wp2_with fail
    go_loopw [13] (fun i wr => ∃ k : Nat, k ≤ xs.length ∧ i = .int .i64 k ∧ Below w.heap.size w wr ∧ ∀ j, j < k → xs[j]? = ys[j]?) (fun i _ => xs.length - (intOf i).toNat)
    case atStart => exact ⟨0, Nat.zero_le _, rfl, Below.refl _ _, fun j hj => absurd hj (by omega)⟩
    case round =>
      obtain ⟨k, hk, rfl, hb, he0⟩ := hrel
      have he := hide he0
      clear he0
      by_cases hlt : k < xs.length
      · obtain ⟨b, off, x, rfl, hbl, hx, _, hcx⟩ := (h.below hb).at_ hlt
        obtain ⟨b', off', y, rfl, hbl', hy, _, hcy⟩ := (h'.below hb).at_ (k := k) (by omega)
        have Hx := hide hx
        have Hy := hide hy
        clear hx hy
        have hk1 : (0 : Int) ≤ (k : Int) := by omega
        have hk2 : (k : Int) < (xs.length : Int) := by omega
        have hk3 : (k : Int) < (ys.length : Int) := by omega
        by_cases hxy : x = y
        · subst hxy
          go_wp2_with fail
          go_quiet (fail)
          go_wp2
          go_roundw
          case rel => exact ⟨k + 1, by omega, by go_num, below_drewN hb _, fun j hj => by
            by_cases e : j = k
            · subst e; rw [Hx.out, Hy.out]
            · exact he.out j (by omega)⟩
          case measure => simp [intOf]; omega
        · have hn1 : (x != y) = true := by simpa using hxy
          have hF : decide (xs = ys) = false := by
            simp only [decide_eq_false_iff_not]
            intro e
            subst e
            have := Hx.out.symm.trans Hy.out
            injection this with this
            exact hxy this
          have HF := hide hF
          clear hF
          go_wp2_with fail
          go_quiet (fail)
          go_wp2
          go_ret
          exact ⟨ret_bool HF.out.symm, below_drewN hb _⟩
      · obtain rfl : k = xs.length := by omega
        have hF : decide (xs = ys) = true := by
          simp only [decide_eq_true_eq]
          exact eq_of_prefix hne rfl he.out
        have HF := hide hF
        clear hF hlt
        go_wp2
        go_ret
        exact ⟨ret_bool HF.out.symm, hb⟩
  · have hb1 : ((xs.length : Int) != (ys.length : Int)) = true := by simp; omega
    have hF : decide (xs = ys) = false := by
      simp only [decide_eq_false_iff_not]
      intro e
      exact hne (by rw [e])
    have HF := hide hF
    clear hF
    go_enter Try.func30, Try.ntmps30
    go_wp2
    go_ret
    exact ⟨ret_bool HF.out.symm, Below.refl _ _⟩

end Go.Proofs.Ytpcfjdhalglebaa

namespace Go.Proofs.Ytpcfjdhalglebaa
open Go.RowKit
set_option linter.unusedVariables false

theorem cls_64 {ns : List Nd} (hn : ns.length ≤ 1000) (d : Nat) : ∀ x ∈ clsN ns d, In64 x := by
  intro x hx
  have := clsN_in ns d x hx
  constructor <;> omega

set_option maxRecDepth 100000 in
set_option maxHeartbeats 4000000 in
theorem classesUpTo_any (A : Option Addr) (ns : List Nd) (c : Nat) (d : Nat) (w : World) (hr : NdsAt w w.heap.size A ns) (hK : KidsIn ns) (hn : ns.length ≤ 1000) (hd : d ≤ 1000) (hc : ns.length ≤ c) :
    Calls Try.prog 12 #[.slice A ns.length c, .int .i64 (d : Int)] w (GivesInts w (clsN ns d)) := by
  have hmk : ∀ w : World, _ := run_make_row' (P := Try.prog) 35 3 (.int .i64 0) 8 Try.underlying35 infoInt rfl .i64 .i64 ns.length (by omega) (by omega)
  have Hr := hide hr
  have HK := hide hK
  have hB0 := ((Below.refl w.heap.size w).alloc (Nat.le_refl _) (.cells (madeCells #[.int .i64 0] ns.length) 3)).alloc (by simp) (.cells (madeCells #[.int .i64 0] ns.length) 3)
  have hR1 := RowL.made w ns.length
  have hR1' : RowL ((w.alloc (.cells (madeCells #[.int .i64 0] ns.length) 3)).alloc (.cells (madeCells #[.int .i64 0] ns.length) 3)) w.heap.size (List.replicate ns.length 0) := hR1.later ((Below.refl _ _).alloc (Nat.le_refl _) _)
  have hR2 := RowL.made (w.alloc (.cells (madeCells #[.int .i64 0] ns.length) 3)) ns.length
  simp only [World.size_alloc] at hR2
  clear hr hK hR1
  go_enter Try.func12, Try.ntmps12
  go_wp2_with fail
  clear hmk
  generalize (w.alloc (.cells (madeCells #[.int .i64 0] ns.length) 3)).alloc (.cells (madeCells #[.int .i64 0] ns.length) 3) = W at hB0 hR1' hR2 ⊢
  have HB0 := hide hB0
  have HR1 := hide hR1'
  have HR2 := hide hR2
  have hW2 : w.heap.size + 1 < W.heap.size := hR2.lt
  clear hB0 hR1' hR2
  go_loopg [7, 8, 9, 10, 18, 25, 34] d (fun gk _ _ _ _ rv _ _ wr => ∃ (r : Nat) (bs : List Int), r ≤ d ∧ gk = d - r ∧ rv = .int .i64 (r : Int) ∧ Hid (bs.length = ns.length) ∧ RowL wr w.heap.size (clsN ns r) ∧ RowL wr (w.heap.size + 1) bs ∧ Below w.heap.size w wr)
  case atStart => exact ⟨0, List.replicate ns.length 0, Nat.zero_le _, rfl, rfl, hide (by simp), HR1.out, HR2.out, HB0.out⟩
  case round =>
    clear HR1 HR2
    obtain ⟨r, bs, hrd, rfl, rfl, hbs, h1, h2, hb⟩ := hrel
    have hC64 := hide (cls_64 hn r)
    have hl0 : Hid ((clsN ns r).length = ns.length) := clsN_len ns r
    have hl1 : Hid ((finer ns (clsN ns r)).length = ns.length) := finer_len ns _
    have hin := hide (clsN_in ns r)
    have HK2 := hide (fun (x : Int) (hx : 0 ≤ x ∧ x < ns.length) => show 0 ≤ x ∧ x < ((clsN ns r).length : Int) by rw [hl0.out]; exact hx)
    have Hb := hide hb
    have H1 := hide h1
    have H2 := hide h2
    clear h1 h2 hb
    by_cases hlt : r < d
    · have hlt2 : (r : Int) < (d : Int) := by omega
      have HSt : Hid (finer ns (clsN ns r) = clsN ns (r + 1)) := rfl
      generalize hC : clsN ns r = C at *
      have HC := hide hC
      clear hC
      have hcl : C.length ≤ 1000 := by rw [hl0.out]; exact hn
      have hw1 : w.heap.size + 1 < wr.heap.size := H2.out.lt
      have hg12 : w.heap.size < w.heap.size + 1 := by omega
      go_wp2_with fail
      go_step3
      go_wp2_with (with_reducible refine copy_rowL rfl (.tmp 20) (.tmp 21) rfl ns.length w.heap.size (w.heap.size + 1) rfl rfl C bs H1.out H2.out hl0.out hbs.out ?_; intro w2 hc2 hb2)
      go_step3
      have HR1 := hide (H1.out.below hb2 hg12)
      have HR2 := hide hc2
      have HB2 := hide (Hb.out.trans (hb2.mono (by omega)))
      have hs2 := hb2.size
      clear hc2 hb2
      generalize hC1 : finer ns C = C1 at hl1 HSt
      have HC1 := hide hC1
      clear hC1
      go_wp2_with fail
      go_loopg [7, 8, 9, 10, 25, 34] ns.length (fun gk _ _ _ _ iv _ wi => ∃ i : Nat, i ≤ ns.length ∧ gk = ns.length - i ∧ iv = .int .i64 (i : Int) ∧ RowL wi w.heap.size (mixL C1 C i) ∧ RowL wi (w.heap.size + 1) C ∧ Below w.heap.size w wi)
      case atStart => exact ⟨0, Nat.zero_le _, rfl, rfl, by rw [mixL_zero]; exact HR1.out, HR2.out, HB2.out⟩
      case round =>
        clear HR1 HR2 HB2 H1 H2 Hb
        obtain ⟨i, hi, rfl, rfl, h1, h2, hb⟩ := hrel
        have H1 := hide h1
        have H2 := hide h2
        have Hb := hide hb
        clear h1 h2 hb
        by_cases hli : i < ns.length
        · obtain ⟨b, off, n, rfl, hbn, hn', hmn, hnd⟩ := (Hr.out.below Hb.out).at_ hli
          obtain ⟨An, cn, kn2, hkn, _⟩ := hnd.kids
          have kn0 := hnd.kind
          have kn1 := hnd.value
          have HN := hide hn'
          have HKn := hide (HK.out n hmn)
          have Hkl := hide hkn.len
          have hi0 : (0 : Int) ≤ (i : Int) := by omega
          have hi1 : (i : Int) < (ns.length : Int) := by omega
          have hi2 : (i : Int) ≤ (ns.length : Int) := by omega
          have hi3 : (i : Int) ≤ (c : Int) := by omega
          have hwle : w.heap.size ≤ wr.heap.size := Hb.out.size
          have hb8 := (Below.refl wr.heap.size wr).alloc (Nat.le_refl _) (.cells #[.int .i64 n.kind, .int .i64 n.value, .slice An n.kids.length cn] 50)
          have l8 := Lies.new wr #[.int .i64 n.kind, .int .i64 n.value, .slice An n.kids.length cn] 50
          have HR1 := hide (H1.out.later hb8)
          have HR2 := hide (H2.out.later hb8)
          have HB8 := hide (Hb.out.trans (hb8.mono hwle))
          have HkN := hide (hkn.below (hb8.mono hwle))
          have hw1 : w.heap.size + 1 < wr.heap.size := H2.out.lt
          clear hn' hmn hnd hkn
          go_wp2_with fail
          generalize wr.alloc (.cells #[.int .i64 n.kind, .int .i64 n.value, .slice An n.kids.length cn] 50) = w8 at HR1 HR2 HB8 HkN l8 ⊢
          have HL8 := hide l8
          generalize wr.heap.size = b8 at HL8 hw1 hwle ⊢
          have hb8l : b8 < w8.heap.size := HL8.out.lt
          clear l8 hb8 H1 H2 Hb
          go_loopg [9, 10, 34] i (fun gk _ _ jv wi => ∃ j : Nat, j ≤ i ∧ gk = i - j ∧ jv = .int .i64 (j : Int) ∧ Below w8.heap.size w8 wi ∧ ∀ (k : Nat) (q : Nd), k < j → ns[k]? = some q → sigOf C q ≠ sigOf C n)
          case atStart => exact ⟨0, Nat.zero_le _, rfl, rfl, Below.refl _ _, fun k q hk => absurd hk (by omega)⟩
          case round =>
            obtain ⟨j, hj, rfl, rfl, hb, hall0⟩ := hrel
            have hall := hide hall0
            have Hb := hide hb
            have hszw := hb.size
            clear hall0 hb
            have HBw := hide (HB8.out.trans (Hb.out.mono HB8.out.size))
            have H1 := hide (HR1.out.later Hb.out)
            have H2 := hide (HR2.out.later Hb.out)
            have hLi := HL8.out.below Hb.out hb8l
            have g0 := hLi.cell 0
            have g1 := hLi.cell 1
            have g2 := hLi.cell 2
            simp only [List.getElem?_toArray, List.getElem?_cons_zero, List.getElem?_cons_succ] at g0 g1 g2
            clear hLi
            by_cases hlj : j < i
            · obtain ⟨b', off', m, e1, hbm, hm, hmm, hmd⟩ := (Hr.out.below HBw.out).at_ (k := j) (by omega)
              injection e1 with e1
              injection e1 with e2 e3
              subst e2 e3
              obtain ⟨Am, cm, km2, hkm, _⟩ := hmd.kids
              have km0 := hmd.kind
              have km1 := hmd.value
              have HM := hide hm
              have HKm := hide (HK.out m hmm)
              have hj0 : (0 : Int) ≤ (j : Int) := by omega
              have hj1 : (j : Int) < (i : Int) := by omega
              have hbx := (Below.refl wr.heap.size wr).alloc (Nat.le_refl _) (.cells #[.int .i64 m.kind, .int .i64 m.value, .slice Am m.kids.length cm] 50)
              have hww : w.heap.size ≤ wr.heap.size := HBw.out.size
              have hw8 : w.heap.size ≤ w8.heap.size := HB8.out.size
              have hwx : w.heap.size ≤ (wr.alloc (.cells #[.int .i64 m.kind, .int .i64 m.value, .slice Am m.kids.length cm] 50)).heap.size := by simp; omega
              have hcall := hide (areAlike_any Am An m n cm cn (some ⟨w.heap.size + 1, 0, none⟩) C ns.length (wr.alloc (.cells #[.int .i64 m.kind, .int .i64 m.value, .slice Am m.kids.length cm] 50)) ((H2.out.later hbx).ints hC64.out (by omega)) ((hkm.below (hbx.mono hww)).more hwx) (((HkN.out.below (Hb.out.mono hw8)).below (hbx.mono hww)).more hwx) (fun x hx => HK2.out x (HKm.out x hx)) (fun x hx => HK2.out x (HKn.out x hx)))
              rw [hl0.out] at hcall
              have hrow1 := hide (H1.out.later hbx)
              have hrow2 := hide (H2.out.later hbx)
              have HBx := hide (HBw.out.trans (hbx.mono HBw.out.size))
              have HBx8 := hide (Hb.out.trans (hbx.mono hszw))
              have lx := Lies.new wr #[.int .i64 m.kind, .int .i64 m.value, .slice Am m.kids.length cm] 50
              have x0 := lx.cell 0
              have x1 := lx.cell 1
              have x2 := lx.cell 2
              simp only [List.getElem?_toArray, List.getElem?_cons_zero, List.getElem?_cons_succ] at x0 x1 x2
              have f0 := (hbx.cell (p := ⟨b8, 0, none⟩) (by show b8 < _; omega)).trans g0
              have f1 := (hbx.cell (p := ⟨b8, 1, none⟩) (by show b8 < _; omega)).trans g1
              have f2 := (hbx.cell (p := ⟨b8, 2, none⟩) (by show b8 < _; omega)).trans g2
              clear hm hmm hmd hkm lx hbx g0 g1 g2 hwx
              go_upto_region 12 with fail
              generalize wr.alloc (.cells #[.int .i64 m.kind, .int .i64 m.value, .slice Am m.kids.length cm] 50) = wx at hcall hrow1 hrow2 HBx HBx8 x0 x1 x2 f0 f1 f2 ⊢
              generalize wr.heap.size = bx at x0 x1 x2 hww hszw ⊢
              by_cases hs : sigOf C m = sigOf C n
              · have hfin := hide (finer_first (cl := C) HN.out HM.out hs (fun k q hk hq => hall.out k q hk hq))
                rw [tf_true hs] at hcall
                clear hs
                go_wp2_with fail
                refine hcall.out.mono ?_
                rintro e wy ⟨rfl, hby⟩
                have hR1 := hrow1.out.later hby
                have hR2 := hrow2.out.later hby
                have HBy := hide (HBx.out.trans (hby.mono HBx.out.size))
                have hfr := hR1.frozen i
                have hml : (mixL C1 C i).length = C.length := mixL_len (by rw [hl1.out, hl0.out])
                obtain ⟨v0, hv0⟩ : ∃ v, (mixL C1 C i)[i]? = some v := ⟨_, List.getElem?_eq_getElem (by rw [hml, hl0.out]; exact hli)⟩
                have hce := hR1.cell hv0
                have hset := hR1.set i (j : Int)
                have hfi : C1[i]? = some (j : Int) := by rw [← HC1.out]; exact hfin.out
                rw [mixL_set (by rw [hl1.out, hl0.out]) hfi] at hset
                have HS1 := hide hset
                have HS2 := hide (hR2.far (q := w.heap.size) (j := i) (v := .int .i64 (j : Int)) (by omega))
                have HBs := hide (HBy.out.setCell (p := ⟨w.heap.size, i, none⟩) (Nat.le_refl _) (.int .i64 (j : Int)))
                clear hby hR1 hR2 hset hv0 hml hfi hfin hcall x0 x1 x2 f0 f1 f2
                go_wp2
                go_roundg (ns.length - (i + 1))
                case measure => omega
                case rel => exact ⟨i + 1, by omega, rfl, by go_num, HS1.out, HS2.out, HBs.out⟩
              · have Hs := hide hs
                rw [tf_false hs] at hcall
                clear hs
                go_wp2_with fail
                refine hcall.out.mono ?_
                rintro e wy ⟨rfl, hby⟩
                have HBy := hide (HBx8.out.trans (hby.mono HBx8.out.size))
                clear hby hcall x0 x1 x2 f0 f1 f2
                go_wp2
                go_roundg (i - (j + 1))
                case measure => omega
                case rel => exact ⟨j + 1, by omega, rfl, by go_num, HBy.out, fun k q hk hq => by
                  by_cases e : k = j
                  · subst e
                    rw [HM.out] at hq
                    injection hq with hq
                    rw [← hq]
                    exact Hs.out
                  · exact hall.out k q (by omega) hq⟩
            · obtain rfl : j = i := by omega
              have hfin := hide (finer_first (cl := C) HN.out HN.out rfl (fun k q hk hq => hall.out k q hk hq))
              have hjj : decide ((j : Int) < (j : Int)) = false := by simp
              have hR1 := H1.out
              have hfr := hR1.frozen j
              have hml : (mixL C1 C j).length = C.length := mixL_len (by rw [hl1.out, hl0.out])
              obtain ⟨v0, hv0⟩ : ∃ v, (mixL C1 C j)[j]? = some v := ⟨_, List.getElem?_eq_getElem (by rw [hml, hl0.out]; exact hli)⟩
              have hce := hR1.cell hv0
              have hset := hR1.set j (j : Int)
              have hfi : C1[j]? = some (j : Int) := by rw [← HC1.out]; exact hfin.out
              rw [mixL_set (by rw [hl1.out, hl0.out]) hfi] at hset
              have HS1 := hide hset
              have HS2 := hide (H2.out.far (q := w.heap.size) (j := j) (v := .int .i64 (j : Int)) (by omega))
              have HBs := hide (HBw.out.setCell (p := ⟨w.heap.size, j, none⟩) (Nat.le_refl _) (.int .i64 (j : Int)))
              clear hR1 hset hv0 hml hfi hfin g0 g1 g2 hlj
              go_wp2
              go_roundg (ns.length - (j + 1))
              case measure => omega
              case rel => exact ⟨j + 1, by omega, rfl, by go_num, HS1.out, HS2.out, HBs.out⟩
        · obtain rfl : i = ns.length := by omega
          have hii : decide ((ns.length : Int) < (ns.length : Int)) = false := by simp
          have H1' : Hid (RowL wr w.heap.size C1) := by
            have := H1.out
            rw [← hl0.out, mixL_all (by rw [hl1.out, hl0.out])] at this
            exact this
          clear H1
          have hcl1 : C1.length ≤ 1000 := by rw [hl1.out]; exact hn
          have h164 : ∀ x ∈ C1, In64 x := by rw [HSt.out]; exact cls_64 hn (r + 1)
          have hi1 := H1'.out.ints h164 (by omega)
          have hi2 := H2.out.ints hC64.out (by omega)
          have HEQ := hide (equalI_any (some ⟨w.heap.size + 1, 0, none⟩) (some ⟨w.heap.size, 0, none⟩) C C1 ns.length ns.length wr hi2 hi1)
          rw [hl0.out, hl1.out] at HEQ
          clear hi1 hi2 h164
          by_cases he : C = C1
          · have hst : clsN ns d = C1 := by
              have h1 : clsN ns (r + 1) = clsN ns r := by rw [← HSt.out, HC.out, ← he]
              have h2 := cls_stays h1 (d - r)
              rw [show r + (d - r) = d by omega] at h2
              rw [h2, HC.out, he]
            have HE := hide he
            rw [decide_eq_true he] at HEQ
            clear he
            go_wp2_with fail
            refine HEQ.out.mono ?_
            rintro e wy ⟨rfl, hby⟩
            have HO := hide ((H1'.out.later hby).own (base := w.heap.size) (Nat.le_refl _) (by unfold maxLen; omega))
            have HBy := hide (Hb.out.trans (hby.mono Hb.out.size))
            clear hby HEQ
            have Hst := hide hst
            clear hst
            go_wp2
            rw [Exit.noGoto_exit]
            go_wp2
            go_ret
            refine ⟨some ⟨w.heap.size, 0, none⟩, ns.length, by rw [Hst.out, hl1.out]; rfl, ?_, HBy.out⟩
            have h3 := HO.out
            rw [hl1.out] at h3
            rw [Hst.out]
            exact h3
          · rw [decide_eq_false he] at HEQ
            have HL : Hid (bs.length = ns.length) := hbs
            go_wp2_with fail
            refine HEQ.out.mono ?_
            rintro e wy ⟨rfl, hby⟩
            have HBy := hide (Hb.out.trans (hby.mono Hb.out.size))
            have HR1 := hide (H1'.out.later hby)
            have HR2 := hide (H2.out.later hby)
            clear hby HEQ
            go_wp2
            rw [Exit.noGoto_normal]
            go_wp2
            go_roundg (d - (r + 1))
            case measure => omega
            case rel => exact ⟨r + 1, C, by omega, rfl, by go_num, hl0, by rw [← HSt.out]; exact HR1.out, HR2.out, HBy.out⟩
    · obtain rfl : r = d := by omega
      have hlt2 : decide ((r : Int) < (r : Int)) = false := by simp
      have HO := hide (H1.out.own (Nat.le_refl _) (by rw [hl0.out]; unfold maxLen; omega))
      have HE : Hid ((clsN ns r).length = ns.length) := hl0
      go_wp2
      go_ret
      refine ⟨some ⟨w.heap.size, 0, none⟩, ns.length, by rw [HE.out]; rfl, ?_, Hb.out⟩
      have := HO.out
      rw [HE.out] at this
      exact this

end Go.Proofs.Ytpcfjdhalglebaa
