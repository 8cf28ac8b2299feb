/-
  Lemmas, several texts in one: SpecD, RowD.
-/
import Derived.Test.YtpcfjdhalglebabPjAg
import Derived.Test.YtpcfjdhalglebabPjAc
import Derived.StillTailTactics
import Derived.Test.YtpcfjdhalglebabPjAe
import Derived.Test.YtpcfjdhalglebabOwnN
namespace Go.Proofs.Ytpcfjdhalglebab
open Go.RowKit
set_option linter.unusedVariables false

/-- what tupleReach hands back -/
def GivesReach (w : World) (ns : List Nd) (i : Int) (e : Ending) (w' : World) : Prop :=
  ∃ A c out, e = .returned (.slice A out.length c) ∧ OwnI w' w.heap.size A c out ∧ Below w.heap.size w w' ∧ (∀ x, x ∈ out ↔ TReach ns i x) ∧ (∀ x ∈ out, 0 ≤ x ∧ x < ns.length) ∧ out.length ≤ ns.length

/-- every node's kids are few and are nodes -/
def KidsOk (ns : List Nd) : Prop := ns.length ≤ 12 ∧ ∀ n ∈ ns, n.kids.length ≤ 6 ∧ ∀ x ∈ n.kids, 0 ≤ x ∧ x < ns.length

theorem in64_of_range {ns : List Nd} {out : List Int} (h12 : ns.length ≤ 12) (h : ∀ x ∈ out, 0 ≤ x ∧ x < ns.length) : ∀ x ∈ out, In64 x := fun x hx => by
  have := h x hx
  constructor <;> omega

set_option maxRecDepth 100000 in
set_option maxHeartbeats 4000000 in
theorem tupleReach_any (A : Option Addr) (ns : List Nd) (c : Nat) (r : Int) (i : Nat) (w : World) (hr : NdsAt w w.heap.size A ns) (hko : KidsOk ns) (hi : i < ns.length) :
    Calls Try.prog 36 #[.agg #[.slice A ns.length c, .int .i64 r], .int .i64 (i : Int)] w (GivesReach w ns i) := by
  obtain ⟨h12, hkids0⟩ := hko
  have hkids := hide hkids0
  clear hkids0
  have hB : Below w.heap.size w ((w.alloc (.cells #[.slice A ns.length c, .int .i64 r] 25)).alloc (.cells #[] 3)) := ((Below.refl _ _).alloc (Nat.le_refl _) _).alloc (by simp) _
  have l1 := (Lies.new w #[.slice A ns.length c, .int .i64 r] 25).alloc (.cells #[] 3)
  have hr2 := hr.below hB
  have hbare := OwnI.bare (w.alloc (.cells #[.slice A ns.length c, .int .i64 r] 25))
  simp only [World.size_alloc] at hbare
  clear hr
  have hi1 : (0 : Int) ≤ (i : Int) := by omega
  have hi2 : (i : Int) < (ns.length : Int) := by omega
  obtain ⟨b, off, n, rfl, hbl, hat, hmem, hN⟩ := hr2.at_ hi
  obtain ⟨hn_k, hn_v, ⟨A1, c1, hn_s, hI1', hnil1⟩, _, _⟩ := hN
  have hI1 := hI1'.more hB.size
  clear hI1'
  obtain ⟨hkn, hkr0⟩ := hkids.out n hmem
  have hkr := hide hkr0
  have hki := hide (kidsOf_at hat)
  clear hat hmem hn_k hn_v hkr0
  go_enter Try.func36, Try.ntmps36
  go_wp2_with fail
  generalize hWd : (w.alloc (.cells #[.slice (some ⟨b, off, none⟩) ns.length c, .int .i64 r] 25)).alloc (.cells #[] 3) = W at hB l1 hr2 hbl hn_s hI1 hbare ⊢
  have hWs : w.heap.size + 2 = W.heap.size := by rw [← hWd]; simp
  have HWs := hide hWs
  clear hWd hWs
  refine (copyInts_any A1 n.kids c1 W hI1 hnil1 (by omega)).mono ?_
  rintro e w1 ⟨Al, cl, rfl, hlist, hb1⟩
  go_wp2_with fail
  go_loopw [5, 6, 7] (fun o l iv wr => ∃ (out list : List Int) (Ao Al : Option Addr) (co cl k : Nat), o = .slice Ao out.length co ∧ l = .slice Al list.length cl ∧ iv = .int .i64 k ∧ k ≤ list.length ∧
      OwnI wr (w.heap.size + 1) Ao co out ∧ OwnI wr (w.heap.size + 1) Al cl list ∧ Below (w.heap.size + 1) W wr ∧ (∀ g, blockOf Ao = some g → blockOf Al ≠ some g) ∧ TInv ns i out list k) (fun _ _ iv _ => 79 - (intOf iv).toNat)
  case atStart =>
    refine ⟨[], n.kids, _, Al, _, cl, 0, rfl, rfl, rfl, Nat.zero_le _, hbare.below hb1, hlist.mono (by have := HWs.out; omega), hb1.mono (by have := HWs.out; omega), ?_, ?_⟩
    · intro g hg hg2
      simp [blockOf] at hg
      have := hlist.blocks g hg2
      have := HWs.out
      omega
    · have := TInv.start (ns := ns) (i := i) (by rw [hki.out]; exact hkn) (by rw [hki.out]; exact hkr.out)
      rw [hki.out] at this
      exact this
  case round =>
    obtain ⟨out, list, Ao, Al', co, cl', k, rfl, rfl, rfl, hkl, hout, hli, hb, hap0, hinv⟩ := hrel
    clear hlist hbare hb1 hn_s hI1
    have hap := hide hap0
    clear hap0
    have hsz : w.heap.size + 2 ≤ wr.heap.size := by have := hb.size; have := HWs.out; omega
    have Hinv := hide hinv
    have hk78 := hinv.listLen h12
    have ho12 := hinv.outLen
    have wfo : ∀ x ∈ out, In64 x := in64_of_range h12 fun x hx => hinv.range x (hinv.sub x hx)
    have wfl : ∀ x ∈ list, In64 x := in64_of_range h12 hinv.range
    have hio := hout.ints wfo (by omega)
    have hil := hli.ints wfl (by omega)
    have Wfo := hide wfo
    have Wfl := hide wfl
    clear hinv wfo wfl
    have l1r := l1.below hb (by omega)
    have e0 := l1r.cell 0
    simp at e0
    by_cases hlt : k < list.length
    · obtain ⟨b2, off2, x, rfl, hbl2, hx, hxm, hcx⟩ := hil.at_ hlt
      obtain ⟨hx0, hx1⟩ := Hinv.out.range x hxm
      obtain ⟨y, rfl⟩ := Int.eq_ofNat_of_zero_le hx0
      have Hx := hide hx
      clear hx hxm
      have hk1 : (0 : Int) ≤ (k : Int) := by omega
      have hk2 : (k : Int) < (list.length : Int) := by omega
      go_wp2_with fail
      refine (placeIn_any Ao out co y wr hio).mono ?_
      rintro e w' ⟨rfl, rfl⟩
      by_cases hmem : (y : Int) ∈ out
      · have hp := place_lt hmem
        have hd : decide (place out y < 0) = false := by simp; omega
        generalize place out y = pl at hp hd ⊢
        have Hn := hide (Hinv.out.seen Hx.out hmem)
        clear hmem
        go_wp2
        go_roundw
        case rel => exact ⟨out, list, Ao, _, co, cl', k + 1, rfl, rfl, by go_num, by omega, hout, hli, hb, hap.out, Hn.out⟩
        case measure => simp [intOf]; omega
      · rw [place_neg hmem]
        have hIone := IntsAt.one wr y (by constructor <;> omega)
        go_wp2_with (at_builtin; refine append_ints rfl (.tmp 29) (.tmp 34) rfl (w.heap.size + 1) Ao co out rfl (hout.alloc _) (wr.heap.size + 1) _ 1 [(y : Int)] rfl (fun e => by cases e) hIone (by simp; omega) (by simp; omega) ?_; intro zs A' c' w2 hz hown2 hg2 hat2)
        have hb2 : Below (w.heap.size + 1) W w2 := below_grown (hb.alloc (by omega) _) hg2 (by simp; omega) (fun k hk => (hout.blocks k hk).1)
        have hli2 : OwnI w2 (w.heap.size + 1) (some ⟨b2, off2, none⟩) cl' list := (hli.alloc _).kept hg2 (.inr (fun e => hap.out b2 (by rw [← e]; simp [blockOf]) (by simp [blockOf])))
        have hap2 : Hid (∀ g, blockOf A' = some g → blockOf (some (⟨b2, off2, none⟩ : Addr)) ≠ some g) := by
          intro g hg e
          rcases hat2 with h | h
          · exact hap.out g (by rw [← h]; exact hg) e
          · simp only [World.size_alloc] at h
            have := hli.blocks b2 (by simp [blockOf])
            rw [hg] at h
            simp [blockOf] at e h
            omega
        clear hat2 hg2 hio hIone hap hout hli hil e0 l1r
        have hil2 := hli2.ints Wfl.out (by omega)
        have e0 := (l1.below hb2 (by omega)).cell 0
        simp at e0
        obtain ⟨_, _, _, he2, _, hx2, _, hcx2⟩ := hil2.at_ hlt
        simp only [Option.some.injEq, Addr.mk.injEq, and_true] at he2
        obtain ⟨rfl, rfl⟩ := he2
        obtain rfl := Option.some.inj (hx2.symm.trans Hx.out)
        obtain ⟨b3, off3, m, he3, hbl3, hat3, hmm, hM⟩ := (hr2.below (hb2.mono (by omega))).at_ (k := y) (by omega)
        simp only [Option.some.injEq, Addr.mk.injEq, and_true] at he3
        obtain ⟨rfl, rfl⟩ := he3
        obtain ⟨hm_k, hm_v, ⟨A2, c2, hm_s, hI2', hnil2⟩, _, _⟩ := hM
        have hI2 := hI2'.more (show w.heap.size ≤ w2.heap.size by have := hB.size; have := hb2.size; omega)
        clear hI2'
        obtain ⟨hkm, hkr0'⟩ := hkids.out m hmm
        have hkr2 := hide hkr0'
        have hkk := hide (kindOf_at hat3)
        have hkk2 := hide (kidsOf_at hat3)
        clear hx2 hat3 hmm hkr0' hm_v hcx
        have hy1 : (0 : Int) ≤ (y : Int) := by omega
        have hb3 : Below (w.heap.size + 1) W w2.drew := hb2.drew
        have hown3 := hown2.drew
        have hli3 := hli2.drew
        have hI3 : IntsAt w2.drew w2.drew.heap.size A2 m.kids := hI2.later (Below.refl _ _).drew (Nat.le_refl _)
        have f0 : w2.drew.cell? ⟨w.heap.size, 0, none⟩ = some (.slice (some ⟨b, off, none⟩) ns.length c) := e0
        have f1 : w2.drew.cell? ⟨b2, off2 + k, none⟩ = some (.int .i64 (y : Int)) := hcx2
        have f2 : w2.drew.cell? ⟨b, off + y * 3 + 2, none⟩ = some (.slice A2 m.kids.length c2) := hm_s
        have f3 : w2.drew.cell? ⟨b, off + y * 3, none⟩ = some (.int .i64 m.kind) := hm_k
        by_cases h2 : m.kind = 2
        · have t2 : (m.kind == 2) = true := by rw [beq_iff_eq]; exact h2
          have Hn := hide (Hinv.out.tuple Hx.out hmem (by rw [hkk.out]; exact h2) (by rw [hkk2.out]; exact hkm) (by rw [hkk2.out]; exact hkr2.out))
          clear hmem h2
          go_wp2_with fail
          go_still_tail 9, (by kernel_rfl)
          change wpList _ _ _ _ _ w2.drew
          generalize w2.drew = w3 at hb3 hown3 hli3 hI3 f0 f1 f2 f3 ⊢
          clear hb2 hown2 hli2 hI2 e0 hcx2 hm_s hm_k hil2
          have hb4 : Below (w.heap.size + 1) W w3.drew := hb3.drew
          have hown4 := hown3.drew
          have hli4 := hli3.drew
          have hI4 : IntsAt w3.drew w3.drew.heap.size A2 m.kids := hI3.later (Below.refl _ _).drew (Nat.le_refl _)
          go_wp2_with fail
          go_still_tail 10, (by kernel_rfl)
          change wpList _ _ _ _ _ w3.drew
          generalize w3.drew = w4 at hb4 hown4 hli4 hI4 ⊢
          clear hb3 hown3 hli3 hI3 f0 f1 f2 f3
          go_wp2_with (at_builtin; refine append_ints rfl (.tmp 46) (.tmp 55) rfl (w.heap.size + 1) _ cl' list rfl hli4 _ A2 c2 m.kids rfl hnil2 hI4 (by omega) (by have := hb4.size; have := HWs.out; omega) ?_; intro ls Al2 cl2 w5 hls hown5 hg5 hat5)
          go_roundw
          case rel =>
            refine ⟨zs, ls, A', Al2, c', cl2, k + 1, rfl, rfl, by go_num, ?_, ?_, hown5, ?_, ?_, ?_⟩
            · rw [hls.out]; simp; omega
            · exact hown4.kept hg5 (by
                cases hA : blockOf A' with
                | none => exact .inl rfl
                | some g => exact .inr (fun e => hap2.out g hA e.symm))
            · exact below_grown hb4 hg5 (by have := hb4.size; have := HWs.out; omega) (fun k hk => (hli4.blocks k hk).1)
            · intro g hg e
              rcases hat5 with h | h
              · exact hap2.out g hg (by rw [← h]; exact e)
              · rw [h] at e
                have := hown4.blocks g hg
                simp at e
                omega
            · rw [hz.out, hls.out, ← hkk2.out]
              exact Hn.out
          case measure => simp [intOf]; omega
        · have t2 : (m.kind == 2) = false := by rw [beq_eq_false_iff_ne]; exact h2
          have Hn := hide (Hinv.out.leaf Hx.out hmem (by rw [hkk.out]; exact h2))
          clear hmem h2
          go_wp2_with fail
          go_still_tail 9, (by kernel_rfl)
          change wpList _ _ _ _ _ w2.drew
          generalize w2.drew = w3 at hb3 hown3 hli3 ⊢
          clear hb2 hown2 hli2 hI2 e0 hcx2 hm_s hm_k hil2 f0 f1 f2 f3
          go_wp2
          go_roundw
          case rel => exact ⟨zs, list, A', _, c', cl', k + 1, rfl, rfl, by go_num, by omega, hown3, hli3, hb3, hap2.out, by rw [hz.out]; exact Hn.out⟩
          case measure => simp [intOf]; omega
    · obtain rfl : k = list.length := by omega
      have HF := hide Hinv.out.all
      have HR := hide (show ∀ x ∈ out, 0 ≤ x ∧ x < (ns.length : Int) from fun x hx => Hinv.out.range x (Hinv.out.sub x hx))
      clear hlt hil hio
      go_wp2
      go_ret
      exact ⟨Ao, co, out, rfl, hout.mono (by omega), hB.trans (hb.mono (by omega)), HF.out, HR.out, ho12⟩

end Go.Proofs.Ytpcfjdhalglebab

namespace Go.Proofs.Ytpcfjdhalglebab
open Go.RowKit
set_option linter.unusedVariables false

/-- the kids of the first n nodes lie in blocks that are apart -/
def ApartN (cs : List Value) (n : Nat) : Prop :=
  ∀ (i j : Nat) (A1 A2 : Option Addr) (n1 n2 c1 c2 : Nat), i < j → j < n → cs[i * 3 + 2]? = some (.slice A1 n1 c1) → cs[j * 3 + 2]? = some (.slice A2 n2 c2) → ∀ b, blockOf A1 = some b → blockOf A2 ≠ some b
/-- .. and below a block -/
def UnderN (cs : List Value) (n bnd : Nat) : Prop :=
  ∀ (i : Nat) (A1 : Option Addr) (n1 c1 : Nat), i < n → cs[i * 3 + 2]? = some (.slice A1 n1 c1) → ∀ b, blockOf A1 = some b → b < bnd

structure RowD (w : World) (base bnd : Nat) (A : Option Addr) (c : Nat) (ns : List Nd) : Prop where
  row : ∃ cs, w.ownsRow base 33 3 (.slice A ns.length c) ns.length cs ∧ (∀ j n, ns[j]? = some n → CellsN w base cs j n) ∧ ApartN cs ns.length ∧ UnderN cs ns.length bnd

theorem RowD.rowN {w : World} {base bnd : Nat} {A : Option Addr} {c : Nat} {ns : List Nd} (h : RowD w base bnd A c ns) : RowN w base A c ns := by
  obtain ⟨cs, h1, h2, _⟩ := h.row
  exact ⟨⟨cs, h1, h2⟩⟩

/-- memory that keeps the row and its kids keeps this -/
theorem RowD.ofBlk {w w' : World} {base bnd : Nat} {A : Option Addr} {c : Nat} {ns : List Nd} (h : RowD w base bnd A c ns) (hA : ∀ b, base ≤ b → b < w.heap.size → w'.heap[b]? = w.heap[b]?) : RowD w' base bnd A c ns := by
  obtain ⟨cs, h1, h2, h3, h4⟩ := h.row
  have hb := h.rowN.blocks
  refine ⟨⟨cs, ⟨h1.1, ?_⟩, fun j n hj => ?_, h3, h4⟩⟩
  · rcases h1.2 with h5 | ⟨g, cap, cur, hv, hg, hh, r⟩
    · exact .inl h5
    · refine .inr ⟨g, cap, cur, hv, hg, (hA g hg ?_).trans hh, r⟩
      injection hv with hv _ _
      exact (hb g (by rw [hv]; rfl)).2
  · obtain ⟨A1, c1, a1, a2, a3, a4⟩ := h2 j n hj
    exact ⟨A1, c1, a1, a2, a3, a4.of_blk (fun b hb' => hA b (a4.blocks b hb').1 (a4.blocks b hb').2)⟩

theorem RowD.below {w w' : World} {base bnd : Nat} {A : Option Addr} {c : Nat} {ns : List Nd} (h : RowD w base bnd A c ns) (hb : Below w.heap.size w w') : RowD w' base bnd A c ns :=
  h.ofBlk fun b _ hlt => hb.block b hlt

theorem RowD.own {w : World} {base bnd : Nat} {A : Option Addr} {c : Nat} {ns : List Nd} (h : RowD w base bnd A c ns) (hbnd : bnd ≤ w.heap.size) : OwnNs w base w.heap.size A c ns := by
  obtain ⟨cs, h1, h2, h3, h4⟩ := h.row
  have hb := h.rowN.blocks
  rcases h1.2 with ⟨hv, hn⟩ | ⟨g, cap, cur, hv, hg, hh, hle, hcap, hsz, htk⟩
  · injection hv with e1 _ e3
    exact .inl ⟨e1, e3, List.length_eq_zero_iff.1 hn⟩
  · injection hv with e1 _ e3
    subst e1
    subst e3
    have hsome : ∀ i, i < c * 3 → cur[i]? = some ((cur[i]?).getD (.int .i64 0)) := fun i hi => by
      have h9 : cur[i]? = some cur[i] := Array.getElem?_eq_getElem (by omega)
      rw [h9]
      rfl
    have hrow : w.rowIs g 33 (c * 3) (fun i => (cur[i]?).getD (.int .i64 0)) := ⟨cur, hh, hsz, hsome⟩
    have hat : ∀ i, i < ns.length * 3 → w.cell? ⟨g, i, none⟩ = cs[i]? := fun i hi => by
      rw [hrow.cell (by omega), ← htk, List.getElem?_take_of_lt hi, Array.getElem?_toList, ← hsome i (by omega)]
    refine .inr ⟨g, rfl, ⟨_, hrow⟩, hle, hg, (hb g rfl).2, fun j n hj => ?_, ?_⟩
    · have hjl := (List.getElem?_eq_some_iff.1 hj).1
      obtain ⟨A1, c1, a1, a2, a3, a4⟩ := h2 j n hj
      exact ⟨(hat _ (by omega)).trans a1, (hat _ (by omega)).trans a2, A1, c1, (hat _ (by omega)).trans a3, a4, fun b hb' => ⟨by have := h4 j A1 _ c1 hjl a3 b hb'; omega, fun e => node_int_ne h1 a4.own g rfl (by rw [← e]; exact hb')⟩⟩
    · intro i j A1 A2 n1 n2 c1 c2 hij hi hj d1 d2 b hb1 hb2
      rw [hat _ (by omega)] at d1 d2
      rcases Nat.lt_or_gt_of_ne hij with h5 | h5
      · exact h3 i j A1 A2 n1 n2 c1 c2 h5 hj d1 d2 b hb1 hb2
      · exact h3 j i A2 A1 n2 n1 c2 c1 h5 hi d2 d1 b hb2 hb1

theorem RowD.one {w : World} {base g bnd : Nat} (h : Lies w g #[.int .i64 0, .int .i64 1, .slice none 0 0] 33) (hb : base ≤ g) : RowD w base bnd (some ⟨g, 0, none⟩) 1 [⟨0, 1, []⟩] := by
  refine ⟨⟨[.int .i64 0, .int .i64 1, .slice none 0 0], ⟨by simp, .inr ⟨g, 1, _, rfl, hb, h, by simp, by unfold maxLen; omega, by simp, by simp⟩⟩, fun j n hj => ?_, fun i j A1 A2 n1 n2 c1 c2 hij hj => ?_, fun i A1 n1 c1 hi hc b hb' => ?_⟩⟩
  · match j, hj with
    | 0, hj =>
      simp at hj
      subst hj
      exact ⟨none, 0, rfl, rfl, rfl, OwnI.empty _ _⟩
    | j + 1, hj => simp at hj
  · simp at hj
    omega
  · simp at hi
    subst hi
    simp at hc
    obtain ⟨rfl, _, _⟩ := hc
    cases hb'

/-- append of one node whose kids lie apart from all before -/
theorem append_ndD {w : World} {ops : Array Oper} {rest : List Oper} {o : Oper} {a : Act} {Q : Exit → Act → World → Prop} (hgd : o.guard = none) (s x : Operand)
    (ho : o.op = .call { callee := .builtin .append, args := #[s, x], argTypes := #[23, 23] })
    (base bnd bnd' : Nat) (An : Option Addr) (cn : Nat) (ns : List Nd) (hs : a.eval s = .slice An ns.length cn) (hrow : RowD w base bnd An cn ns) (b : Nat) (n : Nd) (Ak : Option Addr) (ck : Nat) (t : TypeId) (hx : a.eval x = .slice (some ⟨b, 0, none⟩) 1 1)
    (hr : w.heap[b]? = some (.cells #[.int .i64 n.kind, .int .i64 n.value, .slice Ak n.kids.length ck] t (0, 0))) (hown : OwnI w base Ak ck n.kids) (hbase : base ≤ w.heap.size) (hn : ns.length ≤ 1000)
    (hk : ∀ q, blockOf Ak = some q → bnd ≤ q ∧ q < bnd') (hbb : bnd ≤ bnd')
    (h : ∀ (A' : Option Addr) (c' : Nat) (w' : World), RowD w' base bnd' A' c' (ns ++ [n]) → w.grownBy w' (blockOf An) →
      wpList Try.prog ops Q rest (a.put o.dst (.slice A' (ns.length + 1) c')) w') : wpList Try.prog ops Q (o :: rest) a w := by
  obtain ⟨i0, hi, hz0, hz1, hz2⟩ := info_parts infoNdA
  obtain ⟨cs, h1, hcs, hap, hun⟩ := hrow.row
  have hlen := h1.1
  refine wpList_append_own_at w hgd s x 23 ho base 33 i0 _ 3 40 Try.underlying23 hi hz0 hz1 hz2 rfl (by omega) _ ns.length cs hs h1 ⟨b, 0, none⟩ 1 1 [.int .i64 n.kind, .int .i64 n.value, .slice Ak n.kids.length ck] hx (by simp) (World.news_of_block hr) (by
      intro u hu
      simp at hu
      rcases hu with rfl | rfl | rfl <;> rfl)
    (by unfold maxLen; omega) (by omega) hbase ?_
  intro v' w' h2 h3 _ h5
  rw [ownBlock_slice] at h3
  have h2' := h2
  rcases h2.2 with ⟨_, h6⟩ | ⟨g, cap, cur, rfl, hg, hh, r⟩
  · omega
  · have hold : ∀ i, i < ns.length → (cs ++ [.int .i64 n.kind, .int .i64 n.value, .slice Ak n.kids.length ck])[i * 3 + 2]? = cs[i * 3 + 2]? := fun i hi2 => List.getElem?_append_left (by omega)
    have hnew : (cs ++ [.int .i64 n.kind, .int .i64 n.value, .slice Ak n.kids.length ck])[ns.length * 3 + 2]? = some (.slice Ak n.kids.length ck) := by
      rw [List.getElem?_append_right (by omega), hlen]
      simp
    have hll : (ns ++ [n]).length = ns.length + 1 := by simp
    refine h (some ⟨g, 0, none⟩) cap w' ⟨⟨_, by simpa using h2', fun j m hj => ?_, fun i j A1 A2 n1 n2 c1 c2 hij hj d1 d2 q hq1 hq2 => ?_, fun i A1 n1 c1 hi2 d1 q hq1 => ?_⟩⟩ h3
    · have hkeep : ∀ (A1 : Option Addr) (c1 : Nat) (ks : List Int), OwnI w base A1 c1 ks → OwnI w' base A1 c1 ks := fun A1 c1 ks ho => ho.kept h3 (by
        cases hA : blockOf A1 with
        | none => exact .inl rfl
        | some q => exact .inr (fun e => node_int_ne h1 ho.own q e.symm hA))
      rw [List.getElem?_append] at hj
      split at hj
      next hlt =>
        obtain ⟨A1, c1, a1, a2, a3, a4⟩ := hcs j m hj
        exact ⟨A1, c1, by rw [List.getElem?_append_left (by omega)]; exact a1, by rw [List.getElem?_append_left (by omega)]; exact a2, by rw [List.getElem?_append_left (by omega)]; exact a3, hkeep _ _ _ a4⟩
      next hlt =>
        have hjl := (List.getElem?_eq_some_iff.1 hj).1
        simp at hjl
        obtain rfl : j = ns.length := by omega
        simp at hj
        subst hj
        refine ⟨Ak, ck, ?_, ?_, ?_, hkeep _ _ _ hown⟩
        · rw [List.getElem?_append_right (by omega), hlen]; simp
        · rw [List.getElem?_append_right (by omega), hlen]; simp
        · exact hnew
    · rw [hll] at hj
      rw [hold i (by omega)] at d1
      rcases Nat.lt_or_ge j ns.length with h7 | h7
      · rw [hold j h7] at d2
        exact hap i j A1 A2 n1 n2 c1 c2 hij h7 d1 d2 q hq1 hq2
      · obtain rfl : j = ns.length := by omega
        rw [hnew] at d2
        injection d2 with d2
        injection d2 with d2 _ _
        subst d2
        have e1 := hun i A1 n1 c1 (by omega) d1 q hq1
        have e2 := (hk q hq2).1
        omega
    · rw [hll] at hi2
      rcases Nat.lt_or_ge i ns.length with h7 | h7
      · rw [hold i h7] at d1
        have := hun i A1 n1 c1 h7 d1 q hq1
        omega
      · obtain rfl : i = ns.length := by omega
        rw [hnew] at d1
        injection d1 with d1
        injection d1 with d1 _ _
        subst d1
        exact (hk q hq1).2

end Go.Proofs.Ytpcfjdhalglebab
