/-
  Lemmas, several texts in one: ReadB, RowN, Reach, Reach2, CodG.
-/
import Derived.Test.YtpcfjdhalglebaaPjAb
import Derived.Test.YtpcfjdhalglebaaRows
import Derived.ProofKit
import Derived.OpenShut
import Derived.ShutString
import Derived.ChangeOld
import Derived.Deep.Slices
import Derived.Deep.Fields
import Derived.Lib.SmallJoins
import Derived.Test.YtpcfjdhalglebaaPjAf
import Derived.Deep.AppendLies
import Derived.Test.YtpcfjdhalglebaaPjAh
import Derived.StillTailTactics
namespace Go.Proofs.Ytpcfjdhalglebaa
open Go.ChangeShapes Go.WideShapes Go.ChangeAt Go.RowKit Go.Deep
set_option linter.unusedVariables false

theorem readCellsB : Try.prog.cellsOf 5 = 1 := by kernel_rfl
theorem readOwnB : ownKnob Try.prog.godebug = none := by kernel_rfl
theorem readLaidB : laidOutB Try.prog = true := by kernel_rfl

theorem addr_add_b (b off j : Nat) : (⟨b, off, none⟩ : Addr).add j = ⟨b, off + j, none⟩ := by
  unfold Addr.add
  split
  · rename_i h0; subst h0; rfl
  · rfl

/-- a slice of bytes that came in -/
theorem read_bytes {H : Type} {enc : TypeId × Value → H} {w : World} {base : Nat} {spare : Nat → Bool} {held : Bool} {m : Nat} {v : Value} {y : DataW H × List MemPlace} (h : DataW.trod enc Try.prog w base spare held m 22 [v] = some y) :
    ∃ (A : Option Addr) (n c : Nat), v = .slice A n c ∧ BytesAt w w.heap.size A n ∧ n ≤ c ∧ n ≤ 9223372036854775807 := by
  rcases open_ints Try.underlying22 Try.underlying5 readCellsB h with ⟨hcs, _⟩ | ⟨a, len, cap, zs, hcs, _, hl, hm, hz, _, hcell, hwz⟩
  · simp at hcs
    subst hcs
    exact ⟨none, 0, 0, rfl, fun k hk => absurd hk (by omega), Nat.le_refl _, by omega⟩
  · simp at hcs
    subst hcs
    have hzl : len ≤ zs.length := by rw [hz]; split <;> omega
    refine ⟨some a, len, cap, rfl, fun k hk => ?_, hl, by unfold maxLen at hm; omega⟩
    have hz0 := hcell 0 (by omega)
    have hc0 := hcell k (by omega)
    obtain ⟨b, off, sp⟩ := a
    have hsp : sp = none := by simpa [Addr.add] using World.cell?_spot hz0
    subst hsp
    rw [addr_add_b] at hc0
    have hb := range_u8 hwz k
    rw [List.getD_eq_getElem?_getD] at hc0
    obtain ⟨x, hx⟩ := Int.eq_ofNat_of_zero_le hb.1
    refine ⟨b, off, x, rfl, World.block_lt_of_cell? w _ hc0, ?_, by omega⟩
    rw [hc0, hx]

end Go.Proofs.Ytpcfjdhalglebaa

namespace Go.Proofs.Ytpcfjdhalglebaa
open Go.RowKit
set_option linter.unusedVariables false

/-- the three cells of a node in a list of cells; the kids lie in a row of their own -/
def CellsN (w : World) (base : Nat) (cs : List Value) (j : Nat) (n : Nd) : Prop :=
  ∃ (A : Option Addr) (c : Nat), cs[j * 3]? = some (.int .i64 n.kind) ∧ cs[j * 3 + 1]? = some (.int .i64 n.value) ∧ cs[j * 3 + 2]? = some (.slice A n.kids.length c) ∧ OwnI w base A c n.kids

/-- the slice (A, length of ns, c) is a row of the call's own that reads as ns -/
structure RowN (w : World) (base : Nat) (A : Option Addr) (c : Nat) (ns : List Nd) : Prop where
  row : ∃ cs, w.ownsRow base 50 3 (.slice A ns.length c) ns.length cs ∧ ∀ j n, ns[j]? = some n → CellsN w base cs j n

theorem RowN.nil (w : World) (base : Nat) : RowN w base none 0 [] := ⟨⟨[], World.ownsRow_nil _ _ _ _, fun j n h => by simp at h⟩⟩

theorem RowN.blocks {w : World} {base : Nat} {A : Option Addr} {c : Nat} {ns : List Nd} (h : RowN w base A c ns) : ∀ b, blockOf A = some b → base ≤ b ∧ b < w.heap.size := by
  obtain ⟨cs, h1, _⟩ := h.row
  exact fun b hb => World.ownsRow.lt h1 b (by rw [ownBlock_slice]; exact hb)

/-- a row of nodes and a row of ints are not the same block -/
theorem node_int_ne {w : World} {base base' n k size : Nat} {A A' : Option Addr} {c c' : Nat} {xs ys : List Value} (h : w.ownsRow base 50 3 (.slice A n c) n xs) (h' : w.ownsRow base' 3 size (.slice A' k c') k ys) : ∀ b, blockOf A = some b → blockOf A' ≠ some b := by
  intro b hb hb'
  rcases h.2 with ⟨h1, _⟩ | ⟨g, cap, cur, hv, _, hh, _⟩
  · injection h1 with h1 _ _
    rw [h1] at hb; cases hb
  · rcases h'.2 with ⟨h1', _⟩ | ⟨g', cap', cur', hv', _, hh', _⟩
    · injection h1' with h1' _ _
      rw [h1'] at hb'; cases hb'
    · injection hv with hv _ _
      injection hv' with hv' _ _
      subst hv hv'
      simp [blockOf] at hb hb'
      subst hb hb'
      rw [hh] at hh'
      injection hh' with hh'
      injection hh' with _ e _
      exact absurd e (by decide)

theorem RowN.below {w w' : World} {base : Nat} {A : Option Addr} {c : Nat} {ns : List Nd} (h : RowN w base A c ns) (hb : Below w.heap.size w w') : RowN w' base A c ns := by
  obtain ⟨cs, h1, h2⟩ := h.row
  refine ⟨⟨cs, h1.kept (grownBy_of_below hb) (by rw [ownBlock_slice]; cases blockOf A <;> simp), fun j n hj => ?_⟩⟩
  obtain ⟨A1, c1, a1, a2, a3, a4⟩ := h2 j n hj
  exact ⟨A1, c1, a1, a2, a3, a4.below hb⟩

theorem RowN.nds {w : World} {base : Nat} {A : Option Addr} {c : Nat} {ns : List Nd} (h : RowN w base A c ns) (hwf : WfN ns) (hl : ns.length ≤ 9223372036854775807) : NdsAt w w.heap.size A ns := by
  obtain ⟨cs, h1, h2⟩ := h.row
  refine ⟨fun hx => ?_, hl⟩
  rcases h1.2 with ⟨_, h3⟩ | ⟨g, cap, cur, hv, _, hh, _⟩
  · exact absurd (List.eq_nil_of_length_eq_zero h3) hx
  · injection hv with hv _ hc
    subst hv hc
    refine ⟨g, 0, rfl, lt_of_block hh, fun j n hj => ?_⟩
    have hjl := (List.getElem?_eq_some_iff.1 hj).1
    obtain ⟨A1, c1, a1, a2, a3, a4⟩ := h2 j n hj
    obtain ⟨w1, w2, w3, w4⟩ := hwf n (List.mem_of_getElem? hj)
    rw [Nat.zero_add]
    exact ⟨(h1.cellAt _ (by omega)).trans a1, (h1.cellAt _ (by omega)).trans a2, ⟨A1, c1, (h1.cellAt _ (by omega)).trans a3, a4.ints w3 w4, a4.nil⟩, w1, w2⟩

/-- append of one node with kids -/
theorem append_ndK {w : World} {ops : Array Oper} {rest : List Oper} {o : Oper} {a : Act} {Q : Exit → Act → World → Prop} (hgd : o.guard = none) (s x : Operand)
    (ho : o.op = .call { callee := .builtin .append, args := #[s, x], argTypes := #[23, 23] })
    (base : Nat) (An : Option Addr) (cn : Nat) (ns : List Nd) (hs : a.eval s = .slice An ns.length cn) (hrow : RowN w base An cn ns) (b : Nat) (n : Nd) (Ak : Option Addr) (ck : Nat) (t : TypeId) (hx : a.eval x = .slice (some ⟨b, 0, none⟩) 1 1)
    (hr : w.heap[b]? = some (.cells #[.int .i64 n.kind, .int .i64 n.value, .slice Ak n.kids.length ck] t (0, 0))) (hown : OwnI w base Ak ck n.kids) (hbase : base ≤ w.heap.size) (hn : ns.length ≤ 1000)
    (h : ∀ (A' : Option Addr) (c' : Nat) (w' : World), RowN w' base A' c' (ns ++ [n]) → w.grownBy w' (blockOf An) →
      wpList Try.prog ops Q rest (a.put o.dst (.slice A' (ns.length + 1) c')) w') : wpList Try.prog ops Q (o :: rest) a w := by
  obtain ⟨i0, hi, hz0, hz1, hz2⟩ := info_parts infoNdA
  obtain ⟨cs, h1, hcs⟩ := hrow.row
  have hlen := h1.1
  refine wpList_append_own_at w hgd s x 23 ho base 50 i0 _ 3 40 Try.underlying23 hi hz0 hz1 hz2 rfl (by omega) _ ns.length cs hs h1 ⟨b, 0, none⟩ 1 1 [.int .i64 n.kind, .int .i64 n.value, .slice Ak n.kids.length ck] hx (by simp) (World.news_of_block hr) (by
      intro u hu
      simp at hu
      rcases hu with rfl | rfl | rfl <;> rfl)
    (by unfold maxLen; omega) (by omega) hbase ?_
  intro v' w' h2 h3 _ h5
  rw [ownBlock_slice] at h3
  have h2' := h2
  rcases h2.2 with ⟨_, h6⟩ | ⟨g, cap, cur, rfl, hg, hh, r⟩
  · omega
  · refine h (some ⟨g, 0, none⟩) cap w' ⟨⟨_, by simpa using h2', fun j m hj => ?_⟩⟩ h3
    have hkeep : ∀ (A1 : Option Addr) (c1 : Nat) (ks : List Int), OwnI w base A1 c1 ks → OwnI w' base A1 c1 ks := fun A1 c1 ks ho => ho.kept h3 (by
      cases hA : blockOf A1 with
      | none => exact .inl rfl
      | some q => exact .inr (fun e => node_int_ne h1 ho.own q e.symm hA))
    rw [List.getElem?_append] at hj
    split at hj
    next hlt =>
      obtain ⟨A1, c1, a1, a2, a3, a4⟩ := hcs j m hj
      exact ⟨A1, c1, by rw [List.getElem?_append_left (by omega)]; exact a1, by rw [List.getElem?_append_left (by omega)]; exact a2, by rw [List.getElem?_append_left (by omega)]; exact a3, hkeep _ _ _ a4⟩
    next hlt =>
      have hjl := (List.getElem?_eq_some_iff.1 hj).1
      simp at hjl
      obtain rfl : j = ns.length := by omega
      simp at hj
      subst hj
      refine ⟨Ak, ck, ?_, ?_, ?_, hkeep _ _ _ hown⟩
      · rw [List.getElem?_append_right (by omega), hlen]; simp
      · rw [List.getElem?_append_right (by omega), hlen]; simp
      · rw [List.getElem?_append_right (by omega), hlen]; simp

end Go.Proofs.Ytpcfjdhalglebaa

namespace Go.Proofs.Ytpcfjdhalglebaa
open Go.RowKit
set_option linter.unusedVariables false

/-- a call of reach: an int slice that reads as R, of the call's own or the one that was handed in -/
def GivesReachI (w : World) (A : Option Addr) (c : Nat) (L R : List Int) (e : Ending) (w' : World) : Prop :=
  ∃ A' c', e = .returned (.slice A' R.length c') ∧ Below w.heap.size w w' ∧ IntsAt w' w'.heap.size A' R ∧ (A' = none → c' = 0) ∧ ((A' = A ∧ c' = c ∧ R = L) ∨ OwnI w' w.heap.size A' c' R)

set_option maxRecDepth 100000 in
set_option maxHeartbeats 4000000 in
theorem reach1_any (ns : List Nd) (hk : KidsIn ns) (h6 : ∀ n ∈ ns, n.kids.length ≤ 6) (h12 : ns.length ≤ 12) (A : Option Addr) (c : Nat) (r : Int) (f : Nat)
    (ih : ∀ (i : Nat) (L : List Int) (A2 : Option Addr) (c2 : Nat) (w : World), i < ns.length → Met ns L → NdsAt w w.heap.size A ns → IntsAt w w.heap.size A2 L → (A2 = none → c2 = 0) → ns.length < f + L.length →
      Calls Try.prog 44 #[.agg #[.slice A ns.length c, .int .i64 r], .int .i64 (i : Int), .slice A2 L.length c2] w (GivesReachI w A2 c2 L (dfs ns anyB f i L)))
    (i : Nat) (L : List Int) (A2 : Option Addr) (c2 : Nat) (w : World) (hi : i < ns.length) (hL : Met ns L) (hr : NdsAt w w.heap.size A ns) (hI : IntsAt w w.heap.size A2 L) (hnil : A2 = none → c2 = 0) (hf : ns.length < f + 1 + L.length) :
      Calls Try.prog 44 #[.agg #[.slice A ns.length c, .int .i64 r], .int .i64 (i : Int), .slice A2 L.length c2] w (GivesReachI w A2 c2 L (dfs ns anyB (f + 1) i L)) := by
  have hB : Below w.heap.size w (w.alloc (.cells #[.slice A ns.length c, .int .i64 r] 25)) := (Below.refl _ _).alloc (Nat.le_refl _) _
  have l1 := Lies.new w #[.slice A ns.length c, .int .i64 r] 25
  have hr2 := hr.below hB
  have hI2 := hI.later hB (Nat.le_refl _)
  have hlL := hL.len
  have hi1 : (0 : Int) ≤ (i : Int) := by omega
  have hi2 : (i : Int) < (ns.length : Int) := by omega
  have HL := hide hL
  have Hih := hide ih
  have Hnil := hide hnil
  clear hr hI hL ih hnil
  go_enter Try.func44, Try.ntmps44
  go_wp2_with fail
  generalize hWd : w.alloc (.cells #[.slice A ns.length c, .int .i64 r] 25) = W at hB l1 hr2 hI2 ⊢
  have HWs : Hid (W.heap.size = w.heap.size + 1) := by show W.heap.size = _; rw [← hWd]; simp
  clear hWd
  refine (placeIn_any A2 L c2 i W hI2).mono ?_
  rintro e w' ⟨rfl, rfl⟩
  by_cases hmem : (i : Int) ∈ L
  · have hp := place_lt hmem
    have hd : decide (0 ≤ place L i) = true := by simp; omega
    generalize place L i = pl at hp hd ⊢
    have HF : Hid (GivesReachI w A2 c2 L (dfs ns anyB (f + 1) i L) (.returned (.slice A2 L.length c2)) W) := by
      rw [dfs_stop (.inr hmem)]
      exact ⟨A2, c2, rfl, hB, hI2, Hnil.out, .inl ⟨rfl, rfl, rfl⟩⟩
    clear hmem hI2 hr2
    go_wp2
    go_ret
    exact HF.out
  · rw [place_neg hmem]
    have hgo : dfs ns anyB (f + 1) i L = dfsL ns anyB f (kidsOf ns i) (L ++ [(i : Int)]) := dfs_go rfl hmem
    have Hgo := hide hgo
    have hM := HL.out.snoc ⟨hi1, hi2⟩ hmem
    have HM := hide hM
    have hMl := hM.len
    clear hmem hgo hM
    go_wp2_with fail
    refine (copyInts_any A2 L c2 W hI2 Hnil.out (by omega)).mono ?_
    rintro e w1 ⟨A3, c3, rfl, hown, hb1⟩
    have hin64 : In64 (i : Int) := by constructor <;> omega
    have hIone := IntsAt.one w1 i hin64
    go_wp2_with (at_builtin; refine append_ints rfl (.tmp 14) (.tmp 16) rfl W.heap.size A3 c3 L rfl (hown.alloc _) (w1.heap.size + 1) _ 1 [(i : Int)] rfl (fun e => by cases e) hIone (by simp <;> omega) (by have := hb1.size; simp; omega) ?_; intro zs A4 c4 w2 hz hown2 hg2 hat2)
    have hb2 : Below W.heap.size W w2 := below_grown (hb1.alloc hb1.size _) hg2 (by have := hb1.size; simp; omega) (fun k hk => (hown.blocks k hk).1)
    have hzl : zs.length = L.length + 1 := by rw [hz.out]; simp
    have hz2 : Hid (zs = L ++ [(i : Int)]) := hz
    have hMz : Hid (Met ns zs) := by show Met ns zs; rw [hz.out]; exact HM.out
    have hIz := hown2.ints (in64_met h12 hMz.out) (by omega)
    clear hown hb1 hIone hat2 hg2 hI2 hin64
    go_loopw [2, 7] (fun mv iv wr => ∃ (k : Nat) (R : List Int) (A5 : Option Addr) (c5 : Nat), k ≤ (kidsOf ns i).length ∧ iv = .int .i64 k ∧ mv = .slice A5 R.length c5 ∧ R = dfsL ns anyB f ((kidsOf ns i).take k) (L ++ [(i : Int)]) ∧ Below W.heap.size W wr ∧ OwnI wr W.heap.size A5 c5 R) (fun _ iv _ => (kidsOf ns i).length - (intOf iv).toNat)
    case atStart => exact ⟨0, zs, A4, c4, Nat.zero_le _, rfl, rfl, by rw [List.take_zero, dfsL_nil]; exact hz2.out, hb2, hown2⟩
    case round =>
      clear hb2 hown2 hIz hz hz2 hMz hzl
      obtain ⟨k, R, A5, c5, hkl, rfl, rfl, hR, hb, hown5⟩ := hrel
      have HR := hide hR
      clear hR
      obtain ⟨b, off, n, rfl, hbl, hat, hmem, hN⟩ := (hr2.below (hb.mono (by have := HWs.out; omega))).at_ hi
      obtain ⟨hn_k, hn_v, ⟨A1, c1, hn_s, hI1, _⟩, _, _⟩ := hN
      have hkids : Hid (kidsOf ns (i : Int) = n.kids) := kidsOf_at hat
      have hk6 := h6 n hmem
      rw [hkids.out] at hkl
      have e0 := (l1.below hb l1.lt).cell 0
      have e1 := (l1.below hb l1.lt).cell 1
      simp at e0 e1
      clear hat hmem
      by_cases hlt : k < n.kids.length
      · obtain ⟨bk, ok, x, rfl, hbk, hx, hxm, hcx⟩ := hI1.at_ hlt
        obtain ⟨hx0, hx1⟩ := hk.of (i : Int) x (by rw [hkids.out]; exact hxm)
        obtain ⟨y, rfl⟩ := Int.eq_ofNat_of_zero_le hx0
        have hwk := walkedAll ns anyB hk (n.kids.take k) (L ++ [(i : Int)]) f HM.out (fun z hz => hk.of (i : Int) z (by rw [hkids.out]; exact List.mem_of_mem_take hz)) (by simp; omega)
        have hRM : Met ns R := by rw [HR.out, hkids.out]; exact hwk.met
        have hRl : L.length + 1 ≤ R.length := by
          have h1 := hwk.len
          have h2 := HR.out
          rw [hkids.out] at h2
          rw [← h2] at h1
          simpa using h1
        have hR12 := hRM.len
        have hIR := hown5.ints (in64_met h12 hRM) (by omega)
        have HRM := hide hRM
        have Hx := hide hx
        have hk1 : (0 : Int) ≤ (k : Int) := by omega
        have hk2 : (k : Int) < (n.kids.length : Int) := by omega
        have hbd : Below W.heap.size W wr.drew := hb.drew
        have hownd := hown5.drew
        have hrd : NdsAt wr.drew wr.drew.heap.size (some ⟨b, off, none⟩) ns := (hr2.below (hb.mono (by have := HWs.out; omega))).later (Below.refl _ _).drew (by have := HWs.out; have := hb.size; omega)
        have hIRd : IntsAt wr.drew wr.drew.heap.size A5 R := hIR.later (Below.refl _ _).drew (Nat.le_refl _)
        clear hwk hRM hx hxm hIR
        go_wp2_with fail
        go_still_tail 11, (by kernel_rfl)
        change wpList _ _ _ _ _ wr.drew
        generalize wr.drew = w3 at hbd hownd hrd hIRd ⊢
        clear hb hown5 hcx hn_s hn_k hn_v e0 e1 hI1
        go_wp2_with fail
        refine (Hih.out y R A5 c5 w3 (by omega) HRM.out hrd hIRd hownd.nil (by omega)).mono ?_
        rintro e w4 ⟨A6, c6, rfl, hb4, hI6, hnil6, hor⟩
        have hown6 : OwnI w4 W.heap.size A6 c6 (dfs ns anyB f y R) := by
          rcases hor with ⟨h1, h2, h3⟩ | h
          · rw [h1, h2, h3]
            exact hownd.below hb4
          · exact h.mono hbd.size
        have Hown6 := hide hown6
        have HB4 := hide (hbd.trans (hb4.mono hbd.size))
        clear hor hb4 hI6 hnil6 hown6 hownd hIRd hrd hbd
        go_wp2
        go_roundw
        case rel => exact ⟨k + 1, dfs ns anyB f y R, A6, c6, by rw [hkids.out]; omega, by go_num, rfl, by rw [hkids.out, List.take_add_one, Hx.out, Option.toList_some, dfsL_snoc, HR.out, hkids.out], HB4.out, Hown6.out⟩
        case measure => rw [hkids.out]; simp [intOf]; omega
      · obtain rfl : k = n.kids.length := by omega
        have hwk := walkedAll ns anyB hk n.kids (L ++ [(i : Int)]) f HM.out (fun z hz => hk.of (i : Int) z (by rw [hkids.out]; exact hz)) (by simp; omega)
        have hRe : R = dfsL ns anyB f n.kids (L ++ [(i : Int)]) := by
          have := HR.out
          rw [hkids.out, List.take_length] at this
          exact this
        have HF : Hid (GivesReachI w A2 c2 L (dfs ns anyB (f + 1) i L) (.returned (.slice A5 R.length c5)) wr) := by
          rw [Hgo.out, hkids.out, ← hRe]
          have hRM : Met ns R := by rw [hRe]; exact hwk.met
          exact ⟨A5, c5, rfl, hB.trans (hb.mono (by have := HWs.out; omega)), hown5.ints (in64_met h12 hRM) (by have := hRM.len; omega), hown5.nil, .inr (hown5.mono (by have := HWs.out; omega))⟩
        clear hlt hwk hRe
        go_wp2
        go_ret
        exact HF.out

end Go.Proofs.Ytpcfjdhalglebaa

namespace Go.Proofs.Ytpcfjdhalglebaa
open Go.RowKit
set_option linter.unusedVariables false

theorem reach_any (ns : List Nd) (hk : KidsIn ns) (h6 : ∀ n ∈ ns, n.kids.length ≤ 6) (h12 : ns.length ≤ 12) (A : Option Addr) (c : Nat) (r : Int) : ∀ (f i : Nat) (L : List Int) (A2 : Option Addr) (c2 : Nat) (w : World), i < ns.length → Met ns L → NdsAt w w.heap.size A ns → IntsAt w w.heap.size A2 L → (A2 = none → c2 = 0) → ns.length < f + L.length →
    Calls Try.prog 44 #[.agg #[.slice A ns.length c, .int .i64 r], .int .i64 (i : Int), .slice A2 L.length c2] w (GivesReachI w A2 c2 L (dfs ns anyB f i L))
  | 0, _, _, _, _, _, _, hL, _, _, _, hf => by have := hL.len; omega
  | f + 1, i, L, A2, c2, w, hi, hL, hr, hI, hn, hf => reach1_any ns hk h6 h12 A c r f (fun i L A2 c2 w h1 h2 h3 h4 h5 h6' => reach_any ns hk h6 h12 A c r f i L A2 c2 w h1 h2 h3 h4 h5 h6') i L A2 c2 w hi hL hr hI hn hf

end Go.Proofs.Ytpcfjdhalglebaa

namespace Go.Proofs.Ytpcfjdhalglebaa
open Go.RowKit Go.Maps
set_option linter.unusedVariables false

theorem cod_grows {ns : List Nd} : ∀ (f : Nat) (x : Int) (p : CM), ∃ l, (cod ns f x p).1 = p.1 ++ l
  | 0, _, _ => ⟨[], by simp [cod]⟩
  | f + 1, x, p => by
    by_cases hs : x ∈ p.2
    · rw [cod_seen hs]
      exact ⟨_, rfl⟩
    · rw [cod_new hs]
      have key : ∀ (xs : List Int) (q : CM), ∃ l, (codL ns f xs q).1 = q.1 ++ l := by
        intro xs
        induction xs with
        | nil => intro q; exact ⟨[], by simp [codL]⟩
        | cons a xs ih =>
          intro q
          obtain ⟨l1, h1⟩ := cod_grows f a q
          obtain ⟨l2, h2⟩ := ih (cod ns f a q)
          refine ⟨l1 ++ l2, ?_⟩
          show (codL ns f xs (cod ns f a q)).1 = _
          rw [h2, h1, List.append_assoc]
      obtain ⟨l, h⟩ := key (kidsOf ns x) (codPut ns x p)
      refine ⟨[kindOf ns x, valueOf ns x, ((kidsOf ns x).length : Int)] ++ l, ?_⟩
      rw [h]
      unfold codPut
      simp

end Go.Proofs.Ytpcfjdhalglebaa
