/-
  Lemmas, several texts in one: SpecD, OwnO, OwnOO, Emit, ShpUa.
-/
import Derived.Test.YtfigekdejocakabDoorPjAj
import Derived.Test.YtfigekdejocakabDoorPjAe
import Derived.StillTailTactics
import Derived.Test.YtfigekdejocakabDoorPjAb
import Derived.Test.YtfigekdejocakabDoorPjAd
import Derived.Test.YtfigekdejocakabDoorPjAi
import Derived.Deep.RegionLaw
import Derived.Deep.AppendLies
import Derived.Maps.AppendAt
import Derived.Laws.AppendOwnNone
import Derived.Test.YtfigekdejocakabDoorShpT
import Derived.Test.YtfigekdejocakabDoorPjAf
import Derived.Deep.QuietTactic
import Derived.Deep.RegionHeld
import Derived.Deep.Cut
import Derived.BigQuiet
namespace Go.Proofs.YtfigekdejocakabDoor
open Go.RowKit
set_option linter.unusedVariables false

/-- what tupleReach hands back -/
def GivesReach (w : World) (ns : List Nd) (i : Int) (e : Ending) (w' : World) : Prop :=
  ∃ A c out, e = .returned (.slice A out.length c) ∧ OwnI w' w.heap.size A c out ∧ Below w.heap.size w w' ∧ (∀ x, x ∈ out ↔ TReach ns i x) ∧ (∀ x ∈ out, 0 ≤ x ∧ x < ns.length) ∧ out.length ≤ ns.length

/-- every node's kids are few and are nodes -/
def KidsOk (ns : List Nd) : Prop := ns.length ≤ 12 ∧ ∀ n ∈ ns, n.kids.length ≤ 6 ∧ ∀ x ∈ n.kids, 0 ≤ x ∧ x < ns.length

theorem in64_of_range {ns : List Nd} {out : List Int} (h12 : ns.length ≤ 12) (h : ∀ x ∈ out, 0 ≤ x ∧ x < ns.length) : ∀ x ∈ out, In64 x := fun x hx => by
  have := h x hx
  constructor <;> omega

set_option maxRecDepth 100000 in
set_option maxHeartbeats 4000000 in
theorem tupleReach_any (A : Option Addr) (ns : List Nd) (c : Nat) (r : Int) (i : Nat) (w : World) (hr : NdsAt w w.heap.size A ns) (hko : KidsOk ns) (hi : i < ns.length) :
    Calls Tryd.prog 52 #[.agg #[.slice A ns.length c, .int .i64 r], .int .i64 (i : Int)] w (GivesReach w ns i) := by
  obtain ⟨h12, hkids0⟩ := hko
  have hkids := hide hkids0
  clear hkids0
  have hB : Below w.heap.size w ((w.alloc (.cells #[.slice A ns.length c, .int .i64 r] 37)).alloc (.cells #[] 3)) := ((Below.refl _ _).alloc (Nat.le_refl _) _).alloc (by simp) _
  have l1 := (Lies.new w #[.slice A ns.length c, .int .i64 r] 37).alloc (.cells #[] 3)
  have hr2 := hr.below hB
  have hbare := OwnI.bare (w.alloc (.cells #[.slice A ns.length c, .int .i64 r] 37))
  simp only [World.size_alloc] at hbare
  clear hr
  have hi1 : (0 : Int) ≤ (i : Int) := by omega
  have hi2 : (i : Int) < (ns.length : Int) := by omega
  obtain ⟨b, off, n, rfl, hbl, hat, hmem, hN⟩ := hr2.at_ hi
  obtain ⟨hn_k, hn_v, ⟨A1, c1, hn_s, hI1', hnil1⟩, _, _⟩ := hN
  have hI1 := hI1'.more hB.size
  clear hI1'
  obtain ⟨hkn, hkr0⟩ := hkids.out n hmem
  have hkr := hide hkr0
  have hki := hide (kidsOf_at hat)
  clear hat hmem hn_k hn_v hkr0
  go_enter Tryd.func52, Tryd.ntmps52
  go_wp2_with fail
  generalize hWd : (w.alloc (.cells #[.slice (some ⟨b, off, none⟩) ns.length c, .int .i64 r] 37)).alloc (.cells #[] 3) = W at hB l1 hr2 hbl hn_s hI1 hbare ⊢
  have hWs : w.heap.size + 2 = W.heap.size := by rw [← hWd]; simp
  have HWs := hide hWs
  clear hWd hWs
  refine (copyInts_any A1 n.kids c1 W hI1 hnil1 (by omega)).mono ?_
  rintro e w1 ⟨Al, cl, rfl, hlist, hb1⟩
  go_wp2_with fail
  go_loopw [5, 6, 7] (fun o l iv wr => ∃ (out list : List Int) (Ao Al : Option Addr) (co cl k : Nat), o = .slice Ao out.length co ∧ l = .slice Al list.length cl ∧ iv = .int .i64 k ∧ k ≤ list.length ∧
      OwnI wr (w.heap.size + 1) Ao co out ∧ OwnI wr (w.heap.size + 1) Al cl list ∧ Below (w.heap.size + 1) W wr ∧ (∀ g, blockOf Ao = some g → blockOf Al ≠ some g) ∧ TInv ns i out list k) (fun _ _ iv _ => 79 - (intOf iv).toNat)
  case atStart =>
    refine ⟨[], n.kids, _, Al, _, cl, 0, rfl, rfl, rfl, Nat.zero_le _, hbare.below hb1, hlist.mono (by have := HWs.out; omega), hb1.mono (by have := HWs.out; omega), ?_, ?_⟩
    · intro g hg hg2
      simp [blockOf] at hg
      have := hlist.blocks g hg2
      have := HWs.out
      omega
    · have := TInv.start (ns := ns) (i := i) (by rw [hki.out]; exact hkn) (by rw [hki.out]; exact hkr.out)
      rw [hki.out] at this
      exact this
  case round =>
    obtain ⟨out, list, Ao, Al', co, cl', k, rfl, rfl, rfl, hkl, hout, hli, hb, hap0, hinv⟩ := hrel
    clear hlist hbare hb1 hn_s hI1
    have hap := hide hap0
    clear hap0
    have hsz : w.heap.size + 2 ≤ wr.heap.size := by have := hb.size; have := HWs.out; omega
    have Hinv := hide hinv
    have hk78 := hinv.listLen h12
    have ho12 := hinv.outLen
    have wfo : ∀ x ∈ out, In64 x := in64_of_range h12 fun x hx => hinv.range x (hinv.sub x hx)
    have wfl : ∀ x ∈ list, In64 x := in64_of_range h12 hinv.range
    have hio := hout.ints wfo (by omega)
    have hil := hli.ints wfl (by omega)
    have Wfo := hide wfo
    have Wfl := hide wfl
    clear hinv wfo wfl
    have l1r := l1.below hb (by omega)
    have e0 := l1r.cell 0
    simp at e0
    by_cases hlt : k < list.length
    · obtain ⟨b2, off2, x, rfl, hbl2, hx, hxm, hcx⟩ := hil.at_ hlt
      obtain ⟨hx0, hx1⟩ := Hinv.out.range x hxm
      obtain ⟨y, rfl⟩ := Int.eq_ofNat_of_zero_le hx0
      have Hx := hide hx
      clear hx hxm
      have hk1 : (0 : Int) ≤ (k : Int) := by omega
      have hk2 : (k : Int) < (list.length : Int) := by omega
      go_wp2_with fail
      refine (placeIn_any Ao out co y wr hio).mono ?_
      rintro e w' ⟨rfl, rfl⟩
      by_cases hmem : (y : Int) ∈ out
      · have hp := place_lt hmem
        have hd : decide (place out y < 0) = false := by simp; omega
        generalize place out y = pl at hp hd ⊢
        have Hn := hide (Hinv.out.seen Hx.out hmem)
        clear hmem
        go_wp2
        go_roundw
        case rel => exact ⟨out, list, Ao, _, co, cl', k + 1, rfl, rfl, by go_num, by omega, hout, hli, hb, hap.out, Hn.out⟩
        case measure => simp [intOf]; omega
      · rw [place_neg hmem]
        have hIone := IntsAt.one wr y (by constructor <;> omega)
        go_wp2_with (at_builtin; refine append_ints rfl (.tmp 29) (.tmp 34) rfl (w.heap.size + 1) Ao co out rfl (hout.alloc _) (wr.heap.size + 1) _ 1 [(y : Int)] rfl (fun e => by cases e) hIone (by simp; omega) (by simp; omega) ?_; intro zs A' c' w2 hz hown2 hg2 hat2)
        have hb2 : Below (w.heap.size + 1) W w2 := below_grown (hb.alloc (by omega) _) hg2 (by simp; omega) (fun k hk => (hout.blocks k hk).1)
        have hli2 : OwnI w2 (w.heap.size + 1) (some ⟨b2, off2, none⟩) cl' list := (hli.alloc _).kept hg2 (.inr (fun e => hap.out b2 (by rw [← e]; simp [blockOf]) (by simp [blockOf])))
        have hap2 : Hid (∀ g, blockOf A' = some g → blockOf (some (⟨b2, off2, none⟩ : Addr)) ≠ some g) := by
          intro g hg e
          rcases hat2 with h | h
          · exact hap.out g (by rw [← h]; exact hg) e
          · simp only [World.size_alloc] at h
            have := hli.blocks b2 (by simp [blockOf])
            rw [hg] at h
            simp [blockOf] at e h
            omega
        clear hat2 hg2 hio hIone hap hout hli hil e0 l1r
        have hil2 := hli2.ints Wfl.out (by omega)
        have e0 := (l1.below hb2 (by omega)).cell 0
        simp at e0
        obtain ⟨_, _, _, he2, _, hx2, _, hcx2⟩ := hil2.at_ hlt
        simp only [Option.some.injEq, Addr.mk.injEq, and_true] at he2
        obtain ⟨rfl, rfl⟩ := he2
        obtain rfl := Option.some.inj (hx2.symm.trans Hx.out)
        obtain ⟨b3, off3, m, he3, hbl3, hat3, hmm, hM⟩ := (hr2.below (hb2.mono (by omega))).at_ (k := y) (by omega)
        simp only [Option.some.injEq, Addr.mk.injEq, and_true] at he3
        obtain ⟨rfl, rfl⟩ := he3
        obtain ⟨hm_k, hm_v, ⟨A2, c2, hm_s, hI2', hnil2⟩, _, _⟩ := hM
        have hI2 := hI2'.more (show w.heap.size ≤ w2.heap.size by have := hB.size; have := hb2.size; omega)
        clear hI2'
        obtain ⟨hkm, hkr0'⟩ := hkids.out m hmm
        have hkr2 := hide hkr0'
        have hkk := hide (kindOf_at hat3)
        have hkk2 := hide (kidsOf_at hat3)
        clear hx2 hat3 hmm hkr0' hm_v hcx
        have hy1 : (0 : Int) ≤ (y : Int) := by omega
        have hb3 : Below (w.heap.size + 1) W w2.drew := hb2.drew
        have hown3 := hown2.drew
        have hli3 := hli2.drew
        have hI3 : IntsAt w2.drew w2.drew.heap.size A2 m.kids := hI2.later (Below.refl _ _).drew (Nat.le_refl _)
        have f0 : w2.drew.cell? ⟨w.heap.size, 0, none⟩ = some (.slice (some ⟨b, off, none⟩) ns.length c) := e0
        have f1 : w2.drew.cell? ⟨b2, off2 + k, none⟩ = some (.int .i64 (y : Int)) := hcx2
        have f2 : w2.drew.cell? ⟨b, off + y * 3 + 2, none⟩ = some (.slice A2 m.kids.length c2) := hm_s
        have f3 : w2.drew.cell? ⟨b, off + y * 3, none⟩ = some (.int .i64 m.kind) := hm_k
        by_cases h2 : m.kind = 2
        · have t2 : (m.kind == 2) = true := by rw [beq_iff_eq]; exact h2
          have Hn := hide (Hinv.out.tuple Hx.out hmem (by rw [hkk.out]; exact h2) (by rw [hkk2.out]; exact hkm) (by rw [hkk2.out]; exact hkr2.out))
          clear hmem h2
          go_wp2_with fail
          go_still_tail 9, (by kernel_rfl)
          change wpList _ _ _ _ _ w2.drew
          generalize w2.drew = w3 at hb3 hown3 hli3 hI3 f0 f1 f2 f3 ⊢
          clear hb2 hown2 hli2 hI2 e0 hcx2 hm_s hm_k hil2
          have hb4 : Below (w.heap.size + 1) W w3.drew := hb3.drew
          have hown4 := hown3.drew
          have hli4 := hli3.drew
          have hI4 : IntsAt w3.drew w3.drew.heap.size A2 m.kids := hI3.later (Below.refl _ _).drew (Nat.le_refl _)
          go_wp2_with fail
          go_still_tail 10, (by kernel_rfl)
          change wpList _ _ _ _ _ w3.drew
          generalize w3.drew = w4 at hb4 hown4 hli4 hI4 ⊢
          clear hb3 hown3 hli3 hI3 f0 f1 f2 f3
          go_wp2_with (at_builtin; refine append_ints rfl (.tmp 46) (.tmp 55) rfl (w.heap.size + 1) _ cl' list rfl hli4 _ A2 c2 m.kids rfl hnil2 hI4 (by omega) (by have := hb4.size; have := HWs.out; omega) ?_; intro ls Al2 cl2 w5 hls hown5 hg5 hat5)
          go_roundw
          case rel =>
            refine ⟨zs, ls, A', Al2, c', cl2, k + 1, rfl, rfl, by go_num, ?_, ?_, hown5, ?_, ?_, ?_⟩
            · rw [hls.out]; simp; omega
            · exact hown4.kept hg5 (by
                cases hA : blockOf A' with
                | none => exact .inl rfl
                | some g => exact .inr (fun e => hap2.out g hA e.symm))
            · exact below_grown hb4 hg5 (by have := hb4.size; have := HWs.out; omega) (fun k hk => (hli4.blocks k hk).1)
            · intro g hg e
              rcases hat5 with h | h
              · exact hap2.out g hg (by rw [← h]; exact e)
              · rw [h] at e
                have := hown4.blocks g hg
                simp at e
                omega
            · rw [hz.out, hls.out, ← hkk2.out]
              exact Hn.out
          case measure => simp [intOf]; omega
        · have t2 : (m.kind == 2) = false := by rw [beq_eq_false_iff_ne]; exact h2
          have Hn := hide (Hinv.out.leaf Hx.out hmem (by rw [hkk.out]; exact h2))
          clear hmem h2
          go_wp2_with fail
          go_still_tail 9, (by kernel_rfl)
          change wpList _ _ _ _ _ w2.drew
          generalize w2.drew = w3 at hb3 hown3 hli3 ⊢
          clear hb2 hown2 hli2 hI2 e0 hcx2 hm_s hm_k hil2 f0 f1 f2 f3
          go_wp2
          go_roundw
          case rel => exact ⟨zs, list, A', _, c', cl', k + 1, rfl, rfl, by go_num, by omega, hown3, hli3, hb3, hap2.out, by rw [hz.out]; exact Hn.out⟩
          case measure => simp [intOf]; omega
    · obtain rfl : k = list.length := by omega
      have HF := hide Hinv.out.all
      have HR := hide (show ∀ x ∈ out, 0 ≤ x ∧ x < (ns.length : Int) from fun x hx => Hinv.out.range x (Hinv.out.sub x hx))
      clear hlt hil hio
      go_wp2
      go_ret
      exact ⟨Ao, co, out, rfl, hout.mono (by omega), hB.trans (hb.mono (by omega)), HF.out, HR.out, ho12⟩

end Go.Proofs.YtfigekdejocakabDoor

namespace Go.Proofs.YtfigekdejocakabDoor
open Go.RowKit
set_option linter.unusedVariables false

def opVals (os : List Od) : List Value := os.flatMap fun o => [.int .i64 o.code, .int .i64 o.arg]

theorem opVals_cons (o : Od) (os : List Od) : opVals (o :: os) = .int .i64 o.code :: .int .i64 o.arg :: opVals os := by simp [opVals]
theorem opVals_snoc (os : List Od) (o : Od) : opVals (os ++ [o]) = opVals os ++ [.int .i64 o.code, .int .i64 o.arg] := by simp [opVals]
theorem opVals_len (os : List Od) : (opVals os).length = os.length * 2 := by
  induction os with
  | nil => rfl
  | cons o os ih => rw [opVals_cons]; simp [ih]; omega
theorem opVals_code {os : List Od} {k : Nat} {o : Od} (h : os[k]? = some o) : (opVals os)[k * 2]? = some (.int .i64 o.code) := by
  induction os generalizing k with
  | nil => simp at h
  | cons p os ih =>
    rw [opVals_cons]
    cases k with
    | zero => simp at h; subst h; rfl
    | succ k =>
      rw [show (k + 1) * 2 = k * 2 + 1 + 1 by omega, List.getElem?_cons_succ, List.getElem?_cons_succ]
      exact ih (by simpa using h)
theorem opVals_arg {os : List Od} {k : Nat} {o : Od} (h : os[k]? = some o) : (opVals os)[k * 2 + 1]? = some (.int .i64 o.arg) := by
  induction os generalizing k with
  | nil => simp at h
  | cons p os ih =>
    rw [opVals_cons]
    cases k with
    | zero => simp at h; subst h; rfl
    | succ k =>
      rw [show (k + 1) * 2 + 1 = k * 2 + 1 + 1 + 1 by omega, List.getElem?_cons_succ, List.getElem?_cons_succ]
      exact ih (by simpa using h)

/-- the slice value (A, length of os, c) owns the orders os in a row from block base on -/
structure OwnO (w : World) (base : Nat) (A : Option Addr) (c : Nat) (os : List Od) : Prop where
  own : w.ownsRow base 40 2 (.slice A os.length c) os.length (opVals os)

theorem OwnO.empty (w : World) (base : Nat) : OwnO w base none 0 [] := ⟨World.ownsRow_nil _ _ _ _⟩
theorem OwnO.bare (w : World) : OwnO (w.alloc (.cells #[] 40)) w.heap.size (some ⟨w.heap.size, 0, none⟩) 0 [] :=
  ⟨World.ownsRow_lit w #[] 0 (Nat.le_refl _) (by unfold maxLen; omega) rfl⟩

theorem OwnO.form {w : World} {base : Nat} {A : Option Addr} {c : Nat} {os : List Od} (h : OwnO w base A c os) :
    (A = none ∧ c = 0 ∧ os = []) ∨ ∃ g, A = some ⟨g, 0, none⟩ ∧ base ≤ g ∧ g < w.heap.size := by
  rcases h.own.2 with ⟨h1, h2⟩ | ⟨g, cap, cur, hv, hg, hh, _⟩
  · injection h1 with h1 _ h3
    exact .inl ⟨h1, h3, List.eq_nil_of_length_eq_zero h2⟩
  · injection hv with hv
    exact .inr ⟨g, hv, hg, lt_of_block hh⟩

theorem OwnO.ops {w : World} {base : Nat} {A : Option Addr} {c : Nat} {os : List Od} (h : OwnO w base A c os) (hwf : ∀ o ∈ os, In64 o.code ∧ In64 o.arg) (hl : os.length ≤ 9223372036854775807) : OpsAt w w.heap.size A os := by
  refine ⟨fun hx => ?_, hwf, hl⟩
  rcases h.form with ⟨_, _, h2⟩ | ⟨g, rfl, _, hlt⟩
  · exact absurd h2 hx
  · refine ⟨g, 0, rfl, hlt, fun j o hj => ?_⟩
    have hjl : j < os.length := (List.getElem?_eq_some_iff.1 hj).1
    rw [Nat.zero_add, h.own.cellAt (j * 2) (by omega), h.own.cellAt (j * 2 + 1) (by omega)]
    exact ⟨opVals_code hj, opVals_arg hj⟩

theorem OwnO.blocks {w : World} {base : Nat} {A : Option Addr} {c : Nat} {os : List Od} (h : OwnO w base A c os) : ∀ k, blockOf A = some k → base ≤ k ∧ k < w.heap.size := by
  intro k hk
  rcases h.form with ⟨rfl, _, _⟩ | ⟨g, rfl, h1, h2⟩
  · cases hk
  · simp [blockOf] at hk
    omega

theorem OwnO.alloc {w : World} {base : Nat} {A : Option Addr} {c : Nat} {os : List Od} (h : OwnO w base A c os) (o : Obj) : OwnO (w.alloc o) base A c os := ⟨h.own.alloc o⟩
theorem OwnO.drew {w : World} {base : Nat} {A : Option Addr} {c : Nat} {os : List Od} (h : OwnO w base A c os) : OwnO w.drew base A c os := ⟨h.own⟩
theorem OwnO.kept {w w' : World} {base : Nat} {A : Option Addr} {c : Nat} {os : List Od} {row : Option Nat} (h : OwnO w base A c os) (hg : w.grownBy w' row) (hne : blockOf A = none ∨ blockOf A ≠ row) : OwnO w' base A c os :=
  ⟨h.own.kept hg (by rw [ownBlock_slice]; exact hne)⟩
theorem OwnO.below {w w' : World} {base : Nat} {A : Option Addr} {c : Nat} {os : List Od} (h : OwnO w base A c os) (hb : Below w.heap.size w w') : OwnO w' base A c os :=
  h.kept (grownBy_of_below hb) (by cases hA : blockOf A <;> simp)
theorem OwnO.mono {w : World} {base base' : Nat} {A : Option Addr} {c : Nat} {os : List Od} (h : OwnO w base A c os) (hb : base' ≤ base) : OwnO w base' A c os := by
  refine ⟨h.own.1, ?_⟩
  rcases h.own.2 with h2 | ⟨g, cap, cur, hv, hg, r⟩
  · exact .inl h2
  · exact .inr ⟨g, cap, cur, hv, Nat.le_trans hb hg, r⟩

theorem OwnO.only {w w' : World} {base lo hi : Nat} {A : Option Addr} {c : Nat} {os : List Od} (h : OwnO w base A c os) (ho : Only lo hi w w') (hA : ∀ g, blockOf A = some g → g < lo ∨ hi ≤ g) : OwnO w' base A c os := by
  refine ⟨h.own.1, ?_⟩
  rcases h.own.2 with h2 | ⟨g, cap, cur, hv, hg, hh, r⟩
  · exact .inl h2
  · refine .inr ⟨g, cap, cur, hv, hg, ?_, r⟩
    rw [ho.block g]
    · exact hh
    · apply hA g
      injection hv with hv
      rw [hv]
      rfl

theorem OwnO.of_block {w w' : World} {base : Nat} {A : Option Addr} {c : Nat} {os : List Od} (h : OwnO w base A c os) (hA : ∀ g, blockOf A = some g → w'.heap[g]? = w.heap[g]?) : OwnO w' base A c os := by
  refine ⟨h.own.1, ?_⟩
  rcases h.own.2 with h2 | ⟨g, cap, cur, hv, hg, hh, r⟩
  · exact .inl h2
  · refine .inr ⟨g, cap, cur, hv, hg, ?_, r⟩
    rw [hA g (by injection hv with hv; rw [hv]; rfl)]
    exact hh

theorem OwnI.of_block {w w' : World} {base : Nat} {A : Option Addr} {c : Nat} {xs : List Int} (h : OwnI w base A c xs) (hA : ∀ g, blockOf A = some g → w'.heap[g]? = w.heap[g]?) : OwnI w' base A c xs := by
  refine ⟨h.own.1, ?_⟩
  rcases h.own.2 with h2 | ⟨g, cap, cur, hv, hg, hh, r⟩
  · exact .inl h2
  · refine .inr ⟨g, cap, cur, hv, hg, ?_, r⟩
    rw [hA g (by injection hv with hv; rw [hv]; rfl)]
    exact hh

/-- a store into an own int slice -/
theorem OwnI.set {w : World} {base g : Nat} {c : Nat} {xs : List Int} (h : OwnI w base (some ⟨g, 0, none⟩) c xs) (j : Nat) (x : Int) :
    OwnI (w.setCell ⟨g, j, none⟩ (.int .i64 x)) base (some ⟨g, 0, none⟩) c (xs.set j x) := by
  have := (h.own.stored j (.int .i64 x)).1
  refine ⟨?_⟩
  rw [List.length_set, List.map_set]
  exact this
theorem OwnI.cellAt {w : World} {base g : Nat} {c : Nat} {xs : List Int} (h : OwnI w base (some ⟨g, 0, none⟩) c xs) {j : Nat} {x : Int} (hj : xs[j]? = some x) : w.cell? ⟨g, j, none⟩ = some (.int .i64 x) := by
  rw [h.own.cellAt j (by have := (List.getElem?_eq_some_iff.1 hj).1; omega), List.getElem?_map, hj]
  rfl

theorem OwnO.row {w : World} {base g : Nat} {c : Nat} {os : List Od} (h : OwnO w base (some ⟨g, 0, none⟩) c os) :
    ∃ (cap : Nat) (f : Nat → Value), w.rowIs g 40 (cap * 2) f ∧ os.length ≤ cap ∧ cap ≤ maxLen ∧ c = cap ∧ base ≤ g := by
  rcases h.own.2 with ⟨h1, _⟩ | ⟨g', cap, cur, hv, hg, hh, hn, hm, hs, _⟩
  · injection h1 with h1
    cases h1
  · injection hv with hv _ hc
    obtain rfl : g = g' := by simpa using hv
    refine ⟨cap, fun i => (cur[i]?).getD undef, ⟨cur, hh, by simpa using hs, fun i hi => ?_⟩, hn, hm, hc, hg⟩
    have : i < cur.size := by rw [hs]; omega
    show _ = some ((cur[i]?).getD undef)
    rw [Array.getElem?_eq_getElem this]; rfl

theorem OwnO.of_row {w : World} {base g cap : Nat} {f : Nat → Value} {os : List Od} (h : w.rowIs g 40 (cap * 2) f) (hl : os.length ≤ cap) (hm : cap ≤ maxLen) (hb : base ≤ g) (hf : ∀ i, i < os.length * 2 → (opVals os)[i]? = some (f i)) :
    OwnO w base (some ⟨g, 0, none⟩) cap os := by
  obtain ⟨cur, hh, hs, hc⟩ := h
  refine ⟨⟨opVals_len os, .inr ⟨g, cap, cur, rfl, hb, hh, hl, hm, by simpa using hs, ?_⟩⟩⟩
  apply List.ext_getElem?
  intro i
  rw [List.getElem?_take]
  by_cases hi : i < os.length * 2
  · rw [if_pos hi, Array.getElem?_toList, hc i (by omega), hf i hi]
  · rw [if_neg hi, List.getElem?_eq_none (by rw [opVals_len]; omega)]

theorem vals_one (o : Od) : ∀ u ∈ [Value.int .i64 o.code, Value.int .i64 o.arg], u.oneCell' = true := by
  intro u hu
  simp at hu
  rcases hu with rfl | rfl <;> rfl

/-- append(s, o) of one order, which lies in a block of its own -/
theorem append_op {w : World} {ops : Array Oper} {rest : List Oper} {o : Oper} {a : Act} {Q : Exit → Act → World → Prop} (hgd : o.guard = none) (s x : Operand)
    (ho : o.op = .call { callee := .builtin .append, args := #[s, x], argTypes := #[23, 23] })
    (base : Nat) (A : Option Addr) (c : Nat) (os : List Od) (hs : a.eval s = .slice A os.length c) (hown : OwnO w base A c os)
    (b : Nat) (d : Od) (t : TypeId) (hx : a.eval x = .slice (some ⟨b, 0, none⟩) 1 1) (hr : Lies w b #[.int .i64 d.code, .int .i64 d.arg] t)
    (hsum : os.length + 1 ≤ 16777216) (hbase : base ≤ w.heap.size)
    (h : ∀ (zs : List Od) (A' : Option Addr) (c' : Nat) (w' : World), Hid (zs = os ++ [d]) → OwnO w' base A' c' zs → w.grownBy w' (blockOf A) → (blockOf A' = blockOf A ∨ blockOf A' = some w.heap.size) →
      wpList Tryd.prog ops Q rest (a.put o.dst (.slice A' zs.length c')) w') : wpList Tryd.prog ops Q (o :: rest) a w := by
  obtain ⟨i0, hi, hz0, hz1, hz2⟩ := info_parts infoOp
  refine wpList_append_own_at w hgd s x 23 ho base 40 i0 _ 2 16 Tryd.underlying23 hi hz0 hz1 hz2 rfl (by omega) _ _ _ hs hown.own ⟨b, 0, none⟩ 1 1 [.int .i64 d.code, .int .i64 d.arg] hx (by simp) (World.news_of_block hr) (vals_one d)
    (by unfold maxLen; omega) (by omega) hbase ?_
  intro v' w' h2 h3 _ h5
  have hlen : os.length + 1 = (os ++ [d]).length := by simp
  rw [ownBlock_slice] at h3 h5
  rw [← opVals_snoc, hlen] at h2
  rcases h2.2 with ⟨_, h6⟩ | ⟨g, cap, cur, rfl, _⟩
  · simp at h6
  · exact h (os ++ [d]) _ _ w' (by simp [Hid]) ⟨h2⟩ h3 (by simpa [ownBlock_slice] using h5)

/-- a call that hands back a slice of orders of its own that reads os, and leaves old memory as it was -/
def GivesOps (w : World) (os : List Od) (e : Ending) (w' : World) : Prop := ∃ A c, e = .returned (.slice A os.length c) ∧ OwnO w' w.heap.size A c os ∧ Below w.heap.size w w'

end Go.Proofs.YtfigekdejocakabDoor

namespace Go.Proofs.YtfigekdejocakabDoor
open Go.RowKit
set_option linter.unusedVariables false

theorem opVals_one (os : List Od) : ∀ u ∈ opVals os, u.oneCell' = true := by
  intro u hu
  obtain ⟨o, _, hu⟩ := List.mem_flatMap.1 hu
  simp at hu
  rcases hu with rfl | rfl <;> rfl

theorem opVals_append (os ps : List Od) : opVals (os ++ ps) = opVals os ++ opVals ps := by simp [opVals]

theorem OpsAt.vals {w : World} {B b off : Nat} {os : List Od} (h : OpsAt w B (some ⟨b, off, none⟩) os) : ∀ j u, (opVals os)[j]? = some u → w.cell? ⟨b, off + j, none⟩ = some u := by
  intro j u hu
  have hj : j < os.length * 2 := by have := (List.getElem?_eq_some_iff.1 hu).1; rwa [opVals_len] at this
  have hk : j / 2 < os.length := by omega
  obtain ⟨b', off', o, e, _, ho, _, hc0, hc1⟩ := h.at_ hk
  injection e with e
  injection e with e1 e2
  subst e1 e2
  rcases Nat.mod_two_eq_zero_or_one j with hm | hm
  · have ej : j = j / 2 * 2 := by omega
    have := opVals_code ho
    rw [← ej] at this hc0
    rw [this] at hu
    injection hu with hu
    rw [← hu]
    exact hc0
  · have ej : j = j / 2 * 2 + 1 := by omega
    have := opVals_arg ho
    rw [← ej] at this
    rw [Nat.add_assoc, ← ej] at hc1
    rw [this] at hu
    injection hu with hu
    rw [← hu]
    exact hc1

/-- append(s, t...) where s is the call's own and t is any slice of orders that reads as ys -/
theorem append_ops {w : World} {ops : Array Oper} {rest : List Oper} {o : Oper} {a : Act} {Q : Exit → Act → World → Prop} (hgd : o.guard = none) (s x : Operand)
    (ho : o.op = .call { callee := .builtin .append, args := #[s, x], argTypes := #[23, 23] })
    (base : Nat) (A : Option Addr) (c : Nat) (xs : List Od) (hs : a.eval s = .slice A xs.length c) (hown : OwnO w base A c xs)
    (B : Nat) (A2 : Option Addr) (c2 : Nat) (ys : List Od) (hx : a.eval x = .slice A2 ys.length c2) (hnil : A2 = none → c2 = 0) (hr : OpsAt w B A2 ys)
    (hsum : xs.length + ys.length ≤ 8388608) (hbase : base ≤ w.heap.size)
    (h : ∀ (zs : List Od) (A' : Option Addr) (c' : Nat) (w' : World), Hid (zs = xs ++ ys) → OwnO w' base A' c' zs → w.grownBy w' (blockOf A) → (blockOf A' = blockOf A ∨ blockOf A' = some w.heap.size) →
      wpList Tryd.prog ops Q rest (a.put o.dst (.slice A' zs.length c')) w') : wpList Tryd.prog ops Q (o :: rest) a w := by
  obtain ⟨i0, hi, hz0, hz1, hz2⟩ := info_parts infoOp
  have hempty : A2 = none → ys = [] := by
    intro e
    cases ys with
    | nil => rfl
    | cons y ys =>
      obtain ⟨b, off, e2, _⟩ := hr.row (by simp)
      rw [e] at e2; cases e2
  rcases A2 with _ | ad
  · obtain rfl := hnil rfl
    obtain rfl := hempty rfl
    exact wpList_append_own_none hgd s x 23 ho base 40 i0 2 Tryd.underlying23 hi _ _ _ hs hown.own hx
      (h xs A c w (by simp [Hid]) hown (World.grownBy.refl w _) (.inl rfl))
  · have hcells : ∀ j u, (opVals ys)[j]? = some u → w.cell? (ad.add j) = some u := by
      intro j u hu
      have hy : ys ≠ [] := by intro e; subst e; simp [opVals] at hu
      obtain ⟨b, off, e2, _⟩ := hr.row hy
      obtain rfl : ad = ⟨b, off, none⟩ := Option.some.inj e2
      have hadd : (⟨b, off, none⟩ : Addr).add j = ⟨b, off + j, none⟩ := by
        unfold Addr.add
        split
        · rename_i h0; subst h0; rfl
        · rfl
      rw [hadd]
      exact hr.vals j u hu
    refine wpList_append_own_at w hgd s x 23 ho base 40 i0 _ 2 16 Tryd.underlying23 hi hz0 hz1 hz2 rfl (by omega) _ _ _ hs hown.own ad ys.length c2 (opVals ys) hx (by rw [opVals_len]) hcells (opVals_one ys)
      (by unfold maxLen; omega) (by omega) hbase ?_
    intro v' w' h2 h3 _ h5
    have hlen : xs.length + ys.length = (xs ++ ys).length := by simp
    rw [ownBlock_slice] at h3 h5
    rw [← opVals_append, hlen] at h2
    rcases h2.2 with ⟨rfl, h6⟩ | ⟨g, cap, cur, rfl, _⟩
    · have hzs : xs ++ ys = [] := List.eq_nil_of_length_eq_zero h6
      have := h (xs ++ ys) none 0 w' (by simp [Hid]) ⟨by rw [h6] at h2 ⊢; exact h2⟩ h3 (by simpa [blockOf, Value.ownBlock] using h5)
      rw [h6] at this
      exact this
    · exact h (xs ++ ys) _ _ w' (by simp [Hid]) ⟨h2⟩ h3 (by simpa [ownBlock_slice] using h5)

theorem OpsAt.upto {w : World} {B : Nat} {A : Option Addr} {os : List Od} (h : OpsAt w B A os) (n : Nat) : OpsAt w B A (os.take n) := by
  refine ⟨fun hx => ?_, fun x hx => h.wf x (List.mem_of_mem_take hx), Nat.le_trans (by simp; omega) h.len⟩
  obtain ⟨b, off, e, hlt, hc⟩ := h.row (by intro e; subst e; simp at hx)
  refine ⟨b, off, e, hlt, fun j x hj => hc j x ?_⟩
  rw [List.getElem?_take] at hj
  split at hj
  · exact hj
  · cases hj

end Go.Proofs.YtfigekdejocakabDoor

namespace Go.Proofs.YtfigekdejocakabDoor
open Go.RowKit
set_option linter.unusedVariables false

/-- the one order that the translation lays for emit(ops, o) -/
theorem OpsAt.one {w : World} {b : Nat} {o : Od} {t : TypeId} (h : Lies w b #[.int .i64 o.code, .int .i64 o.arg] t) (h64 : In64 o.code ∧ In64 o.arg) : OpsAt w w.heap.size (some ⟨b, 0, none⟩) [o] := by
  have c0 := h.cell 0
  have c1 := h.cell 1
  simp only [List.getElem?_toArray, List.getElem?_cons_zero, List.getElem?_cons_succ] at c0 c1
  refine ⟨fun _ => ⟨b, 0, rfl, h.lt, fun j x hj => ?_⟩, fun x hx => ?_, by simp⟩
  · match j, hj with
    | 0, hj =>
      simp at hj
      subst hj
      exact ⟨c0, c1⟩
  · rw [List.mem_singleton.1 hx]
    exact h64

set_option maxHeartbeats 1000000 in
theorem emit_any (A : Option Addr) (os : List Od) (c : Nat) (B : Option Addr) (ps : List Od) (d : Nat) (w : World) (h : OpsAt w w.heap.size A os) (hn : A = none → c = 0) (h2 : OpsAt w w.heap.size B ps) (hn2 : B = none → d = 0) (hl : os.length + ps.length ≤ 8000000) :
    Calls Tryd.prog 31 #[.slice A os.length c, .slice B ps.length d] w (GivesOps w (os ++ ps)) := by
  have Hn := hide hn
  have Hn2 := hide hn2
  have HE := hide (OwnO.bare w)
  have HB := hide ((Below.refl w.heap.size w).alloc (Nat.le_refl _) (.cells #[] 40))
  clear hn hn2
  go_enter Tryd.func31, Tryd.ntmps31
  go_wp2_with (at_builtin; first
    | (refine append_ops rfl (.tmp 5) (.tmp 6) rfl w.heap.size _ 0 [] rfl HE.out w.heap.size A c os rfl Hn.out (h.below HB.out) (by simp; omega) HB.out.size ?_; intro zs A5 c5 w6 e5 own5 hg5 _; have HB6 := hide (below_grown HB.out hg5 HB.out.size (fun q hq => (HE.out.blocks q hq).1)); have HO6 := hide own5; have hz6 : zs.length = os.length := (by rw [e5.out, List.nil_append]); have hz7 : zs.length ≤ os.length := (by omega); clear own5 hg5 hz6)
    | (refine append_ops rfl (.tmp 7) (.tmp 8) rfl w.heap.size A5 c5 zs rfl HO6.out w.heap.size B d ps rfl Hn2.out (h2.below HB6.out) (by omega) HB6.out.size ?_; intro ys A7 c7 w8 e7 own7 hg7 _; have HB8 := hide (below_grown HB6.out hg7 HB6.out.size (fun q hq => (HO6.out.blocks q hq).1)); have HO8 := hide own7; clear own7 hg7))
  go_ret
  have e8 : ys = os ++ ps := by rw [e7.out, e5.out, List.nil_append]
  subst e8
  exact ⟨A7, c7, rfl, HO8.out, HB8.out⟩

end Go.Proofs.YtfigekdejocakabDoor

namespace Go.Proofs.YtfigekdejocakabDoor
open Go.RowKit
set_option linter.unusedVariables false
set_option linter.unusedSimpArgs false
set_option maxRecDepth 100000 in
set_option maxHeartbeats 4000000 in
theorem stepShapes_done (p : ShPtr) (s : Shp) (cd ar : Int) (hd : s.done = true) (base : Nat) (w : World) (h : ShOwn w base p s) (hbase : base ≤ w.heap.size) (hs : s.Small) :
    Calls Tryd.prog 25 #[shVal p s, .agg #[.int .i64 cd, .int .i64 ar]] w (TriesSh w p base (stepShp s ⟨cd, ar⟩)) := by
  obtain ⟨K, c1, F, c2, S, c3, M, c4⟩ := p
  have hS := ShSt.enter3 h hbase (.cells #[.int .i64 cd, .int .i64 ar] 40)
  have lo : Lies (((w.alloc (.cells (shCells ⟨K, c1, F, c2, S, c3, M, c4⟩ s) 55)).alloc (.cells #[.int .i64 cd, .int .i64 ar] 40)).alloc (.cells zero5 55)) (w.heap.size + 1) #[.int .i64 cd, .int .i64 ar] 40 := by
    have := (Lies.new (w.alloc (.cells (shCells ⟨K, c1, F, c2, S, c3, M, c4⟩ s) 55)) #[.int .i64 cd, .int .i64 ar] 40).alloc (.cells zero5 55)
    simpa using this
  have hst := hs.t
  have hkl := hs.k
  have Hs := hide hs
  have Hd := hide hd
  have hoffo := h.off (q := w.heap.size + 1) (.inr (by omega))
  clear h hs hd
  unfold shVal
  unfold shCells zero5 at *
  dsimp only at hS lo ⊢
  go_enter Tryd.func25, Tryd.ntmps25
  go_upto_region 1 with fail
  generalize ((w.alloc (.cells #[.slice K s.kinds.length c1, .slice F s.full.length c2, .slice S s.stack.length c3, .slice M s.memo.length c4, .bool s.done] 55)).alloc (.cells #[.int .i64 cd, .int .i64 ar] 40)).alloc (.cells #[.slice none 0 0, .slice none 0 0, .slice none 0 0, .slice none 0 0, .bool false] 55) = W at hS lo ⊢
  obtain ⟨e0, e1, e2, e3, e4⟩ := hS.bx.cells
  dsimp only at e0 e1 e2 e3 e4
  have d0 := lo.cell 0
  have d1 := lo.cell 1
  simp only [List.getElem?_toArray, List.getElem?_cons_zero, List.getElem?_cons_succ] at d0 d1
  have hd := Hd.out
  rw [hd] at e4
  have HN := hide (show stepShp s ⟨cd, ar⟩ = none from stepShp_none (by unfold stepFree; rw [if_pos hd]))
  obtain ⟨_, hs5, _, hbel, hfr⟩ := hS.ret
  obtain ⟨r0, r1, r2, r3, r4, f0, f1, f2, f3, f4, s0, s1, s2, s3, s4⟩ := hs5
  have HR := hide (And.intro hbel hfr)
  clear hbel hfr hS d0 d1 lo
  dsimp only at r0 r1 r2 r3 r4 s0 s1 s2 s3 s4
  rw [hd] at s0 s1 s2 s3 s4 HR
  go_wp2
  refine bodyPost_ret (v := .tuple #[shVal ⟨K, c1, F, c2, S, c3, M, c4⟩ s, .bool false]) (by simp [shVal, shCells, hd, results, Tryd.results25, go_sem, s0, s1, s2, s3, s4]) rfl ?_
  exact ⟨_, _, _, rfl, HR.out.1, HR.out.2, fun t ht => by (rw [HN.out] at ht; cases ht), fun _ => rfl⟩
end Go.Proofs.YtfigekdejocakabDoor
