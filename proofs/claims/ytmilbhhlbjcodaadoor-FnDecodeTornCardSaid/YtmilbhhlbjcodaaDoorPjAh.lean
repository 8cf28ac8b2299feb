/-
  Lemmas, several texts in one: Dfs, SpecD, ShpUa, DcS.
-/
import Derived.Test.YtmilbhhlbjcodaaDoorPjAg
import Derived.Test.YtmilbhhlbjcodaaDoorPjAe
import Derived.StillTailTactics
import Derived.Test.YtmilbhhlbjcodaaDoorShpT
import Derived.Test.YtmilbhhlbjcodaaDoorPjAf
import Derived.Test.YtmilbhhlbjcodaaDoorPjAd
import Derived.Deep.QuietTactic
import Derived.Deep.RegionLaw
import Derived.Deep.RegionHeld
import Derived.Deep.Cut
import Derived.BigQuiet
namespace Go.Proofs.YtmilbhhlbjcodaaDoor
def dfs (ns : List Nd) (ent : Int → Bool) : Nat → Int → List Int → List Int
  | 0, _, L => L
  | f + 1, x, L => if ent x = false ∨ x ∈ L then L else (kidsOf ns x).foldl (fun M k => dfs ns ent f k M) (L ++ [x])
def dfsL (ns : List Nd) (ent : Int → Bool) (f : Nat) (xs : List Int) (L : List Int) : List Int := xs.foldl (fun M k => dfs ns ent f k M) L
theorem dfs_stop {ns : List Nd} {ent : Int → Bool} {f : Nat} {x : Int} {L : List Int} (h : ent x = false ∨ x ∈ L) : dfs ns ent (f + 1) x L = L := by
  rw [dfs, if_pos h]
theorem dfs_go {ns : List Nd} {ent : Int → Bool} {f : Nat} {x : Int} {L : List Int} (h1 : ent x = true) (h2 : x ∉ L) : dfs ns ent (f + 1) x L = dfsL ns ent f (kidsOf ns x) (L ++ [x]) := by
  rw [dfs, if_neg (by simp [h1, h2])]
  rfl
theorem dfsL_cons (ns : List Nd) (ent : Int → Bool) (f : Nat) (x : Int) (xs L : List Int) : dfsL ns ent f (x :: xs) L = dfsL ns ent f xs (dfs ns ent f x L) := rfl
def KidsIn (ns : List Nd) : Prop := ∀ n ∈ ns, ∀ x ∈ n.kids, 0 ≤ x ∧ x < ns.length
theorem KidsIn.of {ns : List Nd} (h : KidsIn ns) (x : Int) : ∀ k ∈ kidsOf ns x, 0 ≤ k ∧ k < ns.length := by
  intro k hk
  unfold kidsOf at hk
  cases hn : ns[x.toNat]? with
  | none => rw [hn] at hk; simp at hk
  | some n =>
    rw [hn] at hk
    exact h n (List.mem_of_getElem? hn) k (by simpa using hk)
structure Met (ns : List Nd) (L : List Int) : Prop where
  nodup : L.Nodup
  range : ∀ x ∈ L, 0 ≤ x ∧ x < ns.length
theorem Met.nil (ns : List Nd) : Met ns [] := ⟨List.nodup_nil, fun x hx => by cases hx⟩
theorem Met.len {ns : List Nd} {L : List Int} (h : Met ns L) : L.length ≤ ns.length := nodup_le _ _ h.nodup h.range
theorem Met.snoc {ns : List Nd} {L : List Int} {x : Int} (h : Met ns L) (hx : 0 ≤ x ∧ x < ns.length) (hno : x ∉ L) : Met ns (L ++ [x]) := by
  refine ⟨?_, fun y hy => ?_⟩
  · rw [List.nodup_append]
    exact ⟨h.nodup, by simp, fun a ha b hb => by simp at hb; subst hb; intro e; subst e; exact hno ha⟩
  · rcases List.mem_append.1 hy with hy | hy
    · exact h.range y hy
    · simp at hy; subst hy; exact hx
structure Walked (ns : List Nd) (ent : Int → Bool) (xs : List Int) (L R : List Int) : Prop where
  met : Met ns R
  sub : ∀ y ∈ L, y ∈ R
  len : L.length ≤ R.length
  starts : ∀ x ∈ xs, ent x = true → x ∈ R
  closed : ∀ y ∈ R, y ∉ L → ∀ k ∈ kidsOf ns y, ent k = true → k ∈ R
  from_ : ∀ y ∈ R, y ∈ L ∨ (ent y = true ∧ (y ∈ xs ∨ ∃ z ∈ R, z ∉ L ∧ y ∈ kidsOf ns z))
theorem walkedL (ns : List Nd) (ent : Int → Bool) (f : Nat)
    (ih : ∀ (x : Int) (L : List Int), Met ns L → 0 ≤ x → x < ns.length → ns.length < f + L.length → Walked ns ent [x] L (dfs ns ent f x L)) :
    ∀ (xs : List Int) (L : List Int), Met ns L → (∀ x ∈ xs, 0 ≤ x ∧ x < ns.length) → ns.length < f + L.length → Walked ns ent xs L (dfsL ns ent f xs L)
  | [], L, hL, _, _ => ⟨hL, fun y hy => hy, Nat.le_refl _, fun x hx => (by cases hx), fun y hy hno => absurd hy hno, fun y hy => .inl hy⟩
  | x :: xs, L, hL, hx, hf => by
    have h1 := ih x L hL (hx x (by simp)).1 (hx x (by simp)).2 hf
    have h2 := walkedL ns ent f ih xs (dfs ns ent f x L) h1.met (fun y hy => hx y (by simp [hy])) (by have := h1.len; omega)
    rw [dfsL_cons]
    refine ⟨h2.met, fun y hy => h2.sub y (h1.sub y hy), Nat.le_trans h1.len h2.len, fun y hy he => ?_, fun y hy hno k hk he => ?_, fun y hy => ?_⟩
    · rcases List.mem_cons.1 hy with rfl | hy
      · exact h2.sub _ (h1.starts _ (by simp) he)
      · exact h2.starts y hy he
    · by_cases hm : y ∈ dfs ns ent f x L
      · exact h2.sub _ (h1.closed y hm hno k hk he)
      · exact h2.closed y hy hm k hk he
    · rcases h2.from_ y hy with h | ⟨he, h | ⟨z, hz, hzn, hk⟩⟩
      · rcases h1.from_ y h with h | ⟨he, h | ⟨z, hz, hzn, hk⟩⟩
        · exact .inl h
        · exact .inr ⟨he, .inl (by simp at h; simp [h])⟩
        · exact .inr ⟨he, .inr ⟨z, h2.sub z hz, hzn, hk⟩⟩
      · exact .inr ⟨he, .inl (by simp [h])⟩
      · exact .inr ⟨he, .inr ⟨z, hz, fun h => hzn (h1.sub z h), hk⟩⟩
theorem walked (ns : List Nd) (ent : Int → Bool) (hk : KidsIn ns) : ∀ (f : Nat) (x : Int) (L : List Int), Met ns L → 0 ≤ x → x < ns.length → ns.length < f + L.length → Walked ns ent [x] L (dfs ns ent f x L)
  | 0, x, L, hL, _, _, hf => by have := hL.len; omega
  | f + 1, x, L, hL, h0, h1, hf => by
    by_cases hs : ent x = false ∨ x ∈ L
    · rw [dfs_stop hs]
      exact ⟨hL, fun y hy => hy, Nat.le_refl _, fun y hy he => by
        simp at hy
        subst hy
        rcases hs with h | h
        · rw [h] at he; cases he
        · exact h, fun y hy hno => absurd hy hno, fun y hy => .inl hy⟩
    · have he : ent x = true := by
        cases h : ent x
        · exact absurd (.inl h) hs
        · rfl
      have hno : x ∉ L := fun h => hs (.inr h)
      rw [dfs_go he hno]
      have h := walkedL ns ent f (walked ns ent hk f) (kidsOf ns x) (L ++ [x]) (hL.snoc ⟨h0, h1⟩ hno) (hk.of x) (by simp; omega)
      refine ⟨h.met, fun y hy => h.sub y (List.mem_append_left _ hy), by have := h.len; simp at this; omega, fun y hy _ => ?_, fun y hy hyn k hkk hek => ?_, fun y hy => ?_⟩
      · simp at hy
        subst hy
        exact h.sub y (by simp)
      · by_cases hyx : y = x
        · subst hyx
          exact h.starts k hkk hek
        · exact h.closed y hy (by simp [hyn, hyx]) k hkk hek
      · by_cases hyL : y ∈ L
        · exact .inl hyL
        · refine .inr ?_
          by_cases hyx : y = x
          · subst hyx
            exact ⟨he, .inl (by simp)⟩
          · rcases h.from_ y hy with hm | ⟨hey, hm | ⟨z, hz, hzn, hm⟩⟩
            · exact absurd hm (by simp [hyL, hyx])
            · exact ⟨hey, .inr ⟨x, h.sub x (by simp), hno, hm⟩⟩
            · exact ⟨hey, .inr ⟨z, hz, fun hzL => hzn (List.mem_append_left _ hzL), hm⟩⟩
def isTup (ns : List Nd) (x : Int) : Bool := kindOf ns x == 2
end Go.Proofs.YtmilbhhlbjcodaaDoor

namespace Go.Proofs.YtmilbhhlbjcodaaDoor
open Go.RowKit
set_option linter.unusedVariables false
def GivesReach (w : World) (ns : List Nd) (i : Int) (e : Ending) (w' : World) : Prop :=
  ∃ A c out, e = .returned (.slice A out.length c) ∧ OwnI w' w.heap.size A c out ∧ Below w.heap.size w w' ∧ (∀ x, x ∈ out ↔ TReach ns i x) ∧ (∀ x ∈ out, 0 ≤ x ∧ x < ns.length) ∧ out.length ≤ ns.length
def KidsOk (ns : List Nd) : Prop := ns.length ≤ 12 ∧ ∀ n ∈ ns, n.kids.length ≤ 6 ∧ ∀ x ∈ n.kids, 0 ≤ x ∧ x < ns.length
theorem in64_of_range {ns : List Nd} {out : List Int} (h12 : ns.length ≤ 12) (h : ∀ x ∈ out, 0 ≤ x ∧ x < ns.length) : ∀ x ∈ out, In64 x := fun x hx => by
  have := h x hx
  constructor <;> omega
set_option maxRecDepth 100000 in
set_option maxHeartbeats 4000000 in
theorem tupleReach_any (A : Option Addr) (ns : List Nd) (c : Nat) (r : Int) (i : Nat) (w : World) (hr : NdsAt w w.heap.size A ns) (hko : KidsOk ns) (hi : i < ns.length) :
    Calls Tryd.prog 64 #[.agg #[.slice A ns.length c, .int .i64 r], .int .i64 (i : Int)] w (GivesReach w ns i) := by
  obtain ⟨h12, hkids0⟩ := hko
  have hkids := hide hkids0
  clear hkids0
  have hB : Below w.heap.size w ((w.alloc (.cells #[.slice A ns.length c, .int .i64 r] 61)).alloc (.cells #[] 3)) := ((Below.refl _ _).alloc (Nat.le_refl _) _).alloc (by simp) _
  have l1 := (Lies.new w #[.slice A ns.length c, .int .i64 r] 61).alloc (.cells #[] 3)
  have hr2 := hr.below hB
  have hbare := OwnI.bare (w.alloc (.cells #[.slice A ns.length c, .int .i64 r] 61))
  simp only [World.size_alloc] at hbare
  clear hr
  have hi1 : (0 : Int) ≤ (i : Int) := by omega
  have hi2 : (i : Int) < (ns.length : Int) := by omega
  obtain ⟨b, off, n, rfl, hbl, hat, hmem, hN⟩ := hr2.at_ hi
  obtain ⟨hn_k, hn_v, ⟨A1, c1, hn_s, hI1', hnil1⟩, _, _⟩ := hN
  have hI1 := hI1'.more hB.size
  clear hI1'
  obtain ⟨hkn, hkr0⟩ := hkids.out n hmem
  have hkr := hide hkr0
  have hki := hide (kidsOf_at hat)
  clear hat hmem hn_k hn_v hkr0
  go_enter Tryd.func64, Tryd.ntmps64
  go_wp2_with fail
  generalize hWd : (w.alloc (.cells #[.slice (some ⟨b, off, none⟩) ns.length c, .int .i64 r] 61)).alloc (.cells #[] 3) = W at hB l1 hr2 hbl hn_s hI1 hbare ⊢
  have hWs : w.heap.size + 2 = W.heap.size := by rw [← hWd]; simp
  have HWs := hide hWs
  clear hWd hWs
  refine (copyInts_any A1 n.kids c1 W hI1 hnil1 (by omega)).mono ?_
  rintro e w1 ⟨Al, cl, rfl, hlist, hb1⟩
  go_wp2_with fail
  go_loopw [5, 6, 7] (fun o l iv wr => ∃ (out list : List Int) (Ao Al : Option Addr) (co cl k : Nat), o = .slice Ao out.length co ∧ l = .slice Al list.length cl ∧ iv = .int .i64 k ∧ k ≤ list.length ∧
      OwnI wr (w.heap.size + 1) Ao co out ∧ OwnI wr (w.heap.size + 1) Al cl list ∧ Below (w.heap.size + 1) W wr ∧ (∀ g, blockOf Ao = some g → blockOf Al ≠ some g) ∧ TInv ns i out list k) (fun _ _ iv _ => 79 - (intOf iv).toNat)
  case atStart =>
    refine ⟨[], n.kids, _, Al, _, cl, 0, rfl, rfl, rfl, Nat.zero_le _, hbare.below hb1, hlist.mono (by have := HWs.out; omega), hb1.mono (by have := HWs.out; omega), ?_, ?_⟩
    · intro g hg hg2
      simp [blockOf] at hg
      have := hlist.blocks g hg2
      have := HWs.out
      omega
    · have := TInv.start (ns := ns) (i := i) (by rw [hki.out]; exact hkn) (by rw [hki.out]; exact hkr.out)
      rw [hki.out] at this
      exact this
  case round =>
    obtain ⟨out, list, Ao, Al', co, cl', k, rfl, rfl, rfl, hkl, hout, hli, hb, hap0, hinv⟩ := hrel
    clear hlist hbare hb1 hn_s hI1
    have hap := hide hap0
    clear hap0
    have hsz : w.heap.size + 2 ≤ wr.heap.size := by have := hb.size; have := HWs.out; omega
    have Hinv := hide hinv
    have hk78 := hinv.listLen h12
    have ho12 := hinv.outLen
    have wfo : ∀ x ∈ out, In64 x := in64_of_range h12 fun x hx => hinv.range x (hinv.sub x hx)
    have wfl : ∀ x ∈ list, In64 x := in64_of_range h12 hinv.range
    have hio := hout.ints wfo (by omega)
    have hil := hli.ints wfl (by omega)
    have Wfo := hide wfo
    have Wfl := hide wfl
    clear hinv wfo wfl
    have l1r := l1.below hb (by omega)
    have e0 := l1r.cell 0
    simp at e0
    by_cases hlt : k < list.length
    · obtain ⟨b2, off2, x, rfl, hbl2, hx, hxm, hcx⟩ := hil.at_ hlt
      obtain ⟨hx0, hx1⟩ := Hinv.out.range x hxm
      obtain ⟨y, rfl⟩ := Int.eq_ofNat_of_zero_le hx0
      have Hx := hide hx
      clear hx hxm
      have hk1 : (0 : Int) ≤ (k : Int) := by omega
      have hk2 : (k : Int) < (list.length : Int) := by omega
      go_wp2_with fail
      refine (placeIn_any Ao out co y wr hio).mono ?_
      rintro e w' ⟨rfl, rfl⟩
      by_cases hmem : (y : Int) ∈ out
      · have hp := place_lt hmem
        have hd : decide (place out y < 0) = false := by simp; omega
        generalize place out y = pl at hp hd ⊢
        have Hn := hide (Hinv.out.seen Hx.out hmem)
        clear hmem
        go_wp2
        go_roundw
        case rel => exact ⟨out, list, Ao, _, co, cl', k + 1, rfl, rfl, by go_num, by omega, hout, hli, hb, hap.out, Hn.out⟩
        case measure => simp [intOf]; omega
      · rw [place_neg hmem]
        have hIone := IntsAt.one wr y (by constructor <;> omega)
        go_wp2_with (at_builtin; refine append_ints rfl (.tmp 29) (.tmp 34) rfl (w.heap.size + 1) Ao co out rfl (hout.alloc _) (wr.heap.size + 1) _ 1 [(y : Int)] rfl (fun e => by cases e) hIone (by simp; omega) (by simp; omega) ?_; intro zs A' c' w2 hz hown2 hg2 hat2)
        have hb2 : Below (w.heap.size + 1) W w2 := below_grown (hb.alloc (by omega) _) hg2 (by simp; omega) (fun k hk => (hout.blocks k hk).1)
        have hli2 : OwnI w2 (w.heap.size + 1) (some ⟨b2, off2, none⟩) cl' list := (hli.alloc _).kept hg2 (.inr (fun e => hap.out b2 (by rw [← e]; simp [blockOf]) (by simp [blockOf])))
        have hap2 : Hid (∀ g, blockOf A' = some g → blockOf (some (⟨b2, off2, none⟩ : Addr)) ≠ some g) := by
          intro g hg e
          rcases hat2 with h | h
          · exact hap.out g (by rw [← h]; exact hg) e
          · simp only [World.size_alloc] at h
            have := hli.blocks b2 (by simp [blockOf])
            rw [hg] at h
            simp [blockOf] at e h
            omega
        clear hat2 hg2 hio hIone hap hout hli hil e0 l1r
        have hil2 := hli2.ints Wfl.out (by omega)
        have e0 := (l1.below hb2 (by omega)).cell 0
        simp at e0
        obtain ⟨_, _, _, he2, _, hx2, _, hcx2⟩ := hil2.at_ hlt
        simp only [Option.some.injEq, Addr.mk.injEq, and_true] at he2
        obtain ⟨rfl, rfl⟩ := he2
        obtain rfl := Option.some.inj (hx2.symm.trans Hx.out)
        obtain ⟨b3, off3, m, he3, hbl3, hat3, hmm, hM⟩ := (hr2.below (hb2.mono (by omega))).at_ (k := y) (by omega)
        simp only [Option.some.injEq, Addr.mk.injEq, and_true] at he3
        obtain ⟨rfl, rfl⟩ := he3
        obtain ⟨hm_k, hm_v, ⟨A2, c2, hm_s, hI2', hnil2⟩, _, _⟩ := hM
        have hI2 := hI2'.more (show w.heap.size ≤ w2.heap.size by have := hB.size; have := hb2.size; omega)
        clear hI2'
        obtain ⟨hkm, hkr0'⟩ := hkids.out m hmm
        have hkr2 := hide hkr0'
        have hkk := hide (kindOf_at hat3)
        have hkk2 := hide (kidsOf_at hat3)
        clear hx2 hat3 hmm hkr0' hm_v hcx
        have hy1 : (0 : Int) ≤ (y : Int) := by omega
        have hb3 : Below (w.heap.size + 1) W w2.drew := hb2.drew
        have hown3 := hown2.drew
        have hli3 := hli2.drew
        have hI3 : IntsAt w2.drew w2.drew.heap.size A2 m.kids := hI2.later (Below.refl _ _).drew (Nat.le_refl _)
        have f0 : w2.drew.cell? ⟨w.heap.size, 0, none⟩ = some (.slice (some ⟨b, off, none⟩) ns.length c) := e0
        have f1 : w2.drew.cell? ⟨b2, off2 + k, none⟩ = some (.int .i64 (y : Int)) := hcx2
        have f2 : w2.drew.cell? ⟨b, off + y * 3 + 2, none⟩ = some (.slice A2 m.kids.length c2) := hm_s
        have f3 : w2.drew.cell? ⟨b, off + y * 3, none⟩ = some (.int .i64 m.kind) := hm_k
        by_cases h2 : m.kind = 2
        · have t2 : (m.kind == 2) = true := by rw [beq_iff_eq]; exact h2
          have Hn := hide (Hinv.out.tuple Hx.out hmem (by rw [hkk.out]; exact h2) (by rw [hkk2.out]; exact hkm) (by rw [hkk2.out]; exact hkr2.out))
          clear hmem h2
          go_wp2_with fail
          go_still_tail 9, (by kernel_rfl)
          change wpList _ _ _ _ _ w2.drew
          generalize w2.drew = w3 at hb3 hown3 hli3 hI3 f0 f1 f2 f3 ⊢
          clear hb2 hown2 hli2 hI2 e0 hcx2 hm_s hm_k hil2
          have hb4 : Below (w.heap.size + 1) W w3.drew := hb3.drew
          have hown4 := hown3.drew
          have hli4 := hli3.drew
          have hI4 : IntsAt w3.drew w3.drew.heap.size A2 m.kids := hI3.later (Below.refl _ _).drew (Nat.le_refl _)
          go_wp2_with fail
          go_still_tail 10, (by kernel_rfl)
          change wpList _ _ _ _ _ w3.drew
          generalize w3.drew = w4 at hb4 hown4 hli4 hI4 ⊢
          clear hb3 hown3 hli3 hI3 f0 f1 f2 f3
          go_wp2_with (at_builtin; refine append_ints rfl (.tmp 46) (.tmp 55) rfl (w.heap.size + 1) _ cl' list rfl hli4 _ A2 c2 m.kids rfl hnil2 hI4 (by omega) (by have := hb4.size; have := HWs.out; omega) ?_; intro ls Al2 cl2 w5 hls hown5 hg5 hat5)
          go_roundw
          case rel =>
            refine ⟨zs, ls, A', Al2, c', cl2, k + 1, rfl, rfl, by go_num, ?_, ?_, hown5, ?_, ?_, ?_⟩
            · rw [hls.out]; simp; omega
            · exact hown4.kept hg5 (by
                cases hA : blockOf A' with
                | none => exact .inl rfl
                | some g => exact .inr (fun e => hap2.out g hA e.symm))
            · exact below_grown hb4 hg5 (by have := hb4.size; have := HWs.out; omega) (fun k hk => (hli4.blocks k hk).1)
            · intro g hg e
              rcases hat5 with h | h
              · exact hap2.out g hg (by rw [← h]; exact e)
              · rw [h] at e
                have := hown4.blocks g hg
                simp at e
                omega
            · rw [hz.out, hls.out, ← hkk2.out]
              exact Hn.out
          case measure => simp [intOf]; omega
        · have t2 : (m.kind == 2) = false := by rw [beq_eq_false_iff_ne]; exact h2
          have Hn := hide (Hinv.out.leaf Hx.out hmem (by rw [hkk.out]; exact h2))
          clear hmem h2
          go_wp2_with fail
          go_still_tail 9, (by kernel_rfl)
          change wpList _ _ _ _ _ w2.drew
          generalize w2.drew = w3 at hb3 hown3 hli3 ⊢
          clear hb2 hown2 hli2 hI2 e0 hcx2 hm_s hm_k hil2 f0 f1 f2 f3
          go_wp2
          go_roundw
          case rel => exact ⟨zs, list, A', _, c', cl', k + 1, rfl, rfl, by go_num, by omega, hown3, hli3, hb3, hap2.out, by rw [hz.out]; exact Hn.out⟩
          case measure => simp [intOf]; omega
    · obtain rfl : k = list.length := by omega
      have HF := hide Hinv.out.all
      have HR := hide (show ∀ x ∈ out, 0 ≤ x ∧ x < (ns.length : Int) from fun x hx => Hinv.out.range x (Hinv.out.sub x hx))
      clear hlt hil hio
      go_wp2
      go_ret
      exact ⟨Ao, co, out, rfl, hout.mono (by omega), hB.trans (hb.mono (by omega)), HF.out, HR.out, ho12⟩
end Go.Proofs.YtmilbhhlbjcodaaDoor

namespace Go.Proofs.YtmilbhhlbjcodaaDoor
open Go.RowKit
set_option linter.unusedVariables false
set_option linter.unusedSimpArgs false
set_option maxRecDepth 100000 in
set_option maxHeartbeats 4000000 in
theorem stepShapes_done (p : ShPtr) (s : Shp) (cd ar : Int) (hd : s.done = true) (base : Nat) (w : World) (h : ShOwn w base p s) (hbase : base ≤ w.heap.size) (hs : s.Small) :
    Calls Tryd.prog 39 #[shVal p s, .agg #[.int .i64 cd, .int .i64 ar]] w (TriesSh w p base (stepShp s ⟨cd, ar⟩)) := by
  obtain ⟨K, c1, F, c2, S, c3, M, c4⟩ := p
  have hS := ShSt.enter3 h hbase (.cells #[.int .i64 cd, .int .i64 ar] 39)
  have lo : Lies (((w.alloc (.cells (shCells ⟨K, c1, F, c2, S, c3, M, c4⟩ s) 69)).alloc (.cells #[.int .i64 cd, .int .i64 ar] 39)).alloc (.cells zero5 69)) (w.heap.size + 1) #[.int .i64 cd, .int .i64 ar] 39 := by
    have := (Lies.new (w.alloc (.cells (shCells ⟨K, c1, F, c2, S, c3, M, c4⟩ s) 69)) #[.int .i64 cd, .int .i64 ar] 39).alloc (.cells zero5 69)
    simpa using this
  have hst := hs.t
  have hkl := hs.k
  have Hs := hide hs
  have Hd := hide hd
  have hoffo := h.off (q := w.heap.size + 1) (.inr (by omega))
  clear h hs hd
  unfold shVal
  unfold shCells zero5 at *
  dsimp only at hS lo ⊢
  go_enter Tryd.func39, Tryd.ntmps39
  go_upto_region 1 with fail
  generalize ((w.alloc (.cells #[.slice K s.kinds.length c1, .slice F s.full.length c2, .slice S s.stack.length c3, .slice M s.memo.length c4, .bool s.done] 69)).alloc (.cells #[.int .i64 cd, .int .i64 ar] 39)).alloc (.cells #[.slice none 0 0, .slice none 0 0, .slice none 0 0, .slice none 0 0, .bool false] 69) = W at hS lo ⊢
  obtain ⟨e0, e1, e2, e3, e4⟩ := hS.bx.cells
  dsimp only at e0 e1 e2 e3 e4
  have d0 := lo.cell 0
  have d1 := lo.cell 1
  simp only [List.getElem?_toArray, List.getElem?_cons_zero, List.getElem?_cons_succ] at d0 d1
  have hd := Hd.out
  rw [hd] at e4
  have HN := hide (show stepShp s ⟨cd, ar⟩ = none from stepShp_none (by unfold stepFree; rw [if_pos hd]))
  obtain ⟨_, hs5, _, hbel, hfr⟩ := hS.ret
  obtain ⟨r0, r1, r2, r3, r4, f0, f1, f2, f3, f4, s0, s1, s2, s3, s4⟩ := hs5
  have HR := hide (And.intro hbel hfr)
  clear hbel hfr hS d0 d1 lo
  dsimp only at r0 r1 r2 r3 r4 s0 s1 s2 s3 s4
  rw [hd] at s0 s1 s2 s3 s4 HR
  go_wp2
  refine bodyPost_ret (v := .tuple #[shVal ⟨K, c1, F, c2, S, c3, M, c4⟩ s, .bool false]) (by simp [shVal, shCells, hd, results, Tryd.results39, go_sem, s0, s1, s2, s3, s4]) rfl ?_
  exact ⟨_, _, _, rfl, HR.out.1, HR.out.2, fun t ht => by (rw [HN.out] at ht; cases ht), fun _ => rfl⟩
end Go.Proofs.YtmilbhhlbjcodaaDoor

namespace Go.Proofs.YtmilbhhlbjcodaaDoor
open Go.RowKit
set_option linter.unusedVariables false
def GivesOpsV (w : World) (os : List Od) (v : Value) (e : Ending) (w' : World) : Prop := ∃ A c, e = .returned (.tuple #[.slice A os.length c, v]) ∧ OwnO w' w.heap.size A c os ∧ Below w.heap.size w w'
structure DcS (w wr : World) (R : List Od) (N : Nat) (xs : List Int) (k i : Nat) (Ao : Option Addr) (co : Nat) (acc : List Od) : Prop where
  bel : Below w.heap.size w wr
  own : OwnO wr w.heap.size Ao co acc
  eq : acc ++ (decs (300 - k) (xs.drop i)).1 = R
  at_ : i + (decs (300 - k) (xs.drop i)).2 = N
  len : acc.length = k
  few : k ≤ 300
  le : i ≤ xs.length
theorem DcS.step {w wr w2 : World} {R : List Od} {N : Nat} {xs : List Int} {k i n : Nat} {o : Od} {Ao A2 : Option Addr} {co c2 : Nat} {acc zs2 : List Od} (h : DcS w wr R N xs k i Ao co acc) (hb : ∀ x ∈ xs, 0 ≤ x ∧ x ≤ 255)
    (hk : k < 300) (hx : firstO (xs.drop i) = some (o, n)) (hb2 : Below w.heap.size w w2) (e2 : zs2 = acc ++ [o]) (own2 : OwnO w2 w.heap.size A2 c2 zs2) : DcS w w2 R N xs (k + 1) (i + n) A2 c2 zs2 := by
  have hf := firstO_some (fun x hx => hb x (List.mem_of_mem_drop hx)) hx
  have hlen := hf.2.2.2.2.2
  simp only [List.length_drop] at hlen
  have e : 300 - k = (300 - (k + 1)) + 1 := by omega
  have h1 := h.eq
  have h2 := h.at_
  rw [e, decs_step hx] at h1 h2
  simp only [List.drop_drop] at h1 h2
  refine ⟨hb2, own2, ?_, by omega, ?_, by omega, by have := h.le; omega⟩
  · rw [e2, ← h1]; simp
  · rw [e2, ← h.len]; simp
theorem DcS.stop {w wr : World} {R : List Od} {N : Nat} {xs : List Int} {k i : Nat} {Ao : Option Addr} {co : Nat} {acc : List Od} (h : DcS w wr R N xs k i Ao co acc) (hx : k = 300 ∨ firstO (xs.drop i) = none) : acc = R ∧ i = N := by
  have h1 := h.eq
  have h2 := h.at_
  have hd : decs (300 - k) (xs.drop i) = ([], 0) := by
    rcases hx with rfl | hx
    · rfl
    · exact decs_stop hx
  rw [hd] at h1 h2
  simp at h1 h2
  exact ⟨h1, h2⟩
theorem firstO_pos {xs : List Int} {p : Od × Nat} (hb : ∀ x ∈ xs, 0 ≤ x ∧ x ≤ 255) (h : fstO xs = p) (hp : p.2 ≠ 0) : firstO xs = some p := by
  cases hx : firstO xs with
  | none => rw [fstO_none hx] at h; subst h; exact absurd rfl hp
  | some q => rw [fstO_some hx] at h; rw [h]
theorem firstO_zero {xs : List Int} {p : Od × Nat} (hb : ∀ x ∈ xs, 0 ≤ x ∧ x ≤ 255) (h : fstO xs = p) (hp : p.2 = 0) : firstO xs = none := by
  cases hx : firstO xs with
  | none => rfl
  | some q =>
    rw [fstO_some hx] at h
    subst h
    have := (firstO_some hb (o := q.1) (n := q.2) hx).2.2.2.1
    omega
end Go.Proofs.YtmilbhhlbjcodaaDoor
