/-
  Lemmas, several texts in one: One, OwnS, SpecD, OwnNA, OwnNB, EqvM, Cod, CodG, JoiM, EqI, KeyI.
-/
import Derived.Test.YthgklkpfmjgeoaaPjAb
import Derived.StillTailTactics
import Derived.Test.YthgklkpfmjgeoaaPjAa
import Derived.Deep.RegionLaw
import Derived.Deep.AppendLies
import Derived.Test.YthgklkpfmjgeoaaPjAd
import Derived.Test.YthgklkpfmjgeoaaMem
import Derived.DeepKeys4
import Derived.Maps.OwnSet
import Derived.WalkSpells
import Derived.Deep.QuietTactic
import Derived.BigQuiet
namespace Go.Proofs.Ythgklkpfmjgeoaa
open Go.RowKit
set_option linter.unusedVariables false

/-- old memory is as it was, but for one block -/
structure Grew (g : Nat) (w w' : World) : Prop where
  os : w'.os = w.os
  tape : w'.tape = w.tape
  output : w'.output = w.output
  size : w.heap.size ≤ w'.heap.size
  block : ∀ k, k < w.heap.size → k ≠ g → w'.heap[k]? = w.heap[k]?

theorem Grew.refl (g : Nat) (w : World) : Grew g w w := ⟨rfl, rfl, rfl, Nat.le_refl _, fun _ _ _ => rfl⟩
theorem Grew.trans {g : Nat} {a b c : World} (h : Grew g a b) (k : Grew g b c) : Grew g a c :=
  ⟨k.os.trans h.os, k.tape.trans h.tape, k.output.trans h.output, Nat.le_trans h.size k.size, fun j hj hn => (k.block j (Nat.lt_of_lt_of_le hj h.size) hn).trans (h.block j hj hn)⟩
theorem Grew.of_turn {g : Nat} {w w' : World} (h : Turn g w w') : Grew g w w' := ⟨h.os, h.tape, h.output, by rw [h.size]; exact Nat.le_refl _, fun k _ hk => h.block k hk⟩
theorem Grew.of_below {g : Nat} {w w' : World} (h : Below w.heap.size w w') : Grew g w w' := ⟨h.os, h.tape, h.output, h.size, fun k hk _ => h.block k hk⟩
theorem Grew.below {g B : Nat} {w0 w w' : World} (h : Grew g w w') (hb : Below B w0 w) (hg : B ≤ g) (hB : B ≤ w.heap.size) : Below B w0 w' :=
  hb.trans ⟨h.os, h.tape, h.output, h.size, fun k hk => h.block k (by omega) (by omega)⟩
theorem Rd.below {w w' : World} {rb : Nat} {A : Option Addr} {n c p : Nat} (h : Rd w rb A n c p) (hb : Below w.heap.size w w') : Rd w' rb A n c p :=
  ⟨h.box.below hb h.box.lt, h.bytes.later (hb.mono (Nat.le_of_lt h.box.lt)), h.few⟩
theorem Grew.cell {g : Nat} {w w' : World} (h : Grew g w w') {b o : Nat} (h1 : b < w.heap.size) (h2 : b ≠ g) : w'.cell? ⟨b, o, none⟩ = w.cell? ⟨b, o, none⟩ := World.cell?_of_block (w := w) (h.block b h1 h2)
theorem Lies.grew {g b : Nat} {w w' : World} {cs : Array Value} {t : TypeId} (h : Lies w b cs t) (hg : Grew g w w') (h2 : b ≠ g) : Lies w' b cs t := (hg.block b h.lt h2).trans h

/-- a pick of one number of a list -/
def Chosen (rb : Nat) (A : Option Addr) (n c p : Nat) (xs : List Int) (w : World) (e : Ending) (w' : World) : Prop :=
  (∃ x ∈ xs, e = .returned (.int .i64 x)) ∧ Rd w' rb A n c (p + 1) ∧ Turn rb w w'

set_option maxHeartbeats 1000000 in
theorem one_any (rb : Nat) (A : Option Addr) (n c p g l c2 : Nat) (xs : List Int) (w : World) (h : Rd w rb A n c p) (hp : p < 1000000) (hl : xs.length = l) (h1 : 1 ≤ l) (h2 : l ≤ 100) (hg : g ≠ rb) (hc : ∀ k x, xs[k]? = some x → w.cell? ⟨g, k, none⟩ = some (.int .i64 x)) :
    Calls Try.prog 53 #[.pointer (some ⟨rb, 0, none⟩), .slice (some ⟨g, 0, none⟩) l c2] w (Chosen rb A n c p xs w) := by
  have HC := hide hc
  have Hl := hide hl
  clear hc hl
  go_enter Try.func53, Try.ntmps53
  go_wp2_with fail
  refine (pick_any rb A n c p (l : Int) w h hp (by omega)).mono ?_
  rintro e w' ⟨⟨x, rfl, hx, _⟩, hr, ht⟩
  have hxl : (x : Int) < (l : Int) := hx (by omega)
  have hx0 : (0 : Int) ≤ (x : Int) := by omega
  obtain ⟨y, hy⟩ : ∃ y, xs[x]? = some y := ⟨_, List.getElem?_eq_getElem (by have := Hl.out; omega)⟩
  have hcell : w'.cell? ⟨g, x, none⟩ = some (.int .i64 y) := (World.cell?_of_block (w := w) (ht.block g hg)).trans (HC.out x y hy)
  have hfin : Hid (Chosen rb A n c p xs w (.returned (.int .i64 y)) w') := ⟨⟨y, List.mem_of_getElem? hy, rfl⟩, hr, ht⟩
  clear hr ht hx hy
  go_wp2
  go_ret
  exact hfin.out

end Go.Proofs.Ythgklkpfmjgeoaa

namespace Go.Proofs.Ythgklkpfmjgeoaa
open Go.RowKit

theorem IntsAt.lit (w : World) (xs : List Int) (hx : ∀ x ∈ xs, In64 x) (hl : xs.length ≤ 1048576) : IntsAt (w.alloc (.cells (xs.map (Value.int .i64)).toArray 3)) (w.heap.size + 1) (some ⟨w.heap.size, 0, none⟩) xs := by
  refine ⟨fun _ => ⟨w.heap.size, 0, rfl, Nat.lt_succ_self _, fun j y hj => ?_⟩, hx, by omega⟩
  rw [(Lies.new w (xs.map (Value.int .i64)).toArray 3).cell]
  simp [hj]

theorem IntsAt.hold {w : World} {b : Nat} {cs : Array Value} {t : TypeId} (h : Lies w b cs t) (xs : List Int) (hc : cs = (xs.map (Value.int .i64)).toArray) (hx : ∀ x ∈ xs, In64 x) (hl : xs.length ≤ 1048576) : IntsAt w w.heap.size (some ⟨b, 0, none⟩) xs := by
  subst hc
  refine ⟨fun _ => ⟨b, 0, rfl, h.lt, fun j y hj => ?_⟩, hx, by omega⟩
  rw [h.cell]
  simp [hj]

/-- append(s, t...) in a statement that draws its order, where s is the call's own and t is an int slice that is not empty -/
theorem step_append_ints {w : World} {ops : Array Oper} {o : Oper} {a : Act} {K : Act → World → Prop} {Q : Exit → Act → World → Prop} {E : Prop} (hgd : o.guard = none) (s x : Operand)
    (ho : o.op = .call { callee := .builtin .append, args := #[s, x], argTypes := #[35, 35] })
    (base : Nat) (A : Option Addr) (c : Nat) (xs : List Int) (hs : a.eval s = .slice A xs.length c) (hown : OwnI w base A c xs)
    (ad : Addr) (c2 : Nat) (ys : List Int) (hne : ys ≠ []) (hx : a.eval x = .slice (some ad) ys.length c2) (hr : IntsAt w w.heap.size (some ad) ys)
    (hsum : xs.length + ys.length ≤ 16777216) (hbase : base ≤ w.heap.size)
    (h : ∀ (zs : List Int) (A' : Option Addr) (c' : Nat) (w' : World), Hid (zs = xs ++ ys) → OwnI w' base A' c' zs → w.grownBy w' (blockOf A) → (blockOf A' = blockOf A ∨ blockOf A' = some w.heap.size) →
      K (a.put o.dst (.slice A' zs.length c')) w') :
    if Region.wanted o (yielded ops a.tmps) = true then Oper.wp Try.prog o a w K Q else E := by
  obtain ⟨i0, hi, hz0, hz1, hz2⟩ := info_parts infoI
  have hcells : ∀ j u, (ys.map (Value.int .i64))[j]? = some u → w.cell? (ad.add j) = some u := by
    intro j u hu
    rw [List.getElem?_map] at hu
    cases hy : ys[j]? with
    | none => rw [hy] at hu; cases hu
    | some y =>
      rw [hy] at hu
      simp at hu
      subst hu
      obtain ⟨b, off, e2, _, hc⟩ := hr.row hne
      obtain rfl : ad = ⟨b, off, none⟩ := Option.some.inj e2
      have hadd : (⟨b, off, none⟩ : Addr).add j = ⟨b, off + j, none⟩ := by
        unfold Addr.add
        split
        · rename_i h0; subst h0; rfl
        · rfl
      rw [hadd]
      exact hc j y hy
  refine step_append_lies w hgd s x 35 ho base 3 i0 _ 1 8 Try.underlying35 hi hz0 hz1 hz2 rfl (by omega) _ _ _ hs hown.own ad ys.length c2 (ys.map (Value.int .i64)) hx (by simp) hcells (ints_one ys)
    (List.length_pos_iff.2 hne) (by unfold maxLen; omega) (by omega) hbase w.heap.size rfl ?_
  intro g cap w' h2 h3 h4 _
  have hlen : xs.length + ys.length = (xs ++ ys).length := by simp
  rw [ownBlock_slice] at h3 h4
  rw [← List.map_append, hlen] at h2
  rw [hlen]
  refine h (xs ++ ys) (some ⟨g, 0, none⟩) cap w' (by simp [Hid]) ⟨h2⟩ h3 ?_
  rcases h4 with h4 | h4
  · exact .inl (by rw [h4]; rfl)
  · exact .inr (by rw [h4]; rfl)

end Go.Proofs.Ythgklkpfmjgeoaa

namespace Go.Proofs.Ythgklkpfmjgeoaa
open Go.RowKit
set_option linter.unusedVariables false

/-- what tupleReach hands back -/
def GivesReach (w : World) (ns : List Nd) (i : Int) (e : Ending) (w' : World) : Prop :=
  ∃ A c out, e = .returned (.slice A out.length c) ∧ OwnI w' w.heap.size A c out ∧ Below w.heap.size w w' ∧ (∀ x, x ∈ out ↔ TReach ns i x) ∧ (∀ x ∈ out, 0 ≤ x ∧ x < ns.length) ∧ out.length ≤ ns.length

/-- every node's kids are few and are nodes -/
def KidsOk (ns : List Nd) : Prop := ns.length ≤ 12 ∧ ∀ n ∈ ns, n.kids.length ≤ 6 ∧ ∀ x ∈ n.kids, 0 ≤ x ∧ x < ns.length

theorem in64_of_range {ns : List Nd} {out : List Int} (h12 : ns.length ≤ 12) (h : ∀ x ∈ out, 0 ≤ x ∧ x < ns.length) : ∀ x ∈ out, In64 x := fun x hx => by
  have := h x hx
  constructor <;> omega

set_option maxRecDepth 100000 in
set_option maxHeartbeats 4000000 in
theorem tupleReach_any (A : Option Addr) (ns : List Nd) (c : Nat) (r : Int) (i : Nat) (w : World) (hr : NdsAt w w.heap.size A ns) (hko : KidsOk ns) (hi : i < ns.length) :
    Calls Try.prog 42 #[.agg #[.slice A ns.length c, .int .i64 r], .int .i64 (i : Int)] w (GivesReach w ns i) := by
  obtain ⟨h12, hkids0⟩ := hko
  have hkids := hide hkids0
  clear hkids0
  have hB : Below w.heap.size w ((w.alloc (.cells #[.slice A ns.length c, .int .i64 r] 25)).alloc (.cells #[] 3)) := ((Below.refl _ _).alloc (Nat.le_refl _) _).alloc (by simp) _
  have l1 := (Lies.new w #[.slice A ns.length c, .int .i64 r] 25).alloc (.cells #[] 3)
  have hr2 := hr.below hB
  have hbare := OwnI.bare (w.alloc (.cells #[.slice A ns.length c, .int .i64 r] 25))
  simp only [World.size_alloc] at hbare
  clear hr
  have hi1 : (0 : Int) ≤ (i : Int) := by omega
  have hi2 : (i : Int) < (ns.length : Int) := by omega
  obtain ⟨b, off, n, rfl, hbl, hat, hmem, hN⟩ := hr2.at_ hi
  obtain ⟨hn_k, hn_v, ⟨A1, c1, hn_s, hI1', hnil1⟩, _, _⟩ := hN
  have hI1 := hI1'.more hB.size
  clear hI1'
  obtain ⟨hkn, hkr0⟩ := hkids.out n hmem
  have hkr := hide hkr0
  have hki := hide (kidsOf_at hat)
  clear hat hmem hn_k hn_v hkr0
  go_enter Try.func42, Try.ntmps42
  go_wp2_with fail
  generalize hWd : (w.alloc (.cells #[.slice (some ⟨b, off, none⟩) ns.length c, .int .i64 r] 25)).alloc (.cells #[] 3) = W at hB l1 hr2 hbl hn_s hI1 hbare ⊢
  have hWs : w.heap.size + 2 = W.heap.size := by rw [← hWd]; simp
  have HWs := hide hWs
  clear hWd hWs
  refine (copyInts_any A1 n.kids c1 W hI1 hnil1 (by omega)).mono ?_
  rintro e w1 ⟨Al, cl, rfl, hlist, hb1⟩
  go_wp2_with fail
  go_loopw [5, 6, 7] (fun o l iv wr => ∃ (out list : List Int) (Ao Al : Option Addr) (co cl k : Nat), o = .slice Ao out.length co ∧ l = .slice Al list.length cl ∧ iv = .int .i64 k ∧ k ≤ list.length ∧
      OwnI wr (w.heap.size + 1) Ao co out ∧ OwnI wr (w.heap.size + 1) Al cl list ∧ Below (w.heap.size + 1) W wr ∧ (∀ g, blockOf Ao = some g → blockOf Al ≠ some g) ∧ TInv ns i out list k) (fun _ _ iv _ => 79 - (intOf iv).toNat)
  case atStart =>
    refine ⟨[], n.kids, _, Al, _, cl, 0, rfl, rfl, rfl, Nat.zero_le _, hbare.below hb1, hlist.mono (by have := HWs.out; omega), hb1.mono (by have := HWs.out; omega), ?_, ?_⟩
    · intro g hg hg2
      simp [blockOf] at hg
      have := hlist.blocks g hg2
      have := HWs.out
      omega
    · have := TInv.start (ns := ns) (i := i) (by rw [hki.out]; exact hkn) (by rw [hki.out]; exact hkr.out)
      rw [hki.out] at this
      exact this
  case round =>
    obtain ⟨out, list, Ao, Al', co, cl', k, rfl, rfl, rfl, hkl, hout, hli, hb, hap0, hinv⟩ := hrel
    clear hlist hbare hb1 hn_s hI1
    have hap := hide hap0
    clear hap0
    have hsz : w.heap.size + 2 ≤ wr.heap.size := by have := hb.size; have := HWs.out; omega
    have Hinv := hide hinv
    have hk78 := hinv.listLen h12
    have ho12 := hinv.outLen
    have wfo : ∀ x ∈ out, In64 x := in64_of_range h12 fun x hx => hinv.range x (hinv.sub x hx)
    have wfl : ∀ x ∈ list, In64 x := in64_of_range h12 hinv.range
    have hio := hout.ints wfo (by omega)
    have hil := hli.ints wfl (by omega)
    have Wfo := hide wfo
    have Wfl := hide wfl
    clear hinv wfo wfl
    have l1r := l1.below hb (by omega)
    have e0 := l1r.cell 0
    simp at e0
    by_cases hlt : k < list.length
    · obtain ⟨b2, off2, x, rfl, hbl2, hx, hxm, hcx⟩ := hil.at_ hlt
      obtain ⟨hx0, hx1⟩ := Hinv.out.range x hxm
      obtain ⟨y, rfl⟩ := Int.eq_ofNat_of_zero_le hx0
      have Hx := hide hx
      clear hx hxm
      have hk1 : (0 : Int) ≤ (k : Int) := by omega
      have hk2 : (k : Int) < (list.length : Int) := by omega
      go_wp2_with fail
      refine (placeIn_any Ao out co y wr hio).mono ?_
      rintro e w' ⟨rfl, rfl⟩
      by_cases hmem : (y : Int) ∈ out
      · have hp := place_lt hmem
        have hd : decide (place out y < 0) = false := by simp; omega
        generalize place out y = pl at hp hd ⊢
        have Hn := hide (Hinv.out.seen Hx.out hmem)
        clear hmem
        go_wp2
        go_roundw
        case rel => exact ⟨out, list, Ao, _, co, cl', k + 1, rfl, rfl, by go_num, by omega, hout, hli, hb, hap.out, Hn.out⟩
        case measure => simp [intOf]; omega
      · rw [place_neg hmem]
        have hIone := IntsAt.one wr y (by constructor <;> omega)
        go_wp2_with (at_builtin; refine append_ints rfl (.tmp 29) (.tmp 34) rfl (w.heap.size + 1) Ao co out rfl (hout.alloc _) (wr.heap.size + 1) _ 1 [(y : Int)] rfl (fun e => by cases e) hIone (by simp; omega) (by simp; omega) ?_; intro zs A' c' w2 hz hown2 hg2 hat2)
        have hb2 : Below (w.heap.size + 1) W w2 := below_grown (hb.alloc (by omega) _) hg2 (by simp; omega) (fun k hk => (hout.blocks k hk).1)
        have hli2 : OwnI w2 (w.heap.size + 1) (some ⟨b2, off2, none⟩) cl' list := (hli.alloc _).kept hg2 (.inr (fun e => hap.out b2 (by rw [← e]; simp [blockOf]) (by simp [blockOf])))
        have hap2 : Hid (∀ g, blockOf A' = some g → blockOf (some (⟨b2, off2, none⟩ : Addr)) ≠ some g) := by
          intro g hg e
          rcases hat2 with h | h
          · exact hap.out g (by rw [← h]; exact hg) e
          · simp only [World.size_alloc] at h
            have := hli.blocks b2 (by simp [blockOf])
            rw [hg] at h
            simp [blockOf] at e h
            omega
        clear hat2 hg2 hio hIone hap hout hli hil e0 l1r
        have hil2 := hli2.ints Wfl.out (by omega)
        have e0 := (l1.below hb2 (by omega)).cell 0
        simp at e0
        obtain ⟨_, _, _, he2, _, hx2, _, hcx2⟩ := hil2.at_ hlt
        simp only [Option.some.injEq, Addr.mk.injEq, and_true] at he2
        obtain ⟨rfl, rfl⟩ := he2
        obtain rfl := Option.some.inj (hx2.symm.trans Hx.out)
        obtain ⟨b3, off3, m, he3, hbl3, hat3, hmm, hM⟩ := (hr2.below (hb2.mono (by omega))).at_ (k := y) (by omega)
        simp only [Option.some.injEq, Addr.mk.injEq, and_true] at he3
        obtain ⟨rfl, rfl⟩ := he3
        obtain ⟨hm_k, hm_v, ⟨A2, c2, hm_s, hI2', hnil2⟩, _, _⟩ := hM
        have hI2 := hI2'.more (show w.heap.size ≤ w2.heap.size by have := hB.size; have := hb2.size; omega)
        clear hI2'
        obtain ⟨hkm, hkr0'⟩ := hkids.out m hmm
        have hkr2 := hide hkr0'
        have hkk := hide (kindOf_at hat3)
        have hkk2 := hide (kidsOf_at hat3)
        clear hx2 hat3 hmm hkr0' hm_v hcx
        have hy1 : (0 : Int) ≤ (y : Int) := by omega
        have hb3 : Below (w.heap.size + 1) W w2.drew := hb2.drew
        have hown3 := hown2.drew
        have hli3 := hli2.drew
        have hI3 : IntsAt w2.drew w2.drew.heap.size A2 m.kids := hI2.later (Below.refl _ _).drew (Nat.le_refl _)
        have f0 : w2.drew.cell? ⟨w.heap.size, 0, none⟩ = some (.slice (some ⟨b, off, none⟩) ns.length c) := e0
        have f1 : w2.drew.cell? ⟨b2, off2 + k, none⟩ = some (.int .i64 (y : Int)) := hcx2
        have f2 : w2.drew.cell? ⟨b, off + y * 3 + 2, none⟩ = some (.slice A2 m.kids.length c2) := hm_s
        have f3 : w2.drew.cell? ⟨b, off + y * 3, none⟩ = some (.int .i64 m.kind) := hm_k
        by_cases h2 : m.kind = 2
        · have t2 : (m.kind == 2) = true := by rw [beq_iff_eq]; exact h2
          have Hn := hide (Hinv.out.tuple Hx.out hmem (by rw [hkk.out]; exact h2) (by rw [hkk2.out]; exact hkm) (by rw [hkk2.out]; exact hkr2.out))
          clear hmem h2
          go_wp2_with fail
          go_still_tail 9, (by kernel_rfl)
          change wpList _ _ _ _ _ w2.drew
          generalize w2.drew = w3 at hb3 hown3 hli3 hI3 f0 f1 f2 f3 ⊢
          clear hb2 hown2 hli2 hI2 e0 hcx2 hm_s hm_k hil2
          have hb4 : Below (w.heap.size + 1) W w3.drew := hb3.drew
          have hown4 := hown3.drew
          have hli4 := hli3.drew
          have hI4 : IntsAt w3.drew w3.drew.heap.size A2 m.kids := hI3.later (Below.refl _ _).drew (Nat.le_refl _)
          go_wp2_with fail
          go_still_tail 10, (by kernel_rfl)
          change wpList _ _ _ _ _ w3.drew
          generalize w3.drew = w4 at hb4 hown4 hli4 hI4 ⊢
          clear hb3 hown3 hli3 hI3 f0 f1 f2 f3
          go_wp2_with (at_builtin; refine append_ints rfl (.tmp 46) (.tmp 55) rfl (w.heap.size + 1) _ cl' list rfl hli4 _ A2 c2 m.kids rfl hnil2 hI4 (by omega) (by have := hb4.size; have := HWs.out; omega) ?_; intro ls Al2 cl2 w5 hls hown5 hg5 hat5)
          go_roundw
          case rel =>
            refine ⟨zs, ls, A', Al2, c', cl2, k + 1, rfl, rfl, by go_num, ?_, ?_, hown5, ?_, ?_, ?_⟩
            · rw [hls.out]; simp; omega
            · exact hown4.kept hg5 (by
                cases hA : blockOf A' with
                | none => exact .inl rfl
                | some g => exact .inr (fun e => hap2.out g hA e.symm))
            · exact below_grown hb4 hg5 (by have := hb4.size; have := HWs.out; omega) (fun k hk => (hli4.blocks k hk).1)
            · intro g hg e
              rcases hat5 with h | h
              · exact hap2.out g hg (by rw [← h]; exact e)
              · rw [h] at e
                have := hown4.blocks g hg
                simp at e
                omega
            · rw [hz.out, hls.out, ← hkk2.out]
              exact Hn.out
          case measure => simp [intOf]; omega
        · have t2 : (m.kind == 2) = false := by rw [beq_eq_false_iff_ne]; exact h2
          have Hn := hide (Hinv.out.leaf Hx.out hmem (by rw [hkk.out]; exact h2))
          clear hmem h2
          go_wp2_with fail
          go_still_tail 9, (by kernel_rfl)
          change wpList _ _ _ _ _ w2.drew
          generalize w2.drew = w3 at hb3 hown3 hli3 ⊢
          clear hb2 hown2 hli2 hI2 e0 hcx2 hm_s hm_k hil2 f0 f1 f2 f3
          go_wp2
          go_roundw
          case rel => exact ⟨zs, list, A', _, c', cl', k + 1, rfl, rfl, by go_num, by omega, hown3, hli3, hb3, hap2.out, by rw [hz.out]; exact Hn.out⟩
          case measure => simp [intOf]; omega
    · obtain rfl : k = list.length := by omega
      have HF := hide Hinv.out.all
      have HR := hide (show ∀ x ∈ out, 0 ≤ x ∧ x < (ns.length : Int) from fun x hx => Hinv.out.range x (Hinv.out.sub x hx))
      clear hlt hil hio
      go_wp2
      go_ret
      exact ⟨Ao, co, out, rfl, hout.mono (by omega), hB.trans (hb.mono (by omega)), HF.out, HR.out, ho12⟩

end Go.Proofs.Ythgklkpfmjgeoaa

namespace Go.Proofs.Ythgklkpfmjgeoaa
open Go.RowKit
set_option linter.unusedVariables false

/-- a row of one node without kids -/
theorem OwnRow.one {w : World} {g cap : Nat} {f : Nat → Value} (a b : Int) (h : w.rowIs g 43 (cap * 3) f) (hc : 1 ≤ cap) (h0 : f 0 = .int .i64 a) (h1 : f 1 = .int .i64 b) (h2 : f 2 = .slice none 0 0) :
    OwnRow w g (g + 1) g cap [⟨a, b, []⟩] := by
  have c0 := World.rowIs.cell h (i := 0) (by omega)
  have c1 := World.rowIs.cell h (i := 1) (by omega)
  have c2 := World.rowIs.cell h (i := 2) (by omega)
  rw [h0] at c0
  rw [h1] at c1
  rw [h2] at c2
  refine ⟨⟨f, h⟩, by simpa using hc, Nat.le_refl _, Nat.lt_succ_self _, fun j n hj => ?_, fun i j A A' n n' c c' hij hi hj => by simp at hi hj; omega⟩
  match j, hj with
  | 0, hj =>
    simp at hj
    subst hj
    exact ⟨c0, c1, ⟨none, 0, c2, OwnI.empty _ _, fun b hb => by cases hb⟩⟩
  | j + 1, hj => simp at hj

/-- a row of no node -/
theorem OwnRow.zero {w : World} {g cap : Nat} {f : Nat → Value} (h : w.rowIs g 43 (cap * 3) f) : OwnRow w g (g + 1) g cap [] :=
  ⟨⟨f, h⟩, Nat.zero_le _, Nat.le_refl _, Nat.lt_succ_self _, fun j n hj => by simp at hj, fun i j A A' n n' c c' _ hi => by simp at hi⟩

theorem infoNdA : (Try.prog.info? 43).map (fun i => (i.zero, i.size, i.bytes)) = some (some (.agg #[.int .i64 0, .int .i64 0, .slice none 0 0]), 3, 40) := by kernel_rfl

/-- append(nil, n) of one node without kids, which lies in a block of its own -/
theorem append_nd1 {w : World} {ops : Array Oper} {rest : List Oper} {o : Oper} {a : Act} {Q : Exit → Act → World → Prop} (hgd : o.guard = none) (s x : Operand)
    (ho : o.op = .call { callee := .builtin .append, args := #[s, x], argTypes := #[23, 23] })
    (base : Nat) (hs : a.eval s = .slice none 0 0) (b : Nat) (k v : Int) (t : TypeId) (hx : a.eval x = .slice (some ⟨b, 0, none⟩) 1 1) (hr : w.heap[b]? = some (.cells #[.int .i64 k, .int .i64 v, .slice none 0 0] t (0, 0)))
    (hbase : base ≤ w.heap.size)
    (h : ∀ (g cap : Nat) (w' : World), base ≤ g → g < w'.heap.size → OwnRow w' g (g + 1) g cap [⟨k, v, []⟩] → w.grownBy w' none → g = w.heap.size →
      wpList Try.prog ops Q rest (a.put o.dst (.slice (some ⟨g, 0, none⟩) 1 cap)) w') : wpList Try.prog ops Q (o :: rest) a w := by
  obtain ⟨i0, hi, hz0, hz1, hz2⟩ := info_parts infoNdA
  refine wpList_append_own_at w hgd s x 23 ho base 43 i0 _ 3 40 Try.underlying23 hi hz0 hz1 hz2 rfl (by omega) _ 0 [] hs (World.ownsRow_nil _ _ _ _) ⟨b, 0, none⟩ 1 1 [.int .i64 k, .int .i64 v, .slice none 0 0] hx (by simp) (World.news_of_block hr) (by
      intro u hu
      simp at hu
      rcases hu with rfl | rfl | rfl <;> rfl)
    (by unfold maxLen; omega) (by omega) hbase ?_
  intro v' w' h2 h3 _ h5
  rcases h2.2 with ⟨_, h6⟩ | ⟨g, cap, cur, rfl, hg, hh, hn, hm, hsz, htk⟩
  · omega
  · have hat : ∀ i u, i < 3 → ([.int .i64 k, .int .i64 v, .slice none 0 0] : List Value)[i]? = some u → cur[i]? = some u := by
      intro i u hi' hu
      rw [List.nil_append] at htk
      rw [← htk, List.getElem?_take, if_pos (by omega), Array.getElem?_toList] at hu
      exact hu
    have hrow : w'.rowIs g 43 (cap * 3) (fun i => (cur[i]?).getD undef) := ⟨cur, hh, by simpa using hsz, fun i hi' => by
      have : i < cur.size := by rw [hsz]; omega
      show _ = some ((cur[i]?).getD undef)
      rw [Array.getElem?_eq_getElem this]; rfl⟩
    refine h g cap w' hg hrow.lt (OwnRow.one k v hrow (by omega) ?_ ?_ ?_) h3 ?_
    · show (cur[0]?).getD undef = _
      rw [hat 0 _ (by omega) rfl]; rfl
    · show (cur[1]?).getD undef = _
      rw [hat 1 _ (by omega) rfl]; rfl
    · show (cur[2]?).getD undef = _
      rw [hat 2 _ (by omega) rfl]; rfl
    · rcases h5 with h5 | h5
      · cases h5
      · simpa [Value.ownBlock] using h5

end Go.Proofs.Ythgklkpfmjgeoaa

namespace Go.Proofs.Ythgklkpfmjgeoaa
open Go.RowKit
set_option linter.unusedVariables false

/-- the world behind a store to the node j -/
def setN (w : World) (g j : Nat) (v0 v1 v2 : Value) : World := ((w.setCell ⟨g, j * 3, none⟩ v0).setCell ⟨g, j * 3 + 1, none⟩ v1).setCell ⟨g, j * 3 + 2, none⟩ v2

theorem setN_block {w : World} {g j k : Nat} {v0 v1 v2 : Value} (hk : k ≠ g) : (setN w g j v0 v1 v2).heap[k]? = w.heap[k]? := by
  unfold setN
  rw [Below.heap_setCell _ _ _ _ (by show k ≠ g; exact hk), Below.heap_setCell _ _ _ _ (by show k ≠ g; exact hk), Below.heap_setCell _ _ _ _ (by show k ≠ g; exact hk)]
theorem setN_size {w : World} {g j : Nat} {v0 v1 v2 : Value} : (setN w g j v0 v1 v2).heap.size = w.heap.size := by unfold setN; simp
theorem setN_far {w : World} {g j q : Nat} {v0 v1 v2 : Value} (hq : q < j * 3 ∨ j * 3 + 2 < q) : (setN w g j v0 v1 v2).cell? ⟨g, q, none⟩ = w.cell? ⟨g, q, none⟩ := by
  unfold setN
  rw [World.cell?_setCell_other, World.cell?_setCell_other, World.cell?_setCell_other] <;> (intro e; injection e with _ e; omega)
theorem setN_row {w : World} {g j n : Nat} {t : TypeId} {f : Nat → Value} (h : w.rowIs g t n f) (v0 v1 v2 : Value) : ∃ f', (setN w g j v0 v1 v2).rowIs g t n f' := ⟨_, ((h.set _ _).set _ _).set _ _⟩
theorem setN_at {w : World} {g j n : Nat} {t : TypeId} {f : Nat → Value} (h : w.rowIs g t n f) (hn : j * 3 + 2 < n) (v0 v1 v2 : Value) : (setN w g j v0 v1 v2).cell? ⟨g, j * 3, none⟩ = some v0 ∧ (setN w g j v0 v1 v2).cell? ⟨g, j * 3 + 1, none⟩ = some v1 ∧ (setN w g j v0 v1 v2).cell? ⟨g, j * 3 + 2, none⟩ = some v2 := by
  have hr := ((h.set (j * 3) v0).set (j * 3 + 1) v1).set (j * 3 + 2) v2
  unfold setN
  refine ⟨?_, ?_, ?_⟩
  · have := hr.cell (i := j * 3) (by omega)
    simpa using this
  · have := hr.cell (i := j * 3 + 1) (by omega)
    simpa using this
  · have := hr.cell (i := j * 3 + 2) (by omega)
    simpa using this
theorem setN_below {w w' : World} {B g j : Nat} {v0 v1 v2 : Value} (h : Below B w w') (hg : B ≤ g) : Below B w (setN w' g j v0 v1 v2) :=
  ((h.setCell (p := ⟨g, j * 3, none⟩) hg v0).setCell (p := ⟨g, j * 3 + 1, none⟩) hg v1).setCell (p := ⟨g, j * 3 + 2, none⟩) hg v2

theorem OwnI.lowB {w : World} {base base' : Nat} {A : Option Addr} {c : Nat} {xs : List Int} (h : OwnI w base A c xs) (hb : base' ≤ base) : OwnI w base' A c xs := by
  refine ⟨h.own.1, ?_⟩
  rcases h.own.2 with h2 | ⟨g, cap, cur, hv, hg, r⟩
  · exact .inl h2
  · exact .inr ⟨g, cap, cur, hv, by omega, r⟩

/-- a node is written behind the others; its kids' row is new -/
theorem OwnRow.snoc {w : World} {lo hi hi2 g cap c : Nat} {A : Option Addr} {ns : List Nd} {n : Nd} (h : OwnRow w lo hi g cap ns) (hcap : ns.length < cap) (hown : OwnI w hi A c n.kids) (h2 : hi ≤ hi2) (hA : ∀ b, blockOf A = some b → b < hi2) :
    OwnRow (setN w g ns.length (.int .i64 n.kind) (.int .i64 n.value) (.slice A n.kids.length c)) lo hi2 g cap (ns ++ [n]) := by
  obtain ⟨f, hf⟩ := h.row
  have hlo := h.hlo
  have hhi := h.hhi
  have hat := setN_at (j := ns.length) hf (by omega) (.int .i64 n.kind) (.int .i64 n.value) (.slice A n.kids.length c)
  have hAb : ∀ b, blockOf A = some b → hi ≤ b := fun b hb => (hown.blocks b hb).1
  have hgA : ∀ b, blockOf A = some b → b ≠ g := fun b hb => by have := hAb b hb; omega
  have hown2 : OwnI (setN w g ns.length (.int .i64 n.kind) (.int .i64 n.value) (.slice A n.kids.length c)) lo A c n.kids := (hown.of_blk (fun b hb => setN_block (hgA b hb))).lowB (by omega)
  refine ⟨setN_row hf _ _ _, by simp; omega, hlo, by omega, fun j m hj => ?_, fun i j A1 A2 k1 k2 c1 c2 hij hi' hj' e1 e2 b hb => ?_⟩
  · rw [List.getElem?_append] at hj
    split at hj
    next hlt =>
      have hn := h.nd j m hj
      obtain ⟨A1, c1, h1, h3, h4⟩ := hn.kids
      exact ⟨(setN_far (by omega)).trans hn.kind, (setN_far (by omega)).trans hn.value, ⟨A1, c1, (setN_far (by omega)).trans h1, h3.of_blk (fun b hb => setN_block (h4 b hb).2), fun b hb => ⟨by have := (h4 b hb).1; omega, (h4 b hb).2⟩⟩⟩
    next hlt =>
      have hjl := (List.getElem?_eq_some_iff.1 hj).1
      simp at hjl
      obtain rfl : j = ns.length := by omega
      simp at hj
      subst hj
      exact ⟨hat.1, hat.2.1, ⟨A, c, hat.2.2, hown2, fun b hb => ⟨hA b hb, hgA b hb⟩⟩⟩
  · simp at hi' hj'
    by_cases ei : i = ns.length
    · subst ei
      rw [hat.2.2] at e1
      injection e1 with e1
      injection e1 with e1 _ _
      subst e1
      have hj2 : j < ns.length := by omega
      rw [setN_far (by omega)] at e2
      intro e3
      obtain ⟨A3, c3, g1, _, g3⟩ := (h.nd j _ (List.getElem?_eq_getElem hj2)).kids
      rw [e2] at g1
      injection g1 with g1
      injection g1 with g1 _ _
      subst g1
      have := (g3 b e3).1
      have := hAb b hb
      omega
    · have hi2' : i < ns.length := by omega
      rw [setN_far (by omega)] at e1
      obtain ⟨A3, c3, g1, _, g3⟩ := (h.nd i _ (List.getElem?_eq_getElem hi2')).kids
      have e1' := e1
      rw [e1'] at g1
      injection g1 with g1
      injection g1 with g1 _ _
      subst g1
      by_cases ej : j = ns.length
      · subst ej
        rw [hat.2.2] at e2
        injection e2 with e2
        injection e2 with e2 _ _
        subst e2
        intro e3
        have := (g3 b hb).1
        have := hAb b e3
        omega
      · rw [setN_far (by omega)] at e2
        exact h.dis i j A1 A2 k1 k2 c1 c2 hij hi2' (by omega) e1 e2 b hb

/-- a row may be said to reach further up -/
theorem OwnRow.high {w : World} {lo hi hi2 g cap : Nat} {ns : List Nd} (h : OwnRow w lo hi g cap ns) (h2 : hi ≤ hi2) : OwnRow w lo hi2 g cap ns :=
  ⟨h.row, h.le, h.hlo, by have := h.hhi; omega, fun j n hj => by
    have hn := h.nd j n hj
    obtain ⟨A, c, h1, h3, h4⟩ := hn.kids
    exact ⟨hn.kind, hn.value, ⟨A, c, h1, h3, fun b hb => ⟨by have := (h4 b hb).1; omega, (h4 b hb).2⟩⟩⟩, h.dis⟩

theorem OwnRow.low {w : World} {lo lo2 hi g cap : Nat} {ns : List Nd} (h : OwnRow w lo hi g cap ns) (h2 : lo2 ≤ lo) : OwnRow w lo2 hi g cap ns :=
  ⟨h.row, h.le, by have := h.hlo; omega, h.hhi, fun j n hj => by
    have hn := h.nd j n hj
    obtain ⟨A, c, h1, h3, h4⟩ := hn.kids
    exact ⟨hn.kind, hn.value, ⟨A, c, h1, h3.lowB h2, h4⟩⟩, h.dis⟩

/-- the node x of ns, its kids by their places in L -/
def pickN (ns : List Nd) (L : List Int) (x : Int) : Nd := match ns[x.toNat]? with | some n => ⟨n.kind, n.value, n.kids.map (place L)⟩ | none => ⟨0, 0, []⟩

theorem pickN_at {ns : List Nd} {L : List Int} {i : Nat} {n : Nd} (h : ns[i]? = some n) : pickN ns L (i : Int) = ⟨n.kind, n.value, n.kids.map (place L)⟩ := by
  unfold pickN
  rw [Int.toNat_natCast, h]

/-- the nodes of L, in its order -/
def pickNs (ns : List Nd) (L : List Int) : List Nd := L.map (pickN ns L)

theorem pickNs_len (ns : List Nd) (L : List Int) : (pickNs ns L).length = L.length := by simp [pickNs]

theorem pickNs_take {ns : List Nd} {L : List Int} {k i : Nat} {n : Nd} (hk : L[k]? = some (i : Int)) (h : ns[i]? = some n) : (pickNs ns L).take (k + 1) = (pickNs ns L).take k ++ [⟨n.kind, n.value, n.kids.map (place L)⟩] := by
  have : (pickNs ns L)[k]? = some ⟨n.kind, n.value, n.kids.map (place L)⟩ := by
    unfold pickNs
    rw [List.getElem?_map, hk]
    simp [pickN_at h]
  rw [List.take_add_one, this]
  rfl

theorem place_in64 {L : List Int} (hl : L.length ≤ 1000) (x : Int) : In64 (place L x) := by
  by_cases h : x ∈ L
  · rw [place_pos h]
    have := List.idxOf_lt_length_of_mem h
    constructor <;> omega
  · rw [place_neg h]
    constructor <;> omega

/-- a graph of the call's own comes back -/
def GivesG (w : World) (ms : List Nd) (r : Int) (e : Ending) (w' : World) : Prop :=
  ∃ A c, e = .returned (.agg #[.slice A ms.length c, .int .i64 r]) ∧ OwnNs w' w.heap.size w'.heap.size A c ms ∧ Below w.heap.size w w'

end Go.Proofs.Ythgklkpfmjgeoaa

namespace Go.Proofs.Ythgklkpfmjgeoaa
open Go.RowKit
set_option linter.unusedVariables false

/-- the number at a place of a list -/
def look (cl : List Int) (x : Int) : Int := (cl[x.toNat]?).getD 0
theorem look_at {cl : List Int} {i : Nat} {v : Int} (h : cl[i]? = some v) : look cl (i : Int) = v := by
  unfold look
  rw [Int.toNat_natCast, h]
  rfl

/-- what one depth more tells of a node -/
def sigOf (cl : List Int) (n : Nd) : Int × Int × List Int := (n.kind, n.value, n.kids.map (look cl))
def sigs (ns : List Nd) (cl : List Int) : List (Int × Int × List Int) := ns.map (sigOf cl)

/-- the classes of one depth more -/
def finer (ns : List Nd) (cl : List Int) : List Int := (sigs ns cl).map fun s => (((sigs ns cl).idxOf s : Nat) : Int)

/-- the classes up to a depth -/
def clsN (ns : List Nd) : Nat → List Int
  | 0 => List.replicate ns.length 0
  | d + 1 => finer ns (clsN ns d)

theorem finer_len (ns : List Nd) (cl : List Int) : (finer ns cl).length = ns.length := by simp [finer, sigs]
theorem clsN_len (ns : List Nd) : ∀ d, (clsN ns d).length = ns.length
  | 0 => by simp [clsN]
  | d + 1 => finer_len _ _

theorem sigs_at {ns : List Nd} {cl : List Int} {i : Nat} {n : Nd} (h : ns[i]? = some n) : (sigs ns cl)[i]? = some (sigOf cl n) := by
  unfold sigs
  rw [List.getElem?_map, h]
  rfl

theorem finer_at {ns : List Nd} {cl : List Int} {i : Nat} {n : Nd} (h : ns[i]? = some n) : (finer ns cl)[i]? = some (((sigs ns cl).idxOf (sigOf cl n) : Nat) : Int) := by
  unfold finer
  rw [List.getElem?_map, sigs_at h]
  rfl

theorem idxOf_le {α : Type} [BEq α] [LawfulBEq α] {l : List α} {i : Nat} {a : α} (h : l[i]? = some a) : l.idxOf a ≤ i := by
  rcases Nat.lt_or_ge i (l.idxOf a) with h1 | h1
  · have := List.not_of_lt_findIdx (xs := l) (p := (· == a)) (i := i) (by simpa [List.idxOf] using h1)
    obtain ⟨hl, he⟩ := List.getElem?_eq_some_iff.1 h
    simp [he] at this
  · exact h1

theorem idxOf_at {α : Type} [BEq α] [LawfulBEq α] {l : List α} {a : α} (h : a ∈ l) : l[l.idxOf a]? = some a := by
  have h1 := List.idxOf_lt_length_of_mem h
  rw [List.getElem?_eq_getElem h1, List.getElem_idxOf h1]

/-- the class of a node: the first one that is told the same -/
theorem finer_first {ns : List Nd} {cl : List Int} {i j : Nat} {n m : Nd} (hi : ns[i]? = some n) (hj : ns[j]? = some m) (hs : sigOf cl m = sigOf cl n) (hf : ∀ k q, k < j → ns[k]? = some q → sigOf cl q ≠ sigOf cl n) : (finer ns cl)[i]? = some (j : Int) := by
  rw [finer_at hi]
  congr 2
  have h1 : (sigs ns cl).idxOf (sigOf cl n) ≤ j := idxOf_le (by rw [sigs_at hj, hs])
  rcases Nat.lt_or_ge ((sigs ns cl).idxOf (sigOf cl n)) j with h2 | h2
  · have h3 := idxOf_at (l := sigs ns cl) (a := sigOf cl n) (List.mem_of_getElem? (sigs_at hi))
    have hl := (List.getElem?_eq_some_iff.1 hj).1
    have hk : ns[(sigs ns cl).idxOf (sigOf cl n)]? = some ns[(sigs ns cl).idxOf (sigOf cl n)] := List.getElem?_eq_getElem (by omega)
    have h4 := sigs_at (cl := cl) hk
    rw [h3] at h4
    exact absurd (Option.some.inj h4).symm (hf _ _ h2 hk)
  · omega

theorem finer_eq {ns : List Nd} {cl : List Int} {i j : Nat} {n m : Nd} (hi : ns[i]? = some n) (hj : ns[j]? = some m) : look (finer ns cl) i = look (finer ns cl) j ↔ sigOf cl n = sigOf cl m := by
  rw [look_at (finer_at hi), look_at (finer_at hj)]
  constructor
  · intro h
    have h1 := idxOf_at (l := sigs ns cl) (a := sigOf cl n) (List.mem_of_getElem? (sigs_at hi))
    have h2 := idxOf_at (l := sigs ns cl) (a := sigOf cl m) (List.mem_of_getElem? (sigs_at hj))
    rw [show (sigs ns cl).idxOf (sigOf cl n) = (sigs ns cl).idxOf (sigOf cl m) by omega, h2] at h1
    exact (Option.some.inj h1).symm
  · intro h; rw [h]

theorem map_eq_of {f g : Int → Int} : ∀ (xs ys : List Int), (∀ a ∈ xs, ∀ b ∈ ys, f a = f b → g a = g b) → xs.map f = ys.map f → xs.map g = ys.map g
  | [], [], _, _ => rfl
  | [], y :: ys, _, h => by simp at h
  | x :: xs, [], _, h => by simp at h
  | x :: xs, y :: ys, hf, h => by
    simp only [List.map_cons, List.cons.injEq] at h ⊢
    exact ⟨hf x (by simp) y (by simp) h.1, map_eq_of xs ys (fun a ha b hb => hf a (List.mem_cons_of_mem _ ha) b (List.mem_cons_of_mem _ hb)) h.2⟩

theorem sig_of {c1 c0 : List Int} {n m : Nd} (hf : ∀ a ∈ n.kids, ∀ b ∈ m.kids, look c1 a = look c1 b → look c0 a = look c0 b) (h : sigOf c1 n = sigOf c1 m) : sigOf c0 n = sigOf c0 m := by
  unfold sigOf at h ⊢
  simp only [Prod.mk.injEq] at h ⊢
  exact ⟨h.1, h.2.1, map_eq_of _ _ hf h.2.2⟩

theorem look_zero (ns : List Nd) (x : Int) : look (clsN ns 0) x = 0 := by
  unfold look clsN
  rw [List.getElem?_replicate]
  split <;> rfl

theorem in_at {ns : List Nd} {x : Int} (h : 0 ≤ x ∧ x < ns.length) : ∃ (i : Nat) (n : Nd), x = (i : Int) ∧ ns[i]? = some n := by
  obtain ⟨i, rfl⟩ := Int.eq_ofNat_of_zero_le h.1
  exact ⟨i, _, rfl, List.getElem?_eq_getElem (by omega)⟩

/-- nodes that are told the same up to a depth are so up to less -/
theorem cls_mono {ns : List Nd} (hk : KidsIn ns) : ∀ (d : Nat) (x y : Int), 0 ≤ x ∧ x < ns.length → 0 ≤ y ∧ y < ns.length → look (clsN ns (d + 1)) x = look (clsN ns (d + 1)) y → look (clsN ns d) x = look (clsN ns d) y
  | 0, x, y, _, _, _ => by rw [look_zero, look_zero]
  | d + 1, x, y, hx, hy, h => by
    obtain ⟨i, n, rfl, hn⟩ := in_at hx
    obtain ⟨j, m, rfl, hm⟩ := in_at hy
    have h1 := (finer_eq (cl := clsN ns (d + 1)) hn hm).1 h
    exact (finer_eq (cl := clsN ns d) hn hm).2 (sig_of (fun a ha b hb => cls_mono hk d a b (hk n (List.mem_of_getElem? hn) a ha) (hk m (List.mem_of_getElem? hm) b hb)) h1)

theorem clsN_in (ns : List Nd) : ∀ (d : Nat), ∀ x ∈ clsN ns d, 0 ≤ x ∧ (x < ns.length ∨ x = 0)
  | 0, x, hx => by
    unfold clsN at hx
    have := List.eq_of_mem_replicate hx
    omega
  | d + 1, x, hx => by
    unfold clsN finer at hx
    obtain ⟨s, hs, rfl⟩ := List.mem_map.1 hx
    have := List.idxOf_lt_length_of_mem hs
    simp [sigs] at this
    simp [sigs]
    omega

/-- the class of a node is no greater than it, and is its own class -/
theorem cls_self {ns : List Nd} (d : Nat) {i : Nat} (hi : i < ns.length) : ∃ j : Nat, (clsN ns d)[i]? = some (j : Int) ∧ j ≤ i ∧ (clsN ns d)[j]? = some (j : Int) := by
  cases d with
  | zero =>
    refine ⟨0, ?_, Nat.zero_le _, ?_⟩
    · unfold clsN; rw [List.getElem?_replicate, if_pos hi]; rfl
    · unfold clsN; rw [List.getElem?_replicate, if_pos (by omega)]; rfl
  | succ d =>
    have hn : ns[i]? = some ns[i] := List.getElem?_eq_getElem hi
    have h1 := finer_at (cl := clsN ns d) hn
    have h2 := idxOf_at (l := sigs ns (clsN ns d)) (a := sigOf (clsN ns d) ns[i]) (List.mem_of_getElem? (sigs_at hn))
    have h3 := idxOf_le (sigs_at (cl := clsN ns d) hn)
    refine ⟨_, h1, h3, ?_⟩
    have hm : ns[(sigs ns (clsN ns d)).idxOf (sigOf (clsN ns d) ns[i])]? = some ns[(sigs ns (clsN ns d)).idxOf (sigOf (clsN ns d) ns[i])] := List.getElem?_eq_getElem (by omega)
    have h4 := finer_at (cl := clsN ns d) hm
    have h5 := sigs_at (cl := clsN ns d) hm
    rw [h2] at h5
    rw [← Option.some.inj h5] at h4
    exact h4

/-- the nodes that are the first ones of their classes -/
def reps (ns : List Nd) (d : Nat) : Nat := (List.range ns.length).countP (fun (i : Nat) => decide (look (clsN ns d) (i : Int) = (i : Int)))

theorem countP_back {p q : Nat → Bool} : ∀ (l : List Nat), (∀ x ∈ l, p x = true → q x = true) → l.countP q ≤ l.countP p → ∀ x ∈ l, q x = true → p x = true
  | [], _, _, x, hx, _ => by simp at hx
  | y :: l, hpq, hc, x, hx, hq => by
    have hle := List.countP_mono_left (l := l) (p := p) (q := q) (fun z hz => hpq z (List.mem_cons_of_mem _ hz))
    rw [List.countP_cons, List.countP_cons] at hc
    have hy := hpq y (by simp)
    have hy2 : q y = true → p y = true := by
      intro h
      rw [if_pos h] at hc
      cases hp : p y
      · rw [hp] at hc
        simp at hc
        omega
      · rfl
    have hc2 : l.countP q ≤ l.countP p := by
      cases hp : p y <;> cases hq2 : q y
      · rw [hp, hq2] at hc; simpa using hc
      · rw [hy2 hq2] at hp; cases hp
      · rw [hy hp] at hq2; cases hq2
      · rw [hp, hq2] at hc; simpa using hc
    rcases List.mem_cons.1 hx with rfl | hx
    · exact hy2 hq
    · exact countP_back l (fun z hz => hpq z (List.mem_cons_of_mem _ hz)) hc2 x hx hq

theorem rep_stays {ns : List Nd} (hk : KidsIn ns) {d i : Nat} (hi : i < ns.length) (h : look (clsN ns d) i = i) : look (clsN ns (d + 1)) i = i := by
  obtain ⟨j, h1, h2, h3⟩ := cls_self (d + 1) hi
  have e : look (clsN ns (d + 1)) i = look (clsN ns (d + 1)) j := by rw [look_at h1, look_at h3]
  have := cls_mono hk d i j (by omega) (by omega) e
  obtain ⟨j2, g1, g2, g3⟩ := cls_self d (show j < ns.length by omega)
  rw [h, look_at g1] at this
  rw [look_at h1]
  omega

theorem cls_stable {ns : List Nd} (hk : KidsIn ns) {d : Nat} (h : reps ns (d + 1) ≤ reps ns d) : clsN ns (d + 1) = clsN ns d := by
  have hb := countP_back (List.range ns.length) (p := fun (i : Nat) => decide (look (clsN ns d) (i : Int) = (i : Int))) (q := fun (i : Nat) => decide (look (clsN ns (d + 1)) (i : Int) = (i : Int)))
    (fun x hx hp => by simp at hx hp ⊢; exact rep_stays hk hx hp) h
  apply List.ext_getElem?
  intro i
  by_cases hi : i < ns.length
  · obtain ⟨j, h1, h2, h3⟩ := cls_self (d + 1) hi
    obtain ⟨j2, g1, g2, g3⟩ := cls_self d hi
    have e : look (clsN ns (d + 1)) i = look (clsN ns (d + 1)) j := by rw [look_at h1, look_at h3]
    have hm := cls_mono hk d i j (by omega) (by omega) e
    have hj := hb j (by simp; omega) (by simp; exact look_at h3)
    simp at hj
    rw [look_at g1, hj] at hm
    rw [h1, g1, hm]
  · rw [List.getElem?_eq_none (by rw [clsN_len]; omega), List.getElem?_eq_none (by rw [clsN_len]; omega)]

theorem cls_stays {ns : List Nd} {d : Nat} (h : clsN ns (d + 1) = clsN ns d) : ∀ k, clsN ns (d + k) = clsN ns d
  | 0 => rfl
  | k + 1 => by
    have := cls_stays h k
    show finer ns (clsN ns (d + k)) = _
    rw [this]
    exact h

theorem cls_ends {ns : List Nd} (hk : KidsIn ns) : ∀ d, (∃ e, e < d ∧ clsN ns (e + 1) = clsN ns e) ∨ d + 1 ≤ reps ns d ∨ ns.length = 0
  | 0 => by
    rcases Nat.eq_zero_or_pos ns.length with h0 | h0
    · exact .inr (.inr h0)
    · refine .inr (.inl ?_)
      unfold reps
      apply Nat.succ_le_of_lt
      rw [List.countP_pos_iff]
      exact ⟨0, by simpa using h0, by simp [look_zero]⟩
  | d + 1 => by
    rcases cls_ends hk d with ⟨e, he, hs⟩ | h | h
    · exact .inl ⟨e, by omega, hs⟩
    · by_cases hs : reps ns (d + 1) ≤ reps ns d
      · exact .inl ⟨d, by omega, cls_stable hk hs⟩
      · exact .inr (.inl (by omega))
    · exact .inr (.inr h)

/-- as many depths as there are nodes are enough -/
theorem cls_all {ns : List Nd} (hk : KidsIn ns) (k : Nat) : clsN ns (ns.length + k) = clsN ns ns.length := by
  rcases cls_ends hk ns.length with ⟨e, he, hs⟩ | h | h
  · have h1 := cls_stays hs (ns.length - e + k)
    have h2 := cls_stays hs (ns.length - e)
    rw [show e + (ns.length - e + k) = ns.length + k by omega] at h1
    rw [show e + (ns.length - e) = ns.length by omega] at h2
    rw [h1, h2]
  · exfalso
    have : reps ns ns.length ≤ ns.length := by
      unfold reps
      exact Nat.le_trans (List.countP_le_length) (by simp)
    omega
  · have hnil : ns = [] := List.eq_nil_of_length_eq_zero h
    subst hnil
    have : ∀ d, clsN [] d = [] := fun d => List.eq_nil_of_length_eq_zero (clsN_len [] d)
    rw [this, this]

end Go.Proofs.Ythgklkpfmjgeoaa

namespace Go.Proofs.Ythgklkpfmjgeoaa

/-- the value of a node -/
def valueOf (ns : List Nd) (x : Int) : Int := ((ns[x.toNat]?).map Nd.value).getD 0
theorem valueOf_at {ns : List Nd} {k : Nat} {n : Nd} (h : ns[k]? = some n) : valueOf ns (k : Int) = n.value := by
  unfold valueOf
  rw [Int.toNat_natCast, h]; rfl

/-- what was written, and what was met -/
abbrev CM := List Int × List Int

/-- what is written and met behind the first visit of x -/
def codPut (ns : List Nd) (x : Int) (p : CM) : CM :=
  (p.1 ++ [kindOf ns x, valueOf ns x, ((kidsOf ns x).length : Int)], if kindOf ns x = 0 then p.2 else p.2 ++ [x])

def cod (ns : List Nd) : Nat → Int → CM → CM
  | 0, _, p => p
  | f + 1, x, p => if x ∈ p.2 then (p.1 ++ [-1, place p.2 x], p.2) else (kidsOf ns x).foldl (fun q k => cod ns f k q) (codPut ns x p)

def codL (ns : List Nd) (f : Nat) (xs : List Int) (p : CM) : CM := xs.foldl (fun q k => cod ns f k q) p

theorem cod_seen {ns : List Nd} {f : Nat} {x : Int} {p : CM} (h : x ∈ p.2) : cod ns (f + 1) x p = (p.1 ++ [-1, place p.2 x], p.2) := by
  rw [cod, if_pos h]
theorem cod_new {ns : List Nd} {f : Nat} {x : Int} {p : CM} (h : x ∉ p.2) : cod ns (f + 1) x p = codL ns f (kidsOf ns x) (codPut ns x p) := by
  rw [cod, if_neg h]; rfl
theorem codL_nil (ns : List Nd) (f : Nat) (p : CM) : codL ns f [] p = p := rfl
theorem codL_snoc (ns : List Nd) (f : Nat) (xs : List Int) (x : Int) (p : CM) : codL ns f (xs ++ [x]) p = cod ns f x (codL ns f xs p) := by
  simp [codL]

/-- what the walk may rely on: kids are nodes, at most K of them, and numbers have none -/
structure CodG (ns : List Nd) (K : Nat) : Prop where
  kin : KidsIn ns
  few : ∀ n ∈ ns, n.kids.length ≤ K
  leaf : ∀ n ∈ ns, n.kind = 0 → n.kids = []
  wf : Wf ns

structure CInv (ns : List Nd) (p : CM) : Prop where
  met : Met ns p.2
  kinds : ∀ x ∈ p.2, kindOf ns x ≠ 0
  wf : ∀ x ∈ p.1, In64 x

structure Coded (ns : List Nd) (K n : Nat) (p q : CM) : Prop where
  inv : CInv ns q
  grow : p.2.length ≤ q.2.length
  len : q.1.length + 3 * (K * p.2.length) ≤ p.1.length + 3 * n + 3 * (K * q.2.length)

theorem CInv.seen {ns : List Nd} {p : CM} {x : Int} (h : CInv ns p) (hx : x ∈ p.2) (hl : ns.length ≤ 1048576) : CInv ns (p.1 ++ [-1, place p.2 x], p.2) := by
  refine ⟨h.met, h.kinds, fun y hy => ?_⟩
  rcases List.mem_append.1 hy with hy | hy
  · exact h.wf y hy
  · have h1 := place_lt hx
    have h2 := h.met.len
    simp at hy
    rcases hy with rfl | rfl <;> constructor <;> omega

theorem CInv.put {ns : List Nd} {K : Nat} {p : CM} {k : Nat} {n : Nd} (hg : CodG ns K) (h : CInv ns p) (hat : ns[k]? = some n) (hx : (k : Int) ∉ p.2) : CInv ns (codPut ns k p) := by
  have hmem := List.mem_of_getElem? hat
  obtain ⟨w1, w2, _, w4⟩ := hg.wf n hmem
  have hkl : k < ns.length := (List.getElem?_eq_some_iff.1 hat).1
  unfold codPut
  rw [kindOf_at hat, valueOf_at hat, kidsOf_at hat]
  refine ⟨?_, fun y hy => ?_, fun y hy => ?_⟩
  · show Met ns (if n.kind = 0 then p.2 else p.2 ++ [(k : Int)])
    split
    · exact h.met
    · exact h.met.snoc ⟨by omega, by omega⟩ hx
  · replace hy : y ∈ (if n.kind = 0 then p.2 else p.2 ++ [(k : Int)]) := hy
    split at hy
    · exact h.kinds y hy
    · rename_i hne
      rcases List.mem_append.1 hy with hy | hy
      · exact h.kinds y hy
      · simp at hy; subst hy; rw [kindOf_at hat]; exact hne
  · rcases List.mem_append.1 hy with hy | hy
    · exact h.wf y hy
    · simp at hy
      rcases hy with rfl | rfl | rfl
      · exact w1
      · exact w2
      · constructor <;> omega

theorem codedL (ns : List Nd) (K f : Nat) (ih : ∀ (x : Int) (p : CM), CInv ns p → 0 ≤ x → x < ns.length → ns.length < f + p.2.length → Coded ns K 1 p (cod ns f x p)) :
    ∀ (xs : List Int) (p : CM), CInv ns p → (∀ x ∈ xs, 0 ≤ x ∧ x < ns.length) → (xs ≠ [] → ns.length < f + p.2.length) → Coded ns K xs.length p (codL ns f xs p)
  | [], p, hp, _, _ => ⟨hp, Nat.le_refl _, by simp [codL]⟩
  | x :: xs, p, hp, hx, hf => by
    have h1 := ih x p hp (hx x (by simp)).1 (hx x (by simp)).2 (hf (by simp))
    have h2 := codedL ns K f ih xs (cod ns f x p) h1.inv (fun y hy => hx y (by simp [hy])) (fun _ => by have := h1.grow; have := hf (by simp); omega)
    have e : codL ns f (x :: xs) p = codL ns f xs (cod ns f x p) := rfl
    rw [e]
    refine ⟨h2.inv, Nat.le_trans h1.grow h2.grow, ?_⟩
    have a := h1.len
    have b := h2.len
    simp only [List.length_cons]
    omega

theorem coded (ns : List Nd) (K : Nat) (hg : CodG ns K) (hl : ns.length ≤ 1048576) : ∀ (f : Nat) (x : Int) (p : CM), CInv ns p → 0 ≤ x → x < ns.length → ns.length < f + p.2.length → Coded ns K 1 p (cod ns f x p)
  | 0, _, p, hp, _, _, hf => by have := hp.met.len; omega
  | f + 1, x, p, hp, h0, h1, hf => by
    obtain ⟨k, rfl⟩ := Int.eq_ofNat_of_zero_le h0
    have hat : ns[k]? = some ns[k] := List.getElem?_eq_getElem (by omega)
    by_cases hx : (k : Int) ∈ p.2
    · rw [cod_seen hx]
      refine ⟨hp.seen hx hl, Nat.le_refl _, ?_⟩
      simp
    · rw [cod_new hx]
      have hput := CInv.put hg hp hat hx
      generalize ns[k] = n at hat
      have hmem := List.mem_of_getElem? hat
      have hkf := hg.few n hmem
      have hlen : (codPut ns k p).1.length = p.1.length + 3 := by simp [codPut]
      have hkin : ∀ y ∈ kidsOf ns (k : Int), 0 ≤ y ∧ y < ns.length := hg.kin.of _
      by_cases hz : n.kind = 0
      · have hm : (codPut ns k p).2 = p.2 := by unfold codPut; rw [kindOf_at hat, if_pos hz]
        have hk0 : kidsOf ns (k : Int) = [] := by rw [kidsOf_at hat]; exact hg.leaf n hmem hz
        rw [hk0, codL_nil]
        exact ⟨hput, by rw [hm]; exact Nat.le_refl _, by rw [hm, hlen]; omega⟩
      · have hm : (codPut ns k p).2.length = p.2.length + 1 := by unfold codPut; rw [kindOf_at hat, if_neg hz]; simp
        have h := codedL ns K f (fun x p a b c d => coded ns K hg hl f x p a b c d) (kidsOf ns (k : Int)) (codPut ns k p) hput hkin (fun _ => by omega)
        refine ⟨h.inv, by have := h.grow; omega, ?_⟩
        have a := h.len
        rw [hm, hlen, Nat.mul_succ] at a
        rw [kidsOf_at hat] at a ⊢
        omega

theorem codedAll (ns : List Nd) (K : Nat) (hg : CodG ns K) (hl : ns.length ≤ 1048576) (f : Nat) (xs : List Int) (p : CM) (hp : CInv ns p) (hx : ∀ x ∈ xs, 0 ≤ x ∧ x < ns.length) (hf : xs ≠ [] → ns.length < f + p.2.length) : Coded ns K xs.length p (codL ns f xs p) :=
  codedL ns K f (fun x p a b c d => coded ns K hg hl f x p a b c d) xs p hp hx hf

theorem cod_bound {K N l q o z p k M : Nat} (hl : l ≤ N) (hq : q ≤ N) (h0 : o + 3 + 3 * (K * (N - l)) ≤ M) (hz : z = o + 3) (hp : p + 3 * (K * (l + 1)) ≤ z + 3 * k + 3 * (K * q)) (hk : k < K) :
    p + 3 + 3 * (K * (N - q)) ≤ M := by
  have e1 : K * (N - l) + K * l = K * N := by rw [← Nat.mul_add, Nat.sub_add_cancel hl]
  have e2 : K * (N - q) + K * q = K * N := by rw [← Nat.mul_add, Nat.sub_add_cancel hq]
  rw [Nat.mul_succ] at hp
  omega

end Go.Proofs.Ythgklkpfmjgeoaa

namespace Go.Proofs.Ythgklkpfmjgeoaa
open Go.RowKit Go.Maps
set_option linter.unusedVariables false

theorem cod_grows {ns : List Nd} : ∀ (f : Nat) (x : Int) (p : CM), ∃ l, (cod ns f x p).1 = p.1 ++ l
  | 0, _, _ => ⟨[], by simp [cod]⟩
  | f + 1, x, p => by
    by_cases hs : x ∈ p.2
    · rw [cod_seen hs]
      exact ⟨_, rfl⟩
    · rw [cod_new hs]
      have key : ∀ (xs : List Int) (q : CM), ∃ l, (codL ns f xs q).1 = q.1 ++ l := by
        intro xs
        induction xs with
        | nil => intro q; exact ⟨[], by simp [codL]⟩
        | cons a xs ih =>
          intro q
          obtain ⟨l1, h1⟩ := cod_grows f a q
          obtain ⟨l2, h2⟩ := ih (cod ns f a q)
          refine ⟨l1 ++ l2, ?_⟩
          show (codL ns f xs (cod ns f a q)).1 = _
          rw [h2, h1, List.append_assoc]
      obtain ⟨l, h⟩ := key (kidsOf ns x) (codPut ns x p)
      refine ⟨[kindOf ns x, valueOf ns x, ((kidsOf ns x).length : Int)] ++ l, ?_⟩
      rw [h]
      unfold codPut
      simp

end Go.Proofs.Ythgklkpfmjgeoaa

namespace Go.Proofs.Ythgklkpfmjgeoaa
open Go.RowKit

/-- a node whose kids are counted from m on -/
def shiftNd (m : Nat) (n : Nd) : Nd := ⟨n.kind, n.value, n.kids.map (fun k => (m : Int) + k)⟩
def joinNs (ns ms : List Nd) : List Nd := ns ++ ms.map (shiftNd ns.length)

theorem joinNs_len (ns ms : List Nd) : (joinNs ns ms).length = ns.length + ms.length := by simp [joinNs]

end Go.Proofs.Ythgklkpfmjgeoaa

namespace Go.Proofs.Ythgklkpfmjgeoaa

theorem eq_of_prefix {α : Type} [DecidableEq α] {xs ys : List α} (h : xs.length = ys.length) {k : Nat} (hk : k = xs.length) (he : ∀ j, j < k → xs[j]? = ys[j]?) : xs = ys := by
  apply List.ext_getElem?
  intro j
  by_cases hj : j < k
  · exact he j hj
  · rw [List.getElem?_eq_none (by omega), List.getElem?_eq_none (by omega)]

end Go.Proofs.Ythgklkpfmjgeoaa

namespace Go.Proofs.Ythgklkpfmjgeoaa
open Go.RowKit Go.Maps

theorem laidOutP : laidOutB Try.prog = true := by kernel_rfl
theorem cellsI : Try.prog.cellsOf 3 = 1 := by kernel_rfl
theorem lawI : Keyed Try.prog 3 := int_keyed Try.underlying3
theorem wf_of_in64 {x : Int} (h : In64 x) : (Lit.int .i64 x).wf = true := WalkArith.wf_i64 h
theorem keyOf_i {x : Int} (h : In64 x) : keyOf Try.prog 3 (.int .i64 x) = some (.int .i64 x) := keyOf_int_mk Try.underlying3 (wf_of_in64 h)
theorem zeroI (w : World) : (zeroValue 3).run Try.prog w = .ok (.int .i64 0) w := by kernel_rfl

/-- but for block g nothing below base has turned -/
structure But (base g : Nat) (w w' : World) : Prop where
  os : w'.os = w.os
  tape : w'.tape = w.tape
  output : w'.output = w.output
  size : w.heap.size ≤ w'.heap.size
  block : ∀ k, k < base → k ≠ g → w'.heap[k]? = w.heap[k]?

theorem But.below {base g B : Nat} {w0 w w' : World} (h : But base g w w') (hb : Below B w0 w) (hg : B ≤ g) (hB : B ≤ base) : Below B w0 w' :=
  hb.trans ⟨h.os, h.tape, h.output, h.size, fun k hk => h.block k (by omega) (by omega)⟩

theorem But.trans {base g : Nat} {a b c : World} (h : But base g a b) (k : But base g b c) : But base g a c :=
  ⟨k.os.trans h.os, k.tape.trans h.tape, k.output.trans h.output, Nat.le_trans h.size k.size, fun j hj hjg => (k.block j hj hjg).trans (h.block j hj hjg)⟩

theorem But.of_below {base g : Nat} {w w' : World} (h : Below w.heap.size w w') (hb : base ≤ w.heap.size) : But base g w w' :=
  ⟨h.os, h.tape, h.output, h.size, fun j hj _ => h.block j (by omega)⟩

end Go.Proofs.Ythgklkpfmjgeoaa
