/-
  Lemmas, several texts in one: SpecD, ShpM, PlM, IdlM, NumI, NodL, CtOf.
-/
import Derived.Test.YthckkpbjpgfdcaaDoorPjAe
import Derived.Test.YthckkpbjpgfdcaaDoorPjAc
import Derived.StillTailTactics
import Derived.Test.YthckkpbjpgfdcaaDoorShpMa
import Derived.Test.YthckkpbjpgfdcaaDoorShpMb
import Derived.Test.YthckkpbjpgfdcaaDoorShpMc
import Derived.Test.YthckkpbjpgfdcaaDoorShpMd
import Derived.Test.YthckkpbjpgfdcaaDoorPjAb
import Derived.Test.YthckkpbjpgfdcaaDoorPjAd
import Derived.Maps.OwnOps
import Derived.Test.YthckkpbjpgfdcaaDoorMem
import Derived.WalkSmall
namespace Go.Proofs.YthckkpbjpgfdcaaDoor
open Go.RowKit
set_option linter.unusedVariables false
def GivesReach (w : World) (ns : List Nd) (i : Int) (e : Ending) (w' : World) : Prop :=
  ∃ A c out, e = .returned (.slice A out.length c) ∧ OwnI w' w.heap.size A c out ∧ Below w.heap.size w w' ∧ (∀ x, x ∈ out ↔ TReach ns i x) ∧ (∀ x ∈ out, 0 ≤ x ∧ x < ns.length) ∧ out.length ≤ ns.length
def KidsOk (ns : List Nd) : Prop := ns.length ≤ 12 ∧ ∀ n ∈ ns, n.kids.length ≤ 6 ∧ ∀ x ∈ n.kids, 0 ≤ x ∧ x < ns.length
theorem in64_of_range {ns : List Nd} {out : List Int} (h12 : ns.length ≤ 12) (h : ∀ x ∈ out, 0 ≤ x ∧ x < ns.length) : ∀ x ∈ out, In64 x := fun x hx => by
  have := h x hx
  constructor <;> omega
set_option maxRecDepth 100000 in
set_option maxHeartbeats 4000000 in
theorem tupleReach_any (A : Option Addr) (ns : List Nd) (c : Nat) (r : Int) (i : Nat) (w : World) (hr : NdsAt w w.heap.size A ns) (hko : KidsOk ns) (hi : i < ns.length) :
    Calls Tryd.prog 53 #[.agg #[.slice A ns.length c, .int .i64 r], .int .i64 (i : Int)] w (GivesReach w ns i) := by
  obtain ⟨h12, hkids0⟩ := hko
  have hkids := hide hkids0
  clear hkids0
  have hB : Below w.heap.size w ((w.alloc (.cells #[.slice A ns.length c, .int .i64 r] 47)).alloc (.cells #[] 3)) := ((Below.refl _ _).alloc (Nat.le_refl _) _).alloc (by simp) _
  have l1 := (Lies.new w #[.slice A ns.length c, .int .i64 r] 47).alloc (.cells #[] 3)
  have hr2 := hr.below hB
  have hbare := OwnI.bare (w.alloc (.cells #[.slice A ns.length c, .int .i64 r] 47))
  simp only [World.size_alloc] at hbare
  clear hr
  have hi1 : (0 : Int) ≤ (i : Int) := by omega
  have hi2 : (i : Int) < (ns.length : Int) := by omega
  obtain ⟨b, off, n, rfl, hbl, hat, hmem, hN⟩ := hr2.at_ hi
  obtain ⟨hn_k, hn_v, ⟨A1, c1, hn_s, hI1', hnil1⟩, _, _⟩ := hN
  have hI1 := hI1'.more hB.size
  clear hI1'
  obtain ⟨hkn, hkr0⟩ := hkids.out n hmem
  have hkr := hide hkr0
  have hki := hide (kidsOf_at hat)
  clear hat hmem hn_k hn_v hkr0
  go_enter Tryd.func53, Tryd.ntmps53
  go_wp2_with fail
  generalize hWd : (w.alloc (.cells #[.slice (some ⟨b, off, none⟩) ns.length c, .int .i64 r] 47)).alloc (.cells #[] 3) = W at hB l1 hr2 hbl hn_s hI1 hbare ⊢
  have hWs : w.heap.size + 2 = W.heap.size := by rw [← hWd]; simp
  have HWs := hide hWs
  clear hWd hWs
  refine (copyInts_any A1 n.kids c1 W hI1 hnil1 (by omega)).mono ?_
  rintro e w1 ⟨Al, cl, rfl, hlist, hb1⟩
  go_wp2_with fail
  go_loopw [5, 6, 7] (fun o l iv wr => ∃ (out list : List Int) (Ao Al : Option Addr) (co cl k : Nat), o = .slice Ao out.length co ∧ l = .slice Al list.length cl ∧ iv = .int .i64 k ∧ k ≤ list.length ∧
      OwnI wr (w.heap.size + 1) Ao co out ∧ OwnI wr (w.heap.size + 1) Al cl list ∧ Below (w.heap.size + 1) W wr ∧ (∀ g, blockOf Ao = some g → blockOf Al ≠ some g) ∧ TInv ns i out list k) (fun _ _ iv _ => 79 - (intOf iv).toNat)
  case atStart =>
    refine ⟨[], n.kids, _, Al, _, cl, 0, rfl, rfl, rfl, Nat.zero_le _, hbare.below hb1, hlist.mono (by have := HWs.out; omega), hb1.mono (by have := HWs.out; omega), ?_, ?_⟩
    · intro g hg hg2
      simp [blockOf] at hg
      have := hlist.blocks g hg2
      have := HWs.out
      omega
    · have := TInv.start (ns := ns) (i := i) (by rw [hki.out]; exact hkn) (by rw [hki.out]; exact hkr.out)
      rw [hki.out] at this
      exact this
  case round =>
    obtain ⟨out, list, Ao, Al', co, cl', k, rfl, rfl, rfl, hkl, hout, hli, hb, hap0, hinv⟩ := hrel
    clear hlist hbare hb1 hn_s hI1
    have hap := hide hap0
    clear hap0
    have hsz : w.heap.size + 2 ≤ wr.heap.size := by have := hb.size; have := HWs.out; omega
    have Hinv := hide hinv
    have hk78 := hinv.listLen h12
    have ho12 := hinv.outLen
    have wfo : ∀ x ∈ out, In64 x := in64_of_range h12 fun x hx => hinv.range x (hinv.sub x hx)
    have wfl : ∀ x ∈ list, In64 x := in64_of_range h12 hinv.range
    have hio := hout.ints wfo (by omega)
    have hil := hli.ints wfl (by omega)
    have Wfo := hide wfo
    have Wfl := hide wfl
    clear hinv wfo wfl
    have l1r := l1.below hb (by omega)
    have e0 := l1r.cell 0
    simp at e0
    by_cases hlt : k < list.length
    · obtain ⟨b2, off2, x, rfl, hbl2, hx, hxm, hcx⟩ := hil.at_ hlt
      obtain ⟨hx0, hx1⟩ := Hinv.out.range x hxm
      obtain ⟨y, rfl⟩ := Int.eq_ofNat_of_zero_le hx0
      have Hx := hide hx
      clear hx hxm
      have hk1 : (0 : Int) ≤ (k : Int) := by omega
      have hk2 : (k : Int) < (list.length : Int) := by omega
      go_wp2_with fail
      refine (placeIn_any Ao out co y wr hio).mono ?_
      rintro e w' ⟨rfl, rfl⟩
      by_cases hmem : (y : Int) ∈ out
      · have hp := place_lt hmem
        have hd : decide (place out y < 0) = false := by simp; omega
        generalize place out y = pl at hp hd ⊢
        have Hn := hide (Hinv.out.seen Hx.out hmem)
        clear hmem
        go_wp2
        go_roundw
        case rel => exact ⟨out, list, Ao, _, co, cl', k + 1, rfl, rfl, by go_num, by omega, hout, hli, hb, hap.out, Hn.out⟩
        case measure => simp [intOf]; omega
      · rw [place_neg hmem]
        have hIone := IntsAt.one wr y (by constructor <;> omega)
        go_wp2_with (at_builtin; refine append_ints rfl (.tmp 29) (.tmp 34) rfl (w.heap.size + 1) Ao co out rfl (hout.alloc _) (wr.heap.size + 1) _ 1 [(y : Int)] rfl (fun e => by cases e) hIone (by simp; omega) (by simp; omega) ?_; intro zs A' c' w2 hz hown2 hg2 hat2)
        have hb2 : Below (w.heap.size + 1) W w2 := below_grown (hb.alloc (by omega) _) hg2 (by simp; omega) (fun k hk => (hout.blocks k hk).1)
        have hli2 : OwnI w2 (w.heap.size + 1) (some ⟨b2, off2, none⟩) cl' list := (hli.alloc _).kept hg2 (.inr (fun e => hap.out b2 (by rw [← e]; simp [blockOf]) (by simp [blockOf])))
        have hap2 : Hid (∀ g, blockOf A' = some g → blockOf (some (⟨b2, off2, none⟩ : Addr)) ≠ some g) := by
          intro g hg e
          rcases hat2 with h | h
          · exact hap.out g (by rw [← h]; exact hg) e
          · simp only [World.size_alloc] at h
            have := hli.blocks b2 (by simp [blockOf])
            rw [hg] at h
            simp [blockOf] at e h
            omega
        clear hat2 hg2 hio hIone hap hout hli hil e0 l1r
        have hil2 := hli2.ints Wfl.out (by omega)
        have e0 := (l1.below hb2 (by omega)).cell 0
        simp at e0
        obtain ⟨_, _, _, he2, _, hx2, _, hcx2⟩ := hil2.at_ hlt
        simp only [Option.some.injEq, Addr.mk.injEq, and_true] at he2
        obtain ⟨rfl, rfl⟩ := he2
        obtain rfl := Option.some.inj (hx2.symm.trans Hx.out)
        obtain ⟨b3, off3, m, he3, hbl3, hat3, hmm, hM⟩ := (hr2.below (hb2.mono (by omega))).at_ (k := y) (by omega)
        simp only [Option.some.injEq, Addr.mk.injEq, and_true] at he3
        obtain ⟨rfl, rfl⟩ := he3
        obtain ⟨hm_k, hm_v, ⟨A2, c2, hm_s, hI2', hnil2⟩, _, _⟩ := hM
        have hI2 := hI2'.more (show w.heap.size ≤ w2.heap.size by have := hB.size; have := hb2.size; omega)
        clear hI2'
        obtain ⟨hkm, hkr0'⟩ := hkids.out m hmm
        have hkr2 := hide hkr0'
        have hkk := hide (kindOf_at hat3)
        have hkk2 := hide (kidsOf_at hat3)
        clear hx2 hat3 hmm hkr0' hm_v hcx
        have hy1 : (0 : Int) ≤ (y : Int) := by omega
        have hb3 : Below (w.heap.size + 1) W w2.drew := hb2.drew
        have hown3 := hown2.drew
        have hli3 := hli2.drew
        have hI3 : IntsAt w2.drew w2.drew.heap.size A2 m.kids := hI2.later (Below.refl _ _).drew (Nat.le_refl _)
        have f0 : w2.drew.cell? ⟨w.heap.size, 0, none⟩ = some (.slice (some ⟨b, off, none⟩) ns.length c) := e0
        have f1 : w2.drew.cell? ⟨b2, off2 + k, none⟩ = some (.int .i64 (y : Int)) := hcx2
        have f2 : w2.drew.cell? ⟨b, off + y * 3 + 2, none⟩ = some (.slice A2 m.kids.length c2) := hm_s
        have f3 : w2.drew.cell? ⟨b, off + y * 3, none⟩ = some (.int .i64 m.kind) := hm_k
        by_cases h2 : m.kind = 2
        · have t2 : (m.kind == 2) = true := by rw [beq_iff_eq]; exact h2
          have Hn := hide (Hinv.out.tuple Hx.out hmem (by rw [hkk.out]; exact h2) (by rw [hkk2.out]; exact hkm) (by rw [hkk2.out]; exact hkr2.out))
          clear hmem h2
          go_wp2_with fail
          go_still_tail 9, (by kernel_rfl)
          change wpList _ _ _ _ _ w2.drew
          generalize w2.drew = w3 at hb3 hown3 hli3 hI3 f0 f1 f2 f3 ⊢
          clear hb2 hown2 hli2 hI2 e0 hcx2 hm_s hm_k hil2
          have hb4 : Below (w.heap.size + 1) W w3.drew := hb3.drew
          have hown4 := hown3.drew
          have hli4 := hli3.drew
          have hI4 : IntsAt w3.drew w3.drew.heap.size A2 m.kids := hI3.later (Below.refl _ _).drew (Nat.le_refl _)
          go_wp2_with fail
          go_still_tail 10, (by kernel_rfl)
          change wpList _ _ _ _ _ w3.drew
          generalize w3.drew = w4 at hb4 hown4 hli4 hI4 ⊢
          clear hb3 hown3 hli3 hI3 f0 f1 f2 f3
          go_wp2_with (at_builtin; refine append_ints rfl (.tmp 46) (.tmp 55) rfl (w.heap.size + 1) _ cl' list rfl hli4 _ A2 c2 m.kids rfl hnil2 hI4 (by omega) (by have := hb4.size; have := HWs.out; omega) ?_; intro ls Al2 cl2 w5 hls hown5 hg5 hat5)
          go_roundw
          case rel =>
            refine ⟨zs, ls, A', Al2, c', cl2, k + 1, rfl, rfl, by go_num, ?_, ?_, hown5, ?_, ?_, ?_⟩
            · rw [hls.out]; simp; omega
            · exact hown4.kept hg5 (by
                cases hA : blockOf A' with
                | none => exact .inl rfl
                | some g => exact .inr (fun e => hap2.out g hA e.symm))
            · exact below_grown hb4 hg5 (by have := hb4.size; have := HWs.out; omega) (fun k hk => (hli4.blocks k hk).1)
            · intro g hg e
              rcases hat5 with h | h
              · exact hap2.out g hg (by rw [← h]; exact e)
              · rw [h] at e
                have := hown4.blocks g hg
                simp at e
                omega
            · rw [hz.out, hls.out, ← hkk2.out]
              exact Hn.out
          case measure => simp [intOf]; omega
        · have t2 : (m.kind == 2) = false := by rw [beq_eq_false_iff_ne]; exact h2
          have Hn := hide (Hinv.out.leaf Hx.out hmem (by rw [hkk.out]; exact h2))
          clear hmem h2
          go_wp2_with fail
          go_still_tail 9, (by kernel_rfl)
          change wpList _ _ _ _ _ w2.drew
          generalize w2.drew = w3 at hb3 hown3 hli3 ⊢
          clear hb2 hown2 hli2 hI2 e0 hcx2 hm_s hm_k hil2 f0 f1 f2 f3
          go_wp2
          go_roundw
          case rel => exact ⟨zs, list, A', _, c', cl', k + 1, rfl, rfl, by go_num, by omega, hown3, hli3, hb3, hap2.out, by rw [hz.out]; exact Hn.out⟩
          case measure => simp [intOf]; omega
    · obtain rfl : k = list.length := by omega
      have HF := hide Hinv.out.all
      have HR := hide (show ∀ x ∈ out, 0 ≤ x ∧ x < (ns.length : Int) from fun x hx => Hinv.out.range x (Hinv.out.sub x hx))
      clear hlt hil hio
      go_wp2
      go_ret
      exact ⟨Ao, co, out, rfl, hout.mono (by omega), hB.trans (hb.mono (by omega)), HF.out, HR.out, ho12⟩
end Go.Proofs.YthckkpbjpgfdcaaDoor

namespace Go.Proofs.YthckkpbjpgfdcaaDoor
open Go.RowKit
theorem markShapes_any (p : ShPtr) (s : Shp) (c : Int) (base : Nat) (w : World) (h : ShOwn w base p s) (hbase : base ≤ w.heap.size) (hs : s.Small) (hc : IsMarkOp c) :
    Calls Tryd.prog 40 #[shVal p s, .int .i64 c] w (TriesSh w p base (markStep s c)) := by
  rcases hc with rfl | rfl | rfl | rfl
  · exact markShapes_3 p s base w h hbase hs
  · exact markShapes_9 p s base w h hbase hs
  · exact markShapes_12 p s base w h hbase hs
  · exact markShapes_18 p s base w h hbase hs
end Go.Proofs.YthckkpbjpgfdcaaDoor

namespace Go.Proofs.YthckkpbjpgfdcaaDoor
set_option linter.unusedVariables false
def addPlace (L : List Int) (o : Od) : List Int := if o.code = 15 ∧ o.arg ∉ L then L ++ [o.arg] else L
def placesTo (os : List Od) (k : Nat) : List Int := (os.take k).foldl addPlace []
theorem placesTo_succ {os : List Od} {k : Nat} {o : Od} (h : os[k]? = some o) : placesTo os (k + 1) = addPlace (placesTo os k) o := by
  unfold placesTo
  rw [List.take_add_one, h]
  simp
theorem addPlace_no {L : List Int} {o : Od} (h : o.code ≠ 15) : addPlace L o = L := by unfold addPlace; rw [if_neg (fun e => h e.1)]
theorem addPlace_old {L : List Int} {o : Od} (h : o.arg ∈ L) : addPlace L o = L := by unfold addPlace; rw [if_neg (fun e => e.2 h)]
theorem addPlace_new {L : List Int} {o : Od} (h : o.code = 15) (h2 : o.arg ∉ L) : addPlace L o = L ++ [o.arg] := by unfold addPlace; rw [if_pos ⟨h, h2⟩]
theorem foldPlace_len (os : List Od) (L : List Int) : (os.foldl addPlace L).length ≤ L.length + os.length := by
  induction os generalizing L with
  | nil => simp
  | cons o os ih =>
    rw [List.foldl_cons]
    refine Nat.le_trans (ih _) ?_
    have : (addPlace L o).length ≤ L.length + 1 := by unfold addPlace; split <;> simp
    simp
    omega
theorem placesTo_len (os : List Od) (k : Nat) : (placesTo os k).length ≤ os.length := by
  have h := foldPlace_len (os.take k) []
  have : (os.take k).length ≤ os.length := by rw [List.length_take]; omega
  unfold placesTo
  simp only [List.length_nil] at h
  omega
theorem foldPlace_mem (os : List Od) (L : List Int) : ∀ x ∈ os.foldl addPlace L, x ∈ L ∨ ∃ o ∈ os, x = o.arg := by
  induction os generalizing L with
  | nil => intro x hx; exact .inl hx
  | cons o os ih =>
    intro x hx
    rw [List.foldl_cons] at hx
    rcases ih _ x hx with h | ⟨p, hp, rfl⟩
    · unfold addPlace at h
      split at h
      · rcases List.mem_append.1 h with h | h
        · exact .inl h
        · simp at h; exact .inr ⟨o, by simp, h⟩
      · exact .inl h
    · exact .inr ⟨p, by simp [hp], rfl⟩
theorem placesTo_64 {os : List Od} (h : ∀ o ∈ os, In64 o.code ∧ In64 o.arg) (k : Nat) : ∀ x ∈ placesTo os k, In64 x := by
  intro x hx
  rcases foldPlace_mem _ _ x hx with h2 | ⟨o, ho, rfl⟩
  · cases h2
  · exact (h o (List.mem_of_mem_take ho)).2
open Classical in
noncomputable def placesOf (os : List Od) : Int := if OpsOk os then ((placesTo os os.length).length : Int) else -1
theorem placesOf_ok {os : List Od} (h : OpsOk os) : placesOf os = ((placesTo os os.length).length : Int) := by unfold placesOf; rw [if_pos h]
theorem placesOf_no {os : List Od} (h : ¬ OpsOk os) : placesOf os = -1 := by unfold placesOf; rw [if_neg h]
end Go.Proofs.YthckkpbjpgfdcaaDoor

namespace Go.Proofs.YthckkpbjpgfdcaaDoor
set_option linter.unusedVariables false
def gotIn : List Od → Int → Bool
  | [], _ => false
  | o :: os, p => if o.arg = p ∧ o.code = 16 then true else if o.arg = p ∧ o.code = 15 then false else gotIn os p
def idleAt (os : List Od) (i : Nat) : Bool :=
  match os[i]? with
  | none => false
  | some o => decide (o.code = 15) && !gotIn (os.drop (i + 1)) o.arg
theorem gotIn_get {os : List Od} {j : Nat} {o : Od} (h : os[j]? = some o) (h1 : o.code = 16) (p : Int) : gotIn (os.drop j) p = if o.arg = p then true else gotIn (os.drop (j + 1)) p := by
  rw [drop_at h]
  show (if o.arg = p ∧ o.code = 16 then true else if o.arg = p ∧ o.code = 15 then false else gotIn (os.drop (j + 1)) p) = _
  by_cases e : o.arg = p
  · rw [if_pos ⟨e, h1⟩, if_pos e]
  · rw [if_neg (fun x => e x.1), if_neg (fun x => e x.1), if_neg e]
theorem gotIn_put {os : List Od} {j : Nat} {o : Od} (h : os[j]? = some o) (h1 : o.code = 15) (p : Int) : gotIn (os.drop j) p = if o.arg = p then false else gotIn (os.drop (j + 1)) p := by
  rw [drop_at h]
  show (if o.arg = p ∧ o.code = 16 then true else if o.arg = p ∧ o.code = 15 then false else gotIn (os.drop (j + 1)) p) = _
  by_cases e : o.arg = p
  · rw [if_neg (fun x => by have := x.2; omega), if_pos ⟨e, h1⟩, if_pos e]
  · rw [if_neg (fun x => e x.1), if_neg (fun x => e x.1), if_neg e]
theorem gotIn_other {os : List Od} {j : Nat} {o : Od} (h : os[j]? = some o) (h1 : o.code ≠ 16) (h2 : o.code ≠ 15) (p : Int) : gotIn (os.drop j) p = gotIn (os.drop (j + 1)) p := by
  rw [drop_at h]
  show (if o.arg = p ∧ o.code = 16 then true else if o.arg = p ∧ o.code = 15 then false else gotIn (os.drop (j + 1)) p) = _
  rw [if_neg (fun x => h1 x.2), if_neg (fun x => h2 x.2)]
theorem gotIn_end (os : List Od) (p : Int) : gotIn (os.drop os.length) p = false := by simp [gotIn]
theorem idleAt_put {os : List Od} {j : Nat} {o : Od} (h : os[j]? = some o) (h1 : o.code = 15) : idleAt os j = !gotIn (os.drop (j + 1)) o.arg := by
  unfold idleAt
  rw [h]
  simp [h1]
theorem idleAt_no {os : List Od} {j : Nat} {o : Od} (h : os[j]? = some o) (h1 : o.code ≠ 15) : idleAt os j = false := by
  unfold idleAt
  rw [h]
  simp [h1]
def idlesTo (os : List Od) (k : Nat) : List Int := ((List.range k).filter (idleAt os)).map fun (i : Nat) => (i : Int)
open Classical in
noncomputable def idlesOf (os : List Od) : List Int := if OpsOk os then idlesTo os os.length else []
theorem OdOk.place {o : Od} (h : OdOk o) (h1 : o.code = 15 ∨ o.code = 16) : 0 ≤ o.arg ∧ o.arg ≤ 19 := by
  have hm : argMost o.code = 19 := by
    rcases h1 with h1 | h1 <;> rw [h1] <;> rfl
  rcases h.2 with ⟨h2, _⟩ | ⟨_, h2, h3⟩ <;> omega
end Go.Proofs.YthckkpbjpgfdcaaDoor

namespace Go.Proofs.YthckkpbjpgfdcaaDoor
open Go.RowKit Go.Maps
set_option linter.unusedVariables false
theorem place_idx {L : List Int} {x : Int} (h : x ∈ L) : (L.idxOf x : Int) = place L x := (place_pos h).symm
set_option maxHeartbeats 1000000 in
theorem numI_any (g base : Nat) (m : Option Nat) (A : Option Addr) (c : Nat) (L : List Int) (x : Int) (w : World) (h : SetI w g base m A c L) (hx : In64 x) (hin : x ∈ L) :
    Calls Tryd.prog 17 #[.pointer (some ⟨g, 0, none⟩), .int .i64 x] w fun e w' => e = .returned (.int .i64 (place L x)) ∧ w = w' := by
  obtain ⟨hbox, _, hmap, hlt, _⟩ := h
  rcases hmap with ⟨rfl, rfl⟩ | ⟨b, n, D, rfl, hb, hown, hn, hhas, hat⟩
  · cases hin
  · have b0 := hbox.cell 0
    simp at b0
    have hat1 := hat x hin
    have HP := hide (place_idx hin)
    clear hbox hhas hat hin
    go_enter Tryd.func17, Tryd.ntmps17
    go_wp2_with (at_lookup; refine wpList_lookup_own_int _ rfl _ _ 33 rfl 3 3 .i64 lawI Tryd.underlying33 Tryd.underlying3 (zeroI _) b n _ rfl hown _ _ rfl (keyOf_i hx) ?_; intro cc hat2 hwc)
    go_ret
    rw [hat1] at hat2
    injection hat2 with hat2
    injection hat2 with _ hat2
    exact ⟨ret_int (by rw [← HP.out, ← hat2]), rfl⟩
end Go.Proofs.YthckkpbjpgfdcaaDoor

namespace Go.Proofs.YthckkpbjpgfdcaaDoor
theorem nodup_le_len : ∀ (R D : List Int), R.Nodup → (∀ x ∈ R, x ∈ D) → R.length ≤ D.length
  | [], _, _, _ => by simp
  | a :: R, D, hn, hs => by
    rw [List.nodup_cons] at hn
    have h1 := nodup_le_len R (D.erase a) hn.2 (fun x hx => (List.mem_erase_of_ne (by intro e; subst e; exact hn.1 hx)).2 (hs x (by simp [hx])))
    have h2 := List.length_erase_of_mem (hs a (by simp))
    have h3 : 0 < D.length := List.length_pos_of_mem (hs a (by simp))
    rw [List.length_cons]
    omega
end Go.Proofs.YthckkpbjpgfdcaaDoor

namespace Go.Proofs.YthckkpbjpgfdcaaDoor
open Go.RowKit
set_option linter.unusedVariables false
set_option maxHeartbeats 1000000 in
theorem countOf_any (A : Option Addr) (os : List Od) (c : Nat) (x : Int) (w : World) (h : OpsAt w w.heap.size A os) (hl : os.length ≤ 100000) :
    Calls Tryd.prog 8 #[.slice A os.length c, .int .i64 x] w fun e w' => e = .returned (.int .i64 (numOf os x : Int)) ∧ w' = w := by
  go_enter Tryd.func8, Tryd.ntmps8
  go_wp2_with fail
  go_loop [5, 6] (fun nv iv => ∃ k : Nat, k ≤ os.length ∧ iv = .int .i64 (k : Int) ∧ nv = .int .i64 (numOf (os.take k) x : Int)) (fun _ iv => os.length - (intOf iv).toNat)
  case atStart => exact ⟨0, Nat.zero_le _, rfl, rfl⟩
  case round =>
    obtain ⟨k, hk, rfl, rfl⟩ := hrel
    have hnk := numOf_le (os.take k) x
    rw [List.length_take] at hnk
    by_cases hlt : k < os.length
    · obtain ⟨b, off, o, rfl, hbl, hx, _, hc0, hc1⟩ := h.at_ hlt
      have hs := numOf_snoc hx x
      have hk1 : (0 : Int) ≤ (k : Int) := by omega
      have hk2 : (k : Int) < (os.length : Int) := by omega
      clear hx
      by_cases e : o.code = x
      · subst e
        rw [if_pos rfl] at hs
        have HS := hide hs
        clear hs
        generalize numOf (os.take k) o.code = m at hnk HS
        go_wp2
        go_round
        case rel => exact ⟨k + 1, by omega, by go_num, by rw [HS.out]; go_num⟩
        case measure => simp [intOf]; omega
      · rw [if_neg e] at hs
        have HS := hide hs
        clear hs
        generalize numOf (os.take k) x = m at hnk HS
        have de : (o.code == x) = false := by simpa using e
        go_wp2
        go_round
        case rel => exact ⟨k + 1, by omega, by go_num, by rw [HS.out]; rfl⟩
        case measure => simp [intOf]; omega
    · obtain rfl : k = os.length := by omega
      rw [List.take_length]
      go_wp2
      go_ret
      exact ⟨rfl, rfl⟩
theorem countOf_q (A : Option Addr) (os : List Od) (c : Nat) (x : Int) (m : Nat) (w : World) (h : OpsAt w w.heap.size A os) (hl : os.length ≤ 100000) (hm : numOf os x = m) :
    Calls Tryd.prog 8 #[.slice A os.length c, .int .i64 x] w fun e w' => e = .returned (.int .i64 (m : Int)) ∧ w' = w := by
  rw [← hm]
  exact countOf_any A os c x w h hl
theorem OpsAt.drewN {w : World} {A : Option Addr} {os : List Od} (h : OpsAt w w.heap.size A os) (n : Nat) : OpsAt (w.drewN n) (w.drewN n).heap.size A os :=
  h.later (below_drewN (Below.refl _ _) n) (Nat.le_refl _)
end Go.Proofs.YthckkpbjpgfdcaaDoor
