/-
  Lemmas, several texts in one: SpecD, EqvM.
-/
import Derived.Test.YtpcfjdhalglebaaPjAd
import Derived.Test.YtpcfjdhalglebaaPjAf
import Derived.StillTailTactics
namespace Go.Proofs.Ytpcfjdhalglebaa
open Go.RowKit
set_option linter.unusedVariables false

/-- what tupleReach hands back -/
def GivesReach (w : World) (ns : List Nd) (i : Int) (e : Ending) (w' : World) : Prop :=
  ∃ A c out, e = .returned (.slice A out.length c) ∧ OwnI w' w.heap.size A c out ∧ Below w.heap.size w w' ∧ (∀ x, x ∈ out ↔ TReach ns i x) ∧ (∀ x ∈ out, 0 ≤ x ∧ x < ns.length) ∧ out.length ≤ ns.length

/-- every node's kids are few and are nodes -/
def KidsOk (ns : List Nd) : Prop := ns.length ≤ 12 ∧ ∀ n ∈ ns, n.kids.length ≤ 6 ∧ ∀ x ∈ n.kids, 0 ≤ x ∧ x < ns.length

theorem in64_of_range {ns : List Nd} {out : List Int} (h12 : ns.length ≤ 12) (h : ∀ x ∈ out, 0 ≤ x ∧ x < ns.length) : ∀ x ∈ out, In64 x := fun x hx => by
  have := h x hx
  constructor <;> omega

set_option maxRecDepth 100000 in
set_option maxHeartbeats 4000000 in
theorem tupleReach_any (A : Option Addr) (ns : List Nd) (c : Nat) (r : Int) (i : Nat) (w : World) (hr : NdsAt w w.heap.size A ns) (hko : KidsOk ns) (hi : i < ns.length) :
    Calls Try.prog 36 #[.agg #[.slice A ns.length c, .int .i64 r], .int .i64 (i : Int)] w (GivesReach w ns i) := by
  obtain ⟨h12, hkids0⟩ := hko
  have hkids := hide hkids0
  clear hkids0
  have hB : Below w.heap.size w ((w.alloc (.cells #[.slice A ns.length c, .int .i64 r] 25)).alloc (.cells #[] 3)) := ((Below.refl _ _).alloc (Nat.le_refl _) _).alloc (by simp) _
  have l1 := (Lies.new w #[.slice A ns.length c, .int .i64 r] 25).alloc (.cells #[] 3)
  have hr2 := hr.below hB
  have hbare := OwnI.bare (w.alloc (.cells #[.slice A ns.length c, .int .i64 r] 25))
  simp only [World.size_alloc] at hbare
  clear hr
  have hi1 : (0 : Int) ≤ (i : Int) := by omega
  have hi2 : (i : Int) < (ns.length : Int) := by omega
  obtain ⟨b, off, n, rfl, hbl, hat, hmem, hN⟩ := hr2.at_ hi
  obtain ⟨hn_k, hn_v, ⟨A1, c1, hn_s, hI1', hnil1⟩, _, _⟩ := hN
  have hI1 := hI1'.more hB.size
  clear hI1'
  obtain ⟨hkn, hkr0⟩ := hkids.out n hmem
  have hkr := hide hkr0
  have hki := hide (kidsOf_at hat)
  clear hat hmem hn_k hn_v hkr0
  go_enter Try.func36, Try.ntmps36
  go_wp2_with fail
  generalize hWd : (w.alloc (.cells #[.slice (some ⟨b, off, none⟩) ns.length c, .int .i64 r] 25)).alloc (.cells #[] 3) = W at hB l1 hr2 hbl hn_s hI1 hbare ⊢
  have hWs : w.heap.size + 2 = W.heap.size := by rw [← hWd]; simp
  have HWs := hide hWs
  clear hWd hWs
  refine (copyInts_any A1 n.kids c1 W hI1 hnil1 (by omega)).mono ?_
  rintro e w1 ⟨Al, cl, rfl, hlist, hb1⟩
  go_wp2_with fail
  go_loopw [5, 6, 7] (fun o l iv wr => ∃ (out list : List Int) (Ao Al : Option Addr) (co cl k : Nat), o = .slice Ao out.length co ∧ l = .slice Al list.length cl ∧ iv = .int .i64 k ∧ k ≤ list.length ∧
      OwnI wr (w.heap.size + 1) Ao co out ∧ OwnI wr (w.heap.size + 1) Al cl list ∧ Below (w.heap.size + 1) W wr ∧ (∀ g, blockOf Ao = some g → blockOf Al ≠ some g) ∧ TInv ns i out list k) (fun _ _ iv _ => 79 - (intOf iv).toNat)
  case atStart =>
    refine ⟨[], n.kids, _, Al, _, cl, 0, rfl, rfl, rfl, Nat.zero_le _, hbare.below hb1, hlist.mono (by have := HWs.out; omega), hb1.mono (by have := HWs.out; omega), ?_, ?_⟩
    · intro g hg hg2
      simp [blockOf] at hg
      have := hlist.blocks g hg2
      have := HWs.out
      omega
    · have := TInv.start (ns := ns) (i := i) (by rw [hki.out]; exact hkn) (by rw [hki.out]; exact hkr.out)
      rw [hki.out] at this
      exact this
  case round =>
    obtain ⟨out, list, Ao, Al', co, cl', k, rfl, rfl, rfl, hkl, hout, hli, hb, hap0, hinv⟩ := hrel
    clear hlist hbare hb1 hn_s hI1
    have hap := hide hap0
    clear hap0
    have hsz : w.heap.size + 2 ≤ wr.heap.size := by have := hb.size; have := HWs.out; omega
    have Hinv := hide hinv
    have hk78 := hinv.listLen h12
    have ho12 := hinv.outLen
    have wfo : ∀ x ∈ out, In64 x := in64_of_range h12 fun x hx => hinv.range x (hinv.sub x hx)
    have wfl : ∀ x ∈ list, In64 x := in64_of_range h12 hinv.range
    have hio := hout.ints wfo (by omega)
    have hil := hli.ints wfl (by omega)
    have Wfo := hide wfo
    have Wfl := hide wfl
    clear hinv wfo wfl
    have l1r := l1.below hb (by omega)
    have e0 := l1r.cell 0
    simp at e0
    by_cases hlt : k < list.length
    · obtain ⟨b2, off2, x, rfl, hbl2, hx, hxm, hcx⟩ := hil.at_ hlt
      obtain ⟨hx0, hx1⟩ := Hinv.out.range x hxm
      obtain ⟨y, rfl⟩ := Int.eq_ofNat_of_zero_le hx0
      have Hx := hide hx
      clear hx hxm
      have hk1 : (0 : Int) ≤ (k : Int) := by omega
      have hk2 : (k : Int) < (list.length : Int) := by omega
      go_wp2_with fail
      refine (placeIn_any Ao out co y wr hio).mono ?_
      rintro e w' ⟨rfl, rfl⟩
      by_cases hmem : (y : Int) ∈ out
      · have hp := place_lt hmem
        have hd : decide (place out y < 0) = false := by simp; omega
        generalize place out y = pl at hp hd ⊢
        have Hn := hide (Hinv.out.seen Hx.out hmem)
        clear hmem
        go_wp2
        go_roundw
        case rel => exact ⟨out, list, Ao, _, co, cl', k + 1, rfl, rfl, by go_num, by omega, hout, hli, hb, hap.out, Hn.out⟩
        case measure => simp [intOf]; omega
      · rw [place_neg hmem]
        have hIone := IntsAt.one wr y (by constructor <;> omega)
        go_wp2_with (at_builtin; refine append_ints rfl (.tmp 29) (.tmp 34) rfl (w.heap.size + 1) Ao co out rfl (hout.alloc _) (wr.heap.size + 1) _ 1 [(y : Int)] rfl (fun e => by cases e) hIone (by simp; omega) (by simp; omega) ?_; intro zs A' c' w2 hz hown2 hg2 hat2)
        have hb2 : Below (w.heap.size + 1) W w2 := below_grown (hb.alloc (by omega) _) hg2 (by simp; omega) (fun k hk => (hout.blocks k hk).1)
        have hli2 : OwnI w2 (w.heap.size + 1) (some ⟨b2, off2, none⟩) cl' list := (hli.alloc _).kept hg2 (.inr (fun e => hap.out b2 (by rw [← e]; simp [blockOf]) (by simp [blockOf])))
        have hap2 : Hid (∀ g, blockOf A' = some g → blockOf (some (⟨b2, off2, none⟩ : Addr)) ≠ some g) := by
          intro g hg e
          rcases hat2 with h | h
          · exact hap.out g (by rw [← h]; exact hg) e
          · simp only [World.size_alloc] at h
            have := hli.blocks b2 (by simp [blockOf])
            rw [hg] at h
            simp [blockOf] at e h
            omega
        clear hat2 hg2 hio hIone hap hout hli hil e0 l1r
        have hil2 := hli2.ints Wfl.out (by omega)
        have e0 := (l1.below hb2 (by omega)).cell 0
        simp at e0
        obtain ⟨_, _, _, he2, _, hx2, _, hcx2⟩ := hil2.at_ hlt
        simp only [Option.some.injEq, Addr.mk.injEq, and_true] at he2
        obtain ⟨rfl, rfl⟩ := he2
        obtain rfl := Option.some.inj (hx2.symm.trans Hx.out)
        obtain ⟨b3, off3, m, he3, hbl3, hat3, hmm, hM⟩ := (hr2.below (hb2.mono (by omega))).at_ (k := y) (by omega)
        simp only [Option.some.injEq, Addr.mk.injEq, and_true] at he3
        obtain ⟨rfl, rfl⟩ := he3
        obtain ⟨hm_k, hm_v, ⟨A2, c2, hm_s, hI2', hnil2⟩, _, _⟩ := hM
        have hI2 := hI2'.more (show w.heap.size ≤ w2.heap.size by have := hB.size; have := hb2.size; omega)
        clear hI2'
        obtain ⟨hkm, hkr0'⟩ := hkids.out m hmm
        have hkr2 := hide hkr0'
        have hkk := hide (kindOf_at hat3)
        have hkk2 := hide (kidsOf_at hat3)
        clear hx2 hat3 hmm hkr0' hm_v hcx
        have hy1 : (0 : Int) ≤ (y : Int) := by omega
        have hb3 : Below (w.heap.size + 1) W w2.drew := hb2.drew
        have hown3 := hown2.drew
        have hli3 := hli2.drew
        have hI3 : IntsAt w2.drew w2.drew.heap.size A2 m.kids := hI2.later (Below.refl _ _).drew (Nat.le_refl _)
        have f0 : w2.drew.cell? ⟨w.heap.size, 0, none⟩ = some (.slice (some ⟨b, off, none⟩) ns.length c) := e0
        have f1 : w2.drew.cell? ⟨b2, off2 + k, none⟩ = some (.int .i64 (y : Int)) := hcx2
        have f2 : w2.drew.cell? ⟨b, off + y * 3 + 2, none⟩ = some (.slice A2 m.kids.length c2) := hm_s
        have f3 : w2.drew.cell? ⟨b, off + y * 3, none⟩ = some (.int .i64 m.kind) := hm_k
        by_cases h2 : m.kind = 2
        · have t2 : (m.kind == 2) = true := by rw [beq_iff_eq]; exact h2
          have Hn := hide (Hinv.out.tuple Hx.out hmem (by rw [hkk.out]; exact h2) (by rw [hkk2.out]; exact hkm) (by rw [hkk2.out]; exact hkr2.out))
          clear hmem h2
          go_wp2_with fail
          go_still_tail 9, (by kernel_rfl)
          change wpList _ _ _ _ _ w2.drew
          generalize w2.drew = w3 at hb3 hown3 hli3 hI3 f0 f1 f2 f3 ⊢
          clear hb2 hown2 hli2 hI2 e0 hcx2 hm_s hm_k hil2
          have hb4 : Below (w.heap.size + 1) W w3.drew := hb3.drew
          have hown4 := hown3.drew
          have hli4 := hli3.drew
          have hI4 : IntsAt w3.drew w3.drew.heap.size A2 m.kids := hI3.later (Below.refl _ _).drew (Nat.le_refl _)
          go_wp2_with fail
          go_still_tail 10, (by kernel_rfl)
          change wpList _ _ _ _ _ w3.drew
          generalize w3.drew = w4 at hb4 hown4 hli4 hI4 ⊢
          clear hb3 hown3 hli3 hI3 f0 f1 f2 f3
          go_wp2_with (at_builtin; refine append_ints rfl (.tmp 46) (.tmp 55) rfl (w.heap.size + 1) _ cl' list rfl hli4 _ A2 c2 m.kids rfl hnil2 hI4 (by omega) (by have := hb4.size; have := HWs.out; omega) ?_; intro ls Al2 cl2 w5 hls hown5 hg5 hat5)
          go_roundw
          case rel =>
            refine ⟨zs, ls, A', Al2, c', cl2, k + 1, rfl, rfl, by go_num, ?_, ?_, hown5, ?_, ?_, ?_⟩
            · rw [hls.out]; simp; omega
            · exact hown4.kept hg5 (by
                cases hA : blockOf A' with
                | none => exact .inl rfl
                | some g => exact .inr (fun e => hap2.out g hA e.symm))
            · exact below_grown hb4 hg5 (by have := hb4.size; have := HWs.out; omega) (fun k hk => (hli4.blocks k hk).1)
            · intro g hg e
              rcases hat5 with h | h
              · exact hap2.out g hg (by rw [← h]; exact e)
              · rw [h] at e
                have := hown4.blocks g hg
                simp at e
                omega
            · rw [hz.out, hls.out, ← hkk2.out]
              exact Hn.out
          case measure => simp [intOf]; omega
        · have t2 : (m.kind == 2) = false := by rw [beq_eq_false_iff_ne]; exact h2
          have Hn := hide (Hinv.out.leaf Hx.out hmem (by rw [hkk.out]; exact h2))
          clear hmem h2
          go_wp2_with fail
          go_still_tail 9, (by kernel_rfl)
          change wpList _ _ _ _ _ w2.drew
          generalize w2.drew = w3 at hb3 hown3 hli3 ⊢
          clear hb2 hown2 hli2 hI2 e0 hcx2 hm_s hm_k hil2 f0 f1 f2 f3
          go_wp2
          go_roundw
          case rel => exact ⟨zs, list, A', _, c', cl', k + 1, rfl, rfl, by go_num, by omega, hown3, hli3, hb3, hap2.out, by rw [hz.out]; exact Hn.out⟩
          case measure => simp [intOf]; omega
    · obtain rfl : k = list.length := by omega
      have HF := hide Hinv.out.all
      have HR := hide (show ∀ x ∈ out, 0 ≤ x ∧ x < (ns.length : Int) from fun x hx => Hinv.out.range x (Hinv.out.sub x hx))
      clear hlt hil hio
      go_wp2
      go_ret
      exact ⟨Ao, co, out, rfl, hout.mono (by omega), hB.trans (hb.mono (by omega)), HF.out, HR.out, ho12⟩

end Go.Proofs.Ytpcfjdhalglebaa

namespace Go.Proofs.Ytpcfjdhalglebaa
open Go.RowKit
set_option linter.unusedVariables false

/-- the number at a place of a list -/
def look (cl : List Int) (x : Int) : Int := (cl[x.toNat]?).getD 0
theorem look_at {cl : List Int} {i : Nat} {v : Int} (h : cl[i]? = some v) : look cl (i : Int) = v := by
  unfold look
  rw [Int.toNat_natCast, h]
  rfl

/-- what one depth more tells of a node -/
def sigOf (cl : List Int) (n : Nd) : Int × Int × List Int := (n.kind, n.value, n.kids.map (look cl))
def sigs (ns : List Nd) (cl : List Int) : List (Int × Int × List Int) := ns.map (sigOf cl)

/-- the classes of one depth more -/
def finer (ns : List Nd) (cl : List Int) : List Int := (sigs ns cl).map fun s => (((sigs ns cl).idxOf s : Nat) : Int)

/-- the classes up to a depth -/
def clsN (ns : List Nd) : Nat → List Int
  | 0 => List.replicate ns.length 0
  | d + 1 => finer ns (clsN ns d)

theorem finer_len (ns : List Nd) (cl : List Int) : (finer ns cl).length = ns.length := by simp [finer, sigs]
theorem clsN_len (ns : List Nd) : ∀ d, (clsN ns d).length = ns.length
  | 0 => by simp [clsN]
  | d + 1 => finer_len _ _

theorem sigs_at {ns : List Nd} {cl : List Int} {i : Nat} {n : Nd} (h : ns[i]? = some n) : (sigs ns cl)[i]? = some (sigOf cl n) := by
  unfold sigs
  rw [List.getElem?_map, h]
  rfl

theorem finer_at {ns : List Nd} {cl : List Int} {i : Nat} {n : Nd} (h : ns[i]? = some n) : (finer ns cl)[i]? = some (((sigs ns cl).idxOf (sigOf cl n) : Nat) : Int) := by
  unfold finer
  rw [List.getElem?_map, sigs_at h]
  rfl

theorem idxOf_le {α : Type} [BEq α] [LawfulBEq α] {l : List α} {i : Nat} {a : α} (h : l[i]? = some a) : l.idxOf a ≤ i := by
  rcases Nat.lt_or_ge i (l.idxOf a) with h1 | h1
  · have := List.not_of_lt_findIdx (xs := l) (p := (· == a)) (i := i) (by simpa [List.idxOf] using h1)
    obtain ⟨hl, he⟩ := List.getElem?_eq_some_iff.1 h
    simp [he] at this
  · exact h1

theorem idxOf_at {α : Type} [BEq α] [LawfulBEq α] {l : List α} {a : α} (h : a ∈ l) : l[l.idxOf a]? = some a := by
  have h1 := List.idxOf_lt_length_of_mem h
  rw [List.getElem?_eq_getElem h1, List.getElem_idxOf h1]

/-- the class of a node: the first one that is told the same -/
theorem finer_first {ns : List Nd} {cl : List Int} {i j : Nat} {n m : Nd} (hi : ns[i]? = some n) (hj : ns[j]? = some m) (hs : sigOf cl m = sigOf cl n) (hf : ∀ k q, k < j → ns[k]? = some q → sigOf cl q ≠ sigOf cl n) : (finer ns cl)[i]? = some (j : Int) := by
  rw [finer_at hi]
  congr 2
  have h1 : (sigs ns cl).idxOf (sigOf cl n) ≤ j := idxOf_le (by rw [sigs_at hj, hs])
  rcases Nat.lt_or_ge ((sigs ns cl).idxOf (sigOf cl n)) j with h2 | h2
  · have h3 := idxOf_at (l := sigs ns cl) (a := sigOf cl n) (List.mem_of_getElem? (sigs_at hi))
    have hl := (List.getElem?_eq_some_iff.1 hj).1
    have hk : ns[(sigs ns cl).idxOf (sigOf cl n)]? = some ns[(sigs ns cl).idxOf (sigOf cl n)] := List.getElem?_eq_getElem (by omega)
    have h4 := sigs_at (cl := cl) hk
    rw [h3] at h4
    exact absurd (Option.some.inj h4).symm (hf _ _ h2 hk)
  · omega

theorem finer_eq {ns : List Nd} {cl : List Int} {i j : Nat} {n m : Nd} (hi : ns[i]? = some n) (hj : ns[j]? = some m) : look (finer ns cl) i = look (finer ns cl) j ↔ sigOf cl n = sigOf cl m := by
  rw [look_at (finer_at hi), look_at (finer_at hj)]
  constructor
  · intro h
    have h1 := idxOf_at (l := sigs ns cl) (a := sigOf cl n) (List.mem_of_getElem? (sigs_at hi))
    have h2 := idxOf_at (l := sigs ns cl) (a := sigOf cl m) (List.mem_of_getElem? (sigs_at hj))
    rw [show (sigs ns cl).idxOf (sigOf cl n) = (sigs ns cl).idxOf (sigOf cl m) by omega, h2] at h1
    exact (Option.some.inj h1).symm
  · intro h; rw [h]

theorem map_eq_of {f g : Int → Int} : ∀ (xs ys : List Int), (∀ a ∈ xs, ∀ b ∈ ys, f a = f b → g a = g b) → xs.map f = ys.map f → xs.map g = ys.map g
  | [], [], _, _ => rfl
  | [], y :: ys, _, h => by simp at h
  | x :: xs, [], _, h => by simp at h
  | x :: xs, y :: ys, hf, h => by
    simp only [List.map_cons, List.cons.injEq] at h ⊢
    exact ⟨hf x (by simp) y (by simp) h.1, map_eq_of xs ys (fun a ha b hb => hf a (List.mem_cons_of_mem _ ha) b (List.mem_cons_of_mem _ hb)) h.2⟩

theorem sig_of {c1 c0 : List Int} {n m : Nd} (hf : ∀ a ∈ n.kids, ∀ b ∈ m.kids, look c1 a = look c1 b → look c0 a = look c0 b) (h : sigOf c1 n = sigOf c1 m) : sigOf c0 n = sigOf c0 m := by
  unfold sigOf at h ⊢
  simp only [Prod.mk.injEq] at h ⊢
  exact ⟨h.1, h.2.1, map_eq_of _ _ hf h.2.2⟩

theorem look_zero (ns : List Nd) (x : Int) : look (clsN ns 0) x = 0 := by
  unfold look clsN
  rw [List.getElem?_replicate]
  split <;> rfl

theorem in_at {ns : List Nd} {x : Int} (h : 0 ≤ x ∧ x < ns.length) : ∃ (i : Nat) (n : Nd), x = (i : Int) ∧ ns[i]? = some n := by
  obtain ⟨i, rfl⟩ := Int.eq_ofNat_of_zero_le h.1
  exact ⟨i, _, rfl, List.getElem?_eq_getElem (by omega)⟩

/-- nodes that are told the same up to a depth are so up to less -/
theorem cls_mono {ns : List Nd} (hk : KidsIn ns) : ∀ (d : Nat) (x y : Int), 0 ≤ x ∧ x < ns.length → 0 ≤ y ∧ y < ns.length → look (clsN ns (d + 1)) x = look (clsN ns (d + 1)) y → look (clsN ns d) x = look (clsN ns d) y
  | 0, x, y, _, _, _ => by rw [look_zero, look_zero]
  | d + 1, x, y, hx, hy, h => by
    obtain ⟨i, n, rfl, hn⟩ := in_at hx
    obtain ⟨j, m, rfl, hm⟩ := in_at hy
    have h1 := (finer_eq (cl := clsN ns (d + 1)) hn hm).1 h
    exact (finer_eq (cl := clsN ns d) hn hm).2 (sig_of (fun a ha b hb => cls_mono hk d a b (hk n (List.mem_of_getElem? hn) a ha) (hk m (List.mem_of_getElem? hm) b hb)) h1)

theorem clsN_in (ns : List Nd) : ∀ (d : Nat), ∀ x ∈ clsN ns d, 0 ≤ x ∧ (x < ns.length ∨ x = 0)
  | 0, x, hx => by
    unfold clsN at hx
    have := List.eq_of_mem_replicate hx
    omega
  | d + 1, x, hx => by
    unfold clsN finer at hx
    obtain ⟨s, hs, rfl⟩ := List.mem_map.1 hx
    have := List.idxOf_lt_length_of_mem hs
    simp [sigs] at this
    simp [sigs]
    omega

/-- the class of a node is no greater than it, and is its own class -/
theorem cls_self {ns : List Nd} (d : Nat) {i : Nat} (hi : i < ns.length) : ∃ j : Nat, (clsN ns d)[i]? = some (j : Int) ∧ j ≤ i ∧ (clsN ns d)[j]? = some (j : Int) := by
  cases d with
  | zero =>
    refine ⟨0, ?_, Nat.zero_le _, ?_⟩
    · unfold clsN; rw [List.getElem?_replicate, if_pos hi]; rfl
    · unfold clsN; rw [List.getElem?_replicate, if_pos (by omega)]; rfl
  | succ d =>
    have hn : ns[i]? = some ns[i] := List.getElem?_eq_getElem hi
    have h1 := finer_at (cl := clsN ns d) hn
    have h2 := idxOf_at (l := sigs ns (clsN ns d)) (a := sigOf (clsN ns d) ns[i]) (List.mem_of_getElem? (sigs_at hn))
    have h3 := idxOf_le (sigs_at (cl := clsN ns d) hn)
    refine ⟨_, h1, h3, ?_⟩
    have hm : ns[(sigs ns (clsN ns d)).idxOf (sigOf (clsN ns d) ns[i])]? = some ns[(sigs ns (clsN ns d)).idxOf (sigOf (clsN ns d) ns[i])] := List.getElem?_eq_getElem (by omega)
    have h4 := finer_at (cl := clsN ns d) hm
    have h5 := sigs_at (cl := clsN ns d) hm
    rw [h2] at h5
    rw [← Option.some.inj h5] at h4
    exact h4

/-- the nodes that are the first ones of their classes -/
def reps (ns : List Nd) (d : Nat) : Nat := (List.range ns.length).countP (fun (i : Nat) => decide (look (clsN ns d) (i : Int) = (i : Int)))

theorem countP_back {p q : Nat → Bool} : ∀ (l : List Nat), (∀ x ∈ l, p x = true → q x = true) → l.countP q ≤ l.countP p → ∀ x ∈ l, q x = true → p x = true
  | [], _, _, x, hx, _ => by simp at hx
  | y :: l, hpq, hc, x, hx, hq => by
    have hle := List.countP_mono_left (l := l) (p := p) (q := q) (fun z hz => hpq z (List.mem_cons_of_mem _ hz))
    rw [List.countP_cons, List.countP_cons] at hc
    have hy := hpq y (by simp)
    have hy2 : q y = true → p y = true := by
      intro h
      rw [if_pos h] at hc
      cases hp : p y
      · rw [hp] at hc
        simp at hc
        omega
      · rfl
    have hc2 : l.countP q ≤ l.countP p := by
      cases hp : p y <;> cases hq2 : q y
      · rw [hp, hq2] at hc; simpa using hc
      · rw [hy2 hq2] at hp; cases hp
      · rw [hy hp] at hq2; cases hq2
      · rw [hp, hq2] at hc; simpa using hc
    rcases List.mem_cons.1 hx with rfl | hx
    · exact hy2 hq
    · exact countP_back l (fun z hz => hpq z (List.mem_cons_of_mem _ hz)) hc2 x hx hq

theorem rep_stays {ns : List Nd} (hk : KidsIn ns) {d i : Nat} (hi : i < ns.length) (h : look (clsN ns d) i = i) : look (clsN ns (d + 1)) i = i := by
  obtain ⟨j, h1, h2, h3⟩ := cls_self (d + 1) hi
  have e : look (clsN ns (d + 1)) i = look (clsN ns (d + 1)) j := by rw [look_at h1, look_at h3]
  have := cls_mono hk d i j (by omega) (by omega) e
  obtain ⟨j2, g1, g2, g3⟩ := cls_self d (show j < ns.length by omega)
  rw [h, look_at g1] at this
  rw [look_at h1]
  omega

theorem cls_stable {ns : List Nd} (hk : KidsIn ns) {d : Nat} (h : reps ns (d + 1) ≤ reps ns d) : clsN ns (d + 1) = clsN ns d := by
  have hb := countP_back (List.range ns.length) (p := fun (i : Nat) => decide (look (clsN ns d) (i : Int) = (i : Int))) (q := fun (i : Nat) => decide (look (clsN ns (d + 1)) (i : Int) = (i : Int)))
    (fun x hx hp => by simp at hx hp ⊢; exact rep_stays hk hx hp) h
  apply List.ext_getElem?
  intro i
  by_cases hi : i < ns.length
  · obtain ⟨j, h1, h2, h3⟩ := cls_self (d + 1) hi
    obtain ⟨j2, g1, g2, g3⟩ := cls_self d hi
    have e : look (clsN ns (d + 1)) i = look (clsN ns (d + 1)) j := by rw [look_at h1, look_at h3]
    have hm := cls_mono hk d i j (by omega) (by omega) e
    have hj := hb j (by simp; omega) (by simp; exact look_at h3)
    simp at hj
    rw [look_at g1, hj] at hm
    rw [h1, g1, hm]
  · rw [List.getElem?_eq_none (by rw [clsN_len]; omega), List.getElem?_eq_none (by rw [clsN_len]; omega)]

theorem cls_stays {ns : List Nd} {d : Nat} (h : clsN ns (d + 1) = clsN ns d) : ∀ k, clsN ns (d + k) = clsN ns d
  | 0 => rfl
  | k + 1 => by
    have := cls_stays h k
    show finer ns (clsN ns (d + k)) = _
    rw [this]
    exact h

theorem cls_ends {ns : List Nd} (hk : KidsIn ns) : ∀ d, (∃ e, e < d ∧ clsN ns (e + 1) = clsN ns e) ∨ d + 1 ≤ reps ns d ∨ ns.length = 0
  | 0 => by
    rcases Nat.eq_zero_or_pos ns.length with h0 | h0
    · exact .inr (.inr h0)
    · refine .inr (.inl ?_)
      unfold reps
      apply Nat.succ_le_of_lt
      rw [List.countP_pos_iff]
      exact ⟨0, by simpa using h0, by simp [look_zero]⟩
  | d + 1 => by
    rcases cls_ends hk d with ⟨e, he, hs⟩ | h | h
    · exact .inl ⟨e, by omega, hs⟩
    · by_cases hs : reps ns (d + 1) ≤ reps ns d
      · exact .inl ⟨d, by omega, cls_stable hk hs⟩
      · exact .inr (.inl (by omega))
    · exact .inr (.inr h)

/-- as many depths as there are nodes are enough -/
theorem cls_all {ns : List Nd} (hk : KidsIn ns) (k : Nat) : clsN ns (ns.length + k) = clsN ns ns.length := by
  rcases cls_ends hk ns.length with ⟨e, he, hs⟩ | h | h
  · have h1 := cls_stays hs (ns.length - e + k)
    have h2 := cls_stays hs (ns.length - e)
    rw [show e + (ns.length - e + k) = ns.length + k by omega] at h1
    rw [show e + (ns.length - e) = ns.length by omega] at h2
    rw [h1, h2]
  · exfalso
    have : reps ns ns.length ≤ ns.length := by
      unfold reps
      exact Nat.le_trans (List.countP_le_length) (by simp)
    omega
  · have hnil : ns = [] := List.eq_nil_of_length_eq_zero h
    subst hnil
    have : ∀ d, clsN [] d = [] := fun d => List.eq_nil_of_length_eq_zero (clsN_len [] d)
    rw [this, this]

end Go.Proofs.Ytpcfjdhalglebaa
