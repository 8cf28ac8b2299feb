/-
  Lemmas, several texts in one: SavM, Memod, SavB, SavA, RunM, CutM, FrI, FrN.
-/
import Derived.Test.YtmilbhhlbjcodabSomeGraph
import Derived.Test.YtmilbhhlbjcodabPjAf
import Derived.Test.YtmilbhhlbjcodabPjAa
import Derived.Test.YtmilbhhlbjcodabShpR
import Derived.Deep.LoopGhost
import Derived.Deep.Cut
import Derived.Deep.RegionHeld3
import Derived.Test.YtmilbhhlbjcodabPjAd
import Derived.Test.YtmilbhhlbjcodabPjAb
import Derived.Test.YtmilbhhlbjcodabPjAe
import Derived.Deep.QuietTactic
import Derived.BigQuiet
namespace Go.Proofs.Ytmilbhhlbjcodab
set_option linter.unusedVariables false
theorem cntLt {p q : Nat → Bool} : ∀ {l : List Nat}, (∀ a ∈ l, p a = true → q a = true) → (∃ a ∈ l, q a = true ∧ p a = false) → l.countP p + 1 ≤ l.countP q
  | [], _, h => by obtain ⟨a, h, _⟩ := h; cases h
  | b :: l, hpq, h => by
    have hle : l.countP p ≤ l.countP q := List.countP_mono_left fun a ha => hpq a (by simp [ha])
    rw [List.countP_cons, List.countP_cons]
    obtain ⟨a, ha, hqa, hpa⟩ := h
    rcases List.mem_cons.1 ha with rfl | ha
    · simp [hqa, hpa]; omega
    · have := cntLt (p := p) (q := q) (fun a ha => hpq a (by simp [ha])) ⟨a, ha, hqa, hpa⟩
      have hb := hpq b (by simp)
      cases hpb : p b
      · simp; split <;> omega
      · simp [hb hpb]; omega
theorem cntSplit {p q s : Nat → Bool} : ∀ (l : List Nat), (∀ a, p a = true ↔ q a = true ∨ s a = true) → (∀ a, q a = true → s a = true → False) → l.countP p = l.countP q + l.countP s
  | [], _, _ => rfl
  | b :: l, h, hd => by
    rw [List.countP_cons, List.countP_cons, List.countP_cons, cntSplit l h hd]
    have h1 := h b
    have h2 := hd b
    cases hp : p b <;> cases hq : q b <;> cases hs : s b <;> simp [hp, hq, hs] at h1 h2 ⊢ <;> omega
theorem tfIff {p : Prop} : tf p = true ↔ p := ⟨tf_yes, tf_true⟩
noncomputable def rk (ns : List Nd) (x : Int) : Nat := (List.range ns.length).countP fun (i : Nat) => tf (TReach ns x (i : Int))
theorem rk_le (ns : List Nd) (x : Int) : rk ns x ≤ ns.length := by
  unfold rk
  exact Nat.le_trans List.countP_le_length (by simp)
theorem TReach.pre {ns : List Nd} {i k x : Int} (hk : k ∈ kidsOf ns i) (h2 : kindOf ns k = 2) (h : TReach ns k x) : TReach ns i x := by
  induction h with
  | kid x hx => exact .step k x (.kid k hk) h2 hx
  | step y x _ h3 hx ih => exact .step y x ih h3 hx
theorem rk_kid {ns : List Nd} (hs : Sav ns) {i : Int} {k : Nat} (hkl : k < ns.length) (hk : (k : Int) ∈ kidsOf ns i) (h2 : kindOf ns (k : Int) = 2) : rk ns (k : Int) + 1 ≤ rk ns i := by
  have hn : ¬ TReach ns (k : Int) (k : Int) := by
    have hx : ns[k]? = some ns[k] := List.getElem?_eq_getElem hkl
    exact hs.tuples k _ hx (by rw [← kindOf_at hx]; exact h2)
  exact cntLt (fun a _ h => tf_true (.pre hk h2 (tf_yes h))) ⟨k, List.mem_range.2 hkl, tf_true (.kid _ hk), tf_false hn⟩
noncomputable def Lc (ns : List Nd) (μ : List Int) : Nat := (List.range ns.length).countP fun (i : Nat) => tf (μ.getD i 0 < 0 ∧ kindOf ns (i : Int) ≠ 2)
noncomputable def Bc (ns : List Nd) (μ : List Int) (r : Nat) : Nat := (List.range ns.length).countP fun (i : Nat) => tf (μ.getD i 0 < 0 ∧ kindOf ns (i : Int) = 2 ∧ rk ns (i : Int) < r)
noncomputable def Phi (ns : List Nd) (μ : List Int) (r : Nat) : Nat := 134 * Lc ns μ + 10 * Bc ns μ r
def Mo (μ μ' : List Int) : Prop := μ'.length = μ.length ∧ ∀ i, μ'.getD i 0 < 0 → μ.getD i 0 < 0
theorem Mo.refl (μ : List Int) : Mo μ μ := ⟨rfl, fun _ h => h⟩
theorem Mo.trans {a b c : List Int} (h : Mo a b) (k : Mo b c) : Mo a c := ⟨k.1.trans h.1, fun i hi => h.2 i (k.2 i hi)⟩
theorem Mo.set (μ : List Int) (i : Nat) {v : Int} (hv : 0 ≤ v) : Mo μ (μ.set i v) := by
  refine ⟨by simp, fun j hj => ?_⟩
  rw [List.getD_eq_getElem?_getD, List.getElem?_set] at hj
  rw [List.getD_eq_getElem?_getD]
  split at hj
  · split at hj
    · simp at hj; omega
    · simp at hj
  · exact hj
theorem getD_set_self {μ : List Int} {i : Nat} (hi : i < μ.length) (v : Int) : (μ.set i v).getD i 0 = v := by
  rw [List.getD_eq_getElem?_getD, List.getElem?_set, if_pos rfl, if_pos hi]; rfl
theorem Lc_mono {ns : List Nd} {μ μ' : List Int} (h : Mo μ μ') : Lc ns μ' ≤ Lc ns μ :=
  List.countP_mono_left fun a _ ha => by
    have := tf_yes ha
    exact tf_true ⟨h.2 a this.1, this.2⟩
theorem Bc_mono {ns : List Nd} {μ μ' : List Int} (h : Mo μ μ') (r : Nat) : Bc ns μ' r ≤ Bc ns μ r :=
  List.countP_mono_left fun a _ ha => by
    have := tf_yes ha
    exact tf_true ⟨h.2 a this.1, this.2⟩
theorem Bc_rank (ns : List Nd) (μ : List Int) {r s : Nat} (h : r ≤ s) : Bc ns μ r ≤ Bc ns μ s :=
  List.countP_mono_left fun a _ ha => by
    have := tf_yes ha
    exact tf_true ⟨this.1, this.2.1, Nat.lt_of_lt_of_le this.2.2 h⟩
theorem Bc_le (ns : List Nd) (μ : List Int) (r : Nat) : Bc ns μ r ≤ ns.length := Nat.le_trans List.countP_le_length (by simp)
theorem Lc_le (ns : List Nd) (μ : List Int) : Lc ns μ ≤ ns.length := Nat.le_trans List.countP_le_length (by simp)
theorem Phi_le {ns : List Nd} (h12 : ns.length ≤ 12) (μ : List Int) (r : Nat) : Phi ns μ r ≤ 1728 := by
  have := Lc_le ns μ
  have := Bc_le ns μ r
  unfold Phi
  omega
theorem Lc_less {ns : List Nd} {μ μ' : List Int} {a : Nat} (h : Mo μ μ') (ha : a < ns.length) (h1 : μ.getD a 0 < 0) (h2 : 0 ≤ μ'.getD a 0) (hk : kindOf ns (a : Int) ≠ 2) : Lc ns μ' + 1 ≤ Lc ns μ :=
  cntLt (fun b _ hb => by
    have := tf_yes hb
    exact tf_true ⟨h.2 b this.1, this.2⟩) ⟨a, List.mem_range.2 ha, tf_true ⟨h1, hk⟩, tf_false fun h3 => by omega⟩
theorem Bc_gap {ns : List Nd} {μ μ' : List Int} {a r s : Nat} (h : Mo μ μ') (ha : a < ns.length) (h1 : μ.getD a 0 < 0) (h2 : 0 ≤ μ'.getD a 0) (hk : kindOf ns (a : Int) = 2) (hs : s ≤ rk ns (a : Int)) (hr : rk ns (a : Int) < r) :
    Bc ns μ' r + Bc ns μ s + 1 ≤ Bc ns μ r + Bc ns μ' s := by
  have split : ∀ ν : List Int, Bc ns ν r = Bc ns ν s + (List.range ns.length).countP fun (i : Nat) => tf (ν.getD i 0 < 0 ∧ kindOf ns (i : Int) = 2 ∧ s ≤ rk ns (i : Int) ∧ rk ns (i : Int) < r) := by
    intro ν
    refine cntSplit _ (fun b => ?_) (fun b h1 h2 => ?_)
    · rw [tfIff, tfIff, tfIff]
      constructor
      · rintro ⟨x, y, z⟩
        by_cases hb : rk ns (b : Int) < s
        · exact .inl ⟨x, y, hb⟩
        · exact .inr ⟨x, y, by omega, z⟩
      · rintro (⟨x, y, z⟩ | ⟨x, y, z, u⟩)
        · exact ⟨x, y, by omega⟩
        · exact ⟨x, y, u⟩
    · have a1 := tf_yes h1
      have a2 := tf_yes h2
      omega
  rw [split μ, split μ']
  have := cntLt (p := fun (i : Nat) => tf (μ'.getD i 0 < 0 ∧ kindOf ns (i : Int) = 2 ∧ s ≤ rk ns (i : Int) ∧ rk ns (i : Int) < r)) (q := fun (i : Nat) => tf (μ.getD i 0 < 0 ∧ kindOf ns (i : Int) = 2 ∧ s ≤ rk ns (i : Int) ∧ rk ns (i : Int) < r)) (l := List.range ns.length)
    (fun b _ hb => by
      have h3 := tf_yes hb
      exact tf_true ⟨h.2 b h3.1, h3.2⟩) ⟨a, List.mem_range.2 ha, tf_true ⟨h1, hk, hs, hr⟩, tf_false fun h3 => by omega⟩
  omega
theorem phi_node {ns : List Nd} (h12 : ns.length ≤ 12) {μ μ1 μ2 : List Int} {a r x y : Nat} (h : Mo μ μ1) (h' : Mo μ1 μ2) (ha : a < ns.length) (h1 : μ.getD a 0 < 0) (h2 : 0 ≤ μ1.getD a 0) (hk : kindOf ns (a : Int) ≠ 2) (hr : r ≤ 13)
    (hx : x + Phi ns μ2 13 ≤ y + Phi ns μ1 13) : x + Phi ns μ2 r + 14 ≤ y + Phi ns μ r := by
  have l1 := Lc_less h ha h1 h2 hk
  have b1 := Bc_le ns μ1 13
  have b2 := Bc_rank ns μ2 hr
  unfold Phi at hx ⊢
  omega
theorem phi_tuple {ns : List Nd} {μ μ' μf : List Int} {a r x y : Nat} (h : Mo μ μ') (h' : Mo μ' μf) (ha : a < ns.length) (h1 : μ.getD a 0 < 0) (h2 : 0 ≤ μf.getD a 0) (hk : kindOf ns (a : Int) = 2) (hr : rk ns (a : Int) < r)
    (hx : x + Phi ns μ' (rk ns (a : Int)) ≤ y + Phi ns μ (rk ns (a : Int))) : x + Phi ns μf r + 10 ≤ y + Phi ns μ r := by
  have l1 := Lc_mono (ns := ns) h'
  have b1 := Bc_mono (ns := ns) h' (rk ns (a : Int))
  have g := Bc_gap (h.trans h') ha h1 h2 hk (Nat.le_refl _) hr
  unfold Phi at hx ⊢
  omega
end Go.Proofs.Ytmilbhhlbjcodab

namespace Go.Proofs.Ytmilbhhlbjcodab
open Go.RowKit
set_option linter.unusedVariables false
def takenTo (l : List Int) : Nat → Nat
  | 0 => 0
  | k + 1 => takenTo l k + (if 0 ≤ l.getD k 0 then 1 else 0)
theorem takenTo_le (l : List Int) (k : Nat) : takenTo l k ≤ k := by
  induction k with
  | zero => exact Nat.le_refl _
  | succ k ih => unfold takenTo; split <;> omega
def GivesSave (w : World) (os : List Od) (μ : List Int) (e : Ending) (w' : World) : Prop :=
  ∃ A c M d, e = .returned (.tuple #[.slice A os.length c, .slice M μ.length d]) ∧ OpsAt w' w'.heap.size A os ∧ (A = none → c = 0) ∧ IntsAt w' w'.heap.size M μ ∧ (M = none → d = 0) ∧ Below w.heap.size w w'
def memoOps (os : List Od) (μ : List Int) : List Od := os ++ [⟨15, (takenTo μ μ.length : Int)⟩]
def memoSet (μ : List Int) (i : Nat) : List Int := μ.set i (takenTo μ μ.length : Int)
set_option maxRecDepth 100000 in
set_option maxHeartbeats 2000000 in
theorem memoed_any (A : Option Addr) (os : List Od) (c : Nat) (M : Option Addr) (μ : List Int) (d i : Nat) (w : World) (h : OpsAt w w.heap.size A os) (hn : A = none → c = 0) (h2 : IntsAt w w.heap.size M μ) (hn2 : M = none → d = 0)
    (hl : os.length ≤ 7000000) (hm : μ.length ≤ 100) (hi : i < μ.length) (hμ : ∀ x ∈ μ, -1 ≤ x ∧ x ≤ 100) :
    Calls Try.prog 51 #[.slice A os.length c, .slice M μ.length d, .int .i64 (i : Int)] w (GivesSave w (memoOps os μ) (memoSet μ i)) := by
  have Hn := hide hn
  have Hn2 := hide hn2
  have Hμ := hide hμ
  clear hn hn2 hμ
  go_enter Try.func51, Try.ntmps51
  go_wp2_with fail
  go_loop [8, 9] (fun nv iv => ∃ k : Nat, k ≤ μ.length ∧ iv = .int .i64 (k : Int) ∧ nv = .int .i64 (takenTo μ k : Int)) (fun _ iv => μ.length - (intOf iv).toNat)
  case atStart => exact ⟨0, Nat.zero_le _, rfl, rfl⟩
  case round =>
    obtain ⟨k, hk, rfl, rfl⟩ := hrel
    have htk := takenTo_le μ k
    by_cases hlt : k < μ.length
    · obtain ⟨b, off, x, rfl, hbl, hx, _, hcx⟩ := h2.at_ hlt
      have hgx : μ.getD k 0 = x := by rw [List.getD_eq_getElem?_getD, hx]; rfl
      have hk1 : (0 : Int) ≤ (k : Int) := by omega
      have hk2 : (k : Int) < (μ.length : Int) := by omega
      by_cases hp : 0 ≤ x
      · have HT : Hid (takenTo μ (k + 1) = takenTo μ k + 1) := hide (by show takenTo μ k + _ = _; rw [hgx, if_pos hp])
        clear hx hgx
        generalize takenTo μ k = m at htk HT
        have dx : decide (0 ≤ x) = true := by simpa using hp
        go_wp2
        go_round
        case rel => exact ⟨k + 1, by omega, by go_num, by rw [HT.out]; go_num⟩
        case measure => simp [intOf]; omega
      · have HT : Hid (takenTo μ (k + 1) = takenTo μ k) := hide (by show takenTo μ k + _ = _; rw [hgx, if_neg hp]; rfl)
        clear hx hgx
        generalize takenTo μ k = m at htk HT
        have dx : decide (0 ≤ x) = false := by simpa using hp
        go_wp2
        go_round
        case rel => exact ⟨k + 1, by omega, by go_num, by rw [HT.out]⟩
        case measure => simp [intOf]; omega
    · obtain rfl : k = μ.length := by omega
      clear hlt
      obtain ⟨m, hmd⟩ : ∃ m, m = takenTo μ μ.length := ⟨_, rfl⟩
      rw [← hmd] at htk ⊢
      have Hm := hide hmd
      clear hmd
      go_wp2_with fail
      refine (copyInts_any M μ d w h2 Hn2.out (by omega)).mono ?_
      rintro e w1 ⟨M1, d1, rfl, ho1, hb1⟩
      rcases ho1.form with ⟨_, _, e0⟩ | ⟨g, rfl, hg1, hg2⟩
      · rw [e0] at hi; simp at hi
      · have HO1 := hide ho1
        have HB1 := hide hb1
        have hfr := ho1.frozenAt i
        obtain ⟨y, hy⟩ : ∃ y, μ[i]? = some y := ⟨_, List.getElem?_eq_getElem hi⟩
        have hcy : w1.cell? ⟨g, i, none⟩ = some (.int .i64 y) := ho1.cellAt hy
        have HO2 := hide (ho1.set i (m : Int))
        have HB2 := hide (hb1.setCell (p := ⟨g, i, none⟩) hg1 (.int .i64 (m : Int)))
        clear ho1 hb1 hy
        have hi1 : (0 : Int) ≤ (i : Int) := by omega
        have hi2 : (i : Int) < (μ.length : Int) := by omega
        go_upto_region 9 with fail
        clear hcy hfr
        generalize w1.setCell ⟨g, i, none⟩ (.int .i64 (m : Int)) = w2 at HO2 HB2 ⊢
        have lo := Lies.new w2 #[.int .i64 15, .int .i64 (m : Int)] 56
        have hb3 := (Below.refl w2.heap.size w2).alloc (Nat.le_refl _) (.cells #[.int .i64 15, .int .i64 (m : Int)] 56)
        have HO3 := hide (HO2.out.below hb3)
        have HB3 := hide (HB2.out.trans (hb3.mono HB2.out.size))
        have hOne := OpsAt.one (o := ⟨15, (m : Int)⟩) lo (by constructor <;> constructor <;> simp <;> omega)
        have HOne := hide hOne
        have HW3 := hide (h.later HB3.out (Nat.le_refl _))
        clear hb3 lo hOne
        go_wp2_with fail
        refine (emit_any A os c (some ⟨w2.heap.size, 0, none⟩) [⟨15, (m : Int)⟩] 1 _ HW3.out Hn.out HOne.out (fun e => by cases e) (by simp; omega)).mono ?_
        rintro e w4 ⟨A4, c4, rfl, ho4, hb4⟩
        have hwf : ∀ o ∈ os ++ [⟨15, (m : Int)⟩], In64 o.code ∧ In64 o.arg := by
          intro o ho
          rcases List.mem_append.1 ho with ho | ho
          · exact HW3.out.wf o ho
          · rw [List.mem_singleton.1 ho]
            constructor <;> constructor <;> simp <;> omega
        have hm64 : ∀ x ∈ μ.set i (m : Int), In64 x := by
          intro x hx
          rcases List.mem_or_eq_of_mem_set hx with hx | rfl
          · have := Hμ.out x hx
            constructor <;> omega
          · constructor <;> omega
        have hN4 := ho4.form
        have HF : Hid (GivesSave w (memoOps os μ) (memoSet μ i) (.returned (.tuple #[.slice A4 (os ++ [⟨15, (m : Int)⟩] : List Od).length c4, .slice (some ⟨g, 0, none⟩) (μ.set i (m : Int)).length d1])) w4) := by
          show GivesSave _ _ _ _ _
          unfold memoOps memoSet
          rw [← Hm.out]
          refine ⟨A4, c4, _, d1, rfl, ho4.ops hwf (by simp; omega), fun e => ?_, (HO3.out.below hb4).ints hm64 (by simp; omega), (fun e => by cases e), HB3.out.trans (hb4.mono HB3.out.size)⟩
          rcases hN4 with ⟨_, h2, _⟩ | ⟨g, h2, _⟩
          · exact h2
          · rw [h2] at e; cases e
        clear hwf hm64 hN4 ho4 hb4
        rw [List.length_set, show (os ++ [⟨15, (m : Int)⟩] : List Od).length = os.length + 1 from by simp] at HF
        go_wp2
        go_ret2
        exact HF.out
end Go.Proofs.Ytmilbhhlbjcodab

namespace Go.Proofs.Ytmilbhhlbjcodab
open Go.RowKit
set_option linter.unusedVariables false
structure MuOk (ns : List Nd) (μ : List Int) : Prop where
  len : μ.length = ns.length
  vals : ∀ x ∈ μ, -1 ≤ x ∧ x ≤ 100
structure GrAt (w : World) (A : Option Addr) (ns : List Nd) : Prop where
  nds : NdsAt w w.heap.size A ns
  cap : ∀ b off, A = some ⟨b, off, none⟩ → b < w.heap.size ∧ ∀ (j : Nat) (n : Nd), ns[j]? = some n → ∀ (A' : Option Addr) (k c' : Nat), w.cell? ⟨b, off + j * 3 + 2, none⟩ = some (.slice A' k c') → n.kids.length ≤ c'
theorem GrAt.later {w w' : World} {A : Option Addr} {ns : List Nd} (h : GrAt w A ns) (hb : Below w.heap.size w w') : GrAt w' A ns :=
  ⟨h.nds.later hb (Nat.le_refl _), fun b off e => ⟨Nat.lt_of_lt_of_le (h.cap b off e).1 hb.size, fun j n hj A' k c' hc => (h.cap b off e).2 j n hj A' k c' ((hb.cell (p := ⟨b, off + j * 3 + 2, none⟩) (h.cap b off e).1).symm.trans hc)⟩⟩
structure SvS (ns : List Nd) (w wr : World) (A : Option Addr) (os : List Od) (μ : List Int) (r n : Nat) (B : Option Addr) (c : Nat) (os' : List Od) (M : Option Addr) (d : Nat) (μ' : List Int) : Prop where
  bel : Below w.heap.size w wr
  gr : GrAt wr A ns
  ops : OpsAt wr wr.heap.size B os'
  nb : B = none → c = 0
  memo : IntsAt wr wr.heap.size M μ'
  nm : M = none → d = 0
  sum : os'.length + Phi ns μ' r ≤ os.length + n + Phi ns μ r
  mo : Mo μ μ'
  ok : MuOk ns μ'
theorem SvS.later {ns : List Nd} {w wr w' : World} {A : Option Addr} {os : List Od} {μ : List Int} {r n : Nat} {B : Option Addr} {c : Nat} {os' : List Od} {M : Option Addr} {d : Nat} {μ' : List Int}
    (h : SvS ns w wr A os μ r n B c os' M d μ') (hb : Below wr.heap.size wr w') : SvS ns w w' A os μ r n B c os' M d μ' :=
  ⟨h.bel.trans (hb.mono h.bel.size), h.gr.later hb, h.ops.later hb (Nat.le_refl _), h.nb, h.memo.later hb (Nat.le_refl _), h.nm, h.sum, h.mo, h.ok⟩
def GivesSv (ns : List Nd) (w : World) (os : List Od) (μ : List Int) (r n : Nat) (e : Ending) (w' : World) : Prop :=
  ∃ (os' : List Od) (μ' : List Int), GivesSave w os' μ' e w' ∧ os'.length + Phi ns μ' r ≤ os.length + n + Phi ns μ r ∧ Mo μ μ' ∧ MuOk ns μ'
theorem SvS.gives {ns : List Nd} {w wr : World} {A : Option Addr} {os : List Od} {μ : List Int} {r n m : Nat} {B : Option Addr} {c : Nat} {os' : List Od} {M : Option Addr} {d : Nat} {μ' : List Int}
    (h : SvS ns w wr A os μ r n B c os' M d μ') (hn : n ≤ m) : GivesSv ns w os μ r m (.returned (.tuple #[.slice B os'.length c, .slice M μ'.length d])) wr :=
  ⟨os', μ', ⟨B, c, M, d, rfl, h.ops, h.nb, h.memo, h.nm, h.bel⟩, by have := h.sum; omega, h.mo, h.ok⟩
def SaveOk (ns : List Nd) (A : Option Addr) (cn : Nat) (root lev : Int) (m : Nat) : Prop :=
  ∀ (i r : Nat) (B : Option Addr) (os : List Od) (c : Nat) (M : Option Addr) (μ : List Int) (d : Nat) (w : World),
    i < ns.length → r ≤ 13 → (kindOf ns (i : Int) = 2 → rk ns (i : Int) < r) → 14 * Lc ns μ + r < m → os.length + 2000 * m ≤ 1000000 →
    SvS ns w w A os μ r 0 B c os M d μ →
    Calls Try.prog 39 #[.agg #[.slice A ns.length cn, .int .i64 root], .int .i64 lev, .int .i64 (i : Int), .slice B os.length c, .slice M μ.length d] w (GivesSv ns w os μ r 1)
def GivesO (w : World) (os : List Od) (e : Ending) (w' : World) : Prop :=
  ∃ (B : Option Addr) (c : Nat) (os' : List Od), e = .returned (.slice B os'.length c) ∧ Hid (os'.length = os.length + 1) ∧ OpsAt w' w'.heap.size B os' ∧ (B = none → c = 0) ∧ Below w.heap.size w w'
theorem emit_one (B : Option Addr) (os : List Od) (c : Nat) (x y : Int) (w : World) (h : OpsAt w w.heap.size B os) (hn : B = none → c = 0) (hx : In64 x) (hy : In64 y) (hl : os.length ≤ 7000000) :
    Calls Try.prog 41 #[.slice B os.length c, .slice (some ⟨w.heap.size, 0, none⟩) 1 1] (w.alloc (.cells #[.int .i64 x, .int .i64 y] 56)) (GivesO w os) := by
  have hb3 := (Below.refl w.heap.size w).alloc (Nat.le_refl _) (.cells #[.int .i64 x, .int .i64 y] 56)
  have lo := Lies.new w #[.int .i64 x, .int .i64 y] 56
  have hOne := OpsAt.one (o := ⟨x, y⟩) lo ⟨hx, hy⟩
  have hW3 := h.later hb3 (Nat.le_refl _)
  have h1 : OpsAt (w.alloc (.cells #[.int .i64 x, .int .i64 y] 56)) (w.alloc (.cells #[.int .i64 x, .int .i64 y] 56)).heap.size (some ⟨w.heap.size, 0, none⟩) [(⟨x, y⟩ : Od)] := hOne
  refine (emit_any B os c (some ⟨w.heap.size, 0, none⟩) [⟨x, y⟩] 1 _ hW3 hn h1 (fun e => by cases e) (by simp; omega)).mono ?_
  rintro e w4 ⟨A4, c4, rfl, ho4, hb4⟩
  have hwf : ∀ o ∈ os ++ [(⟨x, y⟩ : Od)], In64 o.code ∧ In64 o.arg := by
    intro o ho
    rcases List.mem_append.1 ho with ho | ho
    · exact hW3.wf o ho
    · rw [List.mem_singleton.1 ho]
      exact ⟨hx, hy⟩
  refine ⟨A4, c4, _, rfl, (by show _ = _; simp), ho4.ops hwf (by simp; omega), fun e => ?_, hb3.trans (hb4.mono hb3.size)⟩
  rcases ho4.form with ⟨_, h2, _⟩ | ⟨g, h2, _⟩
  · exact h2
  · rw [h2] at e; cases e
def GivesMe (ns : List Nd) (w : World) (os : List Od) (μ : List Int) (i : Nat) (e : Ending) (w' : World) : Prop :=
  ∃ (os' : List Od) (μ' : List Int), GivesSave w os' μ' e w' ∧ Hid (os'.length = os.length + 1) ∧ Mo μ μ' ∧ 0 ≤ μ'.getD i 0 ∧ MuOk ns μ'
theorem memoed_me {ns : List Nd} (h12 : ns.length ≤ 12) (A : Option Addr) (os : List Od) (c : Nat) (M : Option Addr) (μ : List Int) (d i : Nat) (w : World) (h : OpsAt w w.heap.size A os) (hn : A = none → c = 0) (h2 : IntsAt w w.heap.size M μ) (hn2 : M = none → d = 0)
    (hl : os.length ≤ 7000000) (hi : i < ns.length) (hμ : MuOk ns μ) :
    Calls Try.prog 51 #[.slice A os.length c, .slice M μ.length d, .int .i64 (i : Int)] w (GivesMe ns w os μ i) := by
  have hlen := hμ.len
  have ht := takenTo_le μ μ.length
  refine (memoed_any A os c M μ d i w h hn h2 hn2 hl (by omega) (by omega) hμ.vals).mono ?_
  intro e w' hg
  refine ⟨memoOps os μ, memoSet μ i, hg, (by show _ = _; simp [memoOps]), Mo.set _ _ (by omega), ?_, by simp [memoSet, hlen], fun x hx => ?_⟩
  · unfold memoSet
    rw [getD_set_self (by omega)]
    omega
  · rcases List.mem_or_eq_of_mem_set hx with hx | rfl
    · exact hμ.vals x hx
    · omega
theorem SvS.emit {ns : List Nd} {w wr w' : World} {A : Option Addr} {os : List Od} {μ : List Int} {r n : Nat} {B B2 : Option Addr} {c c2 : Nat} {os' os2 : List Od} {M : Option Addr} {d : Nat} {μ' : List Int}
    (h : SvS ns w wr A os μ r n B c os' M d μ') (hl : Hid (os2.length = os'.length + 1)) (ho : OpsAt w' w'.heap.size B2 os2) (hn : B2 = none → c2 = 0) (hb : Below wr.heap.size wr w') : SvS ns w w' A os μ r (n + 1) B2 c2 os2 M d μ' :=
  ⟨h.bel.trans (hb.mono h.bel.size), h.gr.later hb, ho, hn, h.memo.later hb (Nat.le_refl _), h.nm, by have := h.sum; have := hl.out; omega, h.mo, h.ok⟩
theorem SvS.call {ns : List Nd} {w wr w' : World} {A : Option Addr} {os : List Od} {μ : List Int} {r n k : Nat} {B B2 : Option Addr} {c c2 : Nat} {os' os2 : List Od} {M M2 : Option Addr} {d d2 : Nat} {μ' μ2 : List Int}
    (h : SvS ns w wr A os μ r n B c os' M d μ') (ho : OpsAt w' w'.heap.size B2 os2) (hn : B2 = none → c2 = 0) (hm : IntsAt w' w'.heap.size M2 μ2) (hnm : M2 = none → d2 = 0) (hb : Below wr.heap.size wr w')
    (hs : os2.length + Phi ns μ2 r ≤ os'.length + k + Phi ns μ' r) (hmo : Mo μ' μ2) (hok : MuOk ns μ2) : SvS ns w w' A os μ r (n + k) B2 c2 os2 M2 d2 μ2 :=
  ⟨h.bel.trans (hb.mono h.bel.size), h.gr.later hb, ho, hn, hm, hnm, by have := h.sum; omega, h.mo.trans hmo, hok⟩
theorem SvS.anew {ns : List Nd} {w wr : World} {A : Option Addr} {os : List Od} {μ : List Int} {r n : Nat} {B : Option Addr} {c : Nat} {os' : List Od} {M : Option Addr} {d : Nat} {μ' : List Int}
    (h : SvS ns w wr A os μ r n B c os' M d μ') (r' : Nat) : SvS ns wr wr A os' μ' r' 0 B c os' M d μ' :=
  ⟨Below.refl _ _, h.gr, h.ops, h.nb, h.memo, h.nm, Nat.le_refl _, Mo.refl _, h.ok⟩
end Go.Proofs.Ytmilbhhlbjcodab

namespace Go.Proofs.Ytmilbhhlbjcodab
open Go.RowKit
set_option linter.unusedVariables false
set_option maxRecDepth 100000 in
set_option maxHeartbeats 2000000 in
theorem saveAll_any {ns : List Nd} (h12 : ns.length ≤ 12) (A : Option Addr) (cn : Nat) (root lev : Int) (m : Nat) (hOk : SaveOk ns A cn root lev m)
    (L : Option Addr) (xs : List Int) (cl r : Nat) (B : Option Addr) (os : List Od) (c : Nat) (M : Option Addr) (μ : List Int) (d : Nat) (w : World)
    (hL : IntsAt w w.heap.size L xs) (hr : r ≤ 13) (hx : ∀ x ∈ xs, 0 ≤ x ∧ x < (ns.length : Int) ∧ (kindOf ns x = 2 → rk ns x < r)) (hm : 14 * Lc ns μ + r < m) (hl : os.length + xs.length + Phi ns μ r + 2000 * m ≤ 1000000)
    (hS : SvS ns w w A os μ r 0 B c os M d μ) :
    Calls Try.prog 54 #[.agg #[.slice A ns.length cn, .int .i64 root], .int .i64 lev, .slice L xs.length cl, .slice B os.length c, .slice M μ.length d] w (GivesSv ns w os μ r xs.length) := by
  have HOk := hide hOk
  have Hx := hide hx
  have Hm := hide hm
  have hB : Below w.heap.size w (w.alloc (.cells #[.slice A ns.length cn, .int .i64 root] 53)) := (Below.refl _ _).alloc (Nat.le_refl _) _
  have l1 := Lies.new w #[.slice A ns.length cn, .int .i64 root] 53
  have HS0 := hide (hS.later hB)
  have HL := hide (hL.later hB (Nat.le_refl _))
  clear hOk hx hm hS hL hB
  go_enter Try.func54, Try.ntmps54
  go_wp2_with fail
  generalize w.alloc (.cells #[.slice A ns.length cn, .int .i64 root] 53) = W at l1 HS0 HL ⊢
  have hW1 := l1.lt
  go_loopw [3, 4, 12] (fun ov mv iv wr => ∃ (k : Nat) (Bk : Option Addr) (ck : Nat) (osk : List Od) (Mk : Option Addr) (dk : Nat) (μk : List Int), k ≤ xs.length ∧ iv = .int .i64 (k : Int) ∧ ov = .slice Bk osk.length ck ∧ mv = .slice Mk μk.length dk ∧ Below W.heap.size W wr ∧ SvS ns w wr A os μ r k Bk ck osk Mk dk μk) (fun _ _ iv _ => xs.length - (intOf iv).toNat)
  case atStart => exact ⟨0, B, c, os, M, d, μ, Nat.zero_le _, rfl, rfl, rfl, Below.refl _ _, HS0.out⟩
  case round =>
    clear HS0
    obtain ⟨k, Bk, ck, osk, Mk, dk, μk, hk, rfl, rfl, rfl, hbW, hS⟩ := hrel
    have hlr := l1.below hbW hW1
    have e0 := hlr.cell 0
    have e1 := hlr.cell 1
    simp only [List.getElem?_toArray, List.getElem?_cons_zero, List.getElem?_cons_succ] at e0 e1
    have HS := hide hS
    have HbW := hide hbW
    by_cases hlt : k < xs.length
    · obtain ⟨b, off, x, rfl, hbl, hx, hmem, hcx⟩ := (HL.out.below hbW).at_ hlt
      obtain ⟨hx0, hxl, hxr⟩ := Hx.out x hmem
      obtain ⟨i, rfl⟩ := Int.eq_ofNat_of_zero_le hx0
      have Hxr := hide hxr
      have Hxl := hide hxl
      have hd := hS.later (Below.refl _ _).drew
      have Hd := hide hd
      have HdW := hide hbW.drew
      have Hsum := hide hS.sum
      have Hmo := hide hS.mo
      have hk1 : (0 : Int) ≤ (k : Int) := by omega
      have hk2 : (k : Int) < (xs.length : Int) := by omega
      have hcall := hide (fun X : World => fun h : SvS ns X X A osk μk r 0 Bk ck osk Mk dk μk => HOk.out i r Bk osk ck Mk μk dk X (by have := Hxl.out; omega) hr Hxr.out (by have := Lc_mono (ns := ns) Hmo.out; have := Hm.out; omega) (by have := Hsum.out; omega) h)
      have hda := Hd.out.anew r
      have z1 : w.heap.size < wr.heap.size := by have := hbW.size; omega
      have z2 : b < wr.heap.size := by have := hbW.size; omega
      clear hlr hS hbW hx hmem hx0 hxl hxr hd HS HbW
      go_wp2_with fail
      go_region_held3 (fun w' => w'.cell? ⟨w.heap.size, 0, none⟩ = some (.slice A ns.length cn) ∧ w'.cell? ⟨w.heap.size, 1, none⟩ = some (.int .i64 root) ∧ w'.cell? ⟨b, off + k, none⟩ = some (.int .i64 (i : Int)))
        (first
          | (go_split_ands; refine ⟨?_, ?_, ?_⟩ <;> assumption))
        (first
          | (go_at_call 39; refine (hcall.out _ hda).mono ?_; rintro e w3 ⟨os3, μ3, ⟨B3, c3, M3, d3, rfl, ho3, hn3, hi3, hm3, hb3⟩, hs3, hmo3, hok3⟩
             have q0 := (hb3.cell (p := ⟨w.heap.size, 0, none⟩) z1).trans e0; have q1 := (hb3.cell (p := ⟨w.heap.size, 1, none⟩) z1).trans e1; have q2 := (hb3.cell (p := ⟨b, off + k, none⟩) z2).trans hcx))
      have HS3 := hide (Hd.out.call ho3 hn3 hi3 hm3 hb3 hs3 hmo3 hok3)
      have HW3 := hide (HdW.out.trans (hb3.mono HdW.out.size))
      clear ho3 hn3 hi3 hm3 hb3 hs3 hmo3 hok3 Hd HdW Hsum Hmo hda hcall q0 q1 q2 e0 e1 hcx
      go_wp2
      go_roundw
      case rel => exact ⟨k + 1, B3, c3, os3, M3, d3, μ3, by omega, by go_num, rfl, rfl, HW3.out, HS3.out⟩
      case measure => simp [intOf]; omega
    · obtain rfl : k = xs.length := by omega
      have hf := hide (HS.out.gives (m := xs.length) (Nat.le_refl _))
      clear hS hbW hlr e0 e1 HS HbW hlt
      go_wp2
      go_ret2
      exact hf.out
end Go.Proofs.Ytmilbhhlbjcodab

namespace Go.Proofs.Ytmilbhhlbjcodab
open Go.RowKit
set_option linter.unusedVariables false
structure RunS (w wr : World) (q q2 : Nat) (p : ShPtr) (s : Shp) : Prop where
  bel : Below w.heap.size w wr
  box : Lies wr q (shCells p s) 62
  res : Lies wr q2 zero5 62
  own : ShOwn wr w.heap.size p s
  off : p.Off q
  off2 : p.Off q2
  h1 : w.heap.size ≤ q
  h2 : w.heap.size ≤ q2
  ne : q ≠ q2
theorem RunS.below {w wr w' : World} {q q2 : Nat} {p : ShPtr} {s : Shp} (h : RunS w wr q q2 p s) (hb : Below wr.heap.size wr w') : RunS w w' q q2 p s :=
  ⟨h.bel.trans (hb.mono h.bel.size), h.box.below hb h.box.lt, h.res.below hb h.res.lt, h.own.below hb, h.off, h.off2, h.h1, h.h2, h.ne⟩
def GivesRun (w : World) (r : Shp × Nat) (e : Ending) (w' : World) : Prop := ∃ p, e = .returned (.tuple #[shVal p r.1, .int .i64 (r.2 : Int)]) ∧ ShOwn w' w.heap.size p r.1 ∧ Below w.heap.size w w'
theorem RunS.next {w Y : World} {q q2 lo : Nat} {p p' : ShPtr} {s t : Shp} (h : RunS w Y q q2 p s) (ho : ShOwn Y lo p' t) (hq : q < lo) (hq2 : q2 < lo) :
    RunS w (set5 Y q (.slice p'.K t.kinds.length p'.c1) (.slice p'.F t.full.length p'.c2) (.slice p'.S t.stack.length p'.c3) (.slice p'.M t.memo.length p'.c4) (.bool t.done)) q q2 p' t := by
  have o1 : p'.Off q := ho.off (.inl hq)
  have o2 : p'.Off q2 := ho.off (.inl hq2)
  have hw := h.h1
  exact ⟨set5_below h.bel h.h1, (Lies.set5 h.box _ _ _ _ _).2, (set5_block h.ne.symm).trans h.res, (ho.mono (by omega)).set5 o1, o1, o2, h.h1, h.h2, h.ne⟩
theorem RunS.side {w Y : World} {q q2 nb : Nat} {p : ShPtr} {s : Shp} {v0 v1 v2 v3 v4 : Value} (h : RunS w Y q q2 p s) (ho : p.Off nb) (hw : w.heap.size ≤ nb) (hq : q ≠ nb) (hq2 : q2 ≠ nb) : RunS w (set5 Y nb v0 v1 v2 v3 v4) q q2 p s :=
  ⟨set5_below h.bel hw, (set5_block hq).trans h.box, (set5_block hq2).trans h.res, h.own.set5 ho, h.off, h.off2, h.h1, h.h2, h.ne⟩
structure RunN (w Y : World) (q q2 : Nat) (p : ShPtr) (s : Shp) (nb : Nat) (p5 : ShPtr) (s5 : Shp) (ok : Bool) (r : Option Shp) : Prop where
  run : RunS w Y q q2 p s
  box : Lies Y nb (shCells p5 s5) 62
  good : ∀ t, r = some t → ok = true ∧ s5 = t ∧ ∃ lo, ShOwn Y lo p5 t ∧ q < lo ∧ q2 < lo
  bad : r = none → ok = false
theorem RunN.mk' {w Y : World} {q q2 nb lo : Nat} {p p5 : ShPtr} {s s5 : Shp} {ok : Bool} {r : Option Shp} (h : RunS w Y q q2 p s) (hz : Lies Y nb #[.slice none 0 0, .slice none 0 0, .slice none 0 0, .slice none 0 0, .bool false] 62)
    (ho : p.Off nb) (hw : w.heap.size ≤ nb) (hq : q ≠ nb) (hq2 : q2 ≠ nb) (hl : q < lo) (hl2 : q2 < lo) (hg : ∀ t, r = some t → ok = true ∧ s5 = t ∧ ShOwn Y lo p5 t ∧ p5.Off nb) (hb : r = none → ok = false) :
    RunN w (set5 Y nb (.slice p5.K s5.kinds.length p5.c1) (.slice p5.F s5.full.length p5.c2) (.slice p5.S s5.stack.length p5.c3) (.slice p5.M s5.memo.length p5.c4) (.bool s5.done)) q q2 p s nb p5 s5 ok r :=
  ⟨h.side ho hw hq hq2, (Lies.set5 hz _ _ _ _ _).2, fun t ht => by
    obtain ⟨h1, h2, h3, h4⟩ := hg t ht
    exact ⟨h1, h2, lo, h3.set5 h4, hl, hl2⟩, hb⟩
def HeldR (q b i : Nat) (cs : Array Value) (u v : Value) (w' : World) : Prop := Lies w' q cs 62 ∧ w'.cell? ⟨b, i, none⟩ = some u ∧ w'.cell? ⟨b, i + 1, none⟩ = some v
theorem HeldR.below {q b i B : Nat} {cs : Array Value} {u v : Value} {X w' : World} (h : HeldR q b i cs u v X) (hb : Below B X w') (hq : q < B) (hbB : b < B) : HeldR q b i cs u v w' :=
  ⟨h.1.below hb hq, (hb.cell (p := ⟨b, i, none⟩) hbB).trans h.2.1, (hb.cell (p := ⟨b, i + 1, none⟩) hbB).trans h.2.2⟩
theorem HeldR.set5 {q b i nb : Nat} {cs : Array Value} {u v v0 v1 v2 v3 v4 : Value} {X : World} (h : HeldR q b i cs u v X) (hq : q ≠ nb) (hbB : b ≠ nb) : HeldR q b i cs u v (set5 X nb v0 v1 v2 v3 v4) :=
  ⟨(set5_block hq).trans h.1, (World.cell?_of_block (w := X) (set5_block hbB)).trans h.2.1, (World.cell?_of_block (w := X) (set5_block hbB)).trans h.2.2⟩
end Go.Proofs.Ytmilbhhlbjcodab

namespace Go.Proofs.Ytmilbhhlbjcodab
set_option linter.unusedVariables false
open Classical in
noncomputable def cutOf (os : List Od) : List Od := if OpsOk os then os.take (runShp Shp.new os).2 else []
theorem cutOf_ok {os : List Od} (h : OpsOk os) : cutOf os = os.take (runShp Shp.new os).2 := by unfold cutOf; rw [if_pos h]
theorem cutOf_no {os : List Od} (h : ¬ OpsOk os) : cutOf os = [] := by unfold cutOf; rw [if_neg h]
theorem runNew_le {os : List Od} (h : ∀ o ∈ os, OdOk o) : (runShp Shp.new os).1.Ok ∧ (runShp Shp.new os).1.Fits ∧ (runShp Shp.new os).2 ≤ os.length :=
  runShp_ok Shp.new_ok ⟨by simp [Shp.new], by simp [Shp.new]⟩ (fun o ho => (h o ho).get)
theorem cutOf_few {os : List Od} : (cutOf os).length ≤ 300 := by
  by_cases h : OpsOk os
  · rw [cutOf_ok h]
    have := h.1
    simp only [List.length_take]
    omega
  · rw [cutOf_no h]; simp
theorem cutOf_mem {os : List Od} : ∀ o ∈ cutOf os, OdOk o := by
  by_cases h : OpsOk os
  · rw [cutOf_ok h]
    exact fun o ho => h.2 o (List.mem_of_mem_take ho)
  · rw [cutOf_no h]; intro o ho; cases ho
def negs (l : List Int) : Nat → Nat
  | 0 => 0
  | k + 1 => negs l k + (if l.getD k 0 < 0 then 1 else 0)
theorem negs_le (l : List Int) (k : Nat) : negs l k ≤ k := by
  induction k with
  | zero => exact Nat.le_refl _
  | succ k ih => unfold negs; split <;> omega
def free : List Int → Nat
  | [] => 0
  | x :: l => if 0 ≤ x then free l + 1 else 0
theorem free_le (l : List Int) : free l ≤ l.length := by
  induction l with
  | nil => exact Nat.le_refl _
  | cons x l ih => unfold free; split <;> simp only [List.length_cons] <;> omega
theorem free_at {l : List Int} {k : Nat} (h : k < free l) : 0 ≤ l.getD k 0 := by
  induction l generalizing k with
  | nil => simp [free] at h
  | cons x l ih =>
    unfold free at h
    split at h
    · cases k with
      | zero => simpa
      | succ k => simpa using ih (k := k) (by omega)
    · omega
theorem free_stop {l : List Int} (h : free l < l.length) : l.getD (free l) 0 < 0 := by
  induction l with
  | nil => simp at h
  | cons x l ih =>
    unfold free at h ⊢
    split
    · next hx =>
      rw [if_pos hx] at h
      simpa using ih (by simpa using h)
    · next hx => simp; omega
def tailOps (l : List Int) : List Od :=
  List.replicate (negs l l.length) ⟨3, 0⟩ ++ List.replicate (free l + (if 0 < negs l l.length then 1 else 0) - 1) ⟨6, 0⟩ ++
    (if free l + (if 0 < negs l l.length then 1 else 0) = 0 then [⟨4, 0⟩] else []) ++ [⟨19, 0⟩]
theorem od_fix {c : Int} (h0 : 0 ≤ c) (h1 : c ≤ 19) (h : argMost c < 0) : OdOk ⟨c, 0⟩ := ⟨⟨h0, h1⟩, .inl ⟨h, rfl⟩⟩
theorem od_64 {o : Od} (h : OdOk o) : (-9223372036854775808 ≤ o.code ∧ o.code ≤ 9223372036854775807) ∧ (-9223372036854775808 ≤ o.arg ∧ o.arg ≤ 9223372036854775807) := by
  obtain ⟨h1, h2⟩ := h
  have := argMost_range o.code
  constructor <;> constructor <;> omega
theorem tailOps_mem (l : List Int) : ∀ o ∈ tailOps l, OdOk o := by
  have h3 : OdOk ⟨3, 0⟩ := od_fix (by omega) (by omega) (by simp [argMost])
  have h6 : OdOk ⟨6, 0⟩ := od_fix (by omega) (by omega) (by simp [argMost])
  have h4 : OdOk ⟨4, 0⟩ := od_fix (by omega) (by omega) (by simp [argMost])
  have h19 : OdOk ⟨19, 0⟩ := od_fix (by omega) (by omega) (by simp [argMost])
  intro o ho
  unfold tailOps at ho
  rcases List.mem_append.1 ho with ho | ho
  · rcases List.mem_append.1 ho with ho | ho
    · rcases List.mem_append.1 ho with ho | ho
      · rw [List.eq_of_mem_replicate ho]; exact h3
      · rw [List.eq_of_mem_replicate ho]; exact h6
    · by_cases hc : free l + (if 0 < negs l l.length then 1 else 0) = 0
      · rw [if_pos hc] at ho
        rw [List.mem_singleton.1 ho]; exact h4
      · rw [if_neg hc] at ho; cases ho
  · rw [List.mem_singleton.1 ho]; exact h19
theorem tail_a {st : List Int} {m k : Nat} (hm : m = negs st st.length) (hk : k = free st) (h0 : 0 < m) : tailOps st = (List.replicate m ⟨3, 0⟩ ++ List.replicate (k + 1 - 1) ⟨6, 0⟩) ++ [⟨19, 0⟩] := by
  unfold tailOps
  rw [← hm, ← hk, if_pos h0, if_neg (by omega), List.append_nil]
theorem tail_b {st : List Int} {m k : Nat} (hm : m = negs st st.length) (hk : k = free st) (h0 : ¬ 0 < m) (hk0 : ¬ k = 0) : tailOps st = (List.replicate m ⟨3, 0⟩ ++ List.replicate (k - 1) ⟨6, 0⟩) ++ [⟨19, 0⟩] := by
  unfold tailOps
  rw [← hm, ← hk, if_neg h0, if_neg (by omega), List.append_nil, Nat.add_zero]
theorem tail_c {st : List Int} {m : Nat} (hm : m = negs st st.length) (hk : 0 = free st) (h0 : ¬ 0 < m) : tailOps st = (List.replicate m ⟨3, 0⟩ ++ List.replicate (0 - 1) ⟨6, 0⟩ ++ [⟨4, 0⟩]) ++ [⟨19, 0⟩] := by
  unfold tailOps
  rw [← hm, ← hk, if_neg h0, if_pos (by omega), Nat.add_zero]
theorem tailOps_len (l : List Int) : (tailOps l).length ≤ 2 * l.length + 3 := by
  have h1 := negs_le l l.length
  have h2 := free_le l
  unfold tailOps
  simp only [List.length_append, List.length_replicate]
  split <;> split <;> simp <;> omega
open Classical in
noncomputable def endOf (os : List Od) : Option (List Od) :=
  if OpsOk os then
    if (runShp Shp.new os).1.done = true then some []
    else if OpsOk (os.take (runShp Shp.new os).2 ++ tailOps (runShp Shp.new os).1.stack) ∧ (runShp Shp.new (os.take (runShp Shp.new os).2 ++ tailOps (runShp Shp.new os).1.stack)).2 = (os.take (runShp Shp.new os).2 ++ tailOps (runShp Shp.new os).1.stack).length then some (tailOps (runShp Shp.new os).1.stack)
    else none
  else none
end Go.Proofs.Ytmilbhhlbjcodab

namespace Go.Proofs.Ytmilbhhlbjcodab
open Go.RowKit
set_option linter.unusedVariables false
structure FrS (w wr : World) (m n : Nat) (R : List Int) (Al : Option Addr) (cl : Nat) (ys : List Int) (Ao : Option Addr) (co : Nat) (acc : List Int) : Prop where
  bel : Below w.heap.size w wr
  rest : IntsAt w w.heap.size Al ys
  byte : ∀ x ∈ ys, 0 ≤ x ∧ x ≤ 255
  cap : ys.length ≤ cl
  few : ys.length ≤ n
  own : OwnI wr w.heap.size Ao co acc
  eq : acc ++ framed m n ys = R
  sum : acc.length + 2 * ys.length ≤ 2000
theorem FrS.mid {w wr w1 : World} {m n : Nat} {R : List Int} {Al Ao : Option Addr} {cl co : Nat} {ys acc : List Int} (h : FrS w wr m n R Al cl ys Ao co acc) (o : Obj)
    (hg : (wr.alloc o).grownBy w1 (blockOf Ao)) : Below w.heap.size w w1 :=
  below_grown (h.bel.alloc h.bel.size o) hg (by have := h.bel.size; simp; omega) (fun k hk => (h.own.blocks k hk).1)
theorem FrS.step {w wr w1 w2 : World} {m n z : Nat} {R : List Int} {Al Al' Ao A1 A2 : Option Addr} {cl co c1 c2 : Nat} {ys acc zs1 zs2 : List Int} (h : FrS w wr m n R Al cl ys Ao co acc) (o : Obj)
    (hm : 1 ≤ m) (hy : 0 < ys.length) (hz : z = min m ys.length)
    (hg1 : (wr.alloc o).grownBy w1 (blockOf Ao)) (e1 : zs1 = acc ++ [(z : Int)]) (own1 : OwnI w1 w.heap.size A1 c1 zs1)
    (hg2 : w1.grownBy w2 (blockOf A1)) (e2 : zs2 = zs1 ++ ys.take z) (own2 : OwnI w2 w.heap.size A2 c2 zs2) (hr : IntsAt w w.heap.size Al' (ys.drop z)) :
    FrS w w2 m n R Al' (cl - z) (ys.drop z) A2 c2 zs2 := by
  have hmid := h.mid o hg1
  refine ⟨below_grown hmid hg2 hmid.size (fun k hk => (own1.blocks k hk).1), hr, fun x hx => h.byte x (List.mem_of_mem_drop hx), ?_, ?_, own2, ?_, ?_⟩
  · have := h.cap; simp; omega
  · have := h.few; simp; omega
  · rw [e2, e1, ← h.eq, framed_step hm (List.length_pos_iff.1 hy) h.few, ← hz]
    have : ys.take z = ys.take m := by
      rw [hz]
      rcases Nat.le_total m ys.length with h1 | h1
      · rw [Nat.min_eq_left h1]
      · rw [Nat.min_eq_right h1, List.take_of_length_le (Nat.le_refl _), List.take_of_length_le h1]
    have h3 : ys.drop z = ys.drop m := by
      rw [hz]
      rcases Nat.le_total m ys.length with h1 | h1
      · rw [Nat.min_eq_left h1]
      · rw [Nat.min_eq_right h1, List.drop_eq_nil_of_le (Nat.le_refl _), List.drop_eq_nil_of_le h1]
    rw [this, h3]
    simp
  · have := h.sum
    rw [e2, e1]
    simp only [List.length_append, List.length_take, List.length_drop, List.length_cons, List.length_nil]
    omega
set_option maxRecDepth 100000 in
set_option maxHeartbeats 1000000 in
theorem implFrameBytes_any (A : Option Addr) (xs : List Int) (c : Nat) (m : Int) (w : World) (h : IntsAt w w.heap.size A xs) (hnil : A = none → c = 0) (hc : xs.length ≤ c) :
    Calls Try.prog 9 #[.slice A xs.length c, .int .i64 m] w (GivesInts w (frameOf xs m)) := by
  by_cases hok : BytesOk 1000 xs
  · by_cases hmm : 1 ≤ m ∧ m ≤ 200
    · obtain ⟨q, rfl⟩ := Int.eq_ofNat_of_zero_le (show 0 ≤ m by omega)
      rw [frameOf_ok hok hmm.1 hmm.2]
      have hq1 : 1 ≤ q := by omega
      have hq2 : q ≤ 200 := by omega
      have ht := hide (tf_true hok)
      have hl := hok.1
      have HS0 := hide (show FrS w w q xs.length (framed q xs.length xs) A c xs none 0 [] from ⟨Below.refl _ _, h, hok.2, hc, Nat.le_refl _, OwnI.empty _ _, rfl, by simp; omega⟩)
      obtain ⟨R, hR⟩ : ∃ R, R = framed q xs.length xs := ⟨_, rfl⟩
      have HR := hide hR
      rw [Int.toNat_natCast]
      rw [← hR] at HS0 ⊢
      clear hok hR hnil
      go_enter Try.func9, Try.ntmps9
      go_wp2_with fail
      refine (areBytes_any A xs c 1000 w h (by omega)).mono ?_
      rintro e w' ⟨rfl, rfl⟩
      rw [ht.out]
      go_wp2_with fail
      refine (isFrameSize_yes (q : Int) w hmm.1 hmm.2).mono ?_
      rintro e w' ⟨rfl, rfl⟩
      clear hmm
      go_wp2_with fail
      go_loopg [0, 5, 6] xs.length (fun gk lv ov _ wr => ∃ (Al : Option Addr) (cl : Nat) (ys : List Int) (Ao : Option Addr) (co : Nat) (acc : List Int), gk = ys.length ∧ lv = .slice Al ys.length cl ∧ ov = .slice Ao acc.length co ∧ FrS w wr q xs.length R Al cl ys Ao co acc)
      case atStart => exact ⟨A, c, xs, none, 0, [], rfl, rfl, rfl, HS0.out⟩
      case round =>
        clear HS0 h
        obtain ⟨Al, cl, ys, Ao, co, acc, rfl, rfl, rfl, hS⟩ := hrel
        have HS := hide hS
        have hys := hS.few
        have hcl := hS.cap
        by_cases hlt : 0 < ys.length
        · obtain ⟨b, off, y0, rfl, hbl, _, _, _⟩ := hS.rest.at_ hlt
          have hsum := hS.sum
          have hbs := hS.bel.size
          clear hS
          by_cases hq : ys.length < q
          · have HZ : Hid (ys.length = min q ys.length) := hide (by omega)
            have HT : Hid ((ys.take ys.length).length = ys.length) := hide (by simp)
            have hz : True := trivial
            by_cases hcz : cl = ys.length
            · subst hcz
              have HSub : Hid (IntsAt w w.heap.size (some ⟨b, off, none⟩) (ys.drop ys.length)) := hide (by rw [List.drop_eq_nil_of_le (by omega)]; exact IntsAt.empt _)
              clear hz
              go_wp2_with (at_builtin; first
                | (refine append_ints rfl (.tmp 22) (.tmp 24) rfl w.heap.size Ao co acc rfl (HS.out.own.alloc _) _ _ 1 [(ys.length : Int)] rfl (fun e => by cases e) (IntsAt.one wr _ (by constructor <;> omega)) (by simp; omega) (by simp; omega) ?_; intro zs1 A1 c1 w1 e1 own1 hg1 _; have HM := hide (HS.out.mid _ hg1); have hz1 : zs1.length ≤ 2000 := (by rw [e1]; simp; omega); have HG1 := hide hg1; have HO1 := hide own1; clear hg1 own1)
                | (refine append_ints rfl (.tmp 26) (.tmp 29) rfl w.heap.size A1 c1 zs1 rfl HO1.out w.heap.size _ _ (ys.take ys.length) (by rw [HT.out]; rfl) (fun e => by cases e) ((HS.out.rest.below HM.out).upto _) (by rw [HT.out]; omega) HM.out.size ?_; intro zs2 A2 c2 w2 e2 own2 hg2 _; have HG2 := hide hg2; have HO2 := hide own2; clear hg2 own2))
              go_roundg (ys.drop ys.length).length
              case measure => simp; omega
              case rel => exact ⟨some ⟨b, off, none⟩, ys.length - ys.length, ys.drop ys.length, A2, c2, zs2, rfl, by simp <;> omega, rfl, HS.out.step _ hq1 hlt HZ.out HG1.out e1 HO1.out HG2.out e2 HO2.out HSub.out⟩
            · have hcz2 : ¬ ys.length = cl := fun e => hcz e.symm
              have HSub : Hid (IntsAt w w.heap.size (some ⟨b, off + ys.length, none⟩) (ys.drop ys.length)) := hide (by rw [List.drop_eq_nil_of_le (by omega)]; exact IntsAt.empt _)
              clear hz
              go_wp2_with (at_builtin; first
                | (refine append_ints rfl (.tmp 22) (.tmp 24) rfl w.heap.size Ao co acc rfl (HS.out.own.alloc _) _ _ 1 [(ys.length : Int)] rfl (fun e => by cases e) (IntsAt.one wr _ (by constructor <;> omega)) (by simp; omega) (by simp; omega) ?_; intro zs1 A1 c1 w1 e1 own1 hg1 _; have HM := hide (HS.out.mid _ hg1); have hz1 : zs1.length ≤ 2000 := (by rw [e1]; simp; omega); have HG1 := hide hg1; have HO1 := hide own1; clear hg1 own1)
                | (refine append_ints rfl (.tmp 26) (.tmp 29) rfl w.heap.size A1 c1 zs1 rfl HO1.out w.heap.size _ _ (ys.take ys.length) (by rw [HT.out]; rfl) (fun e => by cases e) ((HS.out.rest.below HM.out).upto _) (by rw [HT.out]; omega) HM.out.size ?_; intro zs2 A2 c2 w2 e2 own2 hg2 _; have HG2 := hide hg2; have HO2 := hide own2; clear hg2 own2))
              go_roundg (ys.drop ys.length).length
              case measure => simp; omega
              case rel => exact ⟨some ⟨b, off + ys.length, none⟩, cl - ys.length, ys.drop ys.length, A2, c2, zs2, rfl, by simp <;> omega, rfl, HS.out.step _ hq1 hlt HZ.out HG1.out e1 HO1.out HG2.out e2 HO2.out HSub.out⟩
          · have hq' : q ≤ ys.length := by omega
            have HZ : Hid (q = min q ys.length) := hide (by omega)
            have HT : Hid ((ys.take q).length = q) := hide (by simp; omega)
            have hz : True := trivial
            by_cases hcz : cl = q
            · subst hcz
              have HSub : Hid (IntsAt w w.heap.size (some ⟨b, off, none⟩) (ys.drop cl)) := hide (by rw [List.drop_eq_nil_of_le (by omega)]; exact IntsAt.empt _)
              clear hz
              go_wp2_with (at_builtin; first
                | (refine append_ints rfl (.tmp 22) (.tmp 24) rfl w.heap.size Ao co acc rfl (HS.out.own.alloc _) _ _ 1 [(cl : Int)] rfl (fun e => by cases e) (IntsAt.one wr _ (by constructor <;> omega)) (by simp; omega) (by simp; omega) ?_; intro zs1 A1 c1 w1 e1 own1 hg1 _; have HM := hide (HS.out.mid _ hg1); have hz1 : zs1.length ≤ 2000 := (by rw [e1]; simp; omega); have HG1 := hide hg1; have HO1 := hide own1; clear hg1 own1)
                | (refine append_ints rfl (.tmp 26) (.tmp 29) rfl w.heap.size A1 c1 zs1 rfl HO1.out w.heap.size _ _ (ys.take cl) (by rw [HT.out]; rfl) (fun e => by cases e) ((HS.out.rest.below HM.out).upto _) (by rw [HT.out]; omega) HM.out.size ?_; intro zs2 A2 c2 w2 e2 own2 hg2 _; have HG2 := hide hg2; have HO2 := hide own2; clear hg2 own2))
              go_roundg (ys.drop cl).length
              case measure => simp; omega
              case rel => exact ⟨some ⟨b, off, none⟩, cl - cl, ys.drop cl, A2, c2, zs2, rfl, by simp <;> omega, rfl, HS.out.step _ hq1 hlt HZ.out HG1.out e1 HO1.out HG2.out e2 HO2.out HSub.out⟩
            · have hcz2 : ¬ q = cl := fun e => hcz e.symm
              clear hz
              go_wp2_with (at_builtin; first
                | (refine append_ints rfl (.tmp 22) (.tmp 24) rfl w.heap.size Ao co acc rfl (HS.out.own.alloc _) _ _ 1 [(q : Int)] rfl (fun e => by cases e) (IntsAt.one wr _ (by constructor <;> omega)) (by simp; omega) (by simp; omega) ?_; intro zs1 A1 c1 w1 e1 own1 hg1 _; have HM := hide (HS.out.mid _ hg1); have hz1 : zs1.length ≤ 2000 := (by rw [e1]; simp; omega); have HG1 := hide hg1; have HO1 := hide own1; clear hg1 own1)
                | (refine append_ints rfl (.tmp 26) (.tmp 29) rfl w.heap.size A1 c1 zs1 rfl HO1.out w.heap.size _ _ (ys.take q) (by rw [HT.out]; rfl) (fun e => by cases e) ((HS.out.rest.below HM.out).upto _) (by rw [HT.out]; omega) HM.out.size ?_; intro zs2 A2 c2 w2 e2 own2 hg2 _; have HG2 := hide hg2; have HO2 := hide own2; clear hg2 own2))
              go_roundg (ys.drop q).length
              case measure => simp; omega
              case rel => exact ⟨some ⟨b, off + q, none⟩, cl - q, ys.drop q, A2, c2, zs2, rfl, by simp <;> omega, rfl, HS.out.step _ hq1 hlt HZ.out HG1.out e1 HO1.out HG2.out e2 HO2.out (HS.out.rest.behind q)⟩
        · obtain rfl : ys = [] := List.eq_nil_of_length_eq_zero (by omega)
          have hE : acc = R := by have := hS.eq; rw [framed_nil, List.append_nil] at this; exact this
          subst hE
          clear hS hlt
          go_wp2
          go_ret
          exact ⟨Ao, co, rfl, HS.out.own, HS.out.bel⟩
    · rw [frameOf_no (fun h => hmm h.2)]
      have ht := hide (tf_true hok)
      clear hok
      go_enter Try.func9, Try.ntmps9
      go_wp2_with fail
      refine (areBytes_any A xs c 1000 w h (by omega)).mono ?_
      rintro e w' ⟨rfl, rfl⟩
      rw [ht.out]
      go_wp2_with fail
      refine (isFrameSize_no m w hmm).mono ?_
      rintro e w' ⟨rfl, rfl⟩
      clear hmm
      go_wp2
      go_ret
      exact ⟨none, 0, rfl, OwnI.empty _ _, Below.refl _ _⟩
  · rw [frameOf_no (fun h => hok h.1)]
    have ht := hide (tf_false hok)
    clear hok
    go_enter Try.func9, Try.ntmps9
    go_wp2_with fail
    refine (areBytes_any A xs c 1000 w h (by omega)).mono ?_
    rintro e w' ⟨rfl, rfl⟩
    rw [ht.out]
    go_wp2
    go_ret
    exact ⟨none, 0, rfl, OwnI.empty _ _, Below.refl _ _⟩
end Go.Proofs.Ytmilbhhlbjcodab

namespace Go.Proofs.Ytmilbhhlbjcodab
set_option linter.unusedVariables false
theorem unfr_framed {m : Nat} (h1 : 1 ≤ m) (h2 : m ≤ 200) : ∀ (f g : Nat) (xs : List Int), xs.length ≤ f → (framed m f xs).length ≤ g → unfr g (framed m f xs) = (xs, (framed m f xs).length)
  | 0, g, xs, hf, _ => by
    obtain rfl : xs = [] := List.eq_nil_of_length_eq_zero (by omega)
    rw [framed_nil, unfr_nil]
    rfl
  | f + 1, g, xs, hf, hg => by
    by_cases hx : xs = []
    · subst hx
      rw [framed_nil, unfr_nil]
      rfl
    · have hl : 0 < xs.length := List.length_pos_iff.2 hx
      have hw : framed m (f + 1) xs = ((min m xs.length : Nat) : Int) :: (xs.take m ++ framed m f (xs.drop m)) := by simp only [framed, if_neg hx]
      have ht : (xs.take m).length = min m xs.length := List.length_take
      rw [hw] at hg ⊢
      rw [List.length_cons, List.length_append, ht] at hg
      cases g with
      | zero => omega
      | succ g =>
        have ih := unfr_framed h1 h2 f g (xs.drop m) (by simp; omega) (by omega)
        have hn : (((min m xs.length : Nat) : Int)).toNat = min m xs.length := Int.toNat_natCast _
        have ha : (xs.take m ++ framed m f (xs.drop m)).take (min m xs.length) = xs.take m := List.take_left' ht
        have hb : (xs.take m ++ framed m f (xs.drop m)).drop (min m xs.length) = framed m f (xs.drop m) := List.drop_left' ht
        simp only [unfr]
        rw [hn, ha, hb, ih, if_pos ⟨by omega, by omega, by rw [List.length_append, ht]; omega⟩]
        simp only [List.take_append_drop, List.length_cons, List.length_append, ht]
        congr 1
        omega
theorem framed_length {m : Nat} (h1 : 1 ≤ m) : ∀ (f : Nat) (xs : List Int), xs.length ≤ f → (framed m f xs).length = xs.length + (xs.length + m - 1) / m
  | 0, xs, hf => by
    obtain rfl : xs = [] := List.eq_nil_of_length_eq_zero (by omega)
    rw [framed_nil]
    have : (0 + m - 1) / m = 0 := Nat.div_eq_of_lt (by omega)
    simp only [List.length_nil, this]
  | f + 1, xs, hf => by
    by_cases hx : xs = []
    · subst hx
      rw [framed_nil]
      have : (0 + m - 1) / m = 0 := Nat.div_eq_of_lt (by omega)
      simp only [List.length_nil, this]
    · have hl : 0 < xs.length := List.length_pos_iff.2 hx
      have ih := framed_length h1 f (xs.drop m) (by simp; omega)
      have hd : (xs.drop m).length = xs.length - m := List.length_drop
      simp only [framed, if_neg hx, List.length_cons, List.length_append, List.length_take, ih, hd]
      by_cases hlm : xs.length ≤ m
      · have e1 : xs.length - m = 0 := by omega
        have e2 : (0 + m - 1) / m = 0 := Nat.div_eq_of_lt (by omega)
        have e3 : (xs.length + m - 1) / m = 1 := by
          have e4 : xs.length + m - 1 = (xs.length - 1) + m := by omega
          rw [e4, Nat.add_div_right _ (by omega), Nat.div_eq_of_lt (by omega)]
        rw [e1, e2, e3]
        omega
      · have e1 : xs.length - m + m - 1 = xs.length - 1 := by omega
        have e3 : (xs.length + m - 1) / m = (xs.length - 1) / m + 1 := by
          have e4 : xs.length + m - 1 = (xs.length - 1) + m := by omega
          rw [e4, Nat.add_div_right _ (by omega)]
        rw [e1, e3]
        omega
theorem frame_whole {xs : List Int} {m : Int} (h0 : BytesOk 1000 xs) (h1 : 1 ≤ m) (h2 : m ≤ 200) :
    UnfOk (frameOf xs m) ∧ unfAll (frameOf xs m) = xs ∧ ((frameOf xs m).length : Int) = xs.length + (xs.length + m - 1) / m := by
  have hb := frameOf_byte xs m
  have hf := frameOf_few xs m
  rw [frameOf_ok h0 h1 h2] at hb hf ⊢
  have hk := unfr_framed (m := m.toNat) (by omega) (by omega) xs.length (framed m.toNat xs.length xs).length xs (Nat.le_refl _) (Nat.le_refl _)
  have hu : UnfOk (framed m.toNat xs.length xs) := ⟨⟨hf, hb⟩, by rw [hk]⟩
  refine ⟨hu, by rw [unfAll_ok hu, hk], ?_⟩
  rw [framed_length (by omega) _ _ (Nat.le_refl _)]
  clear hk hu hb hf
  obtain ⟨k, rfl⟩ : ∃ k : Nat, m = (k : Int) := ⟨m.toNat, by omega⟩
  have e1 : (xs.length : Int) + (k : Int) - 1 = ((xs.length + k - 1 : Nat) : Int) := by omega
  rw [e1, Int.toNat_natCast, Int.natCast_add, Int.natCast_ediv]
theorem unf_torn {xs : List Int} (h : UnfOk xs) : unfrSize xs = xs.length ∧ unfrBytes xs = unfAll xs := by
  rw [unfrSize_ok h.1, unfrBytes_ok h.1, unfAll_ok h, h.2]
  exact ⟨rfl, rfl⟩
theorem unf_less {xs : List Int} (h : ¬ UnfOk xs) : unfrSize xs < xs.length := by
  by_cases hb : BytesOk 2000 xs
  · rw [unfrSize_ok hb]
    have h1 := (unfr_le xs.length xs).1
    have h2 : (unfr xs.length xs).2 ≠ xs.length := fun e => h ⟨hb, e⟩
    omega
  · rw [unfrSize_no hb]
    omega
end Go.Proofs.Ytmilbhhlbjcodab
