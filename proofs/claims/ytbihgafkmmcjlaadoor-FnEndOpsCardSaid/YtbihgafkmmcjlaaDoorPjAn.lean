/-
  Lemmas, several texts in one: SavM, Memod, SavB, SavA, EgM.
-/
import Derived.Test.YtbihgafkmmcjlaaDoorSomeGraph
import Derived.Test.YtbihgafkmmcjlaaDoorPjAh
import Derived.Test.YtbihgafkmmcjlaaDoorPjAc
import Derived.Test.YtbihgafkmmcjlaaDoorPjAd
import Derived.Deep.LoopGhost
import Derived.Deep.Cut
import Derived.Deep.RegionHeld3
import Derived.Test.YtbihgafkmmcjlaaDoorPjAj
import Derived.Test.YtbihgafkmmcjlaaDoorPjAg
namespace Go.Proofs.YtbihgafkmmcjlaaDoor
set_option linter.unusedVariables false
theorem cntLt {p q : Nat → Bool} : ∀ {l : List Nat}, (∀ a ∈ l, p a = true → q a = true) → (∃ a ∈ l, q a = true ∧ p a = false) → l.countP p + 1 ≤ l.countP q
  | [], _, h => by obtain ⟨a, h, _⟩ := h; cases h
  | b :: l, hpq, h => by
    have hle : l.countP p ≤ l.countP q := List.countP_mono_left fun a ha => hpq a (by simp [ha])
    rw [List.countP_cons, List.countP_cons]
    obtain ⟨a, ha, hqa, hpa⟩ := h
    rcases List.mem_cons.1 ha with rfl | ha
    · simp [hqa, hpa]; omega
    · have := cntLt (p := p) (q := q) (fun a ha => hpq a (by simp [ha])) ⟨a, ha, hqa, hpa⟩
      have hb := hpq b (by simp)
      cases hpb : p b
      · simp; split <;> omega
      · simp [hb hpb]; omega
theorem cntSplit {p q s : Nat → Bool} : ∀ (l : List Nat), (∀ a, p a = true ↔ q a = true ∨ s a = true) → (∀ a, q a = true → s a = true → False) → l.countP p = l.countP q + l.countP s
  | [], _, _ => rfl
  | b :: l, h, hd => by
    rw [List.countP_cons, List.countP_cons, List.countP_cons, cntSplit l h hd]
    have h1 := h b
    have h2 := hd b
    cases hp : p b <;> cases hq : q b <;> cases hs : s b <;> simp [hp, hq, hs] at h1 h2 ⊢ <;> omega
theorem tfIff {p : Prop} : tf p = true ↔ p := ⟨tf_yes, tf_true⟩
noncomputable def rk (ns : List Nd) (x : Int) : Nat := (List.range ns.length).countP fun (i : Nat) => tf (TReach ns x (i : Int))
theorem rk_le (ns : List Nd) (x : Int) : rk ns x ≤ ns.length := by
  unfold rk
  exact Nat.le_trans List.countP_le_length (by simp)
theorem TReach.pre {ns : List Nd} {i k x : Int} (hk : k ∈ kidsOf ns i) (h2 : kindOf ns k = 2) (h : TReach ns k x) : TReach ns i x := by
  induction h with
  | kid x hx => exact .step k x (.kid k hk) h2 hx
  | step y x _ h3 hx ih => exact .step y x ih h3 hx
theorem rk_kid {ns : List Nd} (hs : Sav ns) {i : Int} {k : Nat} (hkl : k < ns.length) (hk : (k : Int) ∈ kidsOf ns i) (h2 : kindOf ns (k : Int) = 2) : rk ns (k : Int) + 1 ≤ rk ns i := by
  have hn : ¬ TReach ns (k : Int) (k : Int) := by
    have hx : ns[k]? = some ns[k] := List.getElem?_eq_getElem hkl
    exact hs.tuples k _ hx (by rw [← kindOf_at hx]; exact h2)
  exact cntLt (fun a _ h => tf_true (.pre hk h2 (tf_yes h))) ⟨k, List.mem_range.2 hkl, tf_true (.kid _ hk), tf_false hn⟩
noncomputable def Lc (ns : List Nd) (μ : List Int) : Nat := (List.range ns.length).countP fun (i : Nat) => tf (μ.getD i 0 < 0 ∧ kindOf ns (i : Int) ≠ 2)
noncomputable def Bc (ns : List Nd) (μ : List Int) (r : Nat) : Nat := (List.range ns.length).countP fun (i : Nat) => tf (μ.getD i 0 < 0 ∧ kindOf ns (i : Int) = 2 ∧ rk ns (i : Int) < r)
noncomputable def Phi (ns : List Nd) (μ : List Int) (r : Nat) : Nat := 134 * Lc ns μ + 10 * Bc ns μ r
def Mo (μ μ' : List Int) : Prop := μ'.length = μ.length ∧ ∀ i, μ'.getD i 0 < 0 → μ.getD i 0 < 0
theorem Mo.refl (μ : List Int) : Mo μ μ := ⟨rfl, fun _ h => h⟩
theorem Mo.trans {a b c : List Int} (h : Mo a b) (k : Mo b c) : Mo a c := ⟨k.1.trans h.1, fun i hi => h.2 i (k.2 i hi)⟩
theorem Mo.set (μ : List Int) (i : Nat) {v : Int} (hv : 0 ≤ v) : Mo μ (μ.set i v) := by
  refine ⟨by simp, fun j hj => ?_⟩
  rw [List.getD_eq_getElem?_getD, List.getElem?_set] at hj
  rw [List.getD_eq_getElem?_getD]
  split at hj
  · split at hj
    · simp at hj; omega
    · simp at hj
  · exact hj
theorem getD_set_self {μ : List Int} {i : Nat} (hi : i < μ.length) (v : Int) : (μ.set i v).getD i 0 = v := by
  rw [List.getD_eq_getElem?_getD, List.getElem?_set, if_pos rfl, if_pos hi]; rfl
theorem Lc_mono {ns : List Nd} {μ μ' : List Int} (h : Mo μ μ') : Lc ns μ' ≤ Lc ns μ :=
  List.countP_mono_left fun a _ ha => by
    have := tf_yes ha
    exact tf_true ⟨h.2 a this.1, this.2⟩
theorem Bc_mono {ns : List Nd} {μ μ' : List Int} (h : Mo μ μ') (r : Nat) : Bc ns μ' r ≤ Bc ns μ r :=
  List.countP_mono_left fun a _ ha => by
    have := tf_yes ha
    exact tf_true ⟨h.2 a this.1, this.2⟩
theorem Bc_rank (ns : List Nd) (μ : List Int) {r s : Nat} (h : r ≤ s) : Bc ns μ r ≤ Bc ns μ s :=
  List.countP_mono_left fun a _ ha => by
    have := tf_yes ha
    exact tf_true ⟨this.1, this.2.1, Nat.lt_of_lt_of_le this.2.2 h⟩
theorem Bc_le (ns : List Nd) (μ : List Int) (r : Nat) : Bc ns μ r ≤ ns.length := Nat.le_trans List.countP_le_length (by simp)
theorem Lc_le (ns : List Nd) (μ : List Int) : Lc ns μ ≤ ns.length := Nat.le_trans List.countP_le_length (by simp)
theorem Phi_le {ns : List Nd} (h12 : ns.length ≤ 12) (μ : List Int) (r : Nat) : Phi ns μ r ≤ 1728 := by
  have := Lc_le ns μ
  have := Bc_le ns μ r
  unfold Phi
  omega
theorem Lc_less {ns : List Nd} {μ μ' : List Int} {a : Nat} (h : Mo μ μ') (ha : a < ns.length) (h1 : μ.getD a 0 < 0) (h2 : 0 ≤ μ'.getD a 0) (hk : kindOf ns (a : Int) ≠ 2) : Lc ns μ' + 1 ≤ Lc ns μ :=
  cntLt (fun b _ hb => by
    have := tf_yes hb
    exact tf_true ⟨h.2 b this.1, this.2⟩) ⟨a, List.mem_range.2 ha, tf_true ⟨h1, hk⟩, tf_false fun h3 => by omega⟩
theorem Bc_gap {ns : List Nd} {μ μ' : List Int} {a r s : Nat} (h : Mo μ μ') (ha : a < ns.length) (h1 : μ.getD a 0 < 0) (h2 : 0 ≤ μ'.getD a 0) (hk : kindOf ns (a : Int) = 2) (hs : s ≤ rk ns (a : Int)) (hr : rk ns (a : Int) < r) :
    Bc ns μ' r + Bc ns μ s + 1 ≤ Bc ns μ r + Bc ns μ' s := by
  have split : ∀ ν : List Int, Bc ns ν r = Bc ns ν s + (List.range ns.length).countP fun (i : Nat) => tf (ν.getD i 0 < 0 ∧ kindOf ns (i : Int) = 2 ∧ s ≤ rk ns (i : Int) ∧ rk ns (i : Int) < r) := by
    intro ν
    refine cntSplit _ (fun b => ?_) (fun b h1 h2 => ?_)
    · rw [tfIff, tfIff, tfIff]
      constructor
      · rintro ⟨x, y, z⟩
        by_cases hb : rk ns (b : Int) < s
        · exact .inl ⟨x, y, hb⟩
        · exact .inr ⟨x, y, by omega, z⟩
      · rintro (⟨x, y, z⟩ | ⟨x, y, z, u⟩)
        · exact ⟨x, y, by omega⟩
        · exact ⟨x, y, u⟩
    · have a1 := tf_yes h1
      have a2 := tf_yes h2
      omega
  rw [split μ, split μ']
  have := cntLt (p := fun (i : Nat) => tf (μ'.getD i 0 < 0 ∧ kindOf ns (i : Int) = 2 ∧ s ≤ rk ns (i : Int) ∧ rk ns (i : Int) < r)) (q := fun (i : Nat) => tf (μ.getD i 0 < 0 ∧ kindOf ns (i : Int) = 2 ∧ s ≤ rk ns (i : Int) ∧ rk ns (i : Int) < r)) (l := List.range ns.length)
    (fun b _ hb => by
      have h3 := tf_yes hb
      exact tf_true ⟨h.2 b h3.1, h3.2⟩) ⟨a, List.mem_range.2 ha, tf_true ⟨h1, hk, hs, hr⟩, tf_false fun h3 => by omega⟩
  omega
theorem phi_node {ns : List Nd} (h12 : ns.length ≤ 12) {μ μ1 μ2 : List Int} {a r x y : Nat} (h : Mo μ μ1) (h' : Mo μ1 μ2) (ha : a < ns.length) (h1 : μ.getD a 0 < 0) (h2 : 0 ≤ μ1.getD a 0) (hk : kindOf ns (a : Int) ≠ 2) (hr : r ≤ 13)
    (hx : x + Phi ns μ2 13 ≤ y + Phi ns μ1 13) : x + Phi ns μ2 r + 14 ≤ y + Phi ns μ r := by
  have l1 := Lc_less h ha h1 h2 hk
  have b1 := Bc_le ns μ1 13
  have b2 := Bc_rank ns μ2 hr
  unfold Phi at hx ⊢
  omega
theorem phi_tuple {ns : List Nd} {μ μ' μf : List Int} {a r x y : Nat} (h : Mo μ μ') (h' : Mo μ' μf) (ha : a < ns.length) (h1 : μ.getD a 0 < 0) (h2 : 0 ≤ μf.getD a 0) (hk : kindOf ns (a : Int) = 2) (hr : rk ns (a : Int) < r)
    (hx : x + Phi ns μ' (rk ns (a : Int)) ≤ y + Phi ns μ (rk ns (a : Int))) : x + Phi ns μf r + 10 ≤ y + Phi ns μ r := by
  have l1 := Lc_mono (ns := ns) h'
  have b1 := Bc_mono (ns := ns) h' (rk ns (a : Int))
  have g := Bc_gap (h.trans h') ha h1 h2 hk (Nat.le_refl _) hr
  unfold Phi at hx ⊢
  omega
end Go.Proofs.YtbihgafkmmcjlaaDoor

namespace Go.Proofs.YtbihgafkmmcjlaaDoor
open Go.RowKit
set_option linter.unusedVariables false
def takenTo (l : List Int) : Nat → Nat
  | 0 => 0
  | k + 1 => takenTo l k + (if 0 ≤ l.getD k 0 then 1 else 0)
theorem takenTo_le (l : List Int) (k : Nat) : takenTo l k ≤ k := by
  induction k with
  | zero => exact Nat.le_refl _
  | succ k ih => unfold takenTo; split <;> omega
def GivesSave (w : World) (os : List Od) (μ : List Int) (e : Ending) (w' : World) : Prop :=
  ∃ A c M d, e = .returned (.tuple #[.slice A os.length c, .slice M μ.length d]) ∧ OpsAt w' w'.heap.size A os ∧ (A = none → c = 0) ∧ IntsAt w' w'.heap.size M μ ∧ (M = none → d = 0) ∧ Below w.heap.size w w'
def memoOps (os : List Od) (μ : List Int) : List Od := os ++ [⟨15, (takenTo μ μ.length : Int)⟩]
def memoSet (μ : List Int) (i : Nat) : List Int := μ.set i (takenTo μ μ.length : Int)
set_option maxRecDepth 100000 in
set_option maxHeartbeats 2000000 in
theorem memoed_any (A : Option Addr) (os : List Od) (c : Nat) (M : Option Addr) (μ : List Int) (d i : Nat) (w : World) (h : OpsAt w w.heap.size A os) (hn : A = none → c = 0) (h2 : IntsAt w w.heap.size M μ) (hn2 : M = none → d = 0)
    (hl : os.length ≤ 7000000) (hm : μ.length ≤ 100) (hi : i < μ.length) (hμ : ∀ x ∈ μ, -1 ≤ x ∧ x ≤ 100) :
    Calls Tryd.prog 55 #[.slice A os.length c, .slice M μ.length d, .int .i64 (i : Int)] w (GivesSave w (memoOps os μ) (memoSet μ i)) := by
  have Hn := hide hn
  have Hn2 := hide hn2
  have Hμ := hide hμ
  clear hn hn2 hμ
  go_enter Tryd.func55, Tryd.ntmps55
  go_wp2_with fail
  go_loop [8, 9] (fun nv iv => ∃ k : Nat, k ≤ μ.length ∧ iv = .int .i64 (k : Int) ∧ nv = .int .i64 (takenTo μ k : Int)) (fun _ iv => μ.length - (intOf iv).toNat)
  case atStart => exact ⟨0, Nat.zero_le _, rfl, rfl⟩
  case round =>
    obtain ⟨k, hk, rfl, rfl⟩ := hrel
    have htk := takenTo_le μ k
    by_cases hlt : k < μ.length
    · obtain ⟨b, off, x, rfl, hbl, hx, _, hcx⟩ := h2.at_ hlt
      have hgx : μ.getD k 0 = x := by rw [List.getD_eq_getElem?_getD, hx]; rfl
      have hk1 : (0 : Int) ≤ (k : Int) := by omega
      have hk2 : (k : Int) < (μ.length : Int) := by omega
      by_cases hp : 0 ≤ x
      · have HT : Hid (takenTo μ (k + 1) = takenTo μ k + 1) := hide (by show takenTo μ k + _ = _; rw [hgx, if_pos hp])
        clear hx hgx
        generalize takenTo μ k = m at htk HT
        have dx : decide (0 ≤ x) = true := by simpa using hp
        go_wp2
        go_round
        case rel => exact ⟨k + 1, by omega, by go_num, by rw [HT.out]; go_num⟩
        case measure => simp [intOf]; omega
      · have HT : Hid (takenTo μ (k + 1) = takenTo μ k) := hide (by show takenTo μ k + _ = _; rw [hgx, if_neg hp]; rfl)
        clear hx hgx
        generalize takenTo μ k = m at htk HT
        have dx : decide (0 ≤ x) = false := by simpa using hp
        go_wp2
        go_round
        case rel => exact ⟨k + 1, by omega, by go_num, by rw [HT.out]⟩
        case measure => simp [intOf]; omega
    · obtain rfl : k = μ.length := by omega
      clear hlt
      obtain ⟨m, hmd⟩ : ∃ m, m = takenTo μ μ.length := ⟨_, rfl⟩
      rw [← hmd] at htk ⊢
      have Hm := hide hmd
      clear hmd
      go_wp2_with fail
      refine (copyInts_any M μ d w h2 Hn2.out (by omega)).mono ?_
      rintro e w1 ⟨M1, d1, rfl, ho1, hb1⟩
      rcases ho1.form with ⟨_, _, e0⟩ | ⟨g, rfl, hg1, hg2⟩
      · rw [e0] at hi; simp at hi
      · have HO1 := hide ho1
        have HB1 := hide hb1
        have hfr := ho1.frozenAt i
        obtain ⟨y, hy⟩ : ∃ y, μ[i]? = some y := ⟨_, List.getElem?_eq_getElem hi⟩
        have hcy : w1.cell? ⟨g, i, none⟩ = some (.int .i64 y) := ho1.cellAt hy
        have HO2 := hide (ho1.set i (m : Int))
        have HB2 := hide (hb1.setCell (p := ⟨g, i, none⟩) hg1 (.int .i64 (m : Int)))
        clear ho1 hb1 hy
        have hi1 : (0 : Int) ≤ (i : Int) := by omega
        have hi2 : (i : Int) < (μ.length : Int) := by omega
        go_upto_region 9 with fail
        clear hcy hfr
        generalize w1.setCell ⟨g, i, none⟩ (.int .i64 (m : Int)) = w2 at HO2 HB2 ⊢
        have lo := Lies.new w2 #[.int .i64 15, .int .i64 (m : Int)] 42
        have hb3 := (Below.refl w2.heap.size w2).alloc (Nat.le_refl _) (.cells #[.int .i64 15, .int .i64 (m : Int)] 42)
        have HO3 := hide (HO2.out.below hb3)
        have HB3 := hide (HB2.out.trans (hb3.mono HB2.out.size))
        have hOne := OpsAt.one (o := ⟨15, (m : Int)⟩) lo (by constructor <;> constructor <;> simp <;> omega)
        have HOne := hide hOne
        have HW3 := hide (h.later HB3.out (Nat.le_refl _))
        clear hb3 lo hOne
        go_wp2_with fail
        refine (emit_any A os c (some ⟨w2.heap.size, 0, none⟩) [⟨15, (m : Int)⟩] 1 _ HW3.out Hn.out HOne.out (fun e => by cases e) (by simp; omega)).mono ?_
        rintro e w4 ⟨A4, c4, rfl, ho4, hb4⟩
        have hwf : ∀ o ∈ os ++ [⟨15, (m : Int)⟩], In64 o.code ∧ In64 o.arg := by
          intro o ho
          rcases List.mem_append.1 ho with ho | ho
          · exact HW3.out.wf o ho
          · rw [List.mem_singleton.1 ho]
            constructor <;> constructor <;> simp <;> omega
        have hm64 : ∀ x ∈ μ.set i (m : Int), In64 x := by
          intro x hx
          rcases List.mem_or_eq_of_mem_set hx with hx | rfl
          · have := Hμ.out x hx
            constructor <;> omega
          · constructor <;> omega
        have hN4 := ho4.form
        have HF : Hid (GivesSave w (memoOps os μ) (memoSet μ i) (.returned (.tuple #[.slice A4 (os ++ [⟨15, (m : Int)⟩] : List Od).length c4, .slice (some ⟨g, 0, none⟩) (μ.set i (m : Int)).length d1])) w4) := by
          show GivesSave _ _ _ _ _
          unfold memoOps memoSet
          rw [← Hm.out]
          refine ⟨A4, c4, _, d1, rfl, ho4.ops hwf (by simp; omega), fun e => ?_, (HO3.out.below hb4).ints hm64 (by simp; omega), (fun e => by cases e), HB3.out.trans (hb4.mono HB3.out.size)⟩
          rcases hN4 with ⟨_, h2, _⟩ | ⟨g, h2, _⟩
          · exact h2
          · rw [h2] at e; cases e
        clear hwf hm64 hN4 ho4 hb4
        rw [List.length_set, show (os ++ [⟨15, (m : Int)⟩] : List Od).length = os.length + 1 from by simp] at HF
        go_wp2
        go_ret2
        exact HF.out
end Go.Proofs.YtbihgafkmmcjlaaDoor

namespace Go.Proofs.YtbihgafkmmcjlaaDoor
open Go.RowKit
set_option linter.unusedVariables false
structure MuOk (ns : List Nd) (μ : List Int) : Prop where
  len : μ.length = ns.length
  vals : ∀ x ∈ μ, -1 ≤ x ∧ x ≤ 100
structure GrAt (w : World) (A : Option Addr) (ns : List Nd) : Prop where
  nds : NdsAt w w.heap.size A ns
  cap : ∀ b off, A = some ⟨b, off, none⟩ → b < w.heap.size ∧ ∀ (j : Nat) (n : Nd), ns[j]? = some n → ∀ (A' : Option Addr) (k c' : Nat), w.cell? ⟨b, off + j * 3 + 2, none⟩ = some (.slice A' k c') → n.kids.length ≤ c'
theorem GrAt.later {w w' : World} {A : Option Addr} {ns : List Nd} (h : GrAt w A ns) (hb : Below w.heap.size w w') : GrAt w' A ns :=
  ⟨h.nds.later hb (Nat.le_refl _), fun b off e => ⟨Nat.lt_of_lt_of_le (h.cap b off e).1 hb.size, fun j n hj A' k c' hc => (h.cap b off e).2 j n hj A' k c' ((hb.cell (p := ⟨b, off + j * 3 + 2, none⟩) (h.cap b off e).1).symm.trans hc)⟩⟩
structure SvS (ns : List Nd) (w wr : World) (A : Option Addr) (os : List Od) (μ : List Int) (r n : Nat) (B : Option Addr) (c : Nat) (os' : List Od) (M : Option Addr) (d : Nat) (μ' : List Int) : Prop where
  bel : Below w.heap.size w wr
  gr : GrAt wr A ns
  ops : OpsAt wr wr.heap.size B os'
  nb : B = none → c = 0
  memo : IntsAt wr wr.heap.size M μ'
  nm : M = none → d = 0
  sum : os'.length + Phi ns μ' r ≤ os.length + n + Phi ns μ r
  mo : Mo μ μ'
  ok : MuOk ns μ'
theorem SvS.later {ns : List Nd} {w wr w' : World} {A : Option Addr} {os : List Od} {μ : List Int} {r n : Nat} {B : Option Addr} {c : Nat} {os' : List Od} {M : Option Addr} {d : Nat} {μ' : List Int}
    (h : SvS ns w wr A os μ r n B c os' M d μ') (hb : Below wr.heap.size wr w') : SvS ns w w' A os μ r n B c os' M d μ' :=
  ⟨h.bel.trans (hb.mono h.bel.size), h.gr.later hb, h.ops.later hb (Nat.le_refl _), h.nb, h.memo.later hb (Nat.le_refl _), h.nm, h.sum, h.mo, h.ok⟩
def GivesSv (ns : List Nd) (w : World) (os : List Od) (μ : List Int) (r n : Nat) (e : Ending) (w' : World) : Prop :=
  ∃ (os' : List Od) (μ' : List Int), GivesSave w os' μ' e w' ∧ os'.length + Phi ns μ' r ≤ os.length + n + Phi ns μ r ∧ Mo μ μ' ∧ MuOk ns μ'
theorem SvS.gives {ns : List Nd} {w wr : World} {A : Option Addr} {os : List Od} {μ : List Int} {r n m : Nat} {B : Option Addr} {c : Nat} {os' : List Od} {M : Option Addr} {d : Nat} {μ' : List Int}
    (h : SvS ns w wr A os μ r n B c os' M d μ') (hn : n ≤ m) : GivesSv ns w os μ r m (.returned (.tuple #[.slice B os'.length c, .slice M μ'.length d])) wr :=
  ⟨os', μ', ⟨B, c, M, d, rfl, h.ops, h.nb, h.memo, h.nm, h.bel⟩, by have := h.sum; omega, h.mo, h.ok⟩
def SaveOk (ns : List Nd) (A : Option Addr) (cn : Nat) (root lev : Int) (m : Nat) : Prop :=
  ∀ (i r : Nat) (B : Option Addr) (os : List Od) (c : Nat) (M : Option Addr) (μ : List Int) (d : Nat) (w : World),
    i < ns.length → r ≤ 13 → (kindOf ns (i : Int) = 2 → rk ns (i : Int) < r) → 14 * Lc ns μ + r < m → os.length + 2000 * m ≤ 1000000 →
    SvS ns w w A os μ r 0 B c os M d μ →
    Calls Tryd.prog 36 #[.agg #[.slice A ns.length cn, .int .i64 root], .int .i64 lev, .int .i64 (i : Int), .slice B os.length c, .slice M μ.length d] w (GivesSv ns w os μ r 1)
def GivesO (w : World) (os : List Od) (e : Ending) (w' : World) : Prop :=
  ∃ (B : Option Addr) (c : Nat) (os' : List Od), e = .returned (.slice B os'.length c) ∧ Hid (os'.length = os.length + 1) ∧ OpsAt w' w'.heap.size B os' ∧ (B = none → c = 0) ∧ Below w.heap.size w w'
theorem emit_one (B : Option Addr) (os : List Od) (c : Nat) (x y : Int) (w : World) (h : OpsAt w w.heap.size B os) (hn : B = none → c = 0) (hx : In64 x) (hy : In64 y) (hl : os.length ≤ 7000000) :
    Calls Tryd.prog 38 #[.slice B os.length c, .slice (some ⟨w.heap.size, 0, none⟩) 1 1] (w.alloc (.cells #[.int .i64 x, .int .i64 y] 42)) (GivesO w os) := by
  have hb3 := (Below.refl w.heap.size w).alloc (Nat.le_refl _) (.cells #[.int .i64 x, .int .i64 y] 42)
  have lo := Lies.new w #[.int .i64 x, .int .i64 y] 42
  have hOne := OpsAt.one (o := ⟨x, y⟩) lo ⟨hx, hy⟩
  have hW3 := h.later hb3 (Nat.le_refl _)
  have h1 : OpsAt (w.alloc (.cells #[.int .i64 x, .int .i64 y] 42)) (w.alloc (.cells #[.int .i64 x, .int .i64 y] 42)).heap.size (some ⟨w.heap.size, 0, none⟩) [(⟨x, y⟩ : Od)] := hOne
  refine (emit_any B os c (some ⟨w.heap.size, 0, none⟩) [⟨x, y⟩] 1 _ hW3 hn h1 (fun e => by cases e) (by simp; omega)).mono ?_
  rintro e w4 ⟨A4, c4, rfl, ho4, hb4⟩
  have hwf : ∀ o ∈ os ++ [(⟨x, y⟩ : Od)], In64 o.code ∧ In64 o.arg := by
    intro o ho
    rcases List.mem_append.1 ho with ho | ho
    · exact hW3.wf o ho
    · rw [List.mem_singleton.1 ho]
      exact ⟨hx, hy⟩
  refine ⟨A4, c4, _, rfl, (by show _ = _; simp), ho4.ops hwf (by simp; omega), fun e => ?_, hb3.trans (hb4.mono hb3.size)⟩
  rcases ho4.form with ⟨_, h2, _⟩ | ⟨g, h2, _⟩
  · exact h2
  · rw [h2] at e; cases e
def GivesMe (ns : List Nd) (w : World) (os : List Od) (μ : List Int) (i : Nat) (e : Ending) (w' : World) : Prop :=
  ∃ (os' : List Od) (μ' : List Int), GivesSave w os' μ' e w' ∧ Hid (os'.length = os.length + 1) ∧ Mo μ μ' ∧ 0 ≤ μ'.getD i 0 ∧ MuOk ns μ'
theorem memoed_me {ns : List Nd} (h12 : ns.length ≤ 12) (A : Option Addr) (os : List Od) (c : Nat) (M : Option Addr) (μ : List Int) (d i : Nat) (w : World) (h : OpsAt w w.heap.size A os) (hn : A = none → c = 0) (h2 : IntsAt w w.heap.size M μ) (hn2 : M = none → d = 0)
    (hl : os.length ≤ 7000000) (hi : i < ns.length) (hμ : MuOk ns μ) :
    Calls Tryd.prog 55 #[.slice A os.length c, .slice M μ.length d, .int .i64 (i : Int)] w (GivesMe ns w os μ i) := by
  have hlen := hμ.len
  have ht := takenTo_le μ μ.length
  refine (memoed_any A os c M μ d i w h hn h2 hn2 hl (by omega) (by omega) hμ.vals).mono ?_
  intro e w' hg
  refine ⟨memoOps os μ, memoSet μ i, hg, (by show _ = _; simp [memoOps]), Mo.set _ _ (by omega), ?_, by simp [memoSet, hlen], fun x hx => ?_⟩
  · unfold memoSet
    rw [getD_set_self (by omega)]
    omega
  · rcases List.mem_or_eq_of_mem_set hx with hx | rfl
    · exact hμ.vals x hx
    · omega
theorem SvS.emit {ns : List Nd} {w wr w' : World} {A : Option Addr} {os : List Od} {μ : List Int} {r n : Nat} {B B2 : Option Addr} {c c2 : Nat} {os' os2 : List Od} {M : Option Addr} {d : Nat} {μ' : List Int}
    (h : SvS ns w wr A os μ r n B c os' M d μ') (hl : Hid (os2.length = os'.length + 1)) (ho : OpsAt w' w'.heap.size B2 os2) (hn : B2 = none → c2 = 0) (hb : Below wr.heap.size wr w') : SvS ns w w' A os μ r (n + 1) B2 c2 os2 M d μ' :=
  ⟨h.bel.trans (hb.mono h.bel.size), h.gr.later hb, ho, hn, h.memo.later hb (Nat.le_refl _), h.nm, by have := h.sum; have := hl.out; omega, h.mo, h.ok⟩
theorem SvS.call {ns : List Nd} {w wr w' : World} {A : Option Addr} {os : List Od} {μ : List Int} {r n k : Nat} {B B2 : Option Addr} {c c2 : Nat} {os' os2 : List Od} {M M2 : Option Addr} {d d2 : Nat} {μ' μ2 : List Int}
    (h : SvS ns w wr A os μ r n B c os' M d μ') (ho : OpsAt w' w'.heap.size B2 os2) (hn : B2 = none → c2 = 0) (hm : IntsAt w' w'.heap.size M2 μ2) (hnm : M2 = none → d2 = 0) (hb : Below wr.heap.size wr w')
    (hs : os2.length + Phi ns μ2 r ≤ os'.length + k + Phi ns μ' r) (hmo : Mo μ' μ2) (hok : MuOk ns μ2) : SvS ns w w' A os μ r (n + k) B2 c2 os2 M2 d2 μ2 :=
  ⟨h.bel.trans (hb.mono h.bel.size), h.gr.later hb, ho, hn, hm, hnm, by have := h.sum; omega, h.mo.trans hmo, hok⟩
theorem SvS.anew {ns : List Nd} {w wr : World} {A : Option Addr} {os : List Od} {μ : List Int} {r n : Nat} {B : Option Addr} {c : Nat} {os' : List Od} {M : Option Addr} {d : Nat} {μ' : List Int}
    (h : SvS ns w wr A os μ r n B c os' M d μ') (r' : Nat) : SvS ns wr wr A os' μ' r' 0 B c os' M d μ' :=
  ⟨Below.refl _ _, h.gr, h.ops, h.nb, h.memo, h.nm, Nat.le_refl _, Mo.refl _, h.ok⟩
end Go.Proofs.YtbihgafkmmcjlaaDoor

namespace Go.Proofs.YtbihgafkmmcjlaaDoor
open Go.RowKit
set_option linter.unusedVariables false
set_option maxRecDepth 100000 in
set_option maxHeartbeats 2000000 in
theorem saveAll_any {ns : List Nd} (h12 : ns.length ≤ 12) (A : Option Addr) (cn : Nat) (root lev : Int) (m : Nat) (hOk : SaveOk ns A cn root lev m)
    (L : Option Addr) (xs : List Int) (cl r : Nat) (B : Option Addr) (os : List Od) (c : Nat) (M : Option Addr) (μ : List Int) (d : Nat) (w : World)
    (hL : IntsAt w w.heap.size L xs) (hr : r ≤ 13) (hx : ∀ x ∈ xs, 0 ≤ x ∧ x < (ns.length : Int) ∧ (kindOf ns x = 2 → rk ns x < r)) (hm : 14 * Lc ns μ + r < m) (hl : os.length + xs.length + Phi ns μ r + 2000 * m ≤ 1000000)
    (hS : SvS ns w w A os μ r 0 B c os M d μ) :
    Calls Tryd.prog 58 #[.agg #[.slice A ns.length cn, .int .i64 root], .int .i64 lev, .slice L xs.length cl, .slice B os.length c, .slice M μ.length d] w (GivesSv ns w os μ r xs.length) := by
  have HOk := hide hOk
  have Hx := hide hx
  have Hm := hide hm
  have hB : Below w.heap.size w (w.alloc (.cells #[.slice A ns.length cn, .int .i64 root] 49)) := (Below.refl _ _).alloc (Nat.le_refl _) _
  have l1 := Lies.new w #[.slice A ns.length cn, .int .i64 root] 49
  have HS0 := hide (hS.later hB)
  have HL := hide (hL.later hB (Nat.le_refl _))
  clear hOk hx hm hS hL hB
  go_enter Tryd.func58, Tryd.ntmps58
  go_wp2_with fail
  generalize w.alloc (.cells #[.slice A ns.length cn, .int .i64 root] 49) = W at l1 HS0 HL ⊢
  have hW1 := l1.lt
  go_loopw [3, 4, 12] (fun ov mv iv wr => ∃ (k : Nat) (Bk : Option Addr) (ck : Nat) (osk : List Od) (Mk : Option Addr) (dk : Nat) (μk : List Int), k ≤ xs.length ∧ iv = .int .i64 (k : Int) ∧ ov = .slice Bk osk.length ck ∧ mv = .slice Mk μk.length dk ∧ Below W.heap.size W wr ∧ SvS ns w wr A os μ r k Bk ck osk Mk dk μk) (fun _ _ iv _ => xs.length - (intOf iv).toNat)
  case atStart => exact ⟨0, B, c, os, M, d, μ, Nat.zero_le _, rfl, rfl, rfl, Below.refl _ _, HS0.out⟩
  case round =>
    clear HS0
    obtain ⟨k, Bk, ck, osk, Mk, dk, μk, hk, rfl, rfl, rfl, hbW, hS⟩ := hrel
    have hlr := l1.below hbW hW1
    have e0 := hlr.cell 0
    have e1 := hlr.cell 1
    simp only [jD, jE, jF] at e0 e1
    have HS := hide hS
    have HbW := hide hbW
    by_cases hlt : k < xs.length
    · obtain ⟨b, off, x, rfl, hbl, hx, hmem, hcx⟩ := (HL.out.below hbW).at_ hlt
      obtain ⟨hx0, hxl, hxr⟩ := Hx.out x hmem
      obtain ⟨i, rfl⟩ := Int.eq_ofNat_of_zero_le hx0
      have Hxr := hide hxr
      have Hxl := hide hxl
      have hd := hS.later (Below.refl _ _).drew
      have Hd := hide hd
      have HdW := hide hbW.drew
      have Hsum := hide hS.sum
      have Hmo := hide hS.mo
      have hk1 : (0 : Int) ≤ (k : Int) := by omega
      have hk2 : (k : Int) < (xs.length : Int) := by omega
      have hcall := hide (fun X : World => fun h : SvS ns X X A osk μk r 0 Bk ck osk Mk dk μk => HOk.out i r Bk osk ck Mk μk dk X (by have := Hxl.out; omega) hr Hxr.out (by have := Lc_mono (ns := ns) Hmo.out; have := Hm.out; omega) (by have := Hsum.out; omega) h)
      have hda := Hd.out.anew r
      have z1 : w.heap.size < wr.heap.size := by have := hbW.size; omega
      have z2 : b < wr.heap.size := by have := hbW.size; omega
      clear hlr hS hbW hx hmem hx0 hxl hxr hd HS HbW
      go_wp2_with fail
      go_region_held3 (fun w' => w'.cell? ⟨w.heap.size, 0, none⟩ = some (.slice A ns.length cn) ∧ w'.cell? ⟨w.heap.size, 1, none⟩ = some (.int .i64 root) ∧ w'.cell? ⟨b, off + k, none⟩ = some (.int .i64 (i : Int)))
        (first
          | (go_split_ands; refine ⟨?_, ?_, ?_⟩ <;> assumption))
        (first
          | (go_at_call 36; refine (hcall.out _ hda).mono ?_; rintro e w3 ⟨os3, μ3, ⟨B3, c3, M3, d3, rfl, ho3, hn3, hi3, hm3, hb3⟩, hs3, hmo3, hok3⟩
             have q0 := (hb3.cell (p := ⟨w.heap.size, 0, none⟩) z1).trans e0; have q1 := (hb3.cell (p := ⟨w.heap.size, 1, none⟩) z1).trans e1; have q2 := (hb3.cell (p := ⟨b, off + k, none⟩) z2).trans hcx))
      have HS3 := hide (Hd.out.call ho3 hn3 hi3 hm3 hb3 hs3 hmo3 hok3)
      have HW3 := hide (HdW.out.trans (hb3.mono HdW.out.size))
      clear ho3 hn3 hi3 hm3 hb3 hs3 hmo3 hok3 Hd HdW Hsum Hmo hda hcall q0 q1 q2 e0 e1 hcx
      go_wp2
      go_roundw
      case rel => exact ⟨k + 1, B3, c3, os3, M3, d3, μ3, by omega, by go_num, rfl, rfl, HW3.out, HS3.out⟩
      case measure => simp [intOf]; omega
    · obtain rfl : k = xs.length := by omega
      have hf := hide (HS.out.gives (m := xs.length) (Nat.le_refl _))
      clear hS hbW hlr e0 e1 HS HbW hlt
      go_wp2
      go_ret2
      exact hf.out
end Go.Proofs.YtbihgafkmmcjlaaDoor

namespace Go.Proofs.YtbihgafkmmcjlaaDoor
open Go.RowKit
set_option linter.unusedVariables false
structure EgS (w wr : World) (q : Nat) (p : ShPtr) (s : Shp) (Ae : Option Addr) (ce : Nat) (acc : List Od) : Prop where
  sb : SbAt wr w.heap.size q 0 p s
  own : OwnO wr w.heap.size Ae ce acc
  aq : blockOf Ae ≠ some q
  off : ∀ b, blockOf Ae = some b → p.Off b
  bel : Below w.heap.size w wr
  hq : w.heap.size ≤ q
theorem EgS.below {w wr w' : World} {q : Nat} {p : ShPtr} {s : Shp} {Ae : Option Addr} {ce : Nat} {acc : List Od} (h : EgS w wr q p s Ae ce acc) (hb : Below wr.heap.size wr w') : EgS w w' q p s Ae ce acc :=
  ⟨h.sb.below hb, h.own.below hb, h.aq, h.off, h.bel.trans (hb.mono h.bel.size), h.hq⟩
theorem EgS.step {w wr w' : World} {q : Nat} {p p' : ShPtr} {s t : Shp} {Ae : Option Addr} {ce : Nat} {acc : List Od} (h : EgS w wr q p s Ae ce acc) (hs : SbAt w' w.heap.size q 0 p' t) (hf : SbFr wr w' q 0 p p') : EgS w w' q p' t Ae ce acc := by
  have hbl := h.own.blocks
  refine ⟨hs, h.own.of_block (fun g hg => hf.blk g (hbl g hg).2 (fun e => h.aq (by rw [hg, e])) (h.off g hg)), h.aq, fun b hb => hf.offs b (hbl b hb).2 (h.off b hb), h.bel.trans (hf.below h.sb (Nat.le_refl _) h.hq), h.hq⟩
theorem EgS.push {w wr w1 : World} {q : Nat} {p : ShPtr} {s : Shp} {Ae A' : Option Addr} {ce c' : Nat} {acc zs : List Od} {lit : Obj} (h : EgS w wr q p s Ae ce acc) (ho : OwnO w1 w.heap.size A' c' zs) (hg : (wr.alloc lit).grownBy w1 (blockOf Ae)) (hat : blockOf A' = blockOf Ae ∨ blockOf A' = some (wr.alloc lit).heap.size) : EgS w w1 q p s A' c' zs := by
  have hlt := h.sb.lt
  have hbl := h.own.blocks
  have hs := hg.size
  simp at hs
  have ow := h.sb.own
  have hk : ∀ b, blockOf Ae = some b → blockOf p.K ≠ some b := fun b hb => (h.off b hb).k
  have hf : ∀ b, blockOf Ae = some b → blockOf p.F ≠ some b := fun b hb => (h.off b hb).f
  have ht : ∀ b, blockOf Ae = some b → blockOf p.S ≠ some b := fun b hb => (h.off b hb).t
  have hm : ∀ b, blockOf Ae = some b → blockOf p.M ≠ some b := fun b hb => (h.off b hb).m
  refine ⟨⟨h.sb.c.ofB (h.sb.grownB hg h.aq), ⟨ow.k.stays hg hk, ow.f.stays hg hf, ow.t.stays hg ht, ow.m.stays hg hm, ow.kf, ow.kt, ow.km, ow.ft, ow.fm, ow.tm⟩, h.sb.off_, by omega⟩, ho, ?_, fun b hb => ?_, ?_, h.hq⟩
  · rcases hat with e | e
    · rw [e]; exact h.aq
    · rw [e]; intro e2; injection e2 with e2; simp at e2; omega
  · rcases hat with e | e
    · exact h.off b (by rw [← e]; exact hb)
    · rw [e] at hb
      injection hb with hb
      simp at hb
      subst hb
      exact ⟨fun e2 => by have := (ow.k.blocks _ e2).2; omega, fun e2 => by have := (ow.f.blocks _ e2).2; omega, fun e2 => by have := (ow.t.blocks _ e2).2; omega, fun e2 => by have := (ow.m.blocks _ e2).2; omega⟩
  · exact below_grown (h.bel.alloc h.bel.size lit) hg (by have := h.bel.size; simp; omega) (fun b hb => (hbl b hb).1)
structure Ended (n : Nat) (tail acc : List Od) (s : Shp) : Prop where
  ok : s.Ok
  kl : s.kinds.length ≤ n + acc.length
  tl : s.stack.length ≤ n + acc.length
  le : n + acc.length ≤ 300
  rest : (s.done = true ∧ tail = acc) ∨ (s.done = false ∧ tail = acc ++ tailOps s.stack)
theorem tailOps_ne (l : List Int) : 0 < (tailOps l).length := by
  rw [tailOps_is]
  simp only [List.length_append, List.length_cons, List.length_nil]
  omega
theorem Ended.small {n : Nat} {tail acc : List Od} {s : Shp} (h : Ended n tail acc s) : s.Small := ⟨by have := h.kl; have := h.le; omega, by have := h.tl; have := h.le; omega, h.ok⟩
theorem Ended.long {n : Nat} {tail acc : List Od} {s : Shp} (h : Ended n tail acc s) (hd : s.done = false) (hn : 300 ≤ n + acc.length) : ¬ n + tail.length ≤ 300 := by
  rcases h.rest with ⟨h1, _⟩ | ⟨_, h2⟩
  · rw [hd] at h1; cases h1
  · have := tailOps_ne s.stack
    rw [h2, List.length_append]
    omega
theorem Ended.fin {n : Nat} {tail acc : List Od} {s : Shp} (h : Ended n tail acc s) (hd : s.done = true) : tail = acc := by
  rcases h.rest with ⟨_, h1⟩ | ⟨h1, _⟩
  · exact h1
  · rw [hd] at h1; cases h1
theorem Ended.next {n : Nat} {tail acc : List Od} {s : Shp} (h : Ended n tail acc s) (hd : s.done = false) (hn : n + acc.length < 300) : ∃ t, stepFree s (endOp s.stack) = some t ∧ Ended n tail (acc ++ [endOp s.stack]) t := by
  obtain ⟨t, h1, h2⟩ := end_step h.ok hd
  obtain ⟨o1, o2, o3, _⟩ := stepFree_ok h.ok h1 (endOp_ok _).get
  have hkl := h.kl
  have htl := h.tl
  have hl : (acc ++ [endOp s.stack]).length = acc.length + 1 := by simp
  refine ⟨t, h1, o1, by omega, by omega, by omega, ?_⟩
  rcases h.rest with ⟨h3, _⟩ | ⟨_, h3⟩
  · rw [hd] at h3; cases h3
  · rcases h2 with ⟨h4, h5⟩ | ⟨h4, h5⟩
    · exact .inl ⟨h4, by rw [h3, h5]⟩
    · exact .inr ⟨h4, by rw [h3, h5, List.append_assoc]; rfl⟩
end Go.Proofs.YtbihgafkmmcjlaaDoor
