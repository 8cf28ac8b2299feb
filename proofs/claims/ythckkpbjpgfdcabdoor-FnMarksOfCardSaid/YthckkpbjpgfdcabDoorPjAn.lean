/-
  Lemmas, several texts in one: SavM, SavB, SavA, DpI.
-/
import Derived.Test.YthckkpbjpgfdcabDoorSomeGraph
import Derived.Test.YthckkpbjpgfdcabDoorPjAj
import Derived.Deep.Cut
import Derived.Deep.RegionHeld3
import Derived.Test.YthckkpbjpgfdcabDoorPjAm
import Derived.Test.YthckkpbjpgfdcabDoorPjAk
import Derived.Test.YthckkpbjpgfdcabDoorPjAl
namespace Go.Proofs.YthckkpbjpgfdcabDoor
set_option linter.unusedVariables false
theorem cntLt {p q : Nat → Bool} : ∀ {l : List Nat}, (∀ a ∈ l, p a = true → q a = true) → (∃ a ∈ l, q a = true ∧ p a = false) → l.countP p + 1 ≤ l.countP q
  | [], _, h => by obtain ⟨a, h, _⟩ := h; cases h
  | b :: l, hpq, h => by
    have hle : l.countP p ≤ l.countP q := List.countP_mono_left fun a ha => hpq a (by simp [ha])
    rw [List.countP_cons, List.countP_cons]
    obtain ⟨a, ha, hqa, hpa⟩ := h
    rcases List.mem_cons.1 ha with rfl | ha
    · simp [hqa, hpa]; omega
    · have := cntLt (p := p) (q := q) (fun a ha => hpq a (by simp [ha])) ⟨a, ha, hqa, hpa⟩
      have hb := hpq b (by simp)
      cases hpb : p b
      · simp; split <;> omega
      · simp [hb hpb]; omega
theorem cntSplit {p q s : Nat → Bool} : ∀ (l : List Nat), (∀ a, p a = true ↔ q a = true ∨ s a = true) → (∀ a, q a = true → s a = true → False) → l.countP p = l.countP q + l.countP s
  | [], _, _ => rfl
  | b :: l, h, hd => by
    rw [List.countP_cons, List.countP_cons, List.countP_cons, cntSplit l h hd]
    have h1 := h b
    have h2 := hd b
    cases hp : p b <;> cases hq : q b <;> cases hs : s b <;> simp [hp, hq, hs] at h1 h2 ⊢ <;> omega
theorem tfIff {p : Prop} : tf p = true ↔ p := ⟨tf_yes, tf_true⟩
noncomputable def rk (ns : List Nd) (x : Int) : Nat := (List.range ns.length).countP fun (i : Nat) => tf (TReach ns x (i : Int))
theorem rk_le (ns : List Nd) (x : Int) : rk ns x ≤ ns.length := by
  unfold rk
  exact Nat.le_trans List.countP_le_length (by simp)
theorem TReach.pre {ns : List Nd} {i k x : Int} (hk : k ∈ kidsOf ns i) (h2 : kindOf ns k = 2) (h : TReach ns k x) : TReach ns i x := by
  induction h with
  | kid x hx => exact .step k x (.kid k hk) h2 hx
  | step y x _ h3 hx ih => exact .step y x ih h3 hx
theorem rk_kid {ns : List Nd} (hs : Sav ns) {i : Int} {k : Nat} (hkl : k < ns.length) (hk : (k : Int) ∈ kidsOf ns i) (h2 : kindOf ns (k : Int) = 2) : rk ns (k : Int) + 1 ≤ rk ns i := by
  have hn : ¬ TReach ns (k : Int) (k : Int) := by
    have hx : ns[k]? = some ns[k] := List.getElem?_eq_getElem hkl
    exact hs.tuples k _ hx (by rw [← kindOf_at hx]; exact h2)
  exact cntLt (fun a _ h => tf_true (.pre hk h2 (tf_yes h))) ⟨k, List.mem_range.2 hkl, tf_true (.kid _ hk), tf_false hn⟩
noncomputable def Lc (ns : List Nd) (μ : List Int) : Nat := (List.range ns.length).countP fun (i : Nat) => tf (μ.getD i 0 < 0 ∧ kindOf ns (i : Int) ≠ 2)
noncomputable def Bc (ns : List Nd) (μ : List Int) (r : Nat) : Nat := (List.range ns.length).countP fun (i : Nat) => tf (μ.getD i 0 < 0 ∧ kindOf ns (i : Int) = 2 ∧ rk ns (i : Int) < r)
noncomputable def Phi (ns : List Nd) (μ : List Int) (r : Nat) : Nat := 134 * Lc ns μ + 10 * Bc ns μ r
def Mo (μ μ' : List Int) : Prop := μ'.length = μ.length ∧ ∀ i, μ'.getD i 0 < 0 → μ.getD i 0 < 0
theorem Mo.refl (μ : List Int) : Mo μ μ := ⟨rfl, fun _ h => h⟩
theorem Mo.trans {a b c : List Int} (h : Mo a b) (k : Mo b c) : Mo a c := ⟨k.1.trans h.1, fun i hi => h.2 i (k.2 i hi)⟩
theorem Mo.set (μ : List Int) (i : Nat) {v : Int} (hv : 0 ≤ v) : Mo μ (μ.set i v) := by
  refine ⟨by simp, fun j hj => ?_⟩
  rw [List.getD_eq_getElem?_getD, List.getElem?_set] at hj
  rw [List.getD_eq_getElem?_getD]
  split at hj
  · split at hj
    · simp at hj; omega
    · simp at hj
  · exact hj
theorem getD_set_self {μ : List Int} {i : Nat} (hi : i < μ.length) (v : Int) : (μ.set i v).getD i 0 = v := by
  rw [List.getD_eq_getElem?_getD, List.getElem?_set, if_pos rfl, if_pos hi]; rfl
theorem Lc_mono {ns : List Nd} {μ μ' : List Int} (h : Mo μ μ') : Lc ns μ' ≤ Lc ns μ :=
  List.countP_mono_left fun a _ ha => by
    have := tf_yes ha
    exact tf_true ⟨h.2 a this.1, this.2⟩
theorem Bc_mono {ns : List Nd} {μ μ' : List Int} (h : Mo μ μ') (r : Nat) : Bc ns μ' r ≤ Bc ns μ r :=
  List.countP_mono_left fun a _ ha => by
    have := tf_yes ha
    exact tf_true ⟨h.2 a this.1, this.2⟩
theorem Bc_rank (ns : List Nd) (μ : List Int) {r s : Nat} (h : r ≤ s) : Bc ns μ r ≤ Bc ns μ s :=
  List.countP_mono_left fun a _ ha => by
    have := tf_yes ha
    exact tf_true ⟨this.1, this.2.1, Nat.lt_of_lt_of_le this.2.2 h⟩
theorem Bc_le (ns : List Nd) (μ : List Int) (r : Nat) : Bc ns μ r ≤ ns.length := Nat.le_trans List.countP_le_length (by simp)
theorem Lc_le (ns : List Nd) (μ : List Int) : Lc ns μ ≤ ns.length := Nat.le_trans List.countP_le_length (by simp)
theorem Phi_le {ns : List Nd} (h12 : ns.length ≤ 12) (μ : List Int) (r : Nat) : Phi ns μ r ≤ 1728 := by
  have := Lc_le ns μ
  have := Bc_le ns μ r
  unfold Phi
  omega
theorem Lc_less {ns : List Nd} {μ μ' : List Int} {a : Nat} (h : Mo μ μ') (ha : a < ns.length) (h1 : μ.getD a 0 < 0) (h2 : 0 ≤ μ'.getD a 0) (hk : kindOf ns (a : Int) ≠ 2) : Lc ns μ' + 1 ≤ Lc ns μ :=
  cntLt (fun b _ hb => by
    have := tf_yes hb
    exact tf_true ⟨h.2 b this.1, this.2⟩) ⟨a, List.mem_range.2 ha, tf_true ⟨h1, hk⟩, tf_false fun h3 => by omega⟩
theorem Bc_gap {ns : List Nd} {μ μ' : List Int} {a r s : Nat} (h : Mo μ μ') (ha : a < ns.length) (h1 : μ.getD a 0 < 0) (h2 : 0 ≤ μ'.getD a 0) (hk : kindOf ns (a : Int) = 2) (hs : s ≤ rk ns (a : Int)) (hr : rk ns (a : Int) < r) :
    Bc ns μ' r + Bc ns μ s + 1 ≤ Bc ns μ r + Bc ns μ' s := by
  have split : ∀ ν : List Int, Bc ns ν r = Bc ns ν s + (List.range ns.length).countP fun (i : Nat) => tf (ν.getD i 0 < 0 ∧ kindOf ns (i : Int) = 2 ∧ s ≤ rk ns (i : Int) ∧ rk ns (i : Int) < r) := by
    intro ν
    refine cntSplit _ (fun b => ?_) (fun b h1 h2 => ?_)
    · rw [tfIff, tfIff, tfIff]
      constructor
      · rintro ⟨x, y, z⟩
        by_cases hb : rk ns (b : Int) < s
        · exact .inl ⟨x, y, hb⟩
        · exact .inr ⟨x, y, by omega, z⟩
      · rintro (⟨x, y, z⟩ | ⟨x, y, z, u⟩)
        · exact ⟨x, y, by omega⟩
        · exact ⟨x, y, u⟩
    · have a1 := tf_yes h1
      have a2 := tf_yes h2
      omega
  rw [split μ, split μ']
  have := cntLt (p := fun (i : Nat) => tf (μ'.getD i 0 < 0 ∧ kindOf ns (i : Int) = 2 ∧ s ≤ rk ns (i : Int) ∧ rk ns (i : Int) < r)) (q := fun (i : Nat) => tf (μ.getD i 0 < 0 ∧ kindOf ns (i : Int) = 2 ∧ s ≤ rk ns (i : Int) ∧ rk ns (i : Int) < r)) (l := List.range ns.length)
    (fun b _ hb => by
      have h3 := tf_yes hb
      exact tf_true ⟨h.2 b h3.1, h3.2⟩) ⟨a, List.mem_range.2 ha, tf_true ⟨h1, hk, hs, hr⟩, tf_false fun h3 => by omega⟩
  omega
theorem phi_node {ns : List Nd} (h12 : ns.length ≤ 12) {μ μ1 μ2 : List Int} {a r x y : Nat} (h : Mo μ μ1) (h' : Mo μ1 μ2) (ha : a < ns.length) (h1 : μ.getD a 0 < 0) (h2 : 0 ≤ μ1.getD a 0) (hk : kindOf ns (a : Int) ≠ 2) (hr : r ≤ 13)
    (hx : x + Phi ns μ2 13 ≤ y + Phi ns μ1 13) : x + Phi ns μ2 r + 14 ≤ y + Phi ns μ r := by
  have l1 := Lc_less h ha h1 h2 hk
  have b1 := Bc_le ns μ1 13
  have b2 := Bc_rank ns μ2 hr
  unfold Phi at hx ⊢
  omega
theorem phi_tuple {ns : List Nd} {μ μ' μf : List Int} {a r x y : Nat} (h : Mo μ μ') (h' : Mo μ' μf) (ha : a < ns.length) (h1 : μ.getD a 0 < 0) (h2 : 0 ≤ μf.getD a 0) (hk : kindOf ns (a : Int) = 2) (hr : rk ns (a : Int) < r)
    (hx : x + Phi ns μ' (rk ns (a : Int)) ≤ y + Phi ns μ (rk ns (a : Int))) : x + Phi ns μf r + 10 ≤ y + Phi ns μ r := by
  have l1 := Lc_mono (ns := ns) h'
  have b1 := Bc_mono (ns := ns) h' (rk ns (a : Int))
  have g := Bc_gap (h.trans h') ha h1 h2 hk (Nat.le_refl _) hr
  unfold Phi at hx ⊢
  omega
end Go.Proofs.YthckkpbjpgfdcabDoor

namespace Go.Proofs.YthckkpbjpgfdcabDoor
open Go.RowKit
set_option linter.unusedVariables false
structure MuOk (ns : List Nd) (μ : List Int) : Prop where
  len : μ.length = ns.length
  vals : ∀ x ∈ μ, -1 ≤ x ∧ x ≤ 100
structure GrAt (w : World) (A : Option Addr) (ns : List Nd) : Prop where
  nds : NdsAt w w.heap.size A ns
  cap : ∀ b off, A = some ⟨b, off, none⟩ → b < w.heap.size ∧ ∀ (j : Nat) (n : Nd), ns[j]? = some n → ∀ (A' : Option Addr) (k c' : Nat), w.cell? ⟨b, off + j * 3 + 2, none⟩ = some (.slice A' k c') → n.kids.length ≤ c'
theorem GrAt.later {w w' : World} {A : Option Addr} {ns : List Nd} (h : GrAt w A ns) (hb : Below w.heap.size w w') : GrAt w' A ns :=
  ⟨h.nds.later hb (Nat.le_refl _), fun b off e => ⟨Nat.lt_of_lt_of_le (h.cap b off e).1 hb.size, fun j n hj A' k c' hc => (h.cap b off e).2 j n hj A' k c' ((hb.cell (p := ⟨b, off + j * 3 + 2, none⟩) (h.cap b off e).1).symm.trans hc)⟩⟩
structure SvS (ns : List Nd) (w wr : World) (A : Option Addr) (os : List Od) (μ : List Int) (r n : Nat) (B : Option Addr) (c : Nat) (os' : List Od) (M : Option Addr) (d : Nat) (μ' : List Int) : Prop where
  bel : Below w.heap.size w wr
  gr : GrAt wr A ns
  ops : OpsAt wr wr.heap.size B os'
  nb : B = none → c = 0
  memo : IntsAt wr wr.heap.size M μ'
  nm : M = none → d = 0
  sum : os'.length + Phi ns μ' r ≤ os.length + n + Phi ns μ r
  mo : Mo μ μ'
  ok : MuOk ns μ'
theorem SvS.later {ns : List Nd} {w wr w' : World} {A : Option Addr} {os : List Od} {μ : List Int} {r n : Nat} {B : Option Addr} {c : Nat} {os' : List Od} {M : Option Addr} {d : Nat} {μ' : List Int}
    (h : SvS ns w wr A os μ r n B c os' M d μ') (hb : Below wr.heap.size wr w') : SvS ns w w' A os μ r n B c os' M d μ' :=
  ⟨h.bel.trans (hb.mono h.bel.size), h.gr.later hb, h.ops.later hb (Nat.le_refl _), h.nb, h.memo.later hb (Nat.le_refl _), h.nm, h.sum, h.mo, h.ok⟩
def GivesSv (ns : List Nd) (w : World) (os : List Od) (μ : List Int) (r n : Nat) (e : Ending) (w' : World) : Prop :=
  ∃ (os' : List Od) (μ' : List Int), GivesSave w os' μ' e w' ∧ os'.length + Phi ns μ' r ≤ os.length + n + Phi ns μ r ∧ Mo μ μ' ∧ MuOk ns μ'
theorem SvS.gives {ns : List Nd} {w wr : World} {A : Option Addr} {os : List Od} {μ : List Int} {r n m : Nat} {B : Option Addr} {c : Nat} {os' : List Od} {M : Option Addr} {d : Nat} {μ' : List Int}
    (h : SvS ns w wr A os μ r n B c os' M d μ') (hn : n ≤ m) : GivesSv ns w os μ r m (.returned (.tuple #[.slice B os'.length c, .slice M μ'.length d])) wr :=
  ⟨os', μ', ⟨B, c, M, d, rfl, h.ops, h.nb, h.memo, h.nm, h.bel⟩, by have := h.sum; omega, h.mo, h.ok⟩
def SaveOk (ns : List Nd) (A : Option Addr) (cn : Nat) (root lev : Int) (m : Nat) : Prop :=
  ∀ (i r : Nat) (B : Option Addr) (os : List Od) (c : Nat) (M : Option Addr) (μ : List Int) (d : Nat) (w : World),
    i < ns.length → r ≤ 13 → (kindOf ns (i : Int) = 2 → rk ns (i : Int) < r) → 14 * Lc ns μ + r < m → os.length + 2000 * m ≤ 1000000 →
    SvS ns w w A os μ r 0 B c os M d μ →
    Calls Tryd.prog 36 #[.agg #[.slice A ns.length cn, .int .i64 root], .int .i64 lev, .int .i64 (i : Int), .slice B os.length c, .slice M μ.length d] w (GivesSv ns w os μ r 1)
def GivesO (w : World) (os : List Od) (e : Ending) (w' : World) : Prop :=
  ∃ (B : Option Addr) (c : Nat) (os' : List Od), e = .returned (.slice B os'.length c) ∧ Hid (os'.length = os.length + 1) ∧ OpsAt w' w'.heap.size B os' ∧ (B = none → c = 0) ∧ Below w.heap.size w w'
theorem emit_one (B : Option Addr) (os : List Od) (c : Nat) (x y : Int) (w : World) (h : OpsAt w w.heap.size B os) (hn : B = none → c = 0) (hx : In64 x) (hy : In64 y) (hl : os.length ≤ 7000000) :
    Calls Tryd.prog 38 #[.slice B os.length c, .slice (some ⟨w.heap.size, 0, none⟩) 1 1] (w.alloc (.cells #[.int .i64 x, .int .i64 y] 31)) (GivesO w os) := by
  have hb3 := (Below.refl w.heap.size w).alloc (Nat.le_refl _) (.cells #[.int .i64 x, .int .i64 y] 31)
  have lo := Lies.new w #[.int .i64 x, .int .i64 y] 31
  have hOne := OpsAt.one (o := ⟨x, y⟩) lo ⟨hx, hy⟩
  have hW3 := h.later hb3 (Nat.le_refl _)
  have h1 : OpsAt (w.alloc (.cells #[.int .i64 x, .int .i64 y] 31)) (w.alloc (.cells #[.int .i64 x, .int .i64 y] 31)).heap.size (some ⟨w.heap.size, 0, none⟩) [(⟨x, y⟩ : Od)] := hOne
  refine (emit_any B os c (some ⟨w.heap.size, 0, none⟩) [⟨x, y⟩] 1 _ hW3 hn h1 (fun e => by cases e) (by simp; omega)).mono ?_
  rintro e w4 ⟨A4, c4, rfl, ho4, hb4⟩
  have hwf : ∀ o ∈ os ++ [(⟨x, y⟩ : Od)], In64 o.code ∧ In64 o.arg := by
    intro o ho
    rcases List.mem_append.1 ho with ho | ho
    · exact hW3.wf o ho
    · rw [List.mem_singleton.1 ho]
      exact ⟨hx, hy⟩
  refine ⟨A4, c4, _, rfl, (by show _ = _; simp), ho4.ops hwf (by simp; omega), fun e => ?_, hb3.trans (hb4.mono hb3.size)⟩
  rcases ho4.form with ⟨_, h2, _⟩ | ⟨g, h2, _⟩
  · exact h2
  · rw [h2] at e; cases e
def GivesMe (ns : List Nd) (w : World) (os : List Od) (μ : List Int) (i : Nat) (e : Ending) (w' : World) : Prop :=
  ∃ (os' : List Od) (μ' : List Int), GivesSave w os' μ' e w' ∧ Hid (os'.length = os.length + 1) ∧ Mo μ μ' ∧ 0 ≤ μ'.getD i 0 ∧ MuOk ns μ'
theorem memoed_me {ns : List Nd} (h12 : ns.length ≤ 12) (A : Option Addr) (os : List Od) (c : Nat) (M : Option Addr) (μ : List Int) (d i : Nat) (w : World) (h : OpsAt w w.heap.size A os) (hn : A = none → c = 0) (h2 : IntsAt w w.heap.size M μ) (hn2 : M = none → d = 0)
    (hl : os.length ≤ 7000000) (hi : i < ns.length) (hμ : MuOk ns μ) :
    Calls Tryd.prog 52 #[.slice A os.length c, .slice M μ.length d, .int .i64 (i : Int)] w (GivesMe ns w os μ i) := by
  have hlen := hμ.len
  have ht := takenTo_le μ μ.length
  refine (memoed_any A os c M μ d i w h hn h2 hn2 hl (by omega) (by omega) hμ.vals).mono ?_
  intro e w' hg
  refine ⟨memoOps os μ, memoSet μ i, hg, (by show _ = _; simp [memoOps]), Mo.set _ _ (by omega), ?_, by simp [memoSet, hlen], fun x hx => ?_⟩
  · unfold memoSet
    rw [getD_set_self (by omega)]
    omega
  · rcases List.mem_or_eq_of_mem_set hx with hx | rfl
    · exact hμ.vals x hx
    · omega
theorem SvS.emit {ns : List Nd} {w wr w' : World} {A : Option Addr} {os : List Od} {μ : List Int} {r n : Nat} {B B2 : Option Addr} {c c2 : Nat} {os' os2 : List Od} {M : Option Addr} {d : Nat} {μ' : List Int}
    (h : SvS ns w wr A os μ r n B c os' M d μ') (hl : Hid (os2.length = os'.length + 1)) (ho : OpsAt w' w'.heap.size B2 os2) (hn : B2 = none → c2 = 0) (hb : Below wr.heap.size wr w') : SvS ns w w' A os μ r (n + 1) B2 c2 os2 M d μ' :=
  ⟨h.bel.trans (hb.mono h.bel.size), h.gr.later hb, ho, hn, h.memo.later hb (Nat.le_refl _), h.nm, by have := h.sum; have := hl.out; omega, h.mo, h.ok⟩
theorem SvS.call {ns : List Nd} {w wr w' : World} {A : Option Addr} {os : List Od} {μ : List Int} {r n k : Nat} {B B2 : Option Addr} {c c2 : Nat} {os' os2 : List Od} {M M2 : Option Addr} {d d2 : Nat} {μ' μ2 : List Int}
    (h : SvS ns w wr A os μ r n B c os' M d μ') (ho : OpsAt w' w'.heap.size B2 os2) (hn : B2 = none → c2 = 0) (hm : IntsAt w' w'.heap.size M2 μ2) (hnm : M2 = none → d2 = 0) (hb : Below wr.heap.size wr w')
    (hs : os2.length + Phi ns μ2 r ≤ os'.length + k + Phi ns μ' r) (hmo : Mo μ' μ2) (hok : MuOk ns μ2) : SvS ns w w' A os μ r (n + k) B2 c2 os2 M2 d2 μ2 :=
  ⟨h.bel.trans (hb.mono h.bel.size), h.gr.later hb, ho, hn, hm, hnm, by have := h.sum; omega, h.mo.trans hmo, hok⟩
theorem SvS.anew {ns : List Nd} {w wr : World} {A : Option Addr} {os : List Od} {μ : List Int} {r n : Nat} {B : Option Addr} {c : Nat} {os' : List Od} {M : Option Addr} {d : Nat} {μ' : List Int}
    (h : SvS ns w wr A os μ r n B c os' M d μ') (r' : Nat) : SvS ns wr wr A os' μ' r' 0 B c os' M d μ' :=
  ⟨Below.refl _ _, h.gr, h.ops, h.nb, h.memo, h.nm, Nat.le_refl _, Mo.refl _, h.ok⟩
end Go.Proofs.YthckkpbjpgfdcabDoor

namespace Go.Proofs.YthckkpbjpgfdcabDoor
open Go.RowKit
set_option linter.unusedVariables false
set_option maxRecDepth 100000 in
set_option maxHeartbeats 2000000 in
theorem saveAll_any {ns : List Nd} (h12 : ns.length ≤ 12) (A : Option Addr) (cn : Nat) (root lev : Int) (m : Nat) (hOk : SaveOk ns A cn root lev m)
    (L : Option Addr) (xs : List Int) (cl r : Nat) (B : Option Addr) (os : List Od) (c : Nat) (M : Option Addr) (μ : List Int) (d : Nat) (w : World)
    (hL : IntsAt w w.heap.size L xs) (hr : r ≤ 13) (hx : ∀ x ∈ xs, 0 ≤ x ∧ x < (ns.length : Int) ∧ (kindOf ns x = 2 → rk ns x < r)) (hm : 14 * Lc ns μ + r < m) (hl : os.length + xs.length + Phi ns μ r + 2000 * m ≤ 1000000)
    (hS : SvS ns w w A os μ r 0 B c os M d μ) :
    Calls Tryd.prog 55 #[.agg #[.slice A ns.length cn, .int .i64 root], .int .i64 lev, .slice L xs.length cl, .slice B os.length c, .slice M μ.length d] w (GivesSv ns w os μ r xs.length) := by
  have HOk := hide hOk
  have Hx := hide hx
  have Hm := hide hm
  have hB : Below w.heap.size w (w.alloc (.cells #[.slice A ns.length cn, .int .i64 root] 52)) := (Below.refl _ _).alloc (Nat.le_refl _) _
  have l1 := Lies.new w #[.slice A ns.length cn, .int .i64 root] 52
  have HS0 := hide (hS.later hB)
  have HL := hide (hL.later hB (Nat.le_refl _))
  clear hOk hx hm hS hL hB
  go_enter Tryd.func55, Tryd.ntmps55
  go_wp2_with fail
  generalize w.alloc (.cells #[.slice A ns.length cn, .int .i64 root] 52) = W at l1 HS0 HL ⊢
  have hW1 := l1.lt
  go_loopw [3, 4, 12] (fun ov mv iv wr => ∃ (k : Nat) (Bk : Option Addr) (ck : Nat) (osk : List Od) (Mk : Option Addr) (dk : Nat) (μk : List Int), k ≤ xs.length ∧ iv = .int .i64 (k : Int) ∧ ov = .slice Bk osk.length ck ∧ mv = .slice Mk μk.length dk ∧ Below W.heap.size W wr ∧ SvS ns w wr A os μ r k Bk ck osk Mk dk μk) (fun _ _ iv _ => xs.length - (intOf iv).toNat)
  case atStart => exact ⟨0, B, c, os, M, d, μ, Nat.zero_le _, rfl, rfl, rfl, Below.refl _ _, HS0.out⟩
  case round =>
    clear HS0
    obtain ⟨k, Bk, ck, osk, Mk, dk, μk, hk, rfl, rfl, rfl, hbW, hS⟩ := hrel
    have hlr := l1.below hbW hW1
    have e0 := hlr.cell 0
    have e1 := hlr.cell 1
    simp only [jD, jE, jF] at e0 e1
    have HS := hide hS
    have HbW := hide hbW
    by_cases hlt : k < xs.length
    · obtain ⟨b, off, x, rfl, hbl, hx, hmem, hcx⟩ := (HL.out.below hbW).at_ hlt
      obtain ⟨hx0, hxl, hxr⟩ := Hx.out x hmem
      obtain ⟨i, rfl⟩ := Int.eq_ofNat_of_zero_le hx0
      have Hxr := hide hxr
      have Hxl := hide hxl
      have hd := hS.later (Below.refl _ _).drew
      have Hd := hide hd
      have HdW := hide hbW.drew
      have Hsum := hide hS.sum
      have Hmo := hide hS.mo
      have hk1 : (0 : Int) ≤ (k : Int) := by omega
      have hk2 : (k : Int) < (xs.length : Int) := by omega
      have hcall := hide (fun X : World => fun h : SvS ns X X A osk μk r 0 Bk ck osk Mk dk μk => HOk.out i r Bk osk ck Mk μk dk X (by have := Hxl.out; omega) hr Hxr.out (by have := Lc_mono (ns := ns) Hmo.out; have := Hm.out; omega) (by have := Hsum.out; omega) h)
      have hda := Hd.out.anew r
      have z1 : w.heap.size < wr.heap.size := by have := hbW.size; omega
      have z2 : b < wr.heap.size := by have := hbW.size; omega
      clear hlr hS hbW hx hmem hx0 hxl hxr hd HS HbW
      go_wp2_with fail
      go_region_held3 (fun w' => w'.cell? ⟨w.heap.size, 0, none⟩ = some (.slice A ns.length cn) ∧ w'.cell? ⟨w.heap.size, 1, none⟩ = some (.int .i64 root) ∧ w'.cell? ⟨b, off + k, none⟩ = some (.int .i64 (i : Int)))
        (first
          | (go_split_ands; refine ⟨?_, ?_, ?_⟩ <;> assumption))
        (first
          | (go_at_call 36; refine (hcall.out _ hda).mono ?_; rintro e w3 ⟨os3, μ3, ⟨B3, c3, M3, d3, rfl, ho3, hn3, hi3, hm3, hb3⟩, hs3, hmo3, hok3⟩
             have q0 := (hb3.cell (p := ⟨w.heap.size, 0, none⟩) z1).trans e0; have q1 := (hb3.cell (p := ⟨w.heap.size, 1, none⟩) z1).trans e1; have q2 := (hb3.cell (p := ⟨b, off + k, none⟩) z2).trans hcx))
      have HS3 := hide (Hd.out.call ho3 hn3 hi3 hm3 hb3 hs3 hmo3 hok3)
      have HW3 := hide (HdW.out.trans (hb3.mono HdW.out.size))
      clear ho3 hn3 hi3 hm3 hb3 hs3 hmo3 hok3 Hd HdW Hsum Hmo hda hcall q0 q1 q2 e0 e1 hcx
      go_wp2
      go_roundw
      case rel => exact ⟨k + 1, B3, c3, os3, M3, d3, μ3, by omega, by go_num, rfl, rfl, HW3.out, HS3.out⟩
      case measure => simp [intOf]; omega
    · obtain rfl : k = xs.length := by omega
      have hf := hide (HS.out.gives (m := xs.length) (Nat.le_refl _))
      clear hS hbW hlr e0 e1 HS HbW hlt
      go_wp2
      go_ret2
      exact hf.out
end Go.Proofs.YthckkpbjpgfdcabDoor

namespace Go.Proofs.YthckkpbjpgfdcabDoor
open Go.RowKit
set_option linter.unusedVariables false
set_option maxRecDepth 100000 in
set_option maxHeartbeats 1000000 in
theorem depWatch_any (base bc k : Nat) (os : List Od) (D : Nat → Prop) (Ap : Option Addr) (cp : Nat) (W : World) (hJ : Coll base bc List.length os k D W) (hbase : base ≤ W.heap.size) (hn : (stk os (k + 1)).length ≤ 300) (hk : k ≤ 300) :
    Calls Tryd.prog 18 (#[.slice Ap (stk os (k + 1)).length cp] ++ #[.pointer (some ⟨bc, 0, none⟩)]) W (Watched W (k + 1) D (Coll base bc List.length os)) := by
  obtain ⟨A, c, hl, ho, hA, hD⟩ := hJ
  have hs := toldOf_succ List.length os k
  have hxl := toldOf_len List.length os k
  obtain ⟨xs, hxs⟩ : ∃ xs, xs = toldOf List.length os k := ⟨_, rfl⟩
  rw [← hxs] at hs hxl ho
  rw [← hxl] at hl
  have hc := hl.cell 0
  have hf := hl.frozen 0
  simp only [jD, jE] at hc
  have hl2 : xs.length ≤ 300 := by omega
  have Hs := hide hs
  have Hxl := hide hxl
  have HL := hide hl
  have HO := hide ho
  have HD := hide hD
  clear hs hxl hl ho hD hxs
  generalize hN : (stk os (k + 1)).length = n at hn Hs
  clear hN
  show Calls _ _ #[.slice Ap n cp, .pointer (some ⟨bc, 0, none⟩)] _ _
  go_enter Tryd.func18, Tryd.ntmps18
  go_wp2_with (at_builtin; refine append_ints rfl (.tmp 3) (.tmp 6) rfl base A c xs rfl (HO.out.alloc _) _ _ 1 [(n : Int)] rfl (fun e => by cases e) (IntsAt.oneN _ W.heap.size (n : Int) (by constructor <;> omega) rfl) (by simp <;> omega) (by simp <;> omega) ?_; intro zs A5 c5 w5 hz5 ho5 hg5 ha5; have hc5 : w5.cell? ⟨bc, 0, none⟩ = some (.slice A xs.length c) := (hg5.cell_far _ (by have := HL.out.lt; simp; omega) (fun e => hA e.symm)).trans ((World.cell?_alloc_some _ _ _ (Option.isSome_iff_exists.2 ⟨_, hc⟩)).trans hc); have hf5 : w5.frozen? ⟨bc, 0, none⟩ = false := (hg5.frozen_far _ (by have := HL.out.lt; simp; omega) (fun e => hA e.symm)).trans (Lies.frozen (HL.out.alloc _) 0))
  go_end0
  have hL := HL.out
  rw [Hxl.out] at hL
  exact Coll.next hL hA HD.out (by rw [hz5.out, Hs.out]) ho5 hg5 ha5
theorem enter_dep (args : Array Value) (W : World) : (callFunc 18 args).run Tryd.prog W = .ok (.enter 18 args) W := by
  kernel_rfl
set_option maxRecDepth 100000 in
set_option maxHeartbeats 1000000 in
theorem implDepthsOf_any (A : Option Addr) (os : List Od) (c : Nat) (w : World) (h : OpsAt w w.heap.size A os) (hF : FormsAt w w.heap.size) (hN : NeedsAt w w.heap.size) :
    Calls Tryd.prog 9 #[.slice A os.length c] w (GivesInts w (depthsOf os)) := by
  have hB0 := (Below.refl w.heap.size w).alloc (Nat.le_refl _) (.cells #[.slice none 0 0] 25)
  have HB0 := hide hB0
  have L0 := hide (Lies.new w #[.slice none 0 0] 25)
  have hsz : w.heap.size ≤ (w.alloc (.cells #[.slice none 0 0] 25)).heap.size := hB0.size
  by_cases hok : OpsOk os
  · have HV := hide (show depthsOf os = toldOf List.length os (runShp Shp.new os).2 by unfold depthsOf; rw [if_pos hok])
    have HC := hide (watched_any A os c w.heap.size 18 #[.pointer (some ⟨w.heap.size, 0, none⟩)] (Coll w.heap.size w.heap.size List.length os) (fun b => b = w.heap.size ∨ blockOf none = some b) _ (h.below hB0) (hF.below hB0) (hN.below hB0) hok hsz
      (fun b hb => by rcases hb with rfl | hb; exact Nat.le_refl _; cases hb) (Coll.watcher _ _ _ _ _ _)
      ⟨none, 0, L0.out, OwnI.empty _ _, by simp [blockOf], fun b => Iff.rfl⟩ enter_dep
      (fun k D W Ap cp hk hJ hI hA => depWatch_any w.heap.size w.heap.size k os D Ap cp W hJ (by obtain ⟨A9, c9, hl9, _⟩ := hJ; have := hl9.lt; omega) (stk_le hok.2 _) (by have := hok.1; omega)))
    obtain ⟨R, hR⟩ : ∃ R, R = runShp Shp.new os := ⟨_, rfl⟩
    rw [← hR] at HC HV
    obtain ⟨s, n⟩ := R
    rw [HV.out]
    clear hR hok hB0 HV h hF hN
    go_enter Tryd.func9, Tryd.ntmps9
    go_upto_region 2 with fail
    generalize w.alloc (.cells #[.slice none 0 0] 25) = W at HB0 L0 HC hsz ⊢
    go_wp2_with (go_at_call 13; refine HC.out.mono ?_; rintro e w2 ⟨p, D, rfl, ho, ⟨A2, c2, hl2, hown2, hA2, hD2⟩, _, _, hf⟩; have hcc := hl2.cell 0; simp only [jD, jE] at hcc; have HX := hide (And.intro hown2 (HB0.out.trans (hf.belowB (B := w.heap.size) (fun b hb => by rcases hb with rfl | hb; exact Nat.le_refl _; cases hb) hsz))); clear ho hl2 hown2 hD2 hf)
    go_ret
    refine ⟨A2, c2, ?_, HX.out.1, HX.out.2⟩
    rw [toldOf_len]
    rfl
  · have HV := hide (show depthsOf os = [] by unfold depthsOf; rw [if_neg hok])
    have HC := hide (watched_bad A os c (.func (.func 18) #[] #[.pointer (some ⟨w.heap.size, 0, none⟩)]) _ (h.later hB0 (Nat.le_refl _)) (hF.later hB0 (Nat.le_refl _)) hok)
    rw [HV.out]
    clear hok hB0 HV h hF hN
    go_enter Tryd.func9, Tryd.ntmps9
    go_upto_region 2 with fail
    have hlt := L0.out.lt
    generalize w.alloc (.cells #[.slice none 0 0] 25) = W at HB0 L0 HC hsz hlt ⊢
    go_wp2_with (go_at_call 13; refine HC.out.mono ?_; rintro e w2 ⟨rfl, hb⟩; have hcc := (L0.out.below hb hlt).cell 0; simp only [jD, jE] at hcc; have HX := hide (HB0.out.trans (hb.mono hsz)); clear hb)
    go_ret
    exact ⟨none, 0, rfl, OwnI.empty _ _, HX.out⟩
end Go.Proofs.YthckkpbjpgfdcabDoor
