/-
  Lemmas, several texts in one: ShpW, OwnOO, RuS.
-/
import Derived.Test.YtochdhibmmohfacShpR
import Derived.Deep.RegionHeld
import Derived.Test.YtochdhibmmohfacOwnO
import Derived.Maps.AppendAt
import Derived.Laws.AppendOwnNone
import Derived.Test.YtochdhibmmohfacPjAe
import Derived.Test.YtochdhibmmohfacPjAd
import Derived.Test.YtochdhibmmohfacPjAb
import Derived.Test.YtochdhibmmohfacPjAf
import Derived.Deep.QuietTactic
import Derived.BigQuiet
import Derived.WalkSmall
namespace Go.Proofs.Ytochdhibmmohfac
open Go.RowKit
set_option linter.unusedVariables false

/-- an operation that only reads is taken first -/
theorem takeO {P : Program} {ops : Array Oper} {Q : Exit → Act → World → Prop} {md : Region.Mode} {S : World → Prop} (i d : Nat) {op ty pos af gd} {v : Value} {fuel : Nat} {listed : Array Bool} {a : Act} {w : World}
    (hi : ops[i]? = some { dst := some d, op := op, type := ty, pos := pos, after := af, guard := gd }) (hS : S w) (hs : Region.noSelect ops = true := by kernel_rfl) (hf : Region.free md ops listed i = true := by kernel_rfl) (hr : (Region.ready md ops listed).contains i = true := by kernel_rfl)
    (hw : Region.wanted { dst := some d, op := op, type := ty, pos := pos, after := af, guard := gd } (yielded ops a.tmps) = true := by rfl) (hQ : ∀ c a w, Q (.panic c) (a.put (some d) v) w → Q (.panic c) a w := by exact fun _ _ _ h => h)
    (hv : ∀ w, S w → (execOp a.eval { dst := some d, op := op, type := ty, pos := pos, after := af, guard := gd }).run P w = .ok (.value v) w) (h : wpAnyH P md ops Q S fuel (listed.setIfInBounds i true) (a.put (some d) v) w) : wpAnyH P md ops Q S (fuel + 1) listed a w :=
  wpAnyH_take hi hs hf hr hQ (.inl ⟨hw, hv⟩) hS h

/-- an operation whose guard is shut is taken first -/
theorem takeN {P : Program} {ops : Array Oper} {Q : Exit → Act → World → Prop} {md : Region.Mode} {S : World → Prop} (i d : Nat) {op ty pos af gd} {fuel : Nat} {listed : Array Bool} {a : Act} {w : World}
    (hi : ops[i]? = some { dst := some d, op := op, type := ty, pos := pos, after := af, guard := gd }) (hS : S w) (hs : Region.noSelect ops = true := by kernel_rfl) (hf : Region.free md ops listed i = true := by kernel_rfl) (hr : (Region.ready md ops listed).contains i = true := by kernel_rfl)
    (hw : Region.wanted { dst := some d, op := op, type := ty, pos := pos, after := af, guard := gd } (yielded ops a.tmps) = false := by rfl) (hQ : ∀ c a w, Q (.panic c) (a.put (some d) undef) w → Q (.panic c) a w := by exact fun _ _ _ h => h)
    (h : wpAnyH P md ops Q S fuel (listed.setIfInBounds i true) (a.put (some d) undef) w) : wpAnyH P md ops Q S (fuel + 1) listed a w :=
  wpAnyH_take hi hs hf hr hQ (.inr ⟨hw, rfl⟩) hS h

theorem Lies.five {w : World} {q : Nat} {v0 v1 v2 v3 v4 : Value} {t : TypeId} (h : Lies w q #[v0, v1, v2, v3, v4] t) : w.cell? ⟨q, 0, none⟩ = some v0 ∧ w.cell? ⟨q, 1, none⟩ = some v1 ∧ w.cell? ⟨q, 2, none⟩ = some v2 ∧ w.cell? ⟨q, 3, none⟩ = some v3 ∧ w.cell? ⟨q, 4, none⟩ = some v4 :=
  ⟨h.cell 0, h.cell 1, h.cell 2, h.cell 3, h.cell 4⟩
theorem Lies.zero {w : World} {q : Nat} {v0 v1 : Value} {t : TypeId} (h : Lies w q #[v0, v1] t) : w.cell? ⟨q, 0, none⟩ = some v0 := h.cell 0

/-- shapes in a box of which nothing is said but that they lie there -/
structure ShW (w0 w : World) (p0 : ShPtr) (B q q2 : Nat) (p : ShPtr) (s : Shp) : Prop where
  box : Lies w q (shCells p s) 46
  res : Lies w q2 zero5 46
  bel : Below B w0 w
  fr : FrSh w0 w p0
  ne : q ≠ q2
  hq2 : B ≤ q2
  sq2 : w0.heap.size ≤ q2

/-- the box is written anew, with what a call handed back -/
theorem ShSt.refillW {w0 X w5 : World} {base q q2 : Nat} {p p0 p5 : ShPtr} {s t : Shp} (h : ShSt w0 X p0 base base q q2 p s) (hb : Below base X w5) (hf : FrSh X w5 p) :
    Lies w5 q (shCells p s) 46 ∧ ShW w0 (set5 w5 q (.slice p5.K t.kinds.length p5.c1) (.slice p5.F t.full.length p5.c2) (.slice p5.S t.stack.length p5.c3) (.slice p5.M t.memo.length p5.c4) (.bool t.done)) p0 base q q2 p5 t := by
  have h1 : Lies w5 q (shCells p s) 46 := (hf q h.bx.box.lt h.bx.off).trans h.bx.box
  have h2 : Lies w5 q2 zero5 46 := (hf q2 h.res.lt h.off2).trans h.res
  have hs : w0.heap.size ≤ X.heap.size := by have := h.bx.box.lt; have := h.sq; omega
  refine ⟨h1, (Lies.set5 h1 _ _ _ _ _).2, (set5_block h.ne.symm).trans h2, set5_below (h.bel.trans hb) h.hq, fun k hk ho => ?_, h.ne, h.hq2, h.sq2⟩
  rw [set5_block (by have := h.sq; omega), hf k (by omega) (h.offs k hk ho)]
  exact h.fr k hk ho

theorem ShSt.refill {w0 X w5 : World} {base q q2 : Nat} {p p0 p5 : ShPtr} {s t : Shp} (h : ShSt w0 X p0 base base q q2 p s) (hb : Below base X w5) (hf : FrSh X w5 p) (ho : ShOwn w5 base p5 t) (hof : OffSh X p p5) :
    ShSt w0 (set5 w5 q (.slice p5.K t.kinds.length p5.c1) (.slice p5.F t.full.length p5.c2) (.slice p5.S t.stack.length p5.c3) (.slice p5.M t.memo.length p5.c4) (.bool t.done)) p0 base base q q2 p5 t := by
  have hW := (h.refillW (p5 := p5) (t := t) hb hf).2
  have hq : p5.Off q := hof q h.bx.box.lt h.bx.off
  have hs : w0.heap.size ≤ X.heap.size := by have := h.bx.box.lt; have := h.sq; omega
  have hz := hb.size
  have hB := h.hB
  exact ⟨⟨hW.box, ho.set5 hq, hq⟩, hW.res, hof q2 h.res.lt h.off2, hW.bel, h.ne, by rw [set5_size]; omega, h.hb, h.hq, h.hq2, hW.fr, fun k hk hk2 => hof k (by omega) (h.offs k hk hk2), h.sq, h.sq2⟩

theorem ShSt.toW {w0 w : World} {base q q2 : Nat} {p p0 : ShPtr} {s : Shp} (h : ShSt w0 w p0 base base q q2 p s) : ShW w0 w p0 base q q2 p s := ⟨h.bx.box, h.res, h.bel, h.fr, h.ne, h.hq2, h.sq2⟩

end Go.Proofs.Ytochdhibmmohfac

namespace Go.Proofs.Ytochdhibmmohfac
open Go.RowKit
set_option linter.unusedVariables false

theorem opVals_one (os : List Od) : ∀ u ∈ opVals os, u.oneCell' = true := by
  intro u hu
  obtain ⟨o, _, hu⟩ := List.mem_flatMap.1 hu
  simp at hu
  rcases hu with rfl | rfl <;> rfl

theorem opVals_append (os ps : List Od) : opVals (os ++ ps) = opVals os ++ opVals ps := by simp [opVals]

theorem OpsAt.vals {w : World} {B b off : Nat} {os : List Od} (h : OpsAt w B (some ⟨b, off, none⟩) os) : ∀ j u, (opVals os)[j]? = some u → w.cell? ⟨b, off + j, none⟩ = some u := by
  intro j u hu
  have hj : j < os.length * 2 := by have := (List.getElem?_eq_some_iff.1 hu).1; rwa [opVals_len] at this
  have hk : j / 2 < os.length := by omega
  obtain ⟨b', off', o, e, _, ho, _, hc0, hc1⟩ := h.at_ hk
  injection e with e
  injection e with e1 e2
  subst e1 e2
  rcases Nat.mod_two_eq_zero_or_one j with hm | hm
  · have ej : j = j / 2 * 2 := by omega
    have := opVals_code ho
    rw [← ej] at this hc0
    rw [this] at hu
    injection hu with hu
    rw [← hu]
    exact hc0
  · have ej : j = j / 2 * 2 + 1 := by omega
    have := opVals_arg ho
    rw [← ej] at this
    rw [Nat.add_assoc, ← ej] at hc1
    rw [this] at hu
    injection hu with hu
    rw [← hu]
    exact hc1

/-- append(s, t...) where s is the call's own and t is any slice of orders that reads as ys -/
theorem append_ops {w : World} {ops : Array Oper} {rest : List Oper} {o : Oper} {a : Act} {Q : Exit → Act → World → Prop} (hgd : o.guard = none) (s x : Operand)
    (ho : o.op = .call { callee := .builtin .append, args := #[s, x], argTypes := #[32, 32] })
    (base : Nat) (A : Option Addr) (c : Nat) (xs : List Od) (hs : a.eval s = .slice A xs.length c) (hown : OwnO w base A c xs)
    (B : Nat) (A2 : Option Addr) (c2 : Nat) (ys : List Od) (hx : a.eval x = .slice A2 ys.length c2) (hnil : A2 = none → c2 = 0) (hr : OpsAt w B A2 ys)
    (hsum : xs.length + ys.length ≤ 8388608) (hbase : base ≤ w.heap.size)
    (h : ∀ (zs : List Od) (A' : Option Addr) (c' : Nat) (w' : World), Hid (zs = xs ++ ys) → OwnO w' base A' c' zs → w.grownBy w' (blockOf A) → (blockOf A' = blockOf A ∨ blockOf A' = some w.heap.size) →
      wpList Try.prog ops Q rest (a.put o.dst (.slice A' zs.length c')) w') : wpList Try.prog ops Q (o :: rest) a w := by
  obtain ⟨i0, hi, hz0, hz1, hz2⟩ := info_parts infoOp
  have hempty : A2 = none → ys = [] := by
    intro e
    cases ys with
    | nil => rfl
    | cons y ys =>
      obtain ⟨b, off, e2, _⟩ := hr.row (by simp)
      rw [e] at e2; cases e2
  rcases A2 with _ | ad
  · obtain rfl := hnil rfl
    obtain rfl := hempty rfl
    exact wpList_append_own_none hgd s x 32 ho base 49 i0 2 Try.underlying32 hi _ _ _ hs hown.own hx
      (h xs A c w (by simp [Hid]) hown (World.grownBy.refl w _) (.inl rfl))
  · have hcells : ∀ j u, (opVals ys)[j]? = some u → w.cell? (ad.add j) = some u := by
      intro j u hu
      have hy : ys ≠ [] := by intro e; subst e; simp [opVals] at hu
      obtain ⟨b, off, e2, _⟩ := hr.row hy
      obtain rfl : ad = ⟨b, off, none⟩ := Option.some.inj e2
      have hadd : (⟨b, off, none⟩ : Addr).add j = ⟨b, off + j, none⟩ := by
        unfold Addr.add
        split
        · rename_i h0; subst h0; rfl
        · rfl
      rw [hadd]
      exact hr.vals j u hu
    refine wpList_append_own_at w hgd s x 32 ho base 49 i0 _ 2 16 Try.underlying32 hi hz0 hz1 hz2 rfl (by omega) _ _ _ hs hown.own ad ys.length c2 (opVals ys) hx (by rw [opVals_len]) hcells (opVals_one ys)
      (by unfold maxLen; omega) (by omega) hbase ?_
    intro v' w' h2 h3 _ h5
    have hlen : xs.length + ys.length = (xs ++ ys).length := by simp
    rw [ownBlock_slice] at h3 h5
    rw [← opVals_append, hlen] at h2
    rcases h2.2 with ⟨rfl, h6⟩ | ⟨g, cap, cur, rfl, _⟩
    · have hzs : xs ++ ys = [] := List.eq_nil_of_length_eq_zero h6
      have := h (xs ++ ys) none 0 w' (by simp [Hid]) ⟨by rw [h6] at h2 ⊢; exact h2⟩ h3 (by simpa [blockOf, Value.ownBlock] using h5)
      rw [h6] at this
      exact this
    · exact h (xs ++ ys) _ _ w' (by simp [Hid]) ⟨h2⟩ h3 (by simpa [ownBlock_slice] using h5)

theorem OpsAt.upto {w : World} {B : Nat} {A : Option Addr} {os : List Od} (h : OpsAt w B A os) (n : Nat) : OpsAt w B A (os.take n) := by
  refine ⟨fun hx => ?_, fun x hx => h.wf x (List.mem_of_mem_take hx), Nat.le_trans (by simp; omega) h.len⟩
  obtain ⟨b, off, e, hlt, hc⟩ := h.row (by intro e; subst e; simp at hx)
  refine ⟨b, off, e, hlt, fun j x hj => hc j x ?_⟩
  rw [List.getElem?_take] at hj
  split at hj
  · exact hj
  · cases hj

end Go.Proofs.Ytochdhibmmohfac

namespace Go.Proofs.Ytochdhibmmohfac
open Go.RowKit
set_option linter.unusedVariables false

theorem ruOk_parts (r : Ru) (hc : Diff r.cls 9) : RuOk r ↔ ((0 ≤ r.steps ∧ r.steps ≤ 300) ∧ (0 ≤ r.nodes ∧ r.nodes ≤ 300) ∧ (0 ≤ r.deep ∧ r.deep ≤ 300)) :=
  ⟨fun h => ⟨h.s, h.n, h.d⟩, fun h => ⟨h.1, h.2.1, h.2.2, hc⟩⟩

/-- inRange as one contract -/
theorem inRange_b (n lo hi : Int) (b : Bool) (w : World) (h : decide (lo ≤ n ∧ n ≤ hi) = b) : Calls Try.prog 24 #[.int .i64 n, .int .i64 lo, .int .i64 hi] w fun e w' => e = .returned (.bool b) ∧ w' = w := by
  by_cases hh : lo ≤ n ∧ n ≤ hi
  · obtain rfl : b = true := by rw [← h]; simpa using hh
    refine (inRange_yes n lo hi w hh.1 hh.2).mono ?_
    rintro e w' ⟨rfl, hw⟩
    exact ⟨rfl, by first | exact hw | exact hw.symm⟩
  · obtain rfl : b = false := by rw [← h]; simpa using hh
    refine (inRange_no n lo hi w (by omega)).mono ?_
    rintro e w' ⟨rfl, hw⟩
    exact ⟨rfl, by first | exact hw | exact hw.symm⟩

theorem Diff.snoc {xs : List Int} {k : Nat} {x m : Int} (h : Diff (xs.take k) m) (hx : xs[k]? = some x) (hr : 0 ≤ x ∧ x ≤ m) (hn : x ∉ xs.take k) : Diff (xs.take (k + 1)) m := by
  have e : xs.take (k + 1) = xs.take k ++ [x] := by rw [List.take_add_one, hx]; rfl
  rw [e]
  refine ⟨fun y hy => ?_, ?_⟩
  · rcases List.mem_append.1 hy with hy | hy
    · exact h.rng y hy
    · simp at hy; subst hy; exact hr
  · rw [List.nodup_append]
    exact ⟨h.nd, by simp, fun a ha b hb => by simp at hb; subst hb; intro e; subst e; exact hn ha⟩
theorem Diff.not_twice {xs : List Int} {k : Nat} {x m : Int} (hx : xs[k]? = some x) (hn : x ∈ xs.take k) : ¬ Diff xs m := by
  intro ho
  obtain ⟨j, hj, e⟩ := List.getElem_of_mem hn
  have hj2 : j < k ∧ j < xs.length := by simp at hj; omega
  rw [List.getElem_take] at e
  obtain ⟨hk2, e2⟩ := List.getElem?_eq_some_iff.1 hx
  have := (List.getElem_inj ho.nd).1 (e.trans e2.symm)
  omega

set_option maxRecDepth 100000 in
set_option maxHeartbeats 2000000 in
theorem specValid_any (A : Option Addr) (r : Ru) (c : Nat) (w : World) (h : RuAt w w.heap.size A r) (hl : r.cls.length ≤ 1048576) (hcap : r.cls.length ≤ c) :
    Calls Try.prog 12 #[ruVal r A c] w fun e w' => e = .returned (.bool (tf (RuOk r))) ∧ Below w.heap.size w w' := by
  have hB0 := (Below.refl w.heap.size w).alloc (Nat.le_refl _) (.cells (ruCells r A c) 25)
  have HB0 := hide hB0
  have L0 := hide (Lies.new w (ruCells r A c) 25)
  have HC := hide (h.c.later hB0 (Nat.le_refl _))
  have hs := h.s
  have hn := h.n
  have hd := h.d
  clear h hB0
  unfold ruVal
  unfold ruCells at *
  go_enter Try.func12, Try.ntmps12
  go_wp2_with fail
  have hlt0 := L0.out.lt
  generalize w.alloc (.cells #[.int .i64 r.steps, .int .i64 r.nodes, .int .i64 r.deep, .slice A r.cls.length c] 25) = W at HB0 L0 HC hlt0 ⊢
  go_loopw [3] (fun iv wr => ∃ k : Nat, k ≤ r.cls.length ∧ iv = .int .i64 (k : Int) ∧ Below W.heap.size W wr ∧ Diff (r.cls.take k) 9) (fun iv _ => r.cls.length - (intOf iv).toNat)
  case atStart => exact ⟨0, Nat.zero_le _, rfl, Below.refl _ _, ⟨fun x hx => by simp at hx, by simp⟩⟩
  case round =>
    obtain ⟨k, hk, rfl, hb, hdf⟩ := hrel
    have HDf := hide hdf
    have HBr := hide hb
    have lr := L0.out.below hb hlt0
    have c0 := lr.cell 0
    have c1 := lr.cell 1
    have c2 := lr.cell 2
    have c3 := lr.cell 3
    simp only [List.getElem?_toArray, List.getElem?_cons_zero, List.getElem?_cons_succ] at c0 c1 c2 c3
    have HCr := hide (HC.out.later hb (Nat.le_refl _))
    clear hdf lr
    by_cases hlt : k < r.cls.length
    · obtain ⟨b, off, x, hA, hbl, hx, hm, hcx⟩ := HCr.out.at_ hlt
      rw [hA] at c3
      have Hx := hide hx
      have Hm := hide hm
      have hk1 : (0 : Int) ≤ (k : Int) := by omega
      have hk2 : (k : Int) < (r.cls.length : Int) := by omega
      have hk3 : (k : Int) ≤ (c : Int) := by omega
      have HA := hide hA
      obtain ⟨b1, hb1⟩ : ∃ b, decide (0 ≤ x ∧ x ≤ 9) = b := ⟨_, rfl⟩
      have Q1 := hide (fun W => inRange_b x 0 9 b1 W hb1)
      have HB1 := hide hb1
      clear hx hm hb hb1
      cases b1
      · have HF := hide (show tf (RuOk r) = false from tf_false fun ho => by
          have := ho.c.rng x Hm.out
          have h2 := HB1.out
          simp at h2
          omega)
        clear hA
        go_wp2_with fail
        go_quiet ((first | (go_at_call 24; exact Calls.quiet_of_same (Q1.out _))))
        go_wp2
        go_ret
        exact ⟨ret_bool HF.out.symm, below_drewN (HB0.out.trans (HBr.out.mono HB0.out.size)) _⟩
      · have hT : (r.cls.take k).length = k := by simp; omega
        have Q2 := hide (show ∀ n, Calls Try.prog 25 #[.slice (some ⟨b, off, none⟩) k c, .int .i64 x] (wr.drewN n) fun e w' => e = .returned (.int .i64 (place (r.cls.take k) x)) ∧ w' = wr.drewN n from fun n => by
          have hp := placeIn_any A (r.cls.take k) c x (wr.drewN n) ((HCr.out.upto k).later (below_drewN (Below.refl _ _) n) (Nat.le_refl _))
          rw [hT, hA] at hp
          exact hp.mono fun e w' ⟨h1, h2⟩ => ⟨h1, h2.symm⟩)
        by_cases hin : x ∈ r.cls.take k
        · have HF := hide (show tf (RuOk r) = false from tf_false fun ho => Diff.not_twice Hx.out hin ho.c)
          have hpl := (place_lt hin).1
          generalize place (r.cls.take k) x = pl at Q2 hpl
          have hdp : decide (0 ≤ pl) = true := by simpa using hpl
          clear hA hT hin
          go_wp2_with fail
          go_quiet ((first | (go_at_call 24; exact Calls.quiet_of_same (Q1.out _)) | (go_at_call 25; exact Calls.quiet_of_same (Q2.out _))))
          go_wp2
          go_ret
          exact ⟨ret_bool HF.out.symm, below_drewN (HB0.out.trans (HBr.out.mono HB0.out.size)) _⟩
        · have HN := hide (HDf.out.snoc Hx.out (by have h2 := HB1.out; simp at h2; omega) hin)
          rw [place_neg hin] at Q2
          clear hA hT hin
          go_wp2_with fail
          go_quiet ((first | (go_at_call 24; exact Calls.quiet_of_same (Q1.out _)) | (go_at_call 25; exact Calls.quiet_of_same (Q2.out _))))
          go_wp2
          go_roundw
          case rel => exact ⟨k + 1, by omega, by go_num, below_drewN HBr.out _, HN.out⟩
          case measure => simp [intOf]; omega
    · obtain rfl : k = r.cls.length := by omega
      have hdf := HDf.out
      rw [List.take_length] at hdf
      obtain ⟨b1, h1⟩ : ∃ b, decide (0 ≤ r.steps ∧ r.steps ≤ 300) = b := ⟨_, rfl⟩
      obtain ⟨b2, h2⟩ : ∃ b, decide (0 ≤ r.nodes ∧ r.nodes ≤ 300) = b := ⟨_, rfl⟩
      obtain ⟨b3, h3⟩ : ∃ b, decide (0 ≤ r.deep ∧ r.deep ≤ 300) = b := ⟨_, rfl⟩
      have HT := hide (show tf (RuOk r) = (b1 && (b2 && b3)) from by
        rw [tf_congr (ruOk_parts r hdf), ← h1, ← h2, ← h3]
        unfold tf
        by_cases g1 : 0 ≤ r.steps ∧ r.steps ≤ 300 <;> by_cases g2 : 0 ≤ r.nodes ∧ r.nodes ≤ 300 <;> by_cases g3 : 0 ≤ r.deep ∧ r.deep ≤ 300 <;> simp [g1, g2, g3])
      have Q1 := hide (fun W => inRange_b r.steps 0 300 b1 W h1)
      have Q2 := hide (fun W => inRange_b r.nodes 0 300 b2 W h2)
      have Q3 := hide (fun W => inRange_b r.deep 0 300 b3 W h3)
      have HBE := hide (HB0.out.trans (HBr.out.mono HB0.out.size))
      clear h1 h2 h3 hdf hb
      cases b1
      · go_wp2_with fail
        refine (Q1.out _).mono ?_
        rintro e w' ⟨rfl, rfl⟩
        go_wp2
        go_ret
        exact ⟨ret_bool (by rw [HT.out]; simp), HBE.out⟩
      cases b2
      · go_wp2_with fail
        refine (Q1.out _).mono ?_
        rintro e w' ⟨rfl, rfl⟩
        go_wp2_with fail
        refine (Q2.out _).mono ?_
        rintro e w' ⟨rfl, rfl⟩
        go_wp2
        go_ret
        exact ⟨ret_bool (by rw [HT.out]; simp), HBE.out⟩
      go_wp2_with fail
      refine (Q1.out _).mono ?_
      rintro e w' ⟨rfl, rfl⟩
      go_wp2_with fail
      refine (Q2.out _).mono ?_
      rintro e w' ⟨rfl, rfl⟩
      go_wp2_with fail
      refine (Q3.out _).mono ?_
      rintro e w' ⟨rfl, rfl⟩
      go_wp2
      go_ret
      exact ⟨ret_bool (by rw [HT.out]; simp), HBE.out⟩

end Go.Proofs.Ytochdhibmmohfac
