/-
  Lemmas, several texts in one: OwnS, Gen, SpecE, ShpUa.
-/
import Derived.Test.YtfigekdejocakaaDoorOwn
import Derived.Deep.RegionLaw
import Derived.Deep.AppendLies
import Derived.Test.YtfigekdejocakaaDoorSomeNode
import Derived.Test.YtfigekdejocakaaDoorSpecC
import Derived.Test.YtfigekdejocakaaDoorPjAe
import Derived.Test.YtfigekdejocakaaDoorShpT
import Derived.Test.YtfigekdejocakaaDoorShpN
import Derived.Deep.QuietTactic
import Derived.Deep.RegionHeld
import Derived.Deep.Cut
import Derived.BigQuiet
namespace Go.Proofs.YtfigekdejocakaaDoor
open Go.RowKit

theorem IntsAt.lit (w : World) (xs : List Int) (hx : ∀ x ∈ xs, In64 x) (hl : xs.length ≤ 1048576) : IntsAt (w.alloc (.cells (xs.map (Value.int .i64)).toArray 3)) (w.heap.size + 1) (some ⟨w.heap.size, 0, none⟩) xs := by
  refine ⟨fun _ => ⟨w.heap.size, 0, rfl, Nat.lt_succ_self _, fun j y hj => ?_⟩, hx, by omega⟩
  rw [(Lies.new w (xs.map (Value.int .i64)).toArray 3).cell]
  simp [hj]

theorem IntsAt.hold {w : World} {b : Nat} {cs : Array Value} {t : TypeId} (h : Lies w b cs t) (xs : List Int) (hc : cs = (xs.map (Value.int .i64)).toArray) (hx : ∀ x ∈ xs, In64 x) (hl : xs.length ≤ 1048576) : IntsAt w w.heap.size (some ⟨b, 0, none⟩) xs := by
  subst hc
  refine ⟨fun _ => ⟨b, 0, rfl, h.lt, fun j y hj => ?_⟩, hx, by omega⟩
  rw [h.cell]
  simp [hj]

/-- append(s, t...) in a statement that draws its order, where s is the call's own and t is an int slice that is not empty -/
theorem step_append_ints {w : World} {ops : Array Oper} {o : Oper} {a : Act} {K : Act → World → Prop} {Q : Exit → Act → World → Prop} {E : Prop} (hgd : o.guard = none) (s x : Operand)
    (ho : o.op = .call { callee := .builtin .append, args := #[s, x], argTypes := #[47, 47] })
    (base : Nat) (A : Option Addr) (c : Nat) (xs : List Int) (hs : a.eval s = .slice A xs.length c) (hown : OwnI w base A c xs)
    (ad : Addr) (c2 : Nat) (ys : List Int) (hne : ys ≠ []) (hx : a.eval x = .slice (some ad) ys.length c2) (hr : IntsAt w w.heap.size (some ad) ys)
    (hsum : xs.length + ys.length ≤ 16777216) (hbase : base ≤ w.heap.size)
    (h : ∀ (zs : List Int) (A' : Option Addr) (c' : Nat) (w' : World), Hid (zs = xs ++ ys) → OwnI w' base A' c' zs → w.grownBy w' (blockOf A) → (blockOf A' = blockOf A ∨ blockOf A' = some w.heap.size) →
      K (a.put o.dst (.slice A' zs.length c')) w') :
    if Region.wanted o (yielded ops a.tmps) = true then Oper.wp Tryd.prog o a w K Q else E := by
  obtain ⟨i0, hi, hz0, hz1, hz2⟩ := info_parts infoI
  have hcells : ∀ j u, (ys.map (Value.int .i64))[j]? = some u → w.cell? (ad.add j) = some u := by
    intro j u hu
    rw [List.getElem?_map] at hu
    cases hy : ys[j]? with
    | none => rw [hy] at hu; cases hu
    | some y =>
      rw [hy] at hu
      simp at hu
      subst hu
      obtain ⟨b, off, e2, _, hc⟩ := hr.row hne
      obtain rfl : ad = ⟨b, off, none⟩ := Option.some.inj e2
      have hadd : (⟨b, off, none⟩ : Addr).add j = ⟨b, off + j, none⟩ := by
        unfold Addr.add
        split
        · rename_i h0; subst h0; rfl
        · rfl
      rw [hadd]
      exact hc j y hy
  refine step_append_lies w hgd s x 47 ho base 3 i0 _ 1 8 Tryd.underlying47 hi hz0 hz1 hz2 rfl (by omega) _ _ _ hs hown.own ad ys.length c2 (ys.map (Value.int .i64)) hx (by simp) hcells (ints_one ys)
    (List.length_pos_iff.2 hne) (by unfold maxLen; omega) (by omega) hbase w.heap.size rfl ?_
  intro g cap w' h2 h3 h4 _
  have hlen : xs.length + ys.length = (xs ++ ys).length := by simp
  rw [ownBlock_slice] at h3 h4
  rw [← List.map_append, hlen] at h2
  rw [hlen]
  refine h (xs ++ ys) (some ⟨g, 0, none⟩) cap w' (by simp [Hid]) ⟨h2⟩ h3 ?_
  rcases h4 with h4 | h4
  · exact .inl (by rw [h4]; rfl)
  · exact .inr (by rw [h4]; rfl)

end Go.Proofs.YtfigekdejocakaaDoor

namespace Go.Proofs.YtfigekdejocakaaDoor
open Go.RowKit
set_option linter.unusedVariables false

/-- the three cells of the node j in the row of the block g -/
structure NdX (w : World) (g rb j : Nat) (n : Nd) : Prop where
  kind : w.cell? ⟨g, j * 3, none⟩ = some (.int .i64 n.kind)
  value : w.cell? ⟨g, j * 3 + 1, none⟩ = some (.int .i64 n.value)
  kids : ∃ A c, w.cell? ⟨g, j * 3 + 2, none⟩ = some (.slice A n.kids.length c) ∧ OwnI w 0 A c n.kids ∧ (∀ x ∈ n.kids, In64 x) ∧ n.kids.length ≤ 1000 ∧ blockOf A ≠ some g ∧ blockOf A ≠ some rb
  wfk : In64 n.kind
  wfv : In64 n.value

structure GenG (w : World) (g rb cap : Nat) (ns : List Nd) : Prop where
  row : ∃ f, w.rowIs g 66 (cap * 3) f
  le : ns.length ≤ cap
  few : ns.length ≤ 1000
  nd : ∀ j n, ns[j]? = some n → NdX w g rb j n
  ne : g ≠ rb
  dis : ∀ (i j : Nat) (A A' : Option Addr) (n n' c c' : Nat), i ≠ j → i < ns.length → j < ns.length → w.cell? ⟨g, i * 3 + 2, none⟩ = some (.slice A n c) → w.cell? ⟨g, j * 3 + 2, none⟩ = some (.slice A' n' c') → ∀ b, blockOf A = some b → blockOf A' ≠ some b

theorem OwnI.same' {w w' : World} {base : Nat} {A : Option Addr} {c : Nat} {xs : List Int} (h : OwnI w base A c xs) (hA : ∀ g, blockOf A = some g → w'.heap[g]? = w.heap[g]?) : OwnI w' base A c xs := by
  refine ⟨h.own.1, ?_⟩
  rcases h.own.2 with h2 | ⟨g, cap, cur, hv, hg, hh, r⟩
  · exact .inl h2
  · have hAg : blockOf A = some g := by
      injection hv with hv
      rw [hv]; rfl
    exact .inr ⟨g, cap, cur, hv, hg, (hA g hAg).trans hh, r⟩

/-- old memory is as it was, but for two blocks -/
structure Grew2 (g1 g2 : Nat) (w w' : World) : Prop where
  os : w'.os = w.os
  tape : w'.tape = w.tape
  output : w'.output = w.output
  size : w.heap.size ≤ w'.heap.size
  block : ∀ k, k < w.heap.size → k ≠ g1 → k ≠ g2 → w'.heap[k]? = w.heap[k]?

theorem Grew2.of_grew {g1 g2 : Nat} {w w' : World} (h : Grew g1 w w') : Grew2 g1 g2 w w' := ⟨h.os, h.tape, h.output, h.size, fun k hk h1 _ => h.block k hk h1⟩
theorem Grew2.trans {g1 g2 : Nat} {a b c : World} (h : Grew2 g1 g2 a b) (k : Grew2 g1 g2 b c) : Grew2 g1 g2 a c :=
  ⟨k.os.trans h.os, k.tape.trans h.tape, k.output.trans h.output, Nat.le_trans h.size k.size, fun j hj h1 h2 => (k.block j (Nat.lt_of_lt_of_le hj h.size) h1 h2).trans (h.block j hj h1 h2)⟩
theorem Grew2.below {g1 g2 B : Nat} {w0 w w' : World} (h : Grew2 g1 g2 w w') (hb : Below B w0 w) (h1 : B ≤ g1) (h2 : B ≤ g2) (hB : B ≤ w.heap.size) : Below B w0 w' :=
  hb.trans ⟨h.os, h.tape, h.output, h.size, fun k hk => h.block k (by omega) (by omega) (by omega)⟩

/-- int slices in a block that is left alone -/
theorem IntsAt.kept {w w' : World} {A : Option Addr} {xs : List Int} (h : IntsAt w w.heap.size A xs) (hs : w.heap.size ≤ w'.heap.size) (hb : ∀ k, blockOf A = some k → k < w.heap.size → w'.heap[k]? = w.heap[k]?) : IntsAt w' w'.heap.size A xs :=
  ⟨fun hx => by
    obtain ⟨b, off, e, hlt, hc⟩ := h.row hx
    subst e
    exact ⟨b, off, rfl, Nat.lt_of_lt_of_le hlt hs, fun j x hj => (World.cell?_of_block (w := w) (hb b rfl hlt)).trans (hc j x hj)⟩, h.wf, h.len⟩

theorem NdX.kept {w w' : World} {g rb j : Nat} {n : Nd} (h : NdX w g rb j n) (hc : ∀ o, o < 3 → w'.cell? ⟨g, j * 3 + o, none⟩ = w.cell? ⟨g, j * 3 + o, none⟩) (hb : ∀ k, k < w.heap.size → k ≠ rb → k ≠ g → w'.heap[k]? = w.heap[k]?) : NdX w' g rb j n := by
  obtain ⟨A, c, h1, h2, h3, h6, h4, h5⟩ := h.kids
  exact ⟨(hc 0 (by omega)).trans h.kind, (hc 1 (by omega)).trans h.value, ⟨A, c, (hc 2 (by omega)).trans h1, h2.same' (fun k hk => hb k (h2.blocks k hk).2 (fun e => h5 (by rw [hk, e])) (fun e => h4 (by rw [hk, e]))), h3, h6, h4, h5⟩, h.wfk, h.wfv⟩

theorem GenG.lt {w : World} {g rb cap : Nat} {ns : List Nd} (h : GenG w g rb cap ns) : g < w.heap.size := by
  obtain ⟨f, hf⟩ := h.row
  exact hf.lt

theorem GenG.grew {w w' : World} {g rb cap : Nat} {ns : List Nd} (h : GenG w g rb cap ns) (hg : Grew rb w w') : GenG w' g rb cap ns := by
  have hb := hg.block g h.lt h.ne
  obtain ⟨f, hf⟩ := h.row
  exact ⟨⟨f, hf.of_block hb⟩, h.le, h.few, fun j n hj => (h.nd j n hj).kept (fun o _ => World.cell?_of_block (w := w) hb) (fun k hk h1 _ => hg.block k hk h1), h.ne, fun i j A A' n n' c c' hij hi hj h1 h2 => h.dis i j A A' n n' c c' hij hi hj ((World.cell?_of_block (w := w) hb).symm.trans h1) ((World.cell?_of_block (w := w) hb).symm.trans h2)⟩

theorem GenG.nds {w : World} {g rb cap : Nat} {ns : List Nd} (h : GenG w g rb cap ns) : NdsAt w w.heap.size (some ⟨g, 0, none⟩) ns :=
  ⟨fun _ => ⟨g, 0, rfl, h.lt, fun j n hj => by
    have hn := h.nd j n hj
    obtain ⟨A, c, h1, h2, h3, h6, _, _⟩ := hn.kids
    rw [Nat.zero_add]
    exact ⟨hn.kind, hn.value, ⟨A, c, h1, h2.ints h3 (by omega), h2.nil⟩, hn.wfk, hn.wfv⟩⟩, by have := h.few; omega⟩

/-- the world behind a store to the node j -/
def put3 (w : World) (g j : Nat) (v0 v1 v2 : Value) : World := ((w.setCell ⟨g, j * 3, none⟩ v0).setCell ⟨g, j * 3 + 1, none⟩ v1).setCell ⟨g, j * 3 + 2, none⟩ v2

theorem put3_block {w : World} {g j k : Nat} {v0 v1 v2 : Value} (hk : k ≠ g) : (put3 w g j v0 v1 v2).heap[k]? = w.heap[k]? := by
  unfold put3
  rw [Below.heap_setCell _ _ _ _ (by show k ≠ g; exact hk), Below.heap_setCell _ _ _ _ (by show k ≠ g; exact hk), Below.heap_setCell _ _ _ _ (by show k ≠ g; exact hk)]
theorem put3_size {w : World} {g j : Nat} {v0 v1 v2 : Value} : (put3 w g j v0 v1 v2).heap.size = w.heap.size := by unfold put3; simp
theorem put3_far {w : World} {g j q : Nat} {v0 v1 v2 : Value} (hq : q < j * 3 ∨ j * 3 + 2 < q) : (put3 w g j v0 v1 v2).cell? ⟨g, q, none⟩ = w.cell? ⟨g, q, none⟩ := by
  unfold put3
  rw [World.cell?_setCell_other, World.cell?_setCell_other, World.cell?_setCell_other] <;> (intro e; injection e with _ e; omega)
theorem put3_row {w : World} {g j n : Nat} {t : TypeId} {f : Nat → Value} (h : w.rowIs g t n f) (v0 v1 v2 : Value) : ∃ f', (put3 w g j v0 v1 v2).rowIs g t n f' := ⟨_, ((h.set _ _).set _ _).set _ _⟩
theorem put3_at {w : World} {g j n : Nat} {t : TypeId} {f : Nat → Value} (h : w.rowIs g t n f) (hn : j * 3 + 2 < n) (v0 v1 v2 : Value) : (put3 w g j v0 v1 v2).cell? ⟨g, j * 3, none⟩ = some v0 ∧ (put3 w g j v0 v1 v2).cell? ⟨g, j * 3 + 1, none⟩ = some v1 ∧ (put3 w g j v0 v1 v2).cell? ⟨g, j * 3 + 2, none⟩ = some v2 := by
  have hr := ((h.set (j * 3) v0).set (j * 3 + 1) v1).set (j * 3 + 2) v2
  unfold put3
  refine ⟨?_, ?_, ?_⟩
  · have := hr.cell (i := j * 3) (by omega)
    simpa using this
  · have := hr.cell (i := j * 3 + 1) (by omega)
    simpa using this
  · have := hr.cell (i := j * 3 + 2) (by omega)
    simpa using this
theorem put3_grew {w : World} {g rb j : Nat} {v0 v1 v2 : Value} : Grew2 rb g w (put3 w g j v0 v1 v2) := ⟨rfl, rfl, rfl, by rw [put3_size]; exact Nat.le_refl _, fun k _ _ hk => put3_block hk⟩

theorem GenG.setFar {w : World} {g rb cap b o : Nat} {ns : List Nd} {v : Value} (h : GenG w g rb cap ns) (hb : b ≠ g) (hk : ∀ j, j < ns.length → ∀ (A : Option Addr) (n c : Nat), w.cell? ⟨g, j * 3 + 2, none⟩ = some (.slice A n c) → blockOf A ≠ some b) : GenG (w.setCell ⟨b, o, none⟩ v) g rb cap ns := by
  have hbl : ∀ k, k ≠ b → (w.setCell ⟨b, o, none⟩ v).heap[k]? = w.heap[k]? := fun k hk => Below.heap_setCell _ _ _ _ hk
  have hg := hbl g (fun e => hb e.symm)
  obtain ⟨f, hf⟩ := h.row
  refine ⟨⟨f, hf.of_block hg⟩, h.le, h.few, fun j n hj => ?_, h.ne, fun i j A A' n n' c c' hij hi hj h1 h2 => h.dis i j A A' n n' c c' hij hi hj ((World.cell?_of_block (w := w) hg).symm.trans h1) ((World.cell?_of_block (w := w) hg).symm.trans h2)⟩
  have hn := h.nd j n hj
  obtain ⟨A, c, h1, h2, h3, h6, h4, h5⟩ := hn.kids
  have hc := fun q => World.cell?_of_block (w := w) (w' := w.setCell ⟨b, o, none⟩ v) (a := ⟨g, q, none⟩) hg
  exact ⟨(hc _).trans hn.kind, (hc _).trans hn.value, ⟨A, c, (hc _).trans h1, h2.same' (fun k hk2 => hbl k (fun e => hk j (List.getElem?_eq_some_iff.1 hj).1 A _ c h1 (by rw [hk2, e]))), h3, h6, h4, h5⟩, hn.wfk, hn.wfv⟩

theorem Rd.kept {w w' : World} {rb : Nat} {A : Option Addr} {n c p : Nat} (h : Rd w rb A n c p) (hr : Below (rb + 1) w w') : Rd w' rb A n c p :=
  ⟨h.box.below hr (by omega), h.bytes.later (hr.mono (by omega)), h.few⟩
theorem Rd.put {w : World} {rb g j : Nat} {A : Option Addr} {n c p : Nat} (h : Rd w rb A n c p) (hg : rb < g) (v0 v1 v2 : Value) : Rd (put3 w g j v0 v1 v2) rb A n c p :=
  h.kept ⟨rfl, rfl, rfl, by rw [put3_size]; exact Nat.le_refl _, fun k hk => put3_block (by omega)⟩

end Go.Proofs.YtfigekdejocakaaDoor

namespace Go.Proofs.YtfigekdejocakaaDoor
open Go.RowKit
set_option linter.unusedVariables false

/-- a valid graph -/
structure ValidG (ns : List Nd) (r : Int) : Prop where
  one : 1 ≤ ns.length
  few : ns.length ≤ 12
  root0 : 0 ≤ r
  root : r < ns.length
  nodes : ∀ n ∈ ns, NodeOk ns n
  tuples : ∀ (i : Nat) (n : Nd), ns[i]? = some n → n.kind = 2 → ¬ TReach ns i i

theorem NodeOk.kidsOk {ns : List Nd} (h12 : ns.length ≤ 12) (h : ∀ n ∈ ns, NodeOk ns n) : KidsOk ns :=
  ⟨h12, fun n hn => ⟨(h n hn).few, (h n hn).inn⟩⟩

set_option maxRecDepth 100000 in
set_option maxHeartbeats 4000000 in
theorem validGraph_in (A : Option Addr) (ns : List Nd) (c : Nat) (r : Int) (w : World) (hr : NdsAt w w.heap.size A ns) (h1 : 1 ≤ ns.length) (h12 : ns.length ≤ 12) (hr0 : 0 ≤ r) (hrl : r < ns.length) :
    Calls Tryd.prog 46 #[.agg #[.slice A ns.length c, .int .i64 r]] w fun e w' => e = .returned (.bool (tf (ValidG ns r))) ∧ Below w.heap.size w w' := by
  have hB : Below w.heap.size w (w.alloc (.cells #[.slice A ns.length c, .int .i64 r] 43)) := (Below.refl _ _).alloc (Nat.le_refl _) _
  have l1 := Lies.new w #[.slice A ns.length c, .int .i64 r] 43
  have hr2 := hr.later hB (Nat.le_refl _)
  clear hr
  have a1 : (1 : Int) ≤ (ns.length : Int) := by omega
  have a2 : (ns.length : Int) ≤ 12 := by omega
  have a3 : r ≤ (ns.length : Int) - 1 := by omega
  go_enter Tryd.func46, Tryd.ntmps46
  go_wp2_with fail
  refine (inRange_yes ns.length 1 12 _ a1 a2).mono ?_
  rintro e w' ⟨rfl, rfl⟩
  go_wp2_with fail
  refine (inRange_yes r 0 ((ns.length : Int) - 1) _ hr0 a3).mono ?_
  rintro e w' ⟨rfl, rfl⟩
  go_wp2_with fail
  generalize w.alloc (.cells #[.slice A ns.length c, .int .i64 r] 43) = W at hB l1 hr2 ⊢
  have hW1 := l1.lt
  go_loopw [3] (fun i wr => ∃ k : Nat, k ≤ ns.length ∧ i = .int .i64 k ∧ Below W.heap.size W wr ∧ (∀ j n, j < k → ns[j]? = some n → NodeOk ns n)) (fun i _ => ns.length - (intOf i).toNat)
  case atStart => exact ⟨0, Nat.zero_le _, rfl, Below.refl _ _, fun j n hj => absurd hj (by omega)⟩
  case round =>
    obtain ⟨k, hkl, rfl, hb, hok0⟩ := hrel
    have hok := hide hok0
    clear hok0
    have e0 := (l1.below hb hW1).cell 0
    have e1 := (l1.below hb hW1).cell 1
    simp at e0 e1
    by_cases hlt : k < ns.length
    · obtain ⟨b, off, n, rfl, hbl, hat, hmem, hN⟩ := (hr2.below hb).at_ hlt
      obtain ⟨hn_k, hn_v, ⟨A1, c1, hn_s, hI1', _⟩, _, _⟩ := hN
      have hk1 : (0 : Int) ≤ (k : Int) := by omega
      have hk3 : (k : Int) < (ns.length : Int) := by omega
      have hbd : Below W.heap.size W wr.drew := hb.drew
      have hI1 : IntsAt wr.drew wr.drew.heap.size A1 n.kids := hI1'.later (Below.refl _ _).drew hb.size
      have hrd : NdsAt wr.drew wr.drew.heap.size (some ⟨b, off, none⟩) ns := hr2.later hb.drew (Nat.le_refl _)
      have Hat := hide hat
      clear hI1' hat
      go_wp2_with fail
      go_still_tail 6, (by kernel_rfl)
      change wpList _ _ _ _ _ wr.drew
      generalize wr.drew = w2 at hbd hI1 hrd ⊢
      clear hb hn_k hn_v hn_s e0 e1
      go_wp2_with fail
      refine (validNode_any _ ns c r A1 n c1 w2 hrd hI1).mono ?_
      rintro e w' ⟨rfl, hb3⟩
      have hb4 := hbd.trans (hb3.mono hbd.size)
      clear hbd hb3 hI1 hrd
      by_cases hnk : NodeOk ns n
      · rw [tf_true hnk]
        go_wp2
        go_roundw
        case rel => exact ⟨k + 1, by omega, by go_num, hb4, fun j m hj hm => by
            by_cases e : j = k
            · subst e
              obtain rfl := Option.some.inj (Hat.out.symm.trans hm)
              exact hnk
            · exact hok.out j m (by omega) hm⟩
        case measure => simp [intOf]; omega
      · rw [tf_false hnk]
        have HF := hide (show tf (ValidG ns r) = false from tf_false fun h => hnk (h.nodes n hmem))
        clear hnk hmem
        go_wp2
        go_ret
        exact ⟨ret_bool HF.out.symm, hB.trans (hb4.mono hB.size)⟩
    · obtain rfl : k = ns.length := by omega
      have hall : ∀ n ∈ ns, NodeOk ns n := fun n hn => by
        obtain ⟨j, hj, rfl⟩ := List.getElem_of_mem hn
        exact hok.out j _ hj (List.getElem?_eq_getElem hj)
      have Hall := hide hall
      clear hall hok hlt
      go_wp2_with fail
      obtain ⟨wo, rfl⟩ : ∃ wo : World, wo = wr := ⟨_, rfl⟩
      go_loopw [4] (fun i wr => ∃ k : Nat, k ≤ ns.length ∧ i = .int .i64 k ∧ Below W.heap.size W wr ∧ (∀ (j : Nat) (n : Nd), j < k → ns[j]? = some n → n.kind = 2 → ¬ TReach ns j j)) (fun i _ => ns.length - (intOf i).toNat)
      case atStart => exact ⟨0, Nat.zero_le _, rfl, hb, fun j n hj => absurd hj (by omega)⟩
      case round =>
        clear e0 e1 hb
        obtain ⟨k, hkl, rfl, hb, hok0⟩ := hrel
        have hok := hide hok0
        clear hok0
        have e0 := (l1.below hb hW1).cell 0
        have e1 := (l1.below hb hW1).cell 1
        simp at e0 e1
        by_cases hlt : k < ns.length
        · obtain ⟨b, off, n, rfl, hbl, hat, hmem, hN⟩ := (hr2.below hb).at_ hlt
          obtain ⟨hn_k, hn_v, ⟨A1, c1, hn_s, hI1', _⟩, _, _⟩ := hN
          have hrd : NdsAt wr wr.heap.size (some ⟨b, off, none⟩) ns := hr2.later hb (Nat.le_refl _)
          have Hat := hide hat
          clear hI1' hat hmem
          by_cases h2 : n.kind = 2
          · have t2 : (n.kind == 2) = true := by rw [beq_iff_eq]; exact h2
            have H2 := hide h2
            clear h2
            go_wp2_with fail
            refine (tupleReach_any _ ns c r k wr hrd (NodeOk.kidsOk h12 Hall.out) hlt).mono ?_
            rintro e w' ⟨A2, c2, out, rfl, hown, hb3, hiff, hrange, _⟩
            have hb4 := hb.trans (hb3.mono hb.size)
            have hio := hown.ints (in64_of_range h12 hrange) (by have := hrange; omega)
            clear hb3 hown hrd
            go_wp2_with fail
            refine (placeIn_any A2 out c2 k w' hio).mono ?_
            rintro e w2 ⟨rfl, rfl⟩
            by_cases hin : (k : Int) ∈ out
            · have hp := place_lt hin
              have HF := hide (show tf (ValidG ns r) = false from tf_false fun h => h.tuples k n Hat.out H2.out ((hiff k).1 hin))
              have hd : decide (0 ≤ place out k) = true := by simp; omega
              generalize place out k = pl at hp hd ⊢
              clear hin hiff hrange
              go_wp2
              go_ret
              exact ⟨ret_bool HF.out.symm, hB.trans (hb4.mono hB.size)⟩
            · rw [place_neg hin]
              have hno : ¬ TReach ns k k := fun h => hin ((hiff k).2 h)
              have Hno := hide hno
              clear hin hiff hrange hno
              go_wp2
              go_roundw
              case rel => exact ⟨k + 1, by omega, by go_num, hb4, fun j m hj hm hm2 => by
                  by_cases e : j = k
                  · subst e; exact Hno.out
                  · exact hok.out j m (by omega) hm hm2⟩
              case measure => simp [intOf]; omega
          · have t2 : (n.kind == 2) = false := by rw [beq_eq_false_iff_ne]; exact h2
            have H2 := hide h2
            clear h2
            go_wp2
            go_roundw
            case rel => exact ⟨k + 1, by omega, by go_num, hb, fun j m hj hm hm2 => by
                by_cases e : j = k
                · subst e
                  obtain rfl := Option.some.inj (Hat.out.symm.trans hm)
                  exact absurd hm2 H2.out
                · exact hok.out j m (by omega) hm hm2⟩
            case measure => simp [intOf]; omega
        · obtain rfl : k = ns.length := by omega
          have HF := hide (show tf (ValidG ns r) = true from tf_true ⟨h1, h12, hr0, hrl, Hall.out, fun i n hn h2 => hok.out i n (List.getElem?_eq_some_iff.1 hn).1 hn h2⟩)
          clear hlt
          go_wp2
          go_ret
          exact ⟨ret_bool HF.out.symm, hB.trans (hb.mono hB.size)⟩

set_option maxHeartbeats 1000000 in
theorem validGraph_len (A : Option Addr) (ns : List Nd) (c : Nat) (r : Int) (w : World) (hr : NdsAt w w.heap.size A ns) (h : ns.length < 1 ∨ 12 < ns.length) :
    Calls Tryd.prog 46 #[.agg #[.slice A ns.length c, .int .i64 r]] w fun e w' => e = .returned (.bool (tf (ValidG ns r))) ∧ Below w.heap.size w w' := by
  have hB : Below w.heap.size w (w.alloc (.cells #[.slice A ns.length c, .int .i64 r] 43)) := (Below.refl _ _).alloc (Nat.le_refl _) _
  have HF := hide (show tf (ValidG ns r) = false from tf_false fun hv => by have := hv.one; have := hv.few; omega)
  have hl := hr.len
  have h' : (ns.length : Int) < 1 ∨ 12 < (ns.length : Int) := by omega
  clear hr h
  go_enter Tryd.func46, Tryd.ntmps46
  go_wp2_with fail
  refine (inRange_no ns.length 1 12 _ h').mono ?_
  rintro e w' ⟨rfl, rfl⟩
  clear h'
  go_wp2
  go_ret
  exact ⟨ret_bool HF.out.symm, hB⟩

set_option maxHeartbeats 1000000 in
theorem validGraph_root (A : Option Addr) (ns : List Nd) (c : Nat) (r : Int) (w : World) (h1 : 1 ≤ ns.length) (h12 : ns.length ≤ 12) (h : r < 0 ∨ (ns.length : Int) ≤ r) :
    Calls Tryd.prog 46 #[.agg #[.slice A ns.length c, .int .i64 r]] w fun e w' => e = .returned (.bool (tf (ValidG ns r))) ∧ Below w.heap.size w w' := by
  have hB : Below w.heap.size w (w.alloc (.cells #[.slice A ns.length c, .int .i64 r] 43)) := (Below.refl _ _).alloc (Nat.le_refl _) _
  have HF := hide (show tf (ValidG ns r) = false from tf_false fun hv => by have := hv.root0; have := hv.root; omega)
  have a1 : (1 : Int) ≤ (ns.length : Int) := by omega
  have a2 : (ns.length : Int) ≤ 12 := by omega
  have h' : r < 0 ∨ (ns.length : Int) - 1 < r := by omega
  clear h
  go_enter Tryd.func46, Tryd.ntmps46
  go_wp2_with fail
  refine (inRange_yes ns.length 1 12 _ a1 a2).mono ?_
  rintro e w' ⟨rfl, rfl⟩
  go_wp2_with fail
  refine (inRange_no r 0 ((ns.length : Int) - 1) _ h').mono ?_
  rintro e w' ⟨rfl, rfl⟩
  clear h'
  go_wp2
  go_ret
  exact ⟨ret_bool HF.out.symm, hB⟩

theorem specValidGraph_any (A : Option Addr) (ns : List Nd) (c : Nat) (r : Int) (w : World) (hr : NdsAt w w.heap.size A ns) :
    Calls Tryd.prog 46 #[.agg #[.slice A ns.length c, .int .i64 r]] w fun e w' => e = .returned (.bool (tf (ValidG ns r))) ∧ Below w.heap.size w w' := by
  by_cases h : 1 ≤ ns.length ∧ ns.length ≤ 12
  · by_cases h2 : 0 ≤ r ∧ r < ns.length
    · exact validGraph_in A ns c r w hr h.1 h.2 h2.1 h2.2
    · exact validGraph_root A ns c r w h.1 h.2 (by omega)
  · exact validGraph_len A ns c r w hr (by omega)

end Go.Proofs.YtfigekdejocakaaDoor

namespace Go.Proofs.YtfigekdejocakaaDoor
open Go.RowKit
set_option linter.unusedVariables false
set_option linter.unusedSimpArgs false
set_option maxRecDepth 100000 in
set_option maxHeartbeats 4000000 in
theorem stepShapes_done (p : ShPtr) (s : Shp) (cd ar : Int) (hd : s.done = true) (base : Nat) (w : World) (h : ShOwn w base p s) (hbase : base ≤ w.heap.size) (hs : s.Small) :
    Calls Tryd.prog 24 #[shVal p s, .agg #[.int .i64 cd, .int .i64 ar]] w (TriesSh w p base (stepShp s ⟨cd, ar⟩)) := by
  obtain ⟨K, c1, F, c2, S, c3, M, c4⟩ := p
  have hS := ShSt.enter3 h hbase (.cells #[.int .i64 cd, .int .i64 ar] 33)
  have lo : Lies (((w.alloc (.cells (shCells ⟨K, c1, F, c2, S, c3, M, c4⟩ s) 53)).alloc (.cells #[.int .i64 cd, .int .i64 ar] 33)).alloc (.cells zero5 53)) (w.heap.size + 1) #[.int .i64 cd, .int .i64 ar] 33 := by
    have := (Lies.new (w.alloc (.cells (shCells ⟨K, c1, F, c2, S, c3, M, c4⟩ s) 53)) #[.int .i64 cd, .int .i64 ar] 33).alloc (.cells zero5 53)
    simpa using this
  have hst := hs.t
  have hkl := hs.k
  have Hs := hide hs
  have Hd := hide hd
  have hoffo := h.off (q := w.heap.size + 1) (.inr (by omega))
  clear h hs hd
  unfold shVal
  unfold shCells zero5 at *
  dsimp only at hS lo ⊢
  go_enter Tryd.func24, Tryd.ntmps24
  go_upto_region 1 with fail
  generalize ((w.alloc (.cells #[.slice K s.kinds.length c1, .slice F s.full.length c2, .slice S s.stack.length c3, .slice M s.memo.length c4, .bool s.done] 53)).alloc (.cells #[.int .i64 cd, .int .i64 ar] 33)).alloc (.cells #[.slice none 0 0, .slice none 0 0, .slice none 0 0, .slice none 0 0, .bool false] 53) = W at hS lo ⊢
  obtain ⟨e0, e1, e2, e3, e4⟩ := hS.bx.cells
  dsimp only at e0 e1 e2 e3 e4
  have d0 := lo.cell 0
  have d1 := lo.cell 1
  simp only [List.getElem?_toArray, List.getElem?_cons_zero, List.getElem?_cons_succ] at d0 d1
  have hd := Hd.out
  rw [hd] at e4
  have HN := hide (show stepShp s ⟨cd, ar⟩ = none from stepShp_none (by unfold stepFree; rw [if_pos hd]))
  obtain ⟨_, hs5, _, hbel, hfr⟩ := hS.ret
  obtain ⟨r0, r1, r2, r3, r4, f0, f1, f2, f3, f4, s0, s1, s2, s3, s4⟩ := hs5
  have HR := hide (And.intro hbel hfr)
  clear hbel hfr hS d0 d1 lo
  dsimp only at r0 r1 r2 r3 r4 s0 s1 s2 s3 s4
  rw [hd] at s0 s1 s2 s3 s4 HR
  go_wp2
  refine bodyPost_ret (v := .tuple #[shVal ⟨K, c1, F, c2, S, c3, M, c4⟩ s, .bool false]) (by simp [shVal, shCells, hd, results, Tryd.results24, go_sem, s0, s1, s2, s3, s4]) rfl ?_
  exact ⟨_, _, _, rfl, HR.out.1, HR.out.2, fun t ht => by (rw [HN.out] at ht; cases ht), fun _ => rfl⟩
end Go.Proofs.YtfigekdejocakaaDoor
