/-
  Lemmas, several texts in one: OwnRD, ShcM, ShcN, NumI, CodE, EqlG.
-/
import Derived.Test.YtpcfjdhalglebabPjAh
import Derived.Test.YtpcfjdhalglebabSpecE
import Derived.Test.YtpcfjdhalglebabPjAi
import Derived.Test.YtpcfjdhalglebabSetI
import Derived.Maps.OwnOps
import Derived.Test.YtpcfjdhalglebabPjAc
import Derived.Test.YtpcfjdhalglebabPjAe
import Derived.Test.YtpcfjdhalglebabPjAg
import Derived.Test.YtpcfjdhalglebabPjAa
import Derived.Deep.QuietTactic
import Derived.BigQuiet
namespace Go.Proofs.Ytpcfjdhalglebab
open Go.RowKit
set_option linter.unusedVariables false

theorem OwnRow.rowD {w : World} {lo hi g cap : Nat} {ns : List Nd} (h : OwnRow w lo hi g cap ns) (hc : cap ≤ maxLen) : RowD w lo hi (some ⟨g, 0, none⟩) cap ns := by
  obtain ⟨f, cur, h1, h2, h3⟩ := h.row
  have hle := h.le
  have hat : ∀ i, i < ns.length * 3 → (cur.toList.take (ns.length * 3))[i]? = w.cell? ⟨g, i, none⟩ := fun i hi => by
    rw [List.getElem?_take_of_lt hi, Array.getElem?_toList, cell_of_row w g i cur _ _ h1]
  refine ⟨⟨cur.toList.take (ns.length * 3), ⟨by simp; omega, .inr ⟨g, cap, cur, rfl, h.hlo, h1, hle, hc, h2, rfl⟩⟩, fun j n hj => ?_, fun i j A1 A2 n1 n2 c1 c2 hij hj d1 d2 => ?_, fun i A1 n1 c1 hi d1 b hb => ?_⟩⟩
  · have hjl := (List.getElem?_eq_some_iff.1 hj).1
    have hn := h.nd j n hj
    obtain ⟨A1, c1, k1, k2, _⟩ := hn.kids
    exact ⟨A1, c1, (hat _ (by omega)).trans hn.kind, (hat _ (by omega)).trans hn.value, (hat _ (by omega)).trans k1, k2⟩
  · rw [hat _ (by omega)] at d1 d2
    exact h.dis i j A1 A2 n1 n2 c1 c2 (by omega) (by omega) hj d1 d2
  · rw [hat _ (by omega)] at d1
    obtain ⟨A3, c3, k1, _, k3⟩ := (h.nd i _ (List.getElem?_eq_getElem hi)).kids
    rw [d1] at k1
    injection k1 with k1
    injection k1 with k1 _ _
    subst k1
    exact (k3 b hb).1

end Go.Proofs.Ytpcfjdhalglebab

namespace Go.Proofs.Ytpcfjdhalglebab
open Go.RowKit
set_option linter.unusedVariables false

/-- the root's node once more behind the others -/
def rootNd (ns : List Nd) (r : Int) : Nd := (ns[r.toNat]?).getD ⟨0, 0, []⟩
theorem rootNd_at {ns : List Nd} {i : Nat} {n : Nd} (h : ns[i]? = some n) : rootNd ns (i : Int) = n := by
  unfold rootNd
  rw [Int.toNat_natCast, h]
  rfl

open Classical in
noncomputable def shalN (ns : List Nd) (r : Int) : List Nd := if ValidG ns r ∧ ns.length ≠ 12 then ns ++ [rootNd ns r] else []
open Classical in
noncomputable def shalR (ns : List Nd) (r : Int) : Int := if ValidG ns r ∧ ns.length ≠ 12 then (ns.length : Int) else 0

theorem shalN_yes {ns : List Nd} {r : Int} (h : ValidG ns r) (h2 : ns.length ≠ 12) : shalN ns r = ns ++ [rootNd ns r] := if_pos ⟨h, h2⟩
theorem shalR_yes {ns : List Nd} {r : Int} (h : ValidG ns r) (h2 : ns.length ≠ 12) : shalR ns r = ns.length := if_pos ⟨h, h2⟩
theorem shalN_no {ns : List Nd} {r : Int} (h : ¬ (ValidG ns r ∧ ns.length ≠ 12)) : shalN ns r = [] := if_neg h
theorem shalR_no {ns : List Nd} {r : Int} (h : ¬ (ValidG ns r ∧ ns.length ≠ 12)) : shalR ns r = 0 := if_neg h

end Go.Proofs.Ytpcfjdhalglebab

namespace Go.Proofs.Ytpcfjdhalglebab
open Go.RowKit
set_option linter.unusedVariables false

theorem rootNd_mem {ns : List Nd} {r : Int} (hv : ValidG ns r) : rootNd ns r ∈ ns := by
  obtain ⟨i, rfl⟩ := Int.eq_ofNat_of_zero_le hv.root0
  have hi : i < ns.length := by have := hv.root; omega
  rw [rootNd_at (List.getElem?_eq_getElem hi)]
  exact List.getElem_mem hi

theorem shalN_smallN (ns : List Nd) (r : Int) : SmallN (shalN ns r) := by
  by_cases h : ValidG ns r ∧ ns.length ≠ 12
  · rw [shalN_yes h.1 h.2]
    have hf := h.1.few
    refine ⟨by simp; omega, fun n hn => ?_⟩
    have hm : n ∈ ns := by
      rcases List.mem_append.1 hn with h2 | h2
      · exact h2
      · rw [List.mem_singleton.1 h2]
        exact rootNd_mem h.1
    have := (h.1.nodes n hm).few
    omega
  · rw [shalN_no h]
    exact ⟨by simp, fun n hn => by simp at hn⟩

theorem shalN_wf {ns : List Nd} (r : Int) (hw : WfN ns) : WfN (shalN ns r) := by
  by_cases h : ValidG ns r ∧ ns.length ≠ 12
  · rw [shalN_yes h.1 h.2]
    intro n hn
    refine hw n ?_
    rcases List.mem_append.1 hn with h2 | h2
    · exact h2
    · rw [List.mem_singleton.1 h2]
      exact rootNd_mem h.1
  · rw [shalN_no h]
    exact fun n hn => by simp at hn

end Go.Proofs.Ytpcfjdhalglebab

namespace Go.Proofs.Ytpcfjdhalglebab
open Go.RowKit Go.Maps
set_option linter.unusedVariables false

theorem place_idx {L : List Int} {x : Int} (h : x ∈ L) : (L.idxOf x : Int) = place L x := (place_pos h).symm

set_option maxHeartbeats 1000000 in
theorem numI_any (g base : Nat) (m : Option Nat) (A : Option Addr) (c : Nat) (L : List Int) (x : Int) (w : World) (h : SetI w g base m A c L) (hx : In64 x) (hin : x ∈ L) :
    Calls Try.prog 56 #[.pointer (some ⟨g, 0, none⟩), .int .i64 x] w fun e w' => e = .returned (.int .i64 (place L x)) ∧ w = w' := by
  obtain ⟨hbox, _, hmap, hlt, _⟩ := h
  rcases hmap with ⟨rfl, rfl⟩ | ⟨b, n, D, rfl, hb, hown, hn, hhas, hat⟩
  · cases hin
  · have b0 := hbox.cell 0
    simp at b0
    have hat1 := hat x hin
    have HP := hide (place_idx hin)
    clear hbox hhas hat hin
    go_enter Try.func56, Try.ntmps56
    go_wp2_with (at_lookup; refine wpList_lookup_own_int _ rfl _ _ 77 rfl 3 3 .i64 lawI Try.underlying77 Try.underlying3 (zeroI _) b n _ rfl hown _ _ rfl (keyOf_i hx) ?_; intro cc hat2 hwc)
    go_ret
    rw [hat1] at hat2
    injection hat2 with hat2
    injection hat2 with _ hat2
    exact ⟨ret_int (by rw [← HP.out, ← hat2]), rfl⟩

end Go.Proofs.Ytpcfjdhalglebab

namespace Go.Proofs.Ytpcfjdhalglebab
open Go.RowKit Go.Maps
set_option linter.unusedVariables false

theorem OwnI.same {w w' : World} {base : Nat} {A : Option Addr} {c : Nat} {xs : List Int} (h : OwnI w base A c xs) (hA : ∀ g, blockOf A = some g → w'.heap[g]? = w.heap[g]?) : OwnI w' base A c xs := by
  refine ⟨h.own.1, ?_⟩
  rcases h.own.2 with h2 | ⟨g, cap, cur, hv, hg, hh, r⟩
  · exact .inl h2
  · have hAg : blockOf A = some g := by
      injection hv with hv
      rw [hv]; rfl
    exact .inr ⟨g, cap, cur, hv, hg, (hA g hAg).trans hh, r⟩

theorem MapI.kept {w w' : World} {base : Nat} {m : Option Nat} {L : List Int} {row : Option Nat} (h : MapI w base m L) (hg : w.grownBy w' row) (hne : ∀ b, m = some b → some b ≠ row) : MapI w' base m L := by
  rcases h with h | ⟨b, n, D, h1, h2, h3, h4⟩
  · exact .inl h
  · exact .inr ⟨b, n, D, h1, h2, h3.kept hg (hne b h1), h4⟩

theorem MapI.setCell {w : World} {base : Nat} {m : Option Nat} {L : List Int} (h : MapI w base m L) {a : Addr} (ha : a.block < base) (u : Value) : MapI (w.setCell a u) base m L := by
  rcases h with h | ⟨b, n, D, h1, h2, h3, h4⟩
  · exact .inl h
  · exact .inr ⟨b, n, D, h1, h2, h3.setCell (by omega) u, h4⟩

/-- nothing below base has turned but two blocks -/
structure But2 (base g1 g2 : Nat) (w w' : World) : Prop where
  os : w'.os = w.os
  tape : w'.tape = w.tape
  output : w'.output = w.output
  size : w.heap.size ≤ w'.heap.size
  block : ∀ k, k < base → k ≠ g1 → k ≠ g2 → w'.heap[k]? = w.heap[k]?

theorem But2.refl (base g1 g2 : Nat) (w : World) : But2 base g1 g2 w w := ⟨rfl, rfl, rfl, Nat.le_refl _, fun _ _ _ _ => rfl⟩
theorem But2.trans {base g1 g2 : Nat} {a b c : World} (h : But2 base g1 g2 a b) (k : But2 base g1 g2 b c) : But2 base g1 g2 a c :=
  ⟨k.os.trans h.os, k.tape.trans h.tape, k.output.trans h.output, Nat.le_trans h.size k.size, fun j hj h1 h2 => (k.block j hj h1 h2).trans (h.block j hj h1 h2)⟩
theorem But2.of_below {base g1 g2 : Nat} {w w' : World} (h : Below w.heap.size w w') (hb : base ≤ w.heap.size) : But2 base g1 g2 w w' := ⟨h.os, h.tape, h.output, h.size, fun k hk _ _ => h.block k (by omega)⟩
theorem But2.of_but {base g1 g2 : Nat} {w w' : World} (h : But base g2 w w') : But2 base g1 g2 w w' := ⟨h.os, h.tape, h.output, h.size, fun k hk _ h2 => h.block k hk h2⟩
theorem But2.below {base g1 g2 B : Nat} {w0 w w' : World} (h : But2 base g1 g2 w w') (hb : Below B w0 w) (h1 : B ≤ g1) (h2 : B ≤ g2) (hB : B ≤ base) : Below B w0 w' :=
  hb.trans ⟨h.os, h.tape, h.output, h.size, fun k hk => h.block k (by omega) (by omega) (by omega)⟩

structure CEnv (w : World) (base bn bc bm bw : Nat) (A : Option Addr) (c : Nat) (ns : List Nd) (P Q : List Int) : Prop where
  nodes : Lies w bn #[.slice A ns.length c] 23
  self : Lies w bw #[.func (.func 54) #[] #[.pointer (some ⟨bn, 0, none⟩), .pointer (some ⟨bm, 0, none⟩), .pointer (some ⟨bc, 0, none⟩), .pointer (some ⟨bw, 0, none⟩)]] 80
  st : ∃ m Am cm Ac cc, SetI w bm base m Am cm Q ∧ Lies w bc #[.slice Ac P.length cc] 31 ∧ OwnI w base Ac cc P ∧ ∀ g, blockOf Ac = some g → blockOf Am ≠ some g
  read : NdsAt w bn A ns
  n1 : bn < bc
  n2 : bc < bm
  n3 : bm < bw
  n4 : bw < base
  hb : base ≤ w.heap.size

theorem CEnv.later {w w' : World} {base bn bc bm bw : Nat} {A : Option Addr} {c : Nat} {ns : List Nd} {P Q : List Int} (h : CEnv w base bn bc bm bw A c ns P Q) (hb : Below w.heap.size w w') : CEnv w' base bn bc bm bw A c ns P Q := by
  obtain ⟨m, Am, cm, Ac, cc, h1, h2, h3, h4⟩ := h.st
  have := h.n1
  have := h.n2
  have := h.n3
  have := h.n4
  have := h.hb
  exact ⟨h.nodes.below hb (by omega), h.self.below hb (by omega), ⟨m, Am, cm, Ac, cc, h1.below hb, h2.below hb (by omega), h3.below hb, h4⟩, h.read.below (hb.mono (by omega)), by omega, by omega, by omega, by omega, Nat.le_trans h.hb hb.size⟩

theorem CEnv.frame {w w' : World} {base bn bc bm bw : Nat} {A : Option Addr} {c : Nat} {ns : List Nd} {P Q P' Q' : List Int} (h : CEnv w base bn bc bm bw A c ns P Q) (hb : But2 base bc bm w w')
    (hst : ∃ m Am cm Ac cc, SetI w' bm base m Am cm Q' ∧ Lies w' bc #[.slice Ac P'.length cc] 31 ∧ OwnI w' base Ac cc P' ∧ ∀ g, blockOf Ac = some g → blockOf Am ≠ some g) : CEnv w' base bn bc bm bw A c ns P' Q' := by
  have := h.n1
  have := h.n2
  have := h.n3
  have := h.n4
  have := h.hb
  exact ⟨(hb.block _ (by omega) (by omega) (by omega)).trans h.nodes, (hb.block _ (by omega) (by omega) (by omega)).trans h.self, hst,
    h.read.below ⟨hb.os, hb.tape, hb.output, hb.size, fun k hk => hb.block k (by omega) (by omega) (by omega)⟩, by omega, by omega, by omega, by omega, Nat.le_trans h.hb hb.size⟩

theorem CEnv.below {w w' : World} {base bn bc bm bw : Nat} {A : Option Addr} {c : Nat} {ns : List Nd} {P Q : List Int} (h : CEnv w base bn bc bm bw A c ns P Q) (hb : But2 base bc bm w w') : Below bn w w' := by
  have := h.n1
  have := h.n2
  have := h.n3
  have := h.n4
  exact ⟨hb.os, hb.tape, hb.output, hb.size, fun k hk => hb.block k (by omega) (by omega) (by omega)⟩

/-- a row and the map of a set never share a block -/
theorem own_map_ne {w : World} {base : Nat} {A : Option Addr} {c : Nat} {xs : List Int} {m : Option Nat} {L : List Int} (hrow : OwnI w base A c xs) (hmap : MapI w base m L) : ∀ b, m = some b → blockOf A ≠ some b := by
  intro b hb
  rcases hmap with ⟨h, _⟩ | ⟨b', n, D, h1, _, h3, _⟩
  · rw [h] at hb; cases hb
  · rw [h1] at hb
    injection hb with hb
    subst hb
    exact row_map_ne hrow h3

theorem MapI.lt {w : World} {base : Nat} {m : Option Nat} {L : List Int} (h : MapI w base m L) : ∀ b, m = some b → b < w.heap.size := by
  intro b hb
  rcases h with ⟨h, _⟩ | ⟨b', n, D, h1, _, h3, _⟩
  · rw [h] at hb; cases hb
  · rw [h1] at hb
    injection hb with hb
    subst hb
    exact h3.lt

/-- the state behind an add of a new member -/
theorem st_added {w w' : World} {base bc bm : Nat} {m m' : Option Nat} {Am Am' Ac : Option Addr} {cm cc : Nat} {P Q : List Int} (hset : SetI w bm base m Am cm Q) (hcode : Lies w bc #[.slice Ac P.length cc] 31) (hown : OwnI w base Ac cc P)
    (hdis : ∀ g, blockOf Ac = some g → blockOf Am ≠ some g) (ht : Tight bm m Am m' Am' w w') (hb : But base bm w w') (h1 : bc < bm) :
    Lies w' bc #[.slice Ac P.length cc] 31 ∧ OwnI w' base Ac cc P ∧ ∀ g, blockOf Ac = some g → blockOf Am' ≠ some g := by
  have hlt := hset.lt
  refine ⟨(hb.block bc (by omega) (by omega)).trans hcode, hown.same (fun g hg => ?_), fun g hg e => ?_⟩
  · have hgb := hown.blocks g hg
    exact ht.block g hgb.2 (by omega) (fun e => own_map_ne hown hset.map g e hg) (hdis g hg)
  · rcases ht.row with h | ⟨b, h, hbb⟩
    · rw [h] at e; exact hdis g hg e
    · rw [h] at e
      injection e with e
      have := (hown.blocks g hg).2
      omega

theorem far_cell {w w1 : World} {bc nb o : Nat} {Ac : Option Addr} {u v : Value} (hg : w.grownBy w1 (blockOf Ac)) (hlt : nb < w.heap.size) (hne : some nb ≠ blockOf Ac) (hbc : nb ≠ bc) (h : w.cell? ⟨nb, o, none⟩ = some u) :
    (w1.setCell ⟨bc, 0, none⟩ v).cell? ⟨nb, o, none⟩ = some u := by
  rw [World.cell?_setCell_other]
  · exact (hg.cell_far _ hlt hne).trans h
  · intro e
    injection e with e _
    exact hbc e.symm

/-- the state behind an append to what was written, and its store -/
theorem st_written {w w1 : World} {base bc bm : Nat} {m : Option Nat} {Am Ac Ac' : Option Addr} {cm cc cc' : Nat} {P Q zs : List Int} (hset : SetI w bm base m Am cm Q) (hcode : Lies w bc #[.slice Ac P.length cc] 31) (hown : OwnI w base Ac cc P)
    (hdis : ∀ g, blockOf Ac = some g → blockOf Am ≠ some g) (h1 : bc < bm) (hbs : base ≤ w.heap.size) (hg : w.grownBy w1 (blockOf Ac)) (hown' : OwnI w1 base Ac' cc' zs) (hat : blockOf Ac' = blockOf Ac ∨ ∃ b, blockOf Ac' = some b ∧ w.heap.size ≤ b) :
    (∃ m Am cm Ac cc, SetI (w1.setCell ⟨bc, 0, none⟩ (.slice Ac' zs.length cc')) bm base m Am cm Q ∧ Lies (w1.setCell ⟨bc, 0, none⟩ (.slice Ac' zs.length cc')) bc #[.slice Ac zs.length cc] 31 ∧
      OwnI (w1.setCell ⟨bc, 0, none⟩ (.slice Ac' zs.length cc')) base Ac cc zs ∧ ∀ g, blockOf Ac = some g → blockOf Am ≠ some g) ∧ But2 base bc bm w (w1.setCell ⟨bc, 0, none⟩ (.slice Ac' zs.length cc')) := by
  have hlt := hset.lt
  have hbm := hset.box.lt
  have hbc := hcode.lt
  have hAc : ∀ g, blockOf Ac = some g → base ≤ g := fun g hg => (hown.blocks g hg).1
  have hne : ∀ k, k < base → some k ≠ blockOf Ac := fun k hk e => by have := hAc k e.symm; omega
  have hcode1 : Lies w1 bc #[.slice Ac P.length cc] 31 := (hg.block bc hbc (hne bc (by omega))).trans hcode
  have hcode2 := hcode1.set 0 (.slice Ac' zs.length cc')
  simp only [List.setIfInBounds_toArray, List.set_cons_zero] at hcode2
  have hbox1 : Lies w1 bm _ _ := (hg.block bm hbm (hne bm hlt)).trans hset.box
  have hrow1 : OwnI w1 base Am cm Q := hset.row.kept hg (by
    cases hA : blockOf Am with
    | none => exact .inl rfl
    | some g => exact .inr (fun e => hdis g e.symm hA))
  have hmap1 : MapI w1 base m Q := hset.map.kept hg (fun b hb e => own_map_ne hown hset.map b hb e.symm)
  refine ⟨⟨m, Am, cm, Ac', cc', ⟨hbox1.far (by show bm ≠ bc; omega) _, ⟨ownsRow_setCell_below hrow1.own (a := ⟨bc, 0, none⟩) (by show bc < base; omega) _⟩, hmap1.setCell (by show bc < base; omega) _, hlt, hset.wf⟩, hcode2, ⟨ownsRow_setCell_below hown'.own (a := ⟨bc, 0, none⟩) (by show bc < base; omega) _⟩, fun g hg' e => ?_⟩, ?_⟩
  · rcases hat with h | ⟨b, h, hbb⟩
    · rw [h] at hg'; exact hdis g hg' e
    · rw [h] at hg'
      injection hg' with hg'
      have := (hset.row.blocks g e).2
      omega
  · refine ⟨hg.os, hg.tape, hg.output, by have := hg.size; simpa using this, fun k hk h1 h2 => ?_⟩
    rw [Below.heap_setCell _ _ _ _ (by show k ≠ bc; exact h1), hg.block k (by omega) (hne k hk)]

end Go.Proofs.Ytpcfjdhalglebab

namespace Go.Proofs.Ytpcfjdhalglebab
open Go.RowKit
set_option linter.unusedVariables false

theorem drewN_below {w w' : World} {m : Nat} (h : w' = w.drewN m) : Below w.heap.size w w' := by
  subst h
  exact below_drewN (Below.refl _ _) m

set_option maxHeartbeats 1000000 in
theorem equalInts_q (A A' : Option Addr) (xs : List Int) (c c' : Nat) (w : World) (h : IntsAt w w.heap.size A xs) (h' : IntsAt w w.heap.size A' xs) :
    Calls Try.prog 10 #[.slice A xs.length c, .slice A' xs.length c'] w fun e w' => e = .returned (.bool true) ∧ ∃ m, w' = w.drewN m := by
  have hl := h.len
  have hb0 : ((xs.length : Int) != (xs.length : Int)) = false := by simp
  go_enter Try.func10, Try.ntmps10
  go_wp2_with fail
  go_loopw [5] (fun i wr => ∃ k m : Nat, k ≤ xs.length ∧ i = .int .i64 k ∧ wr = w.drewN m) (fun i _ => xs.length - (intOf i).toNat)
  case atStart => exact ⟨0, 0, Nat.zero_le _, rfl, rfl⟩
  case round =>
    obtain ⟨k, m, hk, rfl, hwr⟩ := hrel
    have hb := drewN_below hwr
    have HW := hide hwr
    clear hwr
    by_cases hlt : k < xs.length
    · obtain ⟨b, off, x, rfl, hbl, hx, _, hcx⟩ := (h.below hb).at_ hlt
      obtain ⟨b', off', y, rfl, hbl', hy, _, hcy⟩ := (h'.below hb).at_ hlt
      rw [hx] at hy
      injection hy with hy
      subst hy
      have hk1 : (0 : Int) ≤ (k : Int) := by omega
      have hk2 : (k : Int) < (xs.length : Int) := by omega
      clear hx hb
      go_wp2_with fail
      go_quiet (fail)
      go_wp2
      go_roundw
      case rel => exact ⟨k + 1, m + nq, by omega, by go_num, by rw [HW.out, World.drewN_drewN]⟩
      case measure => simp [intOf]; omega
    · obtain rfl : k = xs.length := by omega
      clear hlt hb
      go_wp2
      go_ret
      exact ⟨rfl, m, HW.out⟩

set_option maxRecDepth 100000 in
set_option maxHeartbeats 2000000 in
theorem equalNodes_q (A A' : Option Addr) (ns : List Nd) (c c' : Nat) (w : World) (h : NdsAt w w.heap.size A ns) (h' : NdsAt w w.heap.size A' ns) :
    Calls Try.prog 16 #[.slice A ns.length c, .slice A' ns.length c'] w fun e w' => e = .returned (.bool true) ∧ ∃ m, w' = w.drewN m := by
  have hl := h.len
  have hb0 : ((ns.length : Int) != (ns.length : Int)) = false := by simp
  go_enter Try.func16, Try.ntmps16
  go_wp2_with fail
  go_loopw [5] (fun i wr => ∃ k m : Nat, k ≤ ns.length ∧ i = .int .i64 k ∧ wr = w.drewN m) (fun i _ => ns.length - (intOf i).toNat)
  case atStart => exact ⟨0, 0, Nat.zero_le _, rfl, rfl⟩
  case round =>
    obtain ⟨k, m, hk, rfl, hwr⟩ := hrel
    have hb := drewN_below hwr
    have HW := hide hwr
    clear hwr
    by_cases hlt : k < ns.length
    · obtain ⟨b, off, x, rfl, hbl, hx, _, hX⟩ := (h.below hb).at_ hlt
      obtain ⟨b', off', y, rfl, hbl', hy, _, hY⟩ := (h'.below hb).at_ hlt
      rw [hx] at hy
      injection hy with hy
      subst hy
      obtain ⟨hm_k, hm_v, ⟨A1, c1, hm_s, hI1, _⟩, _, _⟩ := hX
      obtain ⟨hn_k, hn_v, ⟨A2, c2, hn_s, hI2, _⟩, _, _⟩ := hY
      have t1 : (x.kind != x.kind) = false := by simp
      have t2 : (x.value != x.value) = false := by simp
      have hk1 : (0 : Int) ≤ (k : Int) := by omega
      have hk2 : (k : Int) < (ns.length : Int) := by omega
      have J1 := hide (hI1.more hb.size)
      have J2 := hide (hI2.more hb.size)
      clear hx hb hI1 hI2
      go_wp2_with fail
      go_quiet ((go_at_call 10; exact Calls.quiet_of (equalInts_q A1 A2 x.kids c1 c2 _ (J1.out.later (below_drewN (Below.refl _ _) _) (Nat.le_refl _)) (J2.out.later (below_drewN (Below.refl _ _) _) (Nat.le_refl _)))))
      go_wp2
      go_roundw
      case rel => exact ⟨k + 1, m + nq, by omega, by go_num, by rw [HW.out, World.drewN_drewN]⟩
      case measure => simp [intOf]; omega
    · obtain rfl : k = ns.length := by omega
      clear hlt hb
      go_wp2
      go_ret
      exact ⟨rfl, m, HW.out⟩

set_option maxHeartbeats 1000000 in
theorem equalGraph_same (A A' : Option Addr) (ns : List Nd) (r : Int) (c c' : Nat) (w : World) (h : NdsAt w w.heap.size A ns) (h' : NdsAt w w.heap.size A' ns) :
    Calls Try.prog 6 #[.agg #[.slice A ns.length c, .int .i64 r], .agg #[.slice A' ns.length c', .int .i64 r]] w fun e w' => e = .returned (.bool true) ∧ Below w.heap.size w w' := by
  have hB : Below w.heap.size w ((w.alloc (.cells #[.slice A ns.length c, .int .i64 r] 25)).alloc (.cells #[.slice A' ns.length c', .int .i64 r] 25)) :=
    ((Below.refl _ _).alloc (Nat.le_refl _) _).alloc (by simp) _
  have h2 := h.later hB (Nat.le_refl _)
  have h2' := h'.later hB (Nat.le_refl _)
  have t1 : (r == r) = true := by simp
  clear h h'
  go_enter Try.func6, Try.ntmps6
  go_wp2_with fail
  refine (equalNodes_q A A' ns c c' _ h2 h2').mono ?_
  rintro e w' ⟨rfl, m, hw⟩
  have HB := hide (hB.trans ((drewN_below hw).mono hB.size))
  clear h2 h2' hw hB
  go_wp2
  go_ret
  exact ⟨rfl, HB.out⟩

end Go.Proofs.Ytpcfjdhalglebab
