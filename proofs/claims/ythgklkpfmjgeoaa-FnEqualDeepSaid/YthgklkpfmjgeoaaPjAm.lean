/-
  Lemmas, several texts in one: PrunA, EqdB, EqualI, CodE.
-/
import Derived.Test.YthgklkpfmjgeoaaPjAi
import Derived.Test.YthgklkpfmjgeoaaPjAf
import Derived.Test.YthgklkpfmjgeoaaPjAk
import Derived.Test.YthgklkpfmjgeoaaPjAl
import Derived.Test.YthgklkpfmjgeoaaPjAh
import Derived.Test.YthgklkpfmjgeoaaPjAe
import Derived.Deep.QuietTactic
import Derived.BigQuiet
import Derived.Test.YthgklkpfmjgeoaaPjAd
namespace Go.Proofs.Ythgklkpfmjgeoaa
open Go.RowKit Go.Maps
set_option linter.unusedVariables false

theorem reach_pickable {ns : List Nd} {r : Int} (hv : ValidG ns r) : Pickable ns r (reachOf ns r) := by
  have hR := reachOf_reached hv
  have hm : r ∈ reachOf ns r := by
    unfold reachOf
    rw [if_pos hv]
    have w := walked ns anyB (kidsIn_of_valid hv) (ns.length + 1) r [] (Met.nil ns) hv.root0 hv.root (by simp)
    exact w.starts r (by simp) rfl
  refine ⟨hR.met.nodup, hR.met.range, fun i n hi hn => ⟨?_, fun k hk => hR.closed i hi k (by rw [kidsOf_at hn]; exact hk)⟩, hm, reachOf_few, hv.few⟩
  have := (hv.nodes n (List.mem_of_getElem? hn)).few
  omega

theorem reach_place {ns : List Nd} {r : Int} (hv : ValidG ns r) : place (reachOf ns r) r = 0 := by
  have hR := reachOf_reached hv
  have hp := reachOf_some hv
  have h0 : (reachOf ns r)[0]? = some (reachOf ns r)[0] := List.getElem?_eq_getElem hp
  have e := hR.ord.first _ h0
  have hm : r ∈ reachOf ns r := by
    have hm0 := List.getElem_mem hp
    generalize (reachOf ns r)[0] = x at e hm0
    subst e
    exact hm0
  rw [place_pos hm]
  cases hL : reachOf ns r with
  | nil => rw [hL] at hp; simp at hp
  | cons x xs =>
    have : x = r := by simpa [hL] using e
    subst this
    simp

open Classical in
/-- the graph without the nodes that are not reached -/
noncomputable def prunedOf (ns : List Nd) (r : Int) : List Nd := if ValidG ns r then pickNs ns (reachOf ns r) else []

end Go.Proofs.Ythgklkpfmjgeoaa

namespace Go.Proofs.Ythgklkpfmjgeoaa
open Go.RowKit Go.Maps
set_option linter.unusedVariables false

theorem validG_bounds {ns : List Nd} {r : Int} (hv : ValidG ns r) : ns.length ≤ 12 ∧ (∀ n ∈ ns, n.kids.length ≤ 1000 ∧ ∀ k ∈ n.kids, 0 ≤ k ∧ k ≤ 1000000) := by
  refine ⟨hv.few, fun n hn => ⟨by have := (hv.nodes n hn).few; omega, fun k hk => ?_⟩⟩
  have h1 := validG_kids hv n hn k hk
  have h2 := hv.few
  omega

theorem RowN.wfJ {ns ms : List Nd} {r s : Int} {w : World} {B B2 : Nat} {A A2 : Option Addr} (hv : ValidG ns r) (hw : ValidG ms s) (h1 : NdsAt w B A ns) (h2 : NdsAt w B2 A2 ms) : WfN (joinNs ns ms) := by
  have w1 := h1.wf
  have w2 := h2.wf
  intro n hn
  unfold joinNs at hn
  rcases List.mem_append.1 hn with hn | hn
  · exact w1 n hn
  · obtain ⟨m, hm, rfl⟩ := List.mem_map.1 hn
    obtain ⟨a1, a2, a3, a4⟩ := w2 m hm
    refine ⟨a1, a2, fun x hx => ?_, by simpa [shiftNd] using a4⟩
    obtain ⟨k, hk, rfl⟩ := List.mem_map.1 (show x ∈ m.kids.map (fun k => (ns.length : Int) + k) from hx)
    have h3 := (validG_bounds hw).2 m hm
    have h4 := h3.2 k hk
    have h5 := hv.few
    constructor <;> omega

theorem RowN.capJ {w : World} {base : Nat} {A : Option Addr} {c : Nat} {ns : List Nd} (h : RowN w base A c ns) : ns.length ≤ c := by
  obtain ⟨cs, h1, _⟩ := h.row
  rcases h1.2 with ⟨_, h2⟩ | ⟨g, cap, cur, hv, _, _, hle, _⟩
  · omega
  · injection hv with _ _ hv
    omega

end Go.Proofs.Ythgklkpfmjgeoaa

namespace Go.Proofs.Ythgklkpfmjgeoaa
open Go.RowKit

set_option maxHeartbeats 1000000 in
theorem equalI_any (A A' : Option Addr) (xs ys : List Int) (c c' : Nat) (w : World) (h : IntsAt w w.heap.size A xs) (h' : IntsAt w w.heap.size A' ys) :
    Calls Try.prog 22 #[.slice A xs.length c, .slice A' ys.length c'] w fun e w' => e = .returned (.bool (decide (xs = ys))) ∧ Below w.heap.size w w' := by
  have hl := h.len
  by_cases hne : xs.length = ys.length
  · have hb0 : ((xs.length : Int) != (ys.length : Int)) = false := by simp [hne]
    go_enter Try.func22, Try.ntmps22
    go_wp2_with fail
    go_loopw [13] (fun i wr => ∃ k : Nat, k ≤ xs.length ∧ i = .int .i64 k ∧ Below w.heap.size w wr ∧ ∀ j, j < k → xs[j]? = ys[j]?) (fun i _ => xs.length - (intOf i).toNat)
    case atStart => exact ⟨0, Nat.zero_le _, rfl, Below.refl _ _, fun j hj => absurd hj (by omega)⟩
    case round =>
      obtain ⟨k, hk, rfl, hb, he0⟩ := hrel
      have he := hide he0
      clear he0
      by_cases hlt : k < xs.length
      · obtain ⟨b, off, x, rfl, hbl, hx, _, hcx⟩ := (h.below hb).at_ hlt
        obtain ⟨b', off', y, rfl, hbl', hy, _, hcy⟩ := (h'.below hb).at_ (k := k) (by omega)
        have Hx := hide hx
        have Hy := hide hy
        clear hx hy
        have hk1 : (0 : Int) ≤ (k : Int) := by omega
        have hk2 : (k : Int) < (xs.length : Int) := by omega
        have hk3 : (k : Int) < (ys.length : Int) := by omega
        by_cases hxy : x = y
        · subst hxy
          go_wp2_with fail
          go_quiet (fail)
          go_wp2
          go_roundw
          case rel => exact ⟨k + 1, by omega, by go_num, below_drewN hb _, fun j hj => by
            by_cases e : j = k
            · subst e; rw [Hx.out, Hy.out]
            · exact he.out j (by omega)⟩
          case measure => simp [intOf]; omega
        · have hn1 : (x != y) = true := by simpa using hxy
          have hF : decide (xs = ys) = false := by
            simp only [decide_eq_false_iff_not]
            intro e
            subst e
            have := Hx.out.symm.trans Hy.out
            injection this with this
            exact hxy this
          have HF := hide hF
          clear hF
          go_wp2_with fail
          go_quiet (fail)
          go_wp2
          go_ret
          exact ⟨ret_bool HF.out.symm, below_drewN hb _⟩
      · obtain rfl : k = xs.length := by omega
        have hF : decide (xs = ys) = true := by
          simp only [decide_eq_true_eq]
          exact eq_of_prefix hne rfl he.out
        have HF := hide hF
        clear hF hlt
        go_wp2
        go_ret
        exact ⟨ret_bool HF.out.symm, hb⟩
  · have hb1 : ((xs.length : Int) != (ys.length : Int)) = true := by simp; omega
    have hF : decide (xs = ys) = false := by
      simp only [decide_eq_false_iff_not]
      intro e
      exact hne (by rw [e])
    have HF := hide hF
    clear hF
    go_enter Try.func22, Try.ntmps22
    go_wp2
    go_ret
    exact ⟨ret_bool HF.out.symm, Below.refl _ _⟩

end Go.Proofs.Ythgklkpfmjgeoaa

namespace Go.Proofs.Ythgklkpfmjgeoaa
open Go.RowKit Go.Maps
set_option linter.unusedVariables false

theorem OwnI.same {w w' : World} {base : Nat} {A : Option Addr} {c : Nat} {xs : List Int} (h : OwnI w base A c xs) (hA : ∀ g, blockOf A = some g → w'.heap[g]? = w.heap[g]?) : OwnI w' base A c xs := by
  refine ⟨h.own.1, ?_⟩
  rcases h.own.2 with h2 | ⟨g, cap, cur, hv, hg, hh, r⟩
  · exact .inl h2
  · have hAg : blockOf A = some g := by
      injection hv with hv
      rw [hv]; rfl
    exact .inr ⟨g, cap, cur, hv, hg, (hA g hAg).trans hh, r⟩

theorem MapI.kept {w w' : World} {base : Nat} {m : Option Nat} {L : List Int} {row : Option Nat} (h : MapI w base m L) (hg : w.grownBy w' row) (hne : ∀ b, m = some b → some b ≠ row) : MapI w' base m L := by
  rcases h with h | ⟨b, n, D, h1, h2, h3, h4⟩
  · exact .inl h
  · exact .inr ⟨b, n, D, h1, h2, h3.kept hg (hne b h1), h4⟩

theorem MapI.setCell {w : World} {base : Nat} {m : Option Nat} {L : List Int} (h : MapI w base m L) {a : Addr} (ha : a.block < base) (u : Value) : MapI (w.setCell a u) base m L := by
  rcases h with h | ⟨b, n, D, h1, h2, h3, h4⟩
  · exact .inl h
  · exact .inr ⟨b, n, D, h1, h2, h3.setCell (by omega) u, h4⟩

/-- nothing below base has turned but two blocks -/
structure But2 (base g1 g2 : Nat) (w w' : World) : Prop where
  os : w'.os = w.os
  tape : w'.tape = w.tape
  output : w'.output = w.output
  size : w.heap.size ≤ w'.heap.size
  block : ∀ k, k < base → k ≠ g1 → k ≠ g2 → w'.heap[k]? = w.heap[k]?

theorem But2.refl (base g1 g2 : Nat) (w : World) : But2 base g1 g2 w w := ⟨rfl, rfl, rfl, Nat.le_refl _, fun _ _ _ _ => rfl⟩
theorem But2.trans {base g1 g2 : Nat} {a b c : World} (h : But2 base g1 g2 a b) (k : But2 base g1 g2 b c) : But2 base g1 g2 a c :=
  ⟨k.os.trans h.os, k.tape.trans h.tape, k.output.trans h.output, Nat.le_trans h.size k.size, fun j hj h1 h2 => (k.block j hj h1 h2).trans (h.block j hj h1 h2)⟩
theorem But2.of_below {base g1 g2 : Nat} {w w' : World} (h : Below w.heap.size w w') (hb : base ≤ w.heap.size) : But2 base g1 g2 w w' := ⟨h.os, h.tape, h.output, h.size, fun k hk _ _ => h.block k (by omega)⟩
theorem But2.of_but {base g1 g2 : Nat} {w w' : World} (h : But base g2 w w') : But2 base g1 g2 w w' := ⟨h.os, h.tape, h.output, h.size, fun k hk _ h2 => h.block k hk h2⟩
theorem But2.below {base g1 g2 B : Nat} {w0 w w' : World} (h : But2 base g1 g2 w w') (hb : Below B w0 w) (h1 : B ≤ g1) (h2 : B ≤ g2) (hB : B ≤ base) : Below B w0 w' :=
  hb.trans ⟨h.os, h.tape, h.output, h.size, fun k hk => h.block k (by omega) (by omega) (by omega)⟩

structure CEnv (w : World) (base bn bc bm bw : Nat) (A : Option Addr) (c : Nat) (ns : List Nd) (P Q : List Int) : Prop where
  nodes : Lies w bn #[.slice A ns.length c] 23
  self : Lies w bw #[.func (.func 68) #[] #[.pointer (some ⟨bn, 0, none⟩), .pointer (some ⟨bm, 0, none⟩), .pointer (some ⟨bc, 0, none⟩), .pointer (some ⟨bw, 0, none⟩)]] 88
  st : ∃ m Am cm Ac cc, SetI w bm base m Am cm Q ∧ Lies w bc #[.slice Ac P.length cc] 35 ∧ OwnI w base Ac cc P ∧ ∀ g, blockOf Ac = some g → blockOf Am ≠ some g
  read : NdsAt w bn A ns
  n1 : bn < bc
  n2 : bc < bm
  n3 : bm < bw
  n4 : bw < base
  hb : base ≤ w.heap.size

theorem CEnv.later {w w' : World} {base bn bc bm bw : Nat} {A : Option Addr} {c : Nat} {ns : List Nd} {P Q : List Int} (h : CEnv w base bn bc bm bw A c ns P Q) (hb : Below w.heap.size w w') : CEnv w' base bn bc bm bw A c ns P Q := by
  obtain ⟨m, Am, cm, Ac, cc, h1, h2, h3, h4⟩ := h.st
  have := h.n1
  have := h.n2
  have := h.n3
  have := h.n4
  have := h.hb
  exact ⟨h.nodes.below hb (by omega), h.self.below hb (by omega), ⟨m, Am, cm, Ac, cc, h1.below hb, h2.below hb (by omega), h3.below hb, h4⟩, h.read.below (hb.mono (by omega)), by omega, by omega, by omega, by omega, Nat.le_trans h.hb hb.size⟩

theorem CEnv.frame {w w' : World} {base bn bc bm bw : Nat} {A : Option Addr} {c : Nat} {ns : List Nd} {P Q P' Q' : List Int} (h : CEnv w base bn bc bm bw A c ns P Q) (hb : But2 base bc bm w w')
    (hst : ∃ m Am cm Ac cc, SetI w' bm base m Am cm Q' ∧ Lies w' bc #[.slice Ac P'.length cc] 35 ∧ OwnI w' base Ac cc P' ∧ ∀ g, blockOf Ac = some g → blockOf Am ≠ some g) : CEnv w' base bn bc bm bw A c ns P' Q' := by
  have := h.n1
  have := h.n2
  have := h.n3
  have := h.n4
  have := h.hb
  exact ⟨(hb.block _ (by omega) (by omega) (by omega)).trans h.nodes, (hb.block _ (by omega) (by omega) (by omega)).trans h.self, hst,
    h.read.below ⟨hb.os, hb.tape, hb.output, hb.size, fun k hk => hb.block k (by omega) (by omega) (by omega)⟩, by omega, by omega, by omega, by omega, Nat.le_trans h.hb hb.size⟩

theorem CEnv.below {w w' : World} {base bn bc bm bw : Nat} {A : Option Addr} {c : Nat} {ns : List Nd} {P Q : List Int} (h : CEnv w base bn bc bm bw A c ns P Q) (hb : But2 base bc bm w w') : Below bn w w' := by
  have := h.n1
  have := h.n2
  have := h.n3
  have := h.n4
  exact ⟨hb.os, hb.tape, hb.output, hb.size, fun k hk => hb.block k (by omega) (by omega) (by omega)⟩

/-- a row and the map of a set never share a block -/
theorem own_map_ne {w : World} {base : Nat} {A : Option Addr} {c : Nat} {xs : List Int} {m : Option Nat} {L : List Int} (hrow : OwnI w base A c xs) (hmap : MapI w base m L) : ∀ b, m = some b → blockOf A ≠ some b := by
  intro b hb
  rcases hmap with ⟨h, _⟩ | ⟨b', n, D, h1, _, h3, _⟩
  · rw [h] at hb; cases hb
  · rw [h1] at hb
    injection hb with hb
    subst hb
    exact row_map_ne hrow h3

theorem MapI.lt {w : World} {base : Nat} {m : Option Nat} {L : List Int} (h : MapI w base m L) : ∀ b, m = some b → b < w.heap.size := by
  intro b hb
  rcases h with ⟨h, _⟩ | ⟨b', n, D, h1, _, h3, _⟩
  · rw [h] at hb; cases hb
  · rw [h1] at hb
    injection hb with hb
    subst hb
    exact h3.lt

/-- the state behind an add of a new member -/
theorem st_added {w w' : World} {base bc bm : Nat} {m m' : Option Nat} {Am Am' Ac : Option Addr} {cm cc : Nat} {P Q : List Int} (hset : SetI w bm base m Am cm Q) (hcode : Lies w bc #[.slice Ac P.length cc] 35) (hown : OwnI w base Ac cc P)
    (hdis : ∀ g, blockOf Ac = some g → blockOf Am ≠ some g) (ht : Tight bm m Am m' Am' w w') (hb : But base bm w w') (h1 : bc < bm) :
    Lies w' bc #[.slice Ac P.length cc] 35 ∧ OwnI w' base Ac cc P ∧ ∀ g, blockOf Ac = some g → blockOf Am' ≠ some g := by
  have hlt := hset.lt
  refine ⟨(hb.block bc (by omega) (by omega)).trans hcode, hown.same (fun g hg => ?_), fun g hg e => ?_⟩
  · have hgb := hown.blocks g hg
    exact ht.block g hgb.2 (by omega) (fun e => own_map_ne hown hset.map g e hg) (hdis g hg)
  · rcases ht.row with h | ⟨b, h, hbb⟩
    · rw [h] at e; exact hdis g hg e
    · rw [h] at e
      injection e with e
      have := (hown.blocks g hg).2
      omega

theorem far_cell {w w1 : World} {bc nb o : Nat} {Ac : Option Addr} {u v : Value} (hg : w.grownBy w1 (blockOf Ac)) (hlt : nb < w.heap.size) (hne : some nb ≠ blockOf Ac) (hbc : nb ≠ bc) (h : w.cell? ⟨nb, o, none⟩ = some u) :
    (w1.setCell ⟨bc, 0, none⟩ v).cell? ⟨nb, o, none⟩ = some u := by
  rw [World.cell?_setCell_other]
  · exact (hg.cell_far _ hlt hne).trans h
  · intro e
    injection e with e _
    exact hbc e.symm

/-- the state behind an append to what was written, and its store -/
theorem st_written {w w1 : World} {base bc bm : Nat} {m : Option Nat} {Am Ac Ac' : Option Addr} {cm cc cc' : Nat} {P Q zs : List Int} (hset : SetI w bm base m Am cm Q) (hcode : Lies w bc #[.slice Ac P.length cc] 35) (hown : OwnI w base Ac cc P)
    (hdis : ∀ g, blockOf Ac = some g → blockOf Am ≠ some g) (h1 : bc < bm) (hbs : base ≤ w.heap.size) (hg : w.grownBy w1 (blockOf Ac)) (hown' : OwnI w1 base Ac' cc' zs) (hat : blockOf Ac' = blockOf Ac ∨ ∃ b, blockOf Ac' = some b ∧ w.heap.size ≤ b) :
    (∃ m Am cm Ac cc, SetI (w1.setCell ⟨bc, 0, none⟩ (.slice Ac' zs.length cc')) bm base m Am cm Q ∧ Lies (w1.setCell ⟨bc, 0, none⟩ (.slice Ac' zs.length cc')) bc #[.slice Ac zs.length cc] 35 ∧
      OwnI (w1.setCell ⟨bc, 0, none⟩ (.slice Ac' zs.length cc')) base Ac cc zs ∧ ∀ g, blockOf Ac = some g → blockOf Am ≠ some g) ∧ But2 base bc bm w (w1.setCell ⟨bc, 0, none⟩ (.slice Ac' zs.length cc')) := by
  have hlt := hset.lt
  have hbm := hset.box.lt
  have hbc := hcode.lt
  have hAc : ∀ g, blockOf Ac = some g → base ≤ g := fun g hg => (hown.blocks g hg).1
  have hne : ∀ k, k < base → some k ≠ blockOf Ac := fun k hk e => by have := hAc k e.symm; omega
  have hcode1 : Lies w1 bc #[.slice Ac P.length cc] 35 := (hg.block bc hbc (hne bc (by omega))).trans hcode
  have hcode2 := hcode1.set 0 (.slice Ac' zs.length cc')
  simp only [List.setIfInBounds_toArray, List.set_cons_zero] at hcode2
  have hbox1 : Lies w1 bm _ _ := (hg.block bm hbm (hne bm hlt)).trans hset.box
  have hrow1 : OwnI w1 base Am cm Q := hset.row.kept hg (by
    cases hA : blockOf Am with
    | none => exact .inl rfl
    | some g => exact .inr (fun e => hdis g e.symm hA))
  have hmap1 : MapI w1 base m Q := hset.map.kept hg (fun b hb e => own_map_ne hown hset.map b hb e.symm)
  refine ⟨⟨m, Am, cm, Ac', cc', ⟨hbox1.far (by show bm ≠ bc; omega) _, ⟨ownsRow_setCell_below hrow1.own (a := ⟨bc, 0, none⟩) (by show bc < base; omega) _⟩, hmap1.setCell (by show bc < base; omega) _, hlt, hset.wf⟩, hcode2, ⟨ownsRow_setCell_below hown'.own (a := ⟨bc, 0, none⟩) (by show bc < base; omega) _⟩, fun g hg' e => ?_⟩, ?_⟩
  · rcases hat with h | ⟨b, h, hbb⟩
    · rw [h] at hg'; exact hdis g hg' e
    · rw [h] at hg'
      injection hg' with hg'
      have := (hset.row.blocks g e).2
      omega
  · refine ⟨hg.os, hg.tape, hg.output, by have := hg.size; simpa using this, fun k hk h1 h2 => ?_⟩
    rw [Below.heap_setCell _ _ _ _ (by show k ≠ bc; exact h1), hg.block k (by omega) (hne k hk)]

end Go.Proofs.Ythgklkpfmjgeoaa
