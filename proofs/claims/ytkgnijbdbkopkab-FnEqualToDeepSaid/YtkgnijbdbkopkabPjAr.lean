/-
  Lemmas, several texts in one: PickM, EqnM, KeyI, Keys, SetK.
-/
import Derived.Test.YtkgnijbdbkopkabPjAi
import Derived.Test.YtkgnijbdbkopkabPjAq
import Derived.Test.YtkgnijbdbkopkabPjAp
import Derived.Test.YtkgnijbdbkopkabPjAm
import Derived.Test.YtkgnijbdbkopkabPjAa
import Derived.DeepKeys4
import Derived.Maps.OwnSet
import Derived.WalkSpells
import Derived.StillTailTactics
import Derived.Deep.QuietTactic
import Derived.BigQuiet
import Derived.Deep.RegionLaw
import Derived.Deep.AppendLies
namespace Go.Proofs.Ytkgnijbdbkopkab
open Go.RowKit
set_option linter.unusedVariables false

theorem pick_at {ns : List Nd} {L : List Int} {j i : Nat} {n : Nd} (hj : L[j]? = some (i : Int)) (hn : ns[i]? = some n) : (pickNs ns L)[j]? = some ⟨n.kind, n.value, n.kids.map (place L)⟩ := by
  unfold pickNs
  rw [List.getElem?_map, hj]
  simp [pickN_at hn]

theorem place_inj {L : List Int} {x y : Int} (hx : x ∈ L) (hy : y ∈ L) (h : place L x = place L y) : x = y := by
  rw [place_pos hx, place_pos hy] at h
  have h1 : L.idxOf x = L.idxOf y := by omega
  have h2 := List.getElem_idxOf (List.idxOf_lt_length_of_mem hx)
  have h3 := List.getElem_idxOf (List.idxOf_lt_length_of_mem hy)
  rw [← h2, ← h3]
  congr 1

theorem place_get {L : List Int} (hn : L.Nodup) {j : Nat} {x : Int} (hj : L[j]? = some x) : place L x = (j : Int) := by
  refine place_at hj (fun i hi e => ?_)
  obtain ⟨h1, h2⟩ := List.getElem?_eq_some_iff.1 hj
  obtain ⟨h3, h4⟩ := List.getElem?_eq_some_iff.1 e
  have := (List.getElem_inj hn).1 (h4.trans h2.symm)
  omega

theorem iso_pick {ns : List Nd} {r : Int} {L : List Int} (hp : Pickable ns r L) : Iso ns (pickNs ns L) (fun x => x ∈ L) (place L) := by
  refine ⟨hp.range, fun x hx => ?_, fun x y hx hy => place_inj hx hy, fun i n hi hn => ?_, fun i n hi hn => (hp.closed i n hi hn).2⟩
  · have := place_lt hx
    rw [pickNs_len]
    exact this
  · rw [place_pos hi, Int.toNat_natCast]
    refine pick_at ?_ hn
    have h := List.idxOf_lt_length_of_mem hi
    rw [List.getElem?_eq_getElem h, List.getElem_idxOf h]

theorem pick_onto {ns : List Nd} {r : Int} {L : List Int} (hp : Pickable ns r L) : ∀ j : Nat, j < (pickNs ns L).length → ∃ x, x ∈ L ∧ place L x = (j : Int) := by
  intro j hj
  rw [pickNs_len] at hj
  exact ⟨L[j], List.getElem_mem hj, place_get hp.nodup (List.getElem?_eq_getElem hj)⟩

theorem pick_valid {ns : List Nd} {r : Int} {L : List Int} (hv : ValidG ns r) (hp : Pickable ns r L) : ValidG (pickNs ns L) (place L r) :=
  (iso_pick hp).valid hv hp.root (pick_onto hp) (by rw [pickNs_len]; exact hp.few)

theorem pick_wf {ns : List Nd} {r : Int} {L : List Int} (hv : ValidG ns r) (hp : Pickable ns r L) : Wf (pickNs ns L) := by
  have hw := pick_valid hv hp
  intro n hn
  have hok := hw.nodes n hn
  have hk := hok.kind
  unfold KindOk at hk
  have h6 := hok.few
  have hf := hw.few
  refine ⟨?_, ?_, fun x hx => ?_, by omega⟩
  · constructor <;> omega
  · constructor <;> omega
  · have := hok.inn x hx
    constructor <;> omega

theorem pick_code {ns : List Nd} {r : Int} {L : List Int} (hv : ValidG ns r) (hp : Pickable ns r L) : codeOf (pickNs ns L) (place L r) = codeOf ns r := by
  have hw := pick_valid hv hp
  unfold codeOf
  rw [if_pos hv, if_pos hw]
  refine (iso_pick hp).code hv hw (pick_wf hv hp) hp.root ?_
  rw [pickNs_len]
  exact nodup_le _ _ hp.nodup hp.range

end Go.Proofs.Ytkgnijbdbkopkab

namespace Go.Proofs.Ytkgnijbdbkopkab
open Go.RowKit Go.Maps
set_option linter.unusedVariables false

/-- nodes of two graphs that are equal up to a depth -/
def EqN (ns ms : List Nd) (d : Nat) (x y : Int) : Prop := look (clsN (joinNs ns ms) d) x = look (clsN (joinNs ns ms) d) ((ns.length : Int) + y)

theorem eqN_zero (ns ms : List Nd) (x y : Int) : EqN ns ms 0 x y := by
  unfold EqN
  rw [look_zero, look_zero]

theorem eqN_step {ns ms : List Nd} {i j : Nat} {n m : Nd} (hn : ns[i]? = some n) (hm : ms[j]? = some m) (d : Nat) :
    EqN ns ms (d + 1) (i : Int) (j : Int) ↔ Alike n m ∧ ∀ (p : Nat) (a b : Int), n.kids[p]? = some a → m.kids[p]? = some b → EqN ns ms d a b := by
  have hil := (List.getElem?_eq_some_iff.1 hn).1
  have h1 : (joinNs ns ms)[i]? = some n := by
    unfold joinNs
    rw [List.getElem?_append_left hil]; exact hn
  have h2 : (joinNs ns ms)[ns.length + j]? = some (shiftNd ns.length m) := by
    unfold joinNs
    rw [List.getElem?_append_right (by omega), show ns.length + j - ns.length = j by omega, List.getElem?_map, hm]
    rfl
  have h3 := finer_eq (cl := clsN (joinNs ns ms) d) h1 h2
  rw [Int.natCast_add] at h3
  refine Iff.trans h3 ⟨fun h => ?_, fun h => ?_⟩
  · obtain ⟨⟨a1, a2, a3⟩, h5⟩ := alike_sig h
    refine ⟨⟨a1, a2, by simpa [shiftNd] using a3⟩, fun p a b ha hb => h5 p a ((ns.length : Int) + b) ha (by unfold shiftNd; rw [List.getElem?_map, hb]; rfl)⟩
  · obtain ⟨⟨a1, a2, a3⟩, h5⟩ := h
    refine sig_alike ⟨a1, a2, by simpa [shiftNd] using a3⟩ (fun p a b ha hb => ?_)
    unfold shiftNd at hb
    rw [List.getElem?_map] at hb
    obtain ⟨b', hb', rfl⟩ := Option.map_eq_some_iff.1 hb
    exact h5 p a b' ha hb'

end Go.Proofs.Ytkgnijbdbkopkab

namespace Go.Proofs.Ytkgnijbdbkopkab
open Go.RowKit Go.Maps

theorem laidOutP : laidOutB Try.prog = true := by kernel_rfl
theorem cellsI : Try.prog.cellsOf 3 = 1 := by kernel_rfl
theorem lawI : Keyed Try.prog 3 := int_keyed Try.underlying3
theorem wf_of_in64 {x : Int} (h : In64 x) : (Lit.int .i64 x).wf = true := WalkArith.wf_i64 h
theorem keyOf_i {x : Int} (h : In64 x) : keyOf Try.prog 3 (.int .i64 x) = some (.int .i64 x) := keyOf_int_mk Try.underlying3 (wf_of_in64 h)
theorem zeroI (w : World) : (zeroValue 3).run Try.prog w = .ok (.int .i64 0) w := by kernel_rfl

/-- but for block g nothing below base has turned -/
structure But (base g : Nat) (w w' : World) : Prop where
  os : w'.os = w.os
  tape : w'.tape = w.tape
  output : w'.output = w.output
  size : w.heap.size ≤ w'.heap.size
  block : ∀ k, k < base → k ≠ g → w'.heap[k]? = w.heap[k]?

theorem But.below {base g B : Nat} {w0 w w' : World} (h : But base g w w') (hb : Below B w0 w) (hg : B ≤ g) (hB : B ≤ base) : Below B w0 w' :=
  hb.trans ⟨h.os, h.tape, h.output, h.size, fun k hk => h.block k (by omega) (by omega)⟩

theorem But.trans {base g : Nat} {a b c : World} (h : But base g a b) (k : But base g b c) : But base g a c :=
  ⟨k.os.trans h.os, k.tape.trans h.tape, k.output.trans h.output, Nat.le_trans h.size k.size, fun j hj hjg => (k.block j hj hjg).trans (h.block j hj hjg)⟩

theorem But.of_below {base g : Nat} {w w' : World} (h : Below w.heap.size w w') (hb : base ≤ w.heap.size) : But base g w w' :=
  ⟨h.os, h.tape, h.output, h.size, fun j hj _ => h.block j (by omega)⟩

end Go.Proofs.Ytkgnijbdbkopkab

namespace Go.Proofs.Ytkgnijbdbkopkab
open Go.RowKit Go.Maps

theorem rowK : 80 < Try.prog.types.size := of_decide_eq_true (by kernel_rfl)
theorem lawK : Keyed Try.prog 80 := Keyed.of_law (deep_law_laid laidOutP (m := 2) (by omega) rowK (by kernel_rfl) (by kernel_rfl))
theorem typeK : Try.prog.keyType 80 = true := by kernel_rfl
theorem cellsK : Try.prog.cellsOf 80 = 2 := by kernel_rfl

def keyLit (k v : Int) : Lit := .string (keyBytes [.int .i64 k, .int .i64 v])

theorem size_succ : ∃ m, Try.prog.types.size + 1 = m + 3 := ⟨Try.prog.types.size - 2, by have := rowK; omega⟩

theorem lits_int {x : Int} (h : In64 x) (m : Nat) : Try.prog.keyLits (m + 1) 3 [.int .i64 x] = some [.int .i64 x] := by
  unfold Program.keyLits
  simp only [Try.underlying3]
  rw [if_pos ⟨trivial, wf_of_in64 h⟩]

theorem lits_key {k v : Int} (hk : In64 k) (hv : In64 v) (m : Nat) : Try.prog.keyLits (m + 2) 80 [.int .i64 k, .int .i64 v] = some [.int .i64 k, .int .i64 v] := by
  unfold Program.keyLits
  simp only [Try.underlying80]
  rw [if_pos ⟨cellsK.symm, by decide +kernel⟩]
  simp [cellsI, lits_int hk, lits_int hv]

theorem keyOf_key {k v : Int} (hk : In64 k) (hv : In64 v) : keyOf Try.prog 80 (.agg #[.int .i64 k, .int .i64 v]) = some (keyLit k v) := by
  have hf : (Value.agg #[.int .i64 k, .int .i64 v]).formed Try.prog 80 = true := by
    unfold Value.formed
    simp only [Try.underlying80, cellsK]
    rfl
  obtain ⟨m, hm⟩ := size_succ
  unfold keyOf
  simp only [Try.underlying80, typeK, hf, Bool.and_self, if_true, hm]
  rw [show (Value.agg #[.int .i64 k, .int .i64 v]).cells.toList = [.int .i64 k, .int .i64 v] from rfl, lits_key hk hv (m + 1)]
  rfl

theorem keyLit_inj {k v k' v' : Int} (hk : In64 k) (hv : In64 v) (hk' : In64 k') (hv' : In64 v') (h : keyLit k v = keyLit k' v') : k = k' ∧ v = v' := by
  have h1 := keyOf_key hk hv
  rw [h] at h1
  have := lawK.inj h1 (keyOf_key hk' hv')
  simp at this
  exact this

end Go.Proofs.Ytkgnijbdbkopkab

namespace Go.Proofs.Ytkgnijbdbkopkab
open Go.RowKit Go.Maps
set_option linter.unusedVariables false

theorem infoK : (Try.prog.info? 80).map (fun i => (i.zero, i.size, i.bytes)) = some (some (.agg #[.int .i64 0, .int .i64 0]), 2, 16) := by kernel_rfl

def keyCells (L : List (Int × Int)) : List Value := L.flatMap fun p => [.int .i64 p.1, .int .i64 p.2]

theorem keyCells_append (L : List (Int × Int)) (p : Int × Int) : keyCells (L ++ [p]) = keyCells L ++ [.int .i64 p.1, .int .i64 p.2] := by
  simp [keyCells]

/-- the map part of a set: nil and empty, or a map of the call's own that has just the members -/
def MapK (w : World) (base : Nat) (m : Option Nat) (L : List (Int × Int)) : Prop :=
  (m = none ∧ L = []) ∨ ∃ (b n : Nat) (D : DataW Unit), m = some b ∧ base ≤ b ∧ w.ownsMap Try.prog 80 (plainElem Try.prog 3) b n D ∧ n ≤ L.length ∧
    ∀ k v, In64 k → In64 v → (Maps.has D (keyLit k v) = true ↔ (k, v) ∈ L)

structure SetK (w : World) (g base : Nat) (m : Option Nat) (A : Option Addr) (c : Nat) (L : List (Int × Int)) : Prop where
  box : Lies w g #[.map m, .slice A L.length c] 77
  row : w.ownsRow base 80 2 (.slice A L.length c) L.length (keyCells L)
  map : MapK w base m L
  lt : g < base
  wf : ∀ p ∈ L, In64 p.1 ∧ In64 p.2

theorem lookK {w : World} {b n : Nat} {D : DataW Unit} {k v : Int} (h : w.ownsMap Try.prog 80 (plainElem Try.prog 3) b n D) (hkey : keyOf Try.prog 80 (.agg #[.int .i64 k, .int .i64 v]) = some (keyLit k v)) :
    ∃ cc : Int, ∀ nq, (Instr.lookup 74 (.map (some b)) (.agg #[.int .i64 k, .int .i64 v]) true).run Try.prog (w.drewN nq) = .ok (.tuple #[.int .i64 cc, .bool (Maps.has D (keyLit k v))]) (w.drewN nq) := by
  have one : ∀ w' : World, w'.ownsMap Try.prog 80 (plainElem Try.prog 3) b n D →
      ∃ cc : Int, (Instr.lookup 74 (.map (some b)) (.agg #[.int .i64 k, .int .i64 v]) true).run Try.prog w' = .ok (.tuple #[.int .i64 cc, .bool (Maps.has D (keyLit k v))]) w' ∧ D.atKey (keyLit k v) (.lit (.int .i64 0)) = .lit (.int .i64 cc) := by
    intro w' h'
    obtain ⟨x, ps, hrun, hx⟩ := h'.look_ok lawK Try.underlying74 (zeroI w') (plainElem_int Try.underlying3 (by decide)) hkey
    obtain ⟨a, rfl, hz, _⟩ := plainElem_int_inv Try.underlying3 hx
    exact ⟨a, hrun, congrArg Prod.fst hz⟩
  obtain ⟨cc, _, h2⟩ := one w h
  refine ⟨cc, fun nq => ?_⟩
  obtain ⟨c', h3, h4⟩ := one (w.drewN nq) h
  rw [h2] at h4
  simp only [DataW.lit.injEq, Lit.int.injEq, true_and] at h4
  rw [h4]
  exact h3

theorem MapK.below {w w' : World} {base : Nat} {m : Option Nat} {L : List (Int × Int)} (h : MapK w base m L) (hb : Below w.heap.size w w') : MapK w' base m L := by
  rcases h with h | ⟨b, n, D, h1, h2, h3, h4⟩
  · exact .inl h
  · exact .inr ⟨b, n, D, h1, h2, h3.kept (grownBy_of_below hb) (by simp), h4⟩

theorem SetK.below {w w' : World} {g base : Nat} {m : Option Nat} {A : Option Addr} {c : Nat} {L : List (Int × Int)} (h : SetK w g base m A c L) (hb : Below w.heap.size w w') : SetK w' g base m A c L :=
  ⟨h.box.below hb h.box.lt, h.row.kept (grownBy_of_below hb) (by cases hx : (Value.slice A L.length c).ownBlock <;> simp), h.map.below hb, h.lt, h.wf⟩

theorem lookNilK {k v : Int} (hkey : keyOf Try.prog 80 (.agg #[.int .i64 k, .int .i64 v]) = some (keyLit k v)) (w : World) :
    (Instr.lookup 74 (.map none) (.agg #[.int .i64 k, .int .i64 v]) true).run Try.prog w = .ok (.tuple #[.int .i64 0, .bool false]) w :=
  Maps.look_nil true lawK Try.underlying74 (zeroI w) hkey

set_option maxRecDepth 100000 in
set_option maxHeartbeats 1000000 in
theorem hasK_any (g base : Nat) (m : Option Nat) (A : Option Addr) (c : Nat) (L : List (Int × Int)) (k v : Int) (w : World) (h : SetK w g base m A c L) (hk : In64 k) (hv : In64 v) :
    Calls Try.prog 63 #[.pointer (some ⟨g, 0, none⟩), .agg #[.int .i64 k, .int .i64 v]] w fun e w' => e = .returned (.bool (tf ((k, v) ∈ L))) ∧ Below w.heap.size w w' := by
  obtain ⟨hbox, _, hmap, hlt, _⟩ := h
  have hkey := keyOf_key hk hv
  have hglt := hbox.lt
  have hbox2 := (hbox.alloc (.cells #[.int .i64 k, .int .i64 v] 80))
  have lk := Lies.new w #[.int .i64 k, .int .i64 v] 80
  have hB : Below w.heap.size w (w.alloc (.cells #[.int .i64 k, .int .i64 v] 80)) := (Below.refl _ _).alloc (Nat.le_refl _) _
  rcases hmap with ⟨rfl, rfl⟩ | ⟨b, n, D, rfl, hb, hown, hn, hhas⟩
  · have HF := hide (show tf ((k, v) ∈ ([] : List (Int × Int))) = false from tf_false (by simp))
    have Hkey := hide hkey
    clear hbox hkey
    go_enter Try.func63, Try.ntmps63
    go_wp2_with fail
    generalize w.alloc (.cells #[.int .i64 k, .int .i64 v] 80) = W at hbox2 lk hB ⊢
    have b0 := hbox2.cell 0
    have c0 := lk.cell 0
    have c1 := lk.cell 1
    simp at b0 c0 c1
    have hlk := lookNilK Hkey.out
    go_quiet (fail)
    go_wp2
    go_ret
    exact ⟨ret_bool HF.out.symm, below_drewN hB _⟩
  · have HF : Hid (tf ((k, v) ∈ L) = Maps.has D (keyLit k v)) := by
      cases hq : Maps.has D (keyLit k v)
      · exact tf_false fun hm => by rw [(hhas k v hk hv).2 hm] at hq; cases hq
      · exact tf_true ((hhas k v hk hv).1 hq)
    have hown2 := hown.alloc (.cells #[.int .i64 k, .int .i64 v] 80)
    have Hkey := hide hkey
    clear hbox hown hkey hhas
    go_enter Try.func63, Try.ntmps63
    go_wp2_with fail
    generalize w.alloc (.cells #[.int .i64 k, .int .i64 v] 80) = W at hbox2 lk hown2 hB ⊢
    have b0 := hbox2.cell 0
    have c0 := lk.cell 0
    have c1 := lk.cell 1
    simp at b0 c0 c1
    obtain ⟨cc, hlk⟩ := lookK hown2 Hkey.out
    generalize Maps.has D (keyLit k v) = q at hlk HF
    go_quiet (fail)
    go_wp2
    go_ret
    exact ⟨ret_bool HF.out.symm, below_drewN hB _⟩

set_option maxRecDepth 100000 in
set_option maxHeartbeats 1000000 in
theorem addK_seen (g base : Nat) (m : Option Nat) (A : Option Addr) (c : Nat) (L : List (Int × Int)) (k v : Int) (w : World) (h : SetK w g base m A c L) (hk : In64 k) (hv : In64 v) (hin : (k, v) ∈ L) :
    Calls Try.prog 56 #[.pointer (some ⟨g, 0, none⟩), .agg #[.int .i64 k, .int .i64 v]] w fun e w' => e = .returned (.bool false) ∧ Below w.heap.size w w' := by
  have lk := Lies.new w #[.int .i64 k, .int .i64 v] 80
  have hB : Below w.heap.size w (w.alloc (.cells #[.int .i64 k, .int .i64 v] 80)) := (Below.refl _ _).alloc (Nat.le_refl _) _
  have h2 := h.below hB
  have ht := hide (tf_true hin)
  clear h hin
  go_enter Try.func56, Try.ntmps56
  go_wp2_with fail
  generalize w.alloc (.cells #[.int .i64 k, .int .i64 v] 80) = W at lk hB h2 ⊢
  have c0 := lk.cell 0
  have c1 := lk.cell 1
  simp at c0 c1
  go_wp2_with fail
  refine (hasK_any g base m A c L k v W h2 hk hv).mono ?_
  rintro e W2 ⟨rfl, hb2⟩
  rw [ht.out]
  clear c0 c1
  go_wp2
  go_ret
  exact ⟨rfl, hB.trans (hb2.mono hB.size)⟩

/-- what a new member does to a set, behind the append to its row -/
theorem SetK.grow {W w1 : World} {g base b n cap gg c : Nat} {A : Option Addr} {L : List (Int × Int)} {k v : Int} {D : DataW Unit} {d : DataW Unit} {o : Obj}
    (hbox : Lies W g #[.map (some b), .slice A L.length c] 77) (hlt : g < base) (hbb : base ≤ b)
    (hmap : W.ownsMap Try.prog 80 (plainElem Try.prog 3) b n (D.put (keyLit k v) d)) (hD : IsMap D) (hn : n ≤ L.length + 1)
    (hhas : ∀ k' v', In64 k' → In64 v' → (Maps.has D (keyLit k' v') = true ↔ (k', v') ∈ L)) (hk : In64 k) (hv : In64 v) (hwf : ∀ p ∈ L, In64 p.1 ∧ In64 p.2)
    (hrow : W.ownsRow base 80 2 (.slice A L.length c) L.length (keyCells L)) (hbs : base ≤ W.heap.size)
    (hown : w1.ownsRow base 80 2 (.slice (some ⟨gg, 0, none⟩) (L.length + 1) cap) (L.length + 1) (keyCells L ++ [.int .i64 k, .int .i64 v]))
    (hgrow : (W.alloc o).drew.grownBy w1 (Value.slice A L.length c).ownBlock) :
    SetK (w1.setCell ⟨g, 1, none⟩ (.slice (some ⟨gg, 0, none⟩) (L.length + 1) cap)) g base (some b) (some ⟨gg, 0, none⟩) cap (L ++ [(k, v)]) ∧
      But base g W (w1.setCell ⟨g, 1, none⟩ (.slice (some ⟨gg, 0, none⟩) (L.length + 1) cap)) := by
  have hglt := hbox.lt
  have hne : (Value.slice A L.length c).ownBlock ≠ some g := fun e => by have := (hrow.lt g e).1; omega
  have hblt := hmap.lt
  have hnb : (Value.slice A L.length c).ownBlock ≠ some b := by
    intro e
    rcases hrow.2 with ⟨h1, _⟩ | ⟨q, cap', cur, hv', _, hh, _⟩
    · rw [h1] at e; cases e
    · rw [hv'] at e
      simp [Value.ownBlock] at e
      subst e
      obtain ⟨es, cl, hm, _⟩ := hmap
      rw [hm] at hh
      cases hh
  have hbox1 : Lies w1 g #[.map (some b), .slice A L.length c] 77 :=
    (hgrow.block g (by simp; omega) (fun e => hne e.symm)).trans (hbox.alloc o)
  have hmap1 := (((hmap.alloc o).drew).kept hgrow (fun e => hnb e.symm)).setCell (a := ⟨g, 1, none⟩) (by show b ≠ g; omega) (.slice (some ⟨gg, 0, none⟩) (L.length + 1) cap)
  have hkl : WideAt.IsKeyLit (keyLit k v) := lawK.key (keyOf_key hk hv)
  have hbox2 := hbox1.set 1 (.slice (some ⟨gg, 0, none⟩) (L.length + 1) cap)
  simp at hbox2
  refine ⟨⟨?_, ?_, .inr ⟨b, n, _, rfl, hbb, hmap1, by simp; omega, fun k' v' hk' hv' => ?_⟩, hlt, fun p hp => ?_⟩, ?_⟩
  · simpa using hbox2
  · have := ownsRow_setCell_below hown (a := ⟨g, 1, none⟩) hlt (.slice (some ⟨gg, 0, none⟩) (L.length + 1) cap)
    simpa [keyCells_append] using this
  · by_cases e : (k', v') = (k, v)
    · injection e with e1 e2
      subst e1
      subst e2
      simp [Maps.has_put_same hD hkl]
    · have hne' : keyLit k' v' ≠ keyLit k v := fun h => by
        have := keyLit_inj hk' hv' hk hv h
        exact e (by rw [this.1, this.2])
      rw [Maps.has_put_other hne', hhas k' v' hk' hv']
      simp [e]
  · rcases List.mem_append.1 hp with hp | hp
    · exact hwf p hp
    · simp at hp
      subst hp
      exact ⟨hk, hv⟩
  · refine ⟨hgrow.os, hgrow.tape, hgrow.output, by have := hgrow.size; simp at this ⊢; omega, fun j hj hjg => ?_⟩
    rw [Below.heap_setCell _ _ _ _ hjg, hgrow.block j (by simp; omega) (fun e => by have := (hrow.lt j e.symm).1; omega)]
    exact Below.heap_alloc _ _ _ (by omega)

set_option maxRecDepth 100000 in
set_option maxHeartbeats 2000000 in
theorem addK_first (g base : Nat) (c : Nat) (A : Option Addr) (k v : Int) (w : World) (h : SetK w g base none A c []) (hk : In64 k) (hv : In64 v) (hbs : base ≤ w.heap.size) :
    Calls Try.prog 56 #[.pointer (some ⟨g, 0, none⟩), .agg #[.int .i64 k, .int .i64 v]] w fun e w' => e = .returned (.bool true) ∧ (∃ m A' c', SetK w' g base m A' c' [(k, v)]) ∧ But base g w w' := by
  have hB0 : Below w.heap.size w (w.alloc (.cells #[.int .i64 k, .int .i64 v] 80)) := (Below.refl _ _).alloc (Nat.le_refl _) _
  have H2 := h.below hB0
  clear hB0
  obtain ⟨hbox, hrow, _, hlt, _⟩ := h
  have hkey := keyOf_key hk hv
  have hglt := hbox.lt
  have hbox2 := (hbox.alloc (.cells #[.int .i64 k, .int .i64 v] 80))
  have lk := Lies.new w #[.int .i64 k, .int .i64 v] 80
  have hrow2 := hrow.alloc (.cells #[.int .i64 k, .int .i64 v] 80)
  have hB : Below w.heap.size w (w.alloc (.cells #[.int .i64 k, .int .i64 v] 80)) := (Below.refl _ _).alloc (Nat.le_refl _) _
  have Hkey := hide hkey
  clear hbox hrow hkey
  go_enter Try.func56, Try.ntmps56
  go_wp2_with fail
  generalize w.alloc (.cells #[.int .i64 k, .int .i64 v] 80) = W at hbox2 lk hrow2 hB H2 ⊢
  have c0 := lk.cell 0
  have c1 := lk.cell 1
  simp at c0 c1
  have hmm := @run_makeMap Try.prog
  have heq := fun (w : World) => run_eql_map_nil (P := Try.prog) w 74 _ _ none Try.underlying74
  go_wp2_with fail
  refine (hasK_any g base none A c [] k v W H2 hk hv).mono ?_
  rintro e W2 ⟨rfl, hbW⟩
  rw [tf_false (by simp)]
  have hbox3 := hbox2.below hbW hbox2.lt
  have lk3 := lk.below hbW lk.lt
  have hrow3 : W2.ownsRow base 80 2 (.slice A 0 c) 0 [] := hrow2.kept (grownBy_of_below hbW) (by cases hx : (Value.slice A 0 c).ownBlock <;> simp)
  have hB3 := hB.trans (hbW.mono hB.size)
  clear H2 hbW
  clear hbox2 lk hrow2 hB c0 c1
  have d0 := hbox3.cell 0
  have b0 := (hbox3.alloc (.map #[] 0)).cell 0
  have f0 := (hbox3.alloc (.map #[] 0)).frozen 0
  simp at b0 d0
  go_wp2_with fail
  have hw2 := lk3.lt
  have hbox4 := (hbox3.alloc (.map #[] 0)).set 0 (.map (some W2.heap.size))
  have lk4 := (lk3.alloc (.map #[] 0)).far (p := ⟨g, 0, none⟩) (by simp; omega) (.map (some W2.heap.size))
  have hmap4 := ((World.ownsMap_made (H := Unit) W2 Try.prog 80 (plainElem Try.prog 3))).setCell (a := ⟨g, 0, none⟩) (by simp; omega) (.map (some W2.heap.size))
  have hrow4 := ownsRow_setCell_below (hrow3.alloc (.map #[] 0)) (a := ⟨g, 0, none⟩) hlt (.map (some W2.heap.size))
  have hbut4 : But base g w ((W2.alloc (.map #[] 0)).setCell ⟨g, 0, none⟩ (.map (some W2.heap.size))) :=
    ⟨hB3.os, hB3.tape, hB3.output, by have := hB3.size; simp; omega, fun j hj hjg => by
      rw [Below.heap_setCell _ _ _ _ hjg, Below.heap_alloc _ _ _ (by have := hB3.size; omega)]
      exact hB3.block j (by omega)⟩
  have hs4 : ((W2.alloc (.map #[] 0)).setCell ⟨g, 0, none⟩ (.map (some W2.heap.size))).heap.size = W2.heap.size + 1 := by simp
  generalize (W2.alloc (.map #[] 0)).setCell ⟨g, 0, none⟩ (.map (some W2.heap.size)) = W3 at hbox4 lk4 hmap4 hrow4 hbut4 hs4 ⊢
  have HS4 := hide hs4
  have hbW2 : base ≤ W2.heap.size := by omega
  generalize W2.heap.size = b at hmap4 hbox4 HS4 hbW2 hw2 ⊢
  clear hbox3 lk3 hrow3 hB3 b0 d0 f0 hs4
  simp at hbox4
  have e0 := hbox4.cell 0
  have e1 := hbox4.cell 1
  have k0 := lk4.cell 0
  have k1 := lk4.cell 1
  simp at e0 e1 k0 k1
  have hbox5 : Lies W3.drew g #[.map (some b), .slice A 0 c] 77 := hbox4
  have lk5 : Lies W3.drew w.heap.size #[.int .i64 k, .int .i64 v] 80 := lk4
  have hmap5 := hmap4.drew
  have hrow5 : W3.drew.ownsRow base 80 2 (.slice A 0 c) 0 [] := hrow4
  have hbut5 : But base g w W3.drew := ⟨hbut4.os, hbut4.tape, hbut4.output, hbut4.size, hbut4.block⟩
  have HS5 : Hid (W3.drew.heap.size = b + 1) := HS4
  go_still_tail 10, (by kernel_rfl)
  change wpList _ _ _ _ _ W3.drew
  generalize W3.drew = W5 at hbox5 lk5 hmap5 hrow5 hbut5 HS5 ⊢
  clear hbox4 lk4 hmap4 hrow4 hbut4 HS4 e0 e1 k0 k1 heq hmm
  go_wp2_with (at_mapUpdate; refine wpList_mapUpdate_own _ rfl _ _ _ 74 rfl 80 3 lawK Try.underlying74 _ b 0 _ rfl hmap5 (by unfold maxLen; omega) _ _ _ rfl rfl Hkey.out _ [] (plainElem_int Try.underlying3 (by decide)) ?_; intro W6 hown6 hgrow6)
  obtain ⟨i0, hi0, hz0, hz1, hz2⟩ := info_parts infoK
  have hlt5 := hbox5.lt
  have hw5 := lk5.lt
  have hs6 := hgrow6.size
  have hbox6 : Lies W6 g #[.map (some b), .slice A 0 c] 77 := (hgrow6.block g hlt5 (by simp; omega)).trans hbox5
  have lk6 : Lies W6 w.heap.size #[.int .i64 k, .int .i64 v] 80 := (hgrow6.block _ hw5 (by simp; omega)).trans lk5
  have hrow6 : W6.ownsRow base 80 2 (.slice A 0 c) 0 [] := hrow5.kept hgrow6 (by
    rcases hrow5.2 with ⟨h1, _⟩ | ⟨q, cap, cur, hv, _, hh, _⟩
    · left; injection h1 with h1; subst h1; rfl
    · right
      rw [hv]
      simp [Value.ownBlock]
      rintro rfl
      obtain ⟨es, cl, hm, _⟩ := hmap5
      rw [hm] at hh
      cases hh)
  have e1 := hbox6.cell 1
  have fe := hbox6.frozen 1
  have k0 := lk6.cell 0
  have k1 := lk6.cell 1
  simp at e1 k0 k1
  have hl6 := hbox6.lt
  have hw6 := lk6.lt
  have hbox7 := hbox6.alloc (.cells #[.int .i64 k, .int .i64 v] 80)
  have a1 := hbox7.cell 1
  have af := hbox7.frozen 1
  simp at a1
  have hne7 : (Value.slice A 0 c).ownBlock ≠ some g := fun e => by have := (hrow6.lt g e).1; omega
  go_region_law (refine step_append_lies _ (by rfl) _ _ _ (by rfl) base 80 i0 _ 2 16 Try.underlying75 hi0 hz0 hz1 hz2 rfl (by omega) (.slice A 0 c) 0 [] (by rfl) ((hrow6.alloc _).drew) ⟨W6.heap.size, 0, none⟩ 1 1 [.int .i64 k, .int .i64 v] (by rfl) (by rfl) (World.news_of_block (cs := #[.int .i64 k, .int .i64 v]) (t := 80) (fr := (0, 0)) (heap_alloc_new W6 _)) (by simp [Value.oneCell']) (by omega) (by unfold maxLen; omega) (by omega) (by simp; omega) (W6.heap.size + 1) (by simp) ?_; intro gg cap w1 hown1 hgrow hat hlt7; have s1 : w1.cell? ⟨g, 1, none⟩ = some (.slice A 0 c) := (hgrow.cell_far _ (by simp; omega) (fun e => hne7 e.symm)).trans a1; have s2 : w1.frozen? ⟨g, 1, none⟩ = false := (hgrow.frozen_far _ (by simp; omega) (fun e => hne7 e.symm)).trans af)
  all_goals
    go_wp2
    go_ret
    have hfin := SetK.grow (L := []) (d := .lit (.int .i64 0)) (o := .cells #[.int .i64 k, .int .i64 v] 80) hbox6 hlt hbW2 hown6 isMap_empty (by simp) (fun k' v' _ _ => by simp [Maps.has]) hk hv (by simp) hrow6 (by omega) hown1 hgrow
    refine ⟨rfl, ⟨_, _, _, hfin.1⟩, (hbut5.trans ⟨hgrow6.os, hgrow6.tape, hgrow6.output, hgrow6.size, fun j hj _ => hgrow6.block j (by omega) (by simp; omega)⟩).trans hfin.2⟩

set_option maxRecDepth 100000 in
set_option maxHeartbeats 2000000 in
theorem addK_next (g base b : Nat) (c : Nat) (A : Option Addr) (L : List (Int × Int)) (k v : Int) (w : World) (h : SetK w g base (some b) A c L) (hk : In64 k) (hv : In64 v) (hbs : base ≤ w.heap.size) (hno : (k, v) ∉ L) (hL : L.length ≤ 1048576) :
    Calls Try.prog 56 #[.pointer (some ⟨g, 0, none⟩), .agg #[.int .i64 k, .int .i64 v]] w fun e w' => e = .returned (.bool true) ∧ (∃ m A' c', SetK w' g base m A' c' (L ++ [(k, v)])) ∧ But base g w w' := by
  have hB0 : Below w.heap.size w (w.alloc (.cells #[.int .i64 k, .int .i64 v] 80)) := (Below.refl _ _).alloc (Nat.le_refl _) _
  have H2 := h.below hB0
  clear hB0
  obtain ⟨hbox, hrow, hmap0, hlt, hwf0⟩ := h
  rcases hmap0 with ⟨h0, _⟩ | ⟨b', n, D, he, hbb, hmap, hn, hhas0⟩
  · cases h0
  obtain rfl : b = b' := by injection he
  have hhas := hide hhas0
  have hwf := hide hwf0
  have Hno := hide hno
  have hkey := keyOf_key hk hv
  have hglt := hbox.lt
  have hbox2 := (hbox.alloc (.cells #[.int .i64 k, .int .i64 v] 80))
  have lk := Lies.new w #[.int .i64 k, .int .i64 v] 80
  have hrow2 := hrow.alloc (.cells #[.int .i64 k, .int .i64 v] 80)
  have hmap2 := hmap.alloc (.cells #[.int .i64 k, .int .i64 v] 80)
  have hB : Below w.heap.size w (w.alloc (.cells #[.int .i64 k, .int .i64 v] 80)) := (Below.refl _ _).alloc (Nat.le_refl _) _
  have Hkey := hide hkey
  have Htf := hide (tf_false hno)
  have hcpos : (0 : Int) ≤ (L.length : Int) ∧ (L.length : Int) ≤ 1048576 := by omega
  have hwfl : (Lit.int .i64 (L.length : Int)).wf = true := WalkArith.wf_i64 (by omega)
  have Hwfl := hide hwfl
  clear hbox hrow hmap hkey hhas0 hwf0 hno hwfl he
  go_enter Try.func56, Try.ntmps56
  go_wp2_with fail
  generalize w.alloc (.cells #[.int .i64 k, .int .i64 v] 80) = W at hbox2 lk hrow2 hmap2 hB H2 ⊢
  have c0 := lk.cell 0
  have c1 := lk.cell 1
  simp at c0 c1
  have heq := fun (w : World) => run_eql_map_nil (P := Try.prog) w 74 _ _ (some b) Try.underlying74
  go_wp2_with fail
  refine (hasK_any g base (some b) A c L k v W H2 hk hv).mono ?_
  rintro e W2 ⟨rfl, hbW⟩
  rw [Htf.out]
  have hbox3 := hbox2.below hbW hbox2.lt
  have lk3 := lk.below hbW lk.lt
  have hrow3 : W2.ownsRow base 80 2 (.slice A L.length c) L.length (keyCells L) := hrow2.kept (grownBy_of_below hbW) (by cases hx : (Value.slice A L.length c).ownBlock <;> simp)
  have hmap3 := hmap2.kept (grownBy_of_below hbW) (by simp)
  have hB3 := hB.trans (hbW.mono hB.size)
  clear H2 hbW
  clear hbox2 lk hrow2 hmap2 hB c0 c1
  have e0 := hbox3.cell 0
  have e1 := hbox3.cell 1
  have k0 := lk3.cell 0
  have k1 := lk3.cell 1
  simp at e0 e1 k0 k1
  have hs3 := hB3.size
  have hbox5 : Lies W2.drew g #[.map (some b), .slice A L.length c] 77 := hbox3
  have lk5 : Lies W2.drew w.heap.size #[.int .i64 k, .int .i64 v] 80 := lk3
  have hmap5 := hmap3.drew
  have hrow5 : W2.drew.ownsRow base 80 2 (.slice A L.length c) L.length (keyCells L) := hrow3
  have hbut5 : But base g w W2.drew := ⟨hB3.os, hB3.tape, hB3.output, hB3.size, fun j hj _ => hB3.block j (by omega)⟩
  have hs5 : w.heap.size ≤ W2.drew.heap.size := hs3
  go_wp2_with fail
  go_still_tail 10, (by kernel_rfl)
  change wpList _ _ _ _ _ W2.drew
  generalize W2.drew = W5 at hbox5 lk5 hmap5 hrow5 hbut5 hs5 ⊢
  clear hbox3 lk3 hmap3 hrow3 hB3 e0 e1 k0 k1 heq hs3
  go_wp2_with (at_mapUpdate; refine wpList_mapUpdate_own _ rfl _ _ _ 74 rfl 80 3 lawK Try.underlying74 _ b n _ rfl hmap5 (by unfold maxLen; omega) _ _ _ rfl rfl Hkey.out _ [] (plainElem_int Try.underlying3 Hwfl.out) ?_; intro W6 hown6 hgrow6)
  obtain ⟨i0, hi0, hz0, hz1, hz2⟩ := info_parts infoK
  have hlt5 := hbox5.lt
  have hw5 := lk5.lt
  have hs6 := hgrow6.size
  have hbox6 : Lies W6 g #[.map (some b), .slice A L.length c] 77 := (hgrow6.block g hlt5 (by simp; omega)).trans hbox5
  have hblk : w.heap.size ≠ b := by
    rintro rfl
    obtain ⟨es, cl, hm, _⟩ := hmap5
    have hm2 : W5.heap[w.heap.size]? = some (.cells #[.int .i64 k, .int .i64 v] 80 (0, 0)) := lk5
    rw [hm] at hm2
    cases hm2
  have lk6 : Lies W6 w.heap.size #[.int .i64 k, .int .i64 v] 80 := (hgrow6.block _ hw5 (by simp; exact hblk)).trans lk5
  have hrow6 : W6.ownsRow base 80 2 (.slice A L.length c) L.length (keyCells L) := hrow5.kept hgrow6 (by
    rcases hrow5.2 with ⟨h1, _⟩ | ⟨q, cap, cur, hv', _, hh, _⟩
    · left; rw [h1]; rfl
    · right
      rw [hv']
      simp [Value.ownBlock]
      rintro rfl
      obtain ⟨es, cl, hm, _⟩ := hmap5
      rw [hm] at hh
      cases hh)
  have e1 := hbox6.cell 1
  have fe := hbox6.frozen 1
  have k0 := lk6.cell 0
  have k1 := lk6.cell 1
  simp at e1 k0 k1
  have hl6 := hbox6.lt
  have hw6 := lk6.lt
  have hbox7 := hbox6.alloc (.cells #[.int .i64 k, .int .i64 v] 80)
  have a1 := hbox7.cell 1
  have af := hbox7.frozen 1
  simp at a1
  have hne7 : (Value.slice A L.length c).ownBlock ≠ some g := fun e => by have := (hrow6.lt g e).1; omega
  go_region_law (refine step_append_lies _ (by rfl) _ _ _ (by rfl) base 80 i0 _ 2 16 Try.underlying75 hi0 hz0 hz1 hz2 rfl (by omega) (.slice A L.length c) L.length (keyCells L) (by rfl) ((hrow6.alloc _).drew) ⟨W6.heap.size, 0, none⟩ 1 1 [.int .i64 k, .int .i64 v] (by rfl) (by rfl) (World.news_of_block (cs := #[.int .i64 k, .int .i64 v]) (t := 80) (fr := (0, 0)) (heap_alloc_new W6 _)) (by simp [Value.oneCell']) (by omega) (by unfold maxLen; omega) (by omega) (by simp; omega) (W6.heap.size + 1) (by simp) ?_; intro gg cap w1 hown1 hgrow hat hlt7; have s1 : w1.cell? ⟨g, 1, none⟩ = some (.slice A L.length c) := (hgrow.cell_far _ (by simp; omega) (fun e => hne7 e.symm)).trans a1; have s2 : w1.frozen? ⟨g, 1, none⟩ = false := (hgrow.frozen_far _ (by simp; omega) (fun e => hne7 e.symm)).trans af)
  all_goals
    go_wp2
    go_ret
    have hfin := SetK.grow (o := .cells #[.int .i64 k, .int .i64 v] 80) hbox6 hlt hbb hown6 hmap5.isMap (by omega) hhas.out hk hv hwf.out hrow6 (by omega) hown1 hgrow
    refine ⟨rfl, ⟨_, _, _, hfin.1⟩, (hbut5.trans ⟨hgrow6.os, hgrow6.tape, hgrow6.output, hgrow6.size, fun j hj _ => hgrow6.block j (by omega) (by simp; omega)⟩).trans hfin.2⟩

theorem addK_new (g base : Nat) (m : Option Nat) (c : Nat) (A : Option Addr) (L : List (Int × Int)) (k v : Int) (w : World) (h : SetK w g base m A c L) (hk : In64 k) (hv : In64 v) (hbs : base ≤ w.heap.size) (hno : (k, v) ∉ L) (hL : L.length ≤ 1048576) :
    Calls Try.prog 56 #[.pointer (some ⟨g, 0, none⟩), .agg #[.int .i64 k, .int .i64 v]] w fun e w' => e = .returned (.bool true) ∧ (∃ m A' c', SetK w' g base m A' c' (L ++ [(k, v)])) ∧ But base g w w' := by
  cases m with
  | none =>
    obtain rfl : L = [] := by
      rcases h.map with ⟨_, h2⟩ | ⟨_, _, _, h2, _⟩
      · exact h2
      · cases h2
    exact addK_first g base c A k v w h hk hv hbs
  | some b => exact addK_next g base b c A L k v w h hk hv hbs hno hL

end Go.Proofs.Ytkgnijbdbkopkab
