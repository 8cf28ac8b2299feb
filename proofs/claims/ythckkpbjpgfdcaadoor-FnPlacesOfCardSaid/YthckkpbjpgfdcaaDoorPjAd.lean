/-
  Lemmas, several texts in one: Forms, OwnS, Memod, KeyI, SetI.
-/
import Derived.Test.YthckkpbjpgfdcaaDoorPjAb
import Derived.Test.YthckkpbjpgfdcaaDoorMem
import Derived.LaidMore
import Derived.Test.YthckkpbjpgfdcaaDoorOwn
import Derived.Deep.RegionLaw
import Derived.Deep.AppendLies
import Derived.Test.YthckkpbjpgfdcaaDoorPjAc
import Derived.Test.YthckkpbjpgfdcaaDoorPjAa
import Derived.Test.YthckkpbjpgfdcaaDoorShpR
import Derived.Deep.LoopGhost
import Derived.Deep.Cut
import Derived.DeepKeys4
import Derived.Maps.OwnSet
import Derived.WalkSpells
import Derived.StillTailTactics
import Derived.Deep.QuietTactic
import Derived.BigQuiet
namespace Go.Proofs.YthckkpbjpgfdcaaDoor
open Go.RowKit Go.ChangeShapes
def takesOf (c : Nat) : Int := [0, 0, 0, -1, 0, 1, 2, 0, 1, -1, 0, 2, -1, 0, 1, 0, 0, 1, -1, 0].getD c 0
def pushesOf (c : Nat) : Int := [1, 1, 1, 1, 1, 1, 1, 1, 0, 0, 1, 0, 0, 1, 0, 0, 1, 0, 0, 0].getD c 0
structure FormsAt (w : World) (B : Nat) : Prop where
  lt : 0 < B
  takes : ∀ c : Nat, c < 20 → w.cell? ⟨0, c * 3, none⟩ = some (.int .i64 (takesOf c))
  pushes : ∀ c : Nat, c < 20 → w.cell? ⟨0, c * 3 + 1, none⟩ = some (.int .i64 (pushesOf c))
  arg : ∀ c : Nat, c < 20 → w.cell? ⟨0, c * 3 + 2, none⟩ = some (.int .i64 (argTop c))
theorem FormsAt.below {w w' : World} {B : Nat} (h : FormsAt w B) (hb : Below B w w') : FormsAt w' B :=
  ⟨h.lt, fun c hc => (hb.cell (p := ⟨0, c * 3, none⟩) h.lt).trans (h.takes c hc), fun c hc => (hb.cell (p := ⟨0, c * 3 + 1, none⟩) h.lt).trans (h.pushes c hc), fun c hc => (hb.cell (p := ⟨0, c * 3 + 2, none⟩) h.lt).trans (h.arg c hc)⟩
theorem FormsAt.more {w : World} {B B' : Nat} (h : FormsAt w B) (hB : B ≤ B') : FormsAt w B' := ⟨Nat.lt_of_lt_of_le h.lt hB, h.takes, h.pushes, h.arg⟩
theorem FormsAt.later {w w' : World} {B : Nat} (h : FormsAt w B) (hb : Below B w w') (hB : B ≤ w.heap.size) : FormsAt w' w'.heap.size :=
  (h.below hb).more (Nat.le_trans hB hb.size)
end Go.Proofs.YthckkpbjpgfdcaaDoor

namespace Go.Proofs.YthckkpbjpgfdcaaDoor
open Go.RowKit
theorem IntsAt.lit (w : World) (xs : List Int) (hx : ∀ x ∈ xs, In64 x) (hl : xs.length ≤ 1048576) : IntsAt (w.alloc (.cells (xs.map (Value.int .i64)).toArray 3)) (w.heap.size + 1) (some ⟨w.heap.size, 0, none⟩) xs := by
  refine ⟨fun _ => ⟨w.heap.size, 0, rfl, Nat.lt_succ_self _, fun j y hj => ?_⟩, hx, by omega⟩
  rw [(Lies.new w (xs.map (Value.int .i64)).toArray 3).cell]
  simp [hj]
theorem IntsAt.hold {w : World} {b : Nat} {cs : Array Value} {t : TypeId} (h : Lies w b cs t) (xs : List Int) (hc : cs = (xs.map (Value.int .i64)).toArray) (hx : ∀ x ∈ xs, In64 x) (hl : xs.length ≤ 1048576) : IntsAt w w.heap.size (some ⟨b, 0, none⟩) xs := by
  subst hc
  refine ⟨fun _ => ⟨b, 0, rfl, h.lt, fun j y hj => ?_⟩, hx, by omega⟩
  rw [h.cell]
  simp [hj]
theorem step_append_ints {w : World} {ops : Array Oper} {o : Oper} {a : Act} {K : Act → World → Prop} {Q : Exit → Act → World → Prop} {E : Prop} (hgd : o.guard = none) (s x : Operand)
    (ho : o.op = .call { callee := .builtin .append, args := #[s, x], argTypes := #[34, 34] })
    (base : Nat) (A : Option Addr) (c : Nat) (xs : List Int) (hs : a.eval s = .slice A xs.length c) (hown : OwnI w base A c xs)
    (ad : Addr) (c2 : Nat) (ys : List Int) (hne : ys ≠ []) (hx : a.eval x = .slice (some ad) ys.length c2) (hr : IntsAt w w.heap.size (some ad) ys)
    (hsum : xs.length + ys.length ≤ 16777216) (hbase : base ≤ w.heap.size)
    (h : ∀ (zs : List Int) (A' : Option Addr) (c' : Nat) (w' : World), Hid (zs = xs ++ ys) → OwnI w' base A' c' zs → w.grownBy w' (blockOf A) → (blockOf A' = blockOf A ∨ blockOf A' = some w.heap.size) →
      K (a.put o.dst (.slice A' zs.length c')) w') :
    if Region.wanted o (yielded ops a.tmps) = true then Oper.wp Tryd.prog o a w K Q else E := by
  obtain ⟨i0, hi, hz0, hz1, hz2⟩ := info_parts infoI
  have hcells : ∀ j u, (ys.map (Value.int .i64))[j]? = some u → w.cell? (ad.add j) = some u := by
    intro j u hu
    rw [List.getElem?_map] at hu
    cases hy : ys[j]? with
    | none => rw [hy] at hu; cases hu
    | some y =>
      rw [hy] at hu
      simp at hu
      subst hu
      obtain ⟨b, off, e2, _, hc⟩ := hr.row hne
      obtain rfl : ad = ⟨b, off, none⟩ := Option.some.inj e2
      have hadd : (⟨b, off, none⟩ : Addr).add j = ⟨b, off + j, none⟩ := by
        unfold Addr.add
        split
        · rename_i h0; subst h0; rfl
        · rfl
      rw [hadd]
      exact hc j y hy
  refine step_append_lies w hgd s x 34 ho base 3 i0 _ 1 8 Tryd.underlying34 hi hz0 hz1 hz2 rfl (by omega) _ _ _ hs hown.own ad ys.length c2 (ys.map (Value.int .i64)) hx (by simp) hcells (ints_one ys)
    (List.length_pos_iff.2 hne) (by unfold maxLen; omega) (by omega) hbase w.heap.size rfl ?_
  intro g cap w' h2 h3 h4 _
  have hlen : xs.length + ys.length = (xs ++ ys).length := by simp
  rw [ownBlock_slice] at h3 h4
  rw [← List.map_append, hlen] at h2
  rw [hlen]
  refine h (xs ++ ys) (some ⟨g, 0, none⟩) cap w' (by simp [Hid]) ⟨h2⟩ h3 ?_
  rcases h4 with h4 | h4
  · exact .inl (by rw [h4]; rfl)
  · exact .inr (by rw [h4]; rfl)
end Go.Proofs.YthckkpbjpgfdcaaDoor

namespace Go.Proofs.YthckkpbjpgfdcaaDoor
open Go.RowKit
set_option linter.unusedVariables false
def takenTo (l : List Int) : Nat → Nat
  | 0 => 0
  | k + 1 => takenTo l k + (if 0 ≤ l.getD k 0 then 1 else 0)
theorem takenTo_le (l : List Int) (k : Nat) : takenTo l k ≤ k := by
  induction k with
  | zero => exact Nat.le_refl _
  | succ k ih => unfold takenTo; split <;> omega
def GivesSave (w : World) (os : List Od) (μ : List Int) (e : Ending) (w' : World) : Prop :=
  ∃ A c M d, e = .returned (.tuple #[.slice A os.length c, .slice M μ.length d]) ∧ OpsAt w' w'.heap.size A os ∧ (A = none → c = 0) ∧ IntsAt w' w'.heap.size M μ ∧ (M = none → d = 0) ∧ Below w.heap.size w w'
def memoOps (os : List Od) (μ : List Int) : List Od := os ++ [⟨15, (takenTo μ μ.length : Int)⟩]
def memoSet (μ : List Int) (i : Nat) : List Int := μ.set i (takenTo μ μ.length : Int)
set_option maxRecDepth 100000 in
set_option maxHeartbeats 2000000 in
theorem memoed_any (A : Option Addr) (os : List Od) (c : Nat) (M : Option Addr) (μ : List Int) (d i : Nat) (w : World) (h : OpsAt w w.heap.size A os) (hn : A = none → c = 0) (h2 : IntsAt w w.heap.size M μ) (hn2 : M = none → d = 0)
    (hl : os.length ≤ 7000000) (hm : μ.length ≤ 100) (hi : i < μ.length) (hμ : ∀ x ∈ μ, -1 ≤ x ∧ x ≤ 100) :
    Calls Tryd.prog 44 #[.slice A os.length c, .slice M μ.length d, .int .i64 (i : Int)] w (GivesSave w (memoOps os μ) (memoSet μ i)) := by
  have Hn := hide hn
  have Hn2 := hide hn2
  have Hμ := hide hμ
  clear hn hn2 hμ
  go_enter Tryd.func44, Tryd.ntmps44
  go_wp2_with fail
  go_loop [8, 9] (fun nv iv => ∃ k : Nat, k ≤ μ.length ∧ iv = .int .i64 (k : Int) ∧ nv = .int .i64 (takenTo μ k : Int)) (fun _ iv => μ.length - (intOf iv).toNat)
  case atStart => exact ⟨0, Nat.zero_le _, rfl, rfl⟩
  case round =>
    obtain ⟨k, hk, rfl, rfl⟩ := hrel
    have htk := takenTo_le μ k
    by_cases hlt : k < μ.length
    · obtain ⟨b, off, x, rfl, hbl, hx, _, hcx⟩ := h2.at_ hlt
      have hgx : μ.getD k 0 = x := by rw [List.getD_eq_getElem?_getD, hx]; rfl
      have hk1 : (0 : Int) ≤ (k : Int) := by omega
      have hk2 : (k : Int) < (μ.length : Int) := by omega
      by_cases hp : 0 ≤ x
      · have HT : Hid (takenTo μ (k + 1) = takenTo μ k + 1) := hide (by show takenTo μ k + _ = _; rw [hgx, if_pos hp])
        clear hx hgx
        generalize takenTo μ k = m at htk HT
        have dx : decide (0 ≤ x) = true := by simpa using hp
        go_wp2
        go_round
        case rel => exact ⟨k + 1, by omega, by go_num, by rw [HT.out]; go_num⟩
        case measure => simp [intOf]; omega
      · have HT : Hid (takenTo μ (k + 1) = takenTo μ k) := hide (by show takenTo μ k + _ = _; rw [hgx, if_neg hp]; rfl)
        clear hx hgx
        generalize takenTo μ k = m at htk HT
        have dx : decide (0 ≤ x) = false := by simpa using hp
        go_wp2
        go_round
        case rel => exact ⟨k + 1, by omega, by go_num, by rw [HT.out]⟩
        case measure => simp [intOf]; omega
    · obtain rfl : k = μ.length := by omega
      clear hlt
      obtain ⟨m, hmd⟩ : ∃ m, m = takenTo μ μ.length := ⟨_, rfl⟩
      rw [← hmd] at htk ⊢
      have Hm := hide hmd
      clear hmd
      go_wp2_with fail
      refine (copyInts_any M μ d w h2 Hn2.out (by omega)).mono ?_
      rintro e w1 ⟨M1, d1, rfl, ho1, hb1⟩
      rcases ho1.form with ⟨_, _, e0⟩ | ⟨g, rfl, hg1, hg2⟩
      · rw [e0] at hi; simp at hi
      · have HO1 := hide ho1
        have HB1 := hide hb1
        have hfr := ho1.frozenAt i
        obtain ⟨y, hy⟩ : ∃ y, μ[i]? = some y := ⟨_, List.getElem?_eq_getElem hi⟩
        have hcy : w1.cell? ⟨g, i, none⟩ = some (.int .i64 y) := ho1.cellAt hy
        have HO2 := hide (ho1.set i (m : Int))
        have HB2 := hide (hb1.setCell (p := ⟨g, i, none⟩) hg1 (.int .i64 (m : Int)))
        clear ho1 hb1 hy
        have hi1 : (0 : Int) ≤ (i : Int) := by omega
        have hi2 : (i : Int) < (μ.length : Int) := by omega
        go_upto_region 9 with fail
        clear hcy hfr
        generalize w1.setCell ⟨g, i, none⟩ (.int .i64 (m : Int)) = w2 at HO2 HB2 ⊢
        have lo := Lies.new w2 #[.int .i64 15, .int .i64 (m : Int)] 38
        have hb3 := (Below.refl w2.heap.size w2).alloc (Nat.le_refl _) (.cells #[.int .i64 15, .int .i64 (m : Int)] 38)
        have HO3 := hide (HO2.out.below hb3)
        have HB3 := hide (HB2.out.trans (hb3.mono HB2.out.size))
        have hOne := OpsAt.one (o := ⟨15, (m : Int)⟩) lo (by constructor <;> constructor <;> simp <;> omega)
        have HOne := hide hOne
        have HW3 := hide (h.later HB3.out (Nat.le_refl _))
        clear hb3 lo hOne
        go_wp2_with fail
        refine (emit_any A os c (some ⟨w2.heap.size, 0, none⟩) [⟨15, (m : Int)⟩] 1 _ HW3.out Hn.out HOne.out (fun e => by cases e) (by simp; omega)).mono ?_
        rintro e w4 ⟨A4, c4, rfl, ho4, hb4⟩
        have hwf : ∀ o ∈ os ++ [⟨15, (m : Int)⟩], In64 o.code ∧ In64 o.arg := by
          intro o ho
          rcases List.mem_append.1 ho with ho | ho
          · exact HW3.out.wf o ho
          · rw [List.mem_singleton.1 ho]
            constructor <;> constructor <;> simp <;> omega
        have hm64 : ∀ x ∈ μ.set i (m : Int), In64 x := by
          intro x hx
          rcases List.mem_or_eq_of_mem_set hx with hx | rfl
          · have := Hμ.out x hx
            constructor <;> omega
          · constructor <;> omega
        have hN4 := ho4.form
        have HF : Hid (GivesSave w (memoOps os μ) (memoSet μ i) (.returned (.tuple #[.slice A4 (os ++ [⟨15, (m : Int)⟩] : List Od).length c4, .slice (some ⟨g, 0, none⟩) (μ.set i (m : Int)).length d1])) w4) := by
          show GivesSave _ _ _ _ _
          unfold memoOps memoSet
          rw [← Hm.out]
          refine ⟨A4, c4, _, d1, rfl, ho4.ops hwf (by simp; omega), fun e => ?_, (HO3.out.below hb4).ints hm64 (by simp; omega), (fun e => by cases e), HB3.out.trans (hb4.mono HB3.out.size)⟩
          rcases hN4 with ⟨_, h2, _⟩ | ⟨g, h2, _⟩
          · exact h2
          · rw [h2] at e; cases e
        clear hwf hm64 hN4 ho4 hb4
        rw [List.length_set, show (os ++ [⟨15, (m : Int)⟩] : List Od).length = os.length + 1 from by simp] at HF
        go_wp2
        go_ret2
        exact HF.out
end Go.Proofs.YthckkpbjpgfdcaaDoor

namespace Go.Proofs.YthckkpbjpgfdcaaDoor
open Go.RowKit Go.Maps
theorem lawI : Keyed Tryd.prog 3 := int_keyed Tryd.underlying3
theorem wf_of_in64 {x : Int} (h : In64 x) : (Lit.int .i64 x).wf = true := WalkArith.wf_i64 h
theorem keyOf_i {x : Int} (h : In64 x) : keyOf Tryd.prog 3 (.int .i64 x) = some (.int .i64 x) := keyOf_int_mk Tryd.underlying3 (wf_of_in64 h)
theorem zeroI (w : World) : (zeroValue 3).run Tryd.prog w = .ok (.int .i64 0) w := by kernel_rfl
structure But (base g : Nat) (w w' : World) : Prop where
  os : w'.os = w.os
  tape : w'.tape = w.tape
  output : w'.output = w.output
  size : w.heap.size ≤ w'.heap.size
  block : ∀ k, k < base → k ≠ g → w'.heap[k]? = w.heap[k]?
theorem But.below {base g B : Nat} {w0 w w' : World} (h : But base g w w') (hb : Below B w0 w) (hg : B ≤ g) (hB : B ≤ base) : Below B w0 w' :=
  hb.trans ⟨h.os, h.tape, h.output, h.size, fun k hk => h.block k (by omega) (by omega)⟩
theorem But.trans {base g : Nat} {a b c : World} (h : But base g a b) (k : But base g b c) : But base g a c :=
  ⟨k.os.trans h.os, k.tape.trans h.tape, k.output.trans h.output, Nat.le_trans h.size k.size, fun j hj hjg => (k.block j hj hjg).trans (h.block j hj hjg)⟩
theorem But.of_below {base g : Nat} {w w' : World} (h : Below w.heap.size w w') (hb : base ≤ w.heap.size) : But base g w w' :=
  ⟨h.os, h.tape, h.output, h.size, fun j hj _ => h.block j (by omega)⟩
end Go.Proofs.YthckkpbjpgfdcaaDoor

namespace Go.Proofs.YthckkpbjpgfdcaaDoor
open Go.RowKit Go.Maps
set_option linter.unusedVariables false
def MapI (w : World) (base : Nat) (m : Option Nat) (L : List Int) : Prop :=
  (m = none ∧ L = []) ∨ ∃ (b n : Nat) (D : DataW Unit), m = some b ∧ base ≤ b ∧ w.ownsMap Tryd.prog 3 (plainElem Tryd.prog 3) b n D ∧ n ≤ L.length ∧
    (∀ x, In64 x → (Maps.has D (.int .i64 x) = true ↔ x ∈ L)) ∧ ∀ x ∈ L, D.atKey (.int .i64 x) (.lit (.int .i64 0)) = .lit (.int .i64 (L.idxOf x : Int))
structure SetI (w : World) (g base : Nat) (m : Option Nat) (A : Option Addr) (c : Nat) (L : List Int) : Prop where
  box : Lies w g #[.map m, .slice A L.length c] 36
  row : OwnI w base A c L
  map : MapI w base m L
  lt : g < base
  wf : ∀ x ∈ L, In64 x
theorem MapI.below {w w' : World} {base : Nat} {m : Option Nat} {L : List Int} (h : MapI w base m L) (hb : Below w.heap.size w w') : MapI w' base m L := by
  rcases h with h | ⟨b, n, D, h1, h2, h3, h4⟩
  · exact .inl h
  · exact .inr ⟨b, n, D, h1, h2, h3.kept (grownBy_of_below hb) (by simp), h4⟩
theorem SetI.below {w w' : World} {g base : Nat} {m : Option Nat} {A : Option Addr} {c : Nat} {L : List Int} (h : SetI w g base m A c L) (hb : Below w.heap.size w w') : SetI w' g base m A c L :=
  ⟨h.box.below hb h.box.lt, h.row.below hb, h.map.below hb, h.lt, h.wf⟩
theorem SetI.drew {w : World} {g base : Nat} {m : Option Nat} {A : Option Addr} {c : Nat} {L : List Int} (h : SetI w g base m A c L) : SetI w.drew g base m A c L :=
  h.below (Below.refl _ _).drew
theorem SetI.start {w : World} {g base : Nat} (hbox : Lies w g #[.map none, .slice none 0 0] 36) (hlt : g < base) : SetI w g base none none 0 [] :=
  ⟨hbox, OwnI.empty _ _, .inl ⟨rfl, rfl⟩, hlt, fun x hx => by cases hx⟩
theorem lookI {w : World} {b n : Nat} {D : DataW Unit} {x : Int} (h : w.ownsMap Tryd.prog 3 (plainElem Tryd.prog 3) b n D) (hx : In64 x) :
    ∃ cc : Int, (Instr.lookup 33 (.map (some b)) (.int .i64 x) true).run Tryd.prog w = .ok (.tuple #[.int .i64 cc, .bool (Maps.has D (.int .i64 x))]) w := by
  obtain ⟨y, ps, hrun, hy⟩ := h.look_ok lawI Tryd.underlying33 (zeroI w) (plainElem_int Tryd.underlying3 (by decide)) (keyOf_i hx)
  obtain ⟨a, rfl, _, _⟩ := plainElem_int_inv Tryd.underlying3 hy
  exact ⟨a, hrun⟩
theorem lookNilI {x : Int} (hx : In64 x) (w : World) :
    (Instr.lookup 33 (.map none) (.int .i64 x) true).run Tryd.prog w = .ok (.tuple #[.int .i64 0, .bool false]) w :=
  Maps.look_nil true lawI Tryd.underlying33 (zeroI w) (keyOf_i hx)
set_option maxHeartbeats 1000000 in
theorem hasI_any (g base : Nat) (m : Option Nat) (A : Option Addr) (c : Nat) (L : List Int) (x : Int) (w : World) (h : SetI w g base m A c L) (hx : In64 x) :
    Calls Tryd.prog 16 #[.pointer (some ⟨g, 0, none⟩), .int .i64 x] w fun e w' => e = .returned (.bool (tf (x ∈ L))) ∧ w = w' := by
  obtain ⟨hbox, _, hmap, hlt, _⟩ := h
  have b0 := hbox.cell 0
  simp at b0
  rcases hmap with ⟨rfl, rfl⟩ | ⟨b, n, D, rfl, hb, hown, hn, hhas, _⟩
  · have hlk := lookNilI hx w
    have HF := hide (show tf (x ∈ ([] : List Int)) = false from tf_false (by simp))
    clear hbox
    go_enter Tryd.func16, Tryd.ntmps16
    go_wp2
    go_ret
    exact ⟨ret_bool HF.out.symm, rfl⟩
  · obtain ⟨cc, hlk⟩ := lookI hown hx
    have HF : Hid (tf (x ∈ L) = Maps.has D (.int .i64 x)) := by
      cases hq : Maps.has D (.int .i64 x)
      · exact tf_false fun hm => by rw [(hhas x hx).2 hm] at hq; cases hq
      · exact tf_true ((hhas x hx).1 hq)
    generalize Maps.has D (.int .i64 x) = q at hlk HF
    clear hbox hown hhas
    go_enter Tryd.func16, Tryd.ntmps16
    go_wp2
    go_ret
    exact ⟨ret_bool HF.out.symm, rfl⟩
set_option maxRecDepth 100000 in
set_option maxHeartbeats 1000000 in
theorem addI_seen (g base : Nat) (m : Option Nat) (A : Option Addr) (c : Nat) (L : List Int) (x : Int) (w : World) (h : SetI w g base m A c L) (hx : In64 x) (hin : x ∈ L) :
    Calls Tryd.prog 12 #[.pointer (some ⟨g, 0, none⟩), .int .i64 x] w fun e w' => e = .returned (.bool false) ∧ w = w' := by
  have H := hasI_any g base m A c L x w h hx
  rw [tf_true hin] at H
  have HH := hide H
  clear H h hin
  go_enter Tryd.func12, Tryd.ntmps12
  go_wp2_with fail
  refine HH.out.mono ?_
  rintro e w' ⟨rfl, rfl⟩
  go_wp2
  go_ret
  exact ⟨rfl, rfl⟩
theorem idxOf_snoc_old {L : List Int} {x y : Int} (h : y ∈ L) : (L ++ [x]).idxOf y = L.idxOf y := by
  rw [List.idxOf_append, if_pos h]
theorem idxOf_snoc_new {L : List Int} {x : Int} (h : x ∉ L) : (L ++ [x]).idxOf x = L.length := by
  rw [List.idxOf_append, if_neg h]
  simp
theorem row_map_ne {w : World} {base b n : Nat} {A : Option Addr} {c : Nat} {L : List Int} {P : Program} {k : TypeId} {R : Value → Option (DataW Unit × List MemPlace)} {D : DataW Unit} (hrow : OwnI w base A c L) (hmap : w.ownsMap P k R b n D) : blockOf A ≠ some b := by
  intro e
  rcases hrow.own.2 with ⟨h1, _⟩ | ⟨q, cap', cur, hv', _, hh, _⟩
  · injection h1 with h1
    subst h1
    cases e
  · injection hv' with hv'
    subst hv'
    simp [blockOf] at e
    subst e
    obtain ⟨es, cl, hm, _⟩ := hmap
    rw [hm] at hh
    cases hh
structure Tight (g : Nat) (m : Option Nat) (A : Option Addr) (m' : Option Nat) (A' : Option Addr) (w w' : World) : Prop where
  size : w.heap.size ≤ w'.heap.size
  map : m' = m ∨ ∃ b, m' = some b ∧ w.heap.size ≤ b
  row : blockOf A' = blockOf A ∨ ∃ b, blockOf A' = some b ∧ w.heap.size ≤ b
  block : ∀ k, k < w.heap.size → k ≠ g → m ≠ some k → blockOf A ≠ some k → w'.heap[k]? = w.heap[k]?
theorem SetI.grow {W w1 : World} {g base b n cap : Nat} {A A' : Option Addr} {c : Nat} {L zs : List Int} {x : Int} {D : DataW Unit} {o : Obj}
    (hbox : Lies W g #[.map (some b), .slice A L.length c] 36) (hlt : g < base) (hbb : base ≤ b)
    (hmap : W.ownsMap Tryd.prog 3 (plainElem Tryd.prog 3) b n (D.put (.int .i64 x) (.lit (.int .i64 (L.length : Int))))) (hD : IsMap D) (hn : n ≤ L.length + 1)
    (hhas : ∀ y, In64 y → (Maps.has D (.int .i64 y) = true ↔ y ∈ L)) (hat : ∀ y ∈ L, D.atKey (.int .i64 y) (.lit (.int .i64 0)) = .lit (.int .i64 (L.idxOf y : Int))) (hx : In64 x) (hno : x ∉ L) (hwf : ∀ y ∈ L, In64 y)
    (hrow : OwnI W base A c L) (hbs : base ≤ W.heap.size) (hz : zs = L ++ [x]) (hown : OwnI w1 base A' cap zs) (hgrow : (W.alloc o).grownBy w1 (blockOf A)) :
    SetI (w1.setCell ⟨g, 1, none⟩ (.slice A' zs.length cap)) g base (some b) A' cap (L ++ [x]) ∧ But base g W (w1.setCell ⟨g, 1, none⟩ (.slice A' zs.length cap)) := by
  subst hz
  have hglt := hbox.lt
  have hne : blockOf A ≠ some g := fun e => by have := (hrow.blocks g e).1; omega
  have hblt := hmap.lt
  have hnb : blockOf A ≠ some b := by
    intro e
    rcases hrow.own.2 with ⟨h1, _⟩ | ⟨q, cap', cur, hv', _, hh, _⟩
    · injection h1 with h1
      subst h1
      cases e
    · injection hv' with hv'
      subst hv'
      simp [blockOf] at e
      subst e
      obtain ⟨es, cl, hm, _⟩ := hmap
      rw [hm] at hh
      cases hh
  have hbox1 : Lies w1 g #[.map (some b), .slice A L.length c] 36 := (hgrow.block g (by simp; omega) (fun e => hne e.symm)).trans (hbox.alloc o)
  have hmap1 := ((hmap.alloc o).kept hgrow (fun e => hnb e.symm)).setCell (a := ⟨g, 1, none⟩) (by show b ≠ g; omega) (.slice A' (L ++ [x]).length cap)
  have hbox2 := hbox1.set 1 (.slice A' (L ++ [x]).length cap)
  simp only [List.setIfInBounds_toArray, List.set_cons_succ, List.set_cons_zero] at hbox2
  have hkey : ∀ {y : Int}, In64 y → WideAt.IsKeyLit (.int .i64 y) := fun hy => lawI.key (keyOf_i hy)
  refine ⟨⟨hbox2, ⟨ownsRow_setCell_below hown.own (a := ⟨g, 1, none⟩) hlt _⟩, .inr ⟨b, n, _, rfl, hbb, hmap1, by simp; omega, fun y hy => ?_, fun y hy => ?_⟩, hlt, fun y hy => ?_⟩, ?_⟩
  · by_cases e : y = x
    · subst e
      simp [Maps.has_put_same hD (hkey hx)]
    · have hne' : (Lit.int .i64 y) ≠ .int .i64 x := fun h => by injection h with _ h; exact e h
      rw [Maps.has_put_other hne', hhas y hy]
      simp [e]
  · by_cases e : y = x
    · subst e
      rw [Maps.atKey_put_same hD (hkey hx), idxOf_snoc_new hno]
    · have hyL : y ∈ L := by simpa [e] using hy
      have hne' : (Lit.int .i64 y) ≠ .int .i64 x := fun h => by injection h with _ h; exact e h
      rw [Maps.atKey_put_other hne', hat y hyL, idxOf_snoc_old hyL]
  · rcases List.mem_append.1 hy with hy | hy
    · exact hwf y hy
    · simp at hy
      subst hy
      exact hx
  · refine ⟨hgrow.os, hgrow.tape, hgrow.output, by have := hgrow.size; simp at this ⊢; omega, fun j hj hjg => ?_⟩
    rw [Below.heap_setCell _ _ _ _ hjg, hgrow.block j (by simp; omega) (fun e => by have := (hrow.blocks j e.symm).1; omega)]
    exact Below.heap_alloc _ _ _ (by omega)
set_option maxRecDepth 100000 in
set_option maxHeartbeats 2000000 in
theorem addI_next2 (g base b : Nat) (c : Nat) (A : Option Addr) (L : List Int) (x : Int) (w : World) (h : SetI w g base (some b) A c L) (hx : In64 x) (hbs : base ≤ w.heap.size) (hno : x ∉ L) (hL : L.length ≤ 1048576) :
    Calls Tryd.prog 12 #[.pointer (some ⟨g, 0, none⟩), .int .i64 x] w fun e w' => e = .returned (.bool true) ∧ (∃ m' A' c', SetI w' g base m' A' c' (L ++ [x]) ∧ Tight g (some b) A m' A' w w') ∧ But base g w w' := by
  have H := hasI_any g base (some b) A c L x w h hx
  rw [tf_false hno] at H
  have HH := hide H
  clear H
  obtain ⟨hbox, hrow, hmap0, hlt, hwf0⟩ := h
  rcases hmap0 with ⟨h0, _⟩ | ⟨b', n, D, he, hbb, hmap, hn, hhas0, hat0⟩
  · cases h0
  obtain rfl : b = b' := by injection he
  have hhas := hide hhas0
  have hat := hide hat0
  have hwf := hide hwf0
  have Hno := hide hno
  have hwfl : (Lit.int .i64 (L.length : Int)).wf = true := WalkArith.wf_i64 (by omega)
  have Hwfl := hide hwfl
  have heq := fun (w : World) => run_eql_map_nil (P := Tryd.prog) w 33 _ _ (some b) Tryd.underlying33
  have e0 := hbox.cell 0
  have e1 := hbox.cell 1
  simp at e0 e1
  have Hx := hide hx
  have hbox5 : Lies w.drew g #[.map (some b), .slice A L.length c] 36 := hbox
  have hmap5 := hmap.drew
  have hrow5 := hrow.drew
  have hbut5 : But base g w w.drew := ⟨rfl, rfl, rfl, Nat.le_refl _, fun _ _ _ => rfl⟩
  have hs5 : base ≤ w.drew.heap.size := hbs
  have Hh5 : Hid (∀ k : Nat, w.drew.heap[k]? = w.heap[k]?) := fun _ => rfl
  have Hz5 : Hid (w.drew.heap.size = w.heap.size) := rfl
  clear hhas0 hat0 hwf0 hno hwfl he
  go_enter Tryd.func12, Tryd.ntmps12
  go_wp2_with fail
  refine HH.out.mono ?_
  rintro e w' ⟨rfl, rfl⟩
  go_wp2_with fail
  go_still_tail 10, (by kernel_rfl)
  change wpList _ _ _ _ _ w.drew
  generalize w.drew = W5 at hbox5 hmap5 hrow5 hbut5 hs5 Hh5 Hz5 ⊢
  clear hbox hmap hrow e0 e1 heq
  have hne7 : blockOf A ≠ some g := fun e => by have := (hrow5.blocks g e).1; omega
  have hnb7 := row_map_ne hrow5 hmap5
  go_wp2_with (first
    | (at_mapUpdate; refine wpList_mapUpdate_own _ rfl _ _ _ 33 rfl 3 3 lawI Tryd.underlying33 _ b n _ rfl hmap5 (by unfold maxLen; omega) _ _ _ rfl rfl (keyOf_i Hx.out) _ [] (plainElem_int Tryd.underlying3 Hwfl.out) ?_; intro W6 hown6 hgrow6; have hbox6 : Lies W6 g #[.map (some b), .slice A L.length c] 36 := (hgrow6.block g hbox5.lt (by simp; omega)).trans hbox5; have hrow6 := hrow5.kept hgrow6 (.inr hnb7); have e1 := hbox6.cell 1; simp at e1; have hs6 := hgrow6.size; have hl6 := hbox6.lt)
    | (at_builtin; refine append_ints rfl (.tmp 31) (.tmp 33) rfl base A c L rfl (hrow6.alloc _) (W6.heap.size + 1) _ 1 [x] rfl (fun e => by cases e) (IntsAt.one W6 x Hx.out) (by simp <;> omega) (by simp <;> omega) ?_; intro zs A' c' w1 hz hown1 hgrow1 hat1; have s1 : w1.cell? ⟨g, 1, none⟩ = some (.slice A L.length c) := (hgrow1.cell_far _ (by simp; omega) (fun e => hne7 e.symm)).trans ((World.cell?_alloc_lt _ _ _ (by simp; omega)).trans e1); have s2 : w1.frozen? ⟨g, 1, none⟩ = false := (hgrow1.frozen_far _ (by simp; omega) (fun e => hne7 e.symm)).trans ((hbox6.alloc _).frozen 1)))
  go_ret
  have hfin := SetI.grow (o := .cells #[.int .i64 x] 3) hbox6 hlt hbb hown6 hmap5.isMap (by omega) hhas.out hat.out Hx.out Hno.out hwf.out hrow6 (by omega) hz.out hown1 hgrow1
  have hz5 := Hz5.out
  have hg1 := hgrow1.size
  simp at hg1
  refine ⟨rfl, ⟨_, _, _, hfin.1, ⟨by simp; omega, .inl rfl, ?_, fun k hk hkg hkm hkA => ?_⟩⟩, (hbut5.trans ⟨hgrow6.os, hgrow6.tape, hgrow6.output, hgrow6.size, fun j hj _ => hgrow6.block j (by omega) (by simp; omega)⟩).trans hfin.2⟩
  · rcases hat1 with h | h
    · exact .inl h
    · exact .inr ⟨_, h, by simp; omega⟩
  · rw [Below.heap_setCell _ _ _ _ hkg, hgrow1.block k (by simp; omega) (fun e => hkA e.symm), Below.heap_alloc _ _ _ (by omega), hgrow6.block k (by omega) (fun e => hkm e.symm)]
    exact Hh5.out k
set_option maxRecDepth 100000 in
set_option maxHeartbeats 2000000 in
theorem addI_first2 (g base : Nat) (c : Nat) (A : Option Addr) (x : Int) (w : World) (h : SetI w g base none A c []) (hx : In64 x) (hbs : base ≤ w.heap.size) :
    Calls Tryd.prog 12 #[.pointer (some ⟨g, 0, none⟩), .int .i64 x] w fun e w' => e = .returned (.bool true) ∧ (∃ m' A' c', SetI w' g base m' A' c' [x] ∧ Tight g none A m' A' w w') ∧ But base g w w' := by
  have H := hasI_any g base none A c [] x w h hx
  rw [tf_false (by simp)] at H
  have HH := hide H
  clear H
  obtain ⟨hbox, hrow, _, hlt, _⟩ := h
  have hglt := hbox.lt
  have hmm := @run_makeMap Tryd.prog
  have heq := fun (w : World) => run_eql_map_nil (P := Tryd.prog) w 33 _ _ none Tryd.underlying33
  have d0 := hbox.cell 0
  have b0 := (hbox.alloc (.map #[] 0)).cell 0
  have f0 := (hbox.alloc (.map #[] 0)).frozen 0
  simp at b0 d0
  have hbox4 := (hbox.alloc (.map #[] 0)).set 0 (.map (some w.heap.size))
  have hmap4 := ((World.ownsMap_made (H := Unit) w Tryd.prog 3 (plainElem Tryd.prog 3))).setCell (a := ⟨g, 0, none⟩) (by simp; omega) (.map (some w.heap.size))
  have hrow4 : OwnI ((w.alloc (.map #[] 0)).setCell ⟨g, 0, none⟩ (.map (some w.heap.size))) base A c [] := ⟨ownsRow_setCell_below (hrow.alloc (.map #[] 0)).own (a := ⟨g, 0, none⟩) hlt (.map (some w.heap.size))⟩
  have hbut4 : But base g w ((w.alloc (.map #[] 0)).setCell ⟨g, 0, none⟩ (.map (some w.heap.size))) :=
    ⟨rfl, rfl, rfl, by simp, fun j hj hjg => by
      rw [Below.heap_setCell _ _ _ _ hjg, Below.heap_alloc _ _ _ (by omega)]⟩
  have hs4 : ((w.alloc (.map #[] 0)).setCell ⟨g, 0, none⟩ (.map (some w.heap.size))).heap.size = w.heap.size + 1 := by simp
  simp only [List.setIfInBounds_toArray, List.set_cons_zero] at hbox4
  have Hx := hide hx
  have Hh4 : Hid (∀ k : Nat, k < w.heap.size → k ≠ g → ((w.alloc (.map #[] 0)).setCell ⟨g, 0, none⟩ (.map (some w.heap.size))).heap[k]? = w.heap[k]?) := fun k hk hkg => by
    rw [Below.heap_setCell _ _ _ _ hkg, Below.heap_alloc _ _ _ hk]
  clear hglt
  go_enter Tryd.func12, Tryd.ntmps12
  go_wp2_with fail
  refine HH.out.mono ?_
  rintro e w' ⟨rfl, rfl⟩
  go_wp2_with fail
  have HS4 := hide hs4
  clear hs4
  generalize (w.alloc (.map #[] 0)).setCell ⟨g, 0, none⟩ (.map (some w.heap.size)) = W3 at hbox4 hmap4 hrow4 hbut4 HS4 Hh4 ⊢
  have hbb : base ≤ w.heap.size := hbs
  have hbut5' := hbut4
  generalize hbw : w.heap.size = b at hmap4 hbox4 HS4 hbb ⊢
  have Hbw := hide hbw
  clear hbw
  clear hmm heq d0 b0 f0 hbox hrow
  have e0 := hbox4.cell 0
  have e1 := hbox4.cell 1
  simp at e0 e1
  have hbox5 : Lies W3.drew g #[.map (some b), .slice A ([] : List Int).length c] 36 := hbox4
  have hmap5 := hmap4.drew
  have hrow5 := hrow4.drew
  have hbut5 : But base g w W3.drew := ⟨hbut4.os, hbut4.tape, hbut4.output, hbut4.size, hbut4.block⟩
  have hs5 : b + 1 ≤ W3.drew.heap.size := Nat.le_of_eq HS4.out.symm
  have Hh5 : Hid (∀ k : Nat, k < w.heap.size → k ≠ g → W3.drew.heap[k]? = w.heap[k]?) := Hh4
  go_still_tail 10, (by kernel_rfl)
  change wpList _ _ _ _ _ W3.drew
  generalize W3.drew = W5 at hbox5 hmap5 hrow5 hbut5 hs5 Hh5 ⊢
  clear hbox4 hmap4 hrow4 hbut4 HS4 Hh4 e0 e1 hbut5'
  have hL : ([] : List Int).length ≤ 1048576 := by simp
  have Hwfl : Hid ((Lit.int .i64 (0 : Int)).wf = true) := WalkArith.wf_i64 (by omega)
  have hne7 : blockOf A ≠ some g := fun e => by have := (hrow5.blocks g e).1; omega
  have hnb7 := row_map_ne hrow5 hmap5
  go_wp2_with (first
    | (at_mapUpdate; refine wpList_mapUpdate_own _ rfl _ _ _ 33 rfl 3 3 lawI Tryd.underlying33 _ b 0 _ rfl hmap5 (by unfold maxLen; omega) _ _ _ rfl rfl (keyOf_i Hx.out) _ [] (plainElem_int Tryd.underlying3 Hwfl.out) ?_; intro W6 hown6 hgrow6; have hbox6 : Lies W6 g #[.map (some b), .slice A 0 c] 36 := (hgrow6.block g hbox5.lt (by simp; omega)).trans hbox5; have hrow6 := hrow5.kept hgrow6 (.inr hnb7); have e1 := hbox6.cell 1; simp at e1; have hs6 := hgrow6.size; have hl6 := hbox6.lt)
    | (at_builtin; refine append_ints rfl (.tmp 31) (.tmp 33) rfl base A c [] rfl (hrow6.alloc _) (W6.heap.size + 1) _ 1 [x] rfl (fun e => by cases e) (IntsAt.one W6 x Hx.out) (by simp <;> omega) (by simp <;> omega) ?_; intro zs A' c' w1 hz hown1 hgrow1 hat1; have s1 : w1.cell? ⟨g, 1, none⟩ = some (.slice A 0 c) := (hgrow1.cell_far _ (by simp; omega) (fun e => hne7 e.symm)).trans ((World.cell?_alloc_lt _ _ _ (by simp; omega)).trans e1); have s2 : w1.frozen? ⟨g, 1, none⟩ = false := (hgrow1.frozen_far _ (by simp; omega) (fun e => hne7 e.symm)).trans ((hbox6.alloc _).frozen 1)))
  go_ret
  have hfin := SetI.grow (L := []) (o := .cells #[.int .i64 x] 3) hbox6 hlt hbb hown6 isMap_empty (by simp) (fun y _ => by simp [Maps.has]) (by simp) Hx.out (by simp) (by simp) hrow6 (by omega) hz.out hown1 hgrow1
  have hg1 := hgrow1.size
  have hbw := Hbw.out
  simp at hg1
  refine ⟨rfl, ⟨_, _, _, hfin.1, ⟨by simp; omega, .inr ⟨b, rfl, by omega⟩, ?_, fun k hk hkg _ hkA => ?_⟩⟩, (hbut5.trans ⟨hgrow6.os, hgrow6.tape, hgrow6.output, hgrow6.size, fun j hj _ => hgrow6.block j (by omega) (by simp; omega)⟩).trans hfin.2⟩
  · rcases hat1 with h | h
    · exact .inl h
    · exact .inr ⟨_, h, by simp; omega⟩
  · rw [Below.heap_setCell _ _ _ _ hkg, hgrow1.block k (by simp; omega) (fun e => hkA e.symm), Below.heap_alloc _ _ _ (by omega), hgrow6.block k (by omega) (by simp; omega)]
    exact Hh5.out k hk hkg
theorem addI_new2 (g base : Nat) (m : Option Nat) (c : Nat) (A : Option Addr) (L : List Int) (x : Int) (w : World) (h : SetI w g base m A c L) (hx : In64 x) (hbs : base ≤ w.heap.size) (hno : x ∉ L) (hL : L.length ≤ 1048576) :
    Calls Tryd.prog 12 #[.pointer (some ⟨g, 0, none⟩), .int .i64 x] w fun e w' => e = .returned (.bool true) ∧ (∃ m' A' c', SetI w' g base m' A' c' (L ++ [x]) ∧ Tight g m A m' A' w w') ∧ But base g w w' := by
  cases m with
  | none =>
    obtain rfl : L = [] := by
      rcases h.map with ⟨_, h2⟩ | ⟨_, _, _, h2, _⟩
      · exact h2
      · cases h2
    exact addI_first2 g base c A x w h hx hbs
  | some b => exact addI_next2 g base b c A L x w h hx hbs hno hL
theorem addI_new (g base : Nat) (m : Option Nat) (c : Nat) (A : Option Addr) (L : List Int) (x : Int) (w : World) (h : SetI w g base m A c L) (hx : In64 x) (hbs : base ≤ w.heap.size) (hno : x ∉ L) (hL : L.length ≤ 1048576) :
    Calls Tryd.prog 12 #[.pointer (some ⟨g, 0, none⟩), .int .i64 x] w fun e w' => e = .returned (.bool true) ∧ (∃ m A' c', SetI w' g base m A' c' (L ++ [x])) ∧ But base g w w' := by
  exact (addI_new2 g base m c A L x w h hx hbs hno hL).mono fun e w' ⟨h1, ⟨m', A', c', h2, _⟩, h3⟩ => ⟨h1, ⟨m', A', c', h2⟩, h3⟩
end Go.Proofs.YthckkpbjpgfdcaaDoor
