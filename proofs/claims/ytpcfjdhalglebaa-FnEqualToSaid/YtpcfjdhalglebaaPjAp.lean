/-
  Lemmas, several texts in one: NewR, RwL, CpL, KeyI, Keys, RewI.
-/
import Derived.Test.YtpcfjdhalglebaaPjAb
import Derived.Test.YtpcfjdhalglebaaPjAa
import Derived.Test.YtpcfjdhalglebaaPjAk
import Derived.Laws.CopyOwn
import Derived.DeepKeys4
import Derived.Maps.OwnSet
import Derived.WalkSpells
import Derived.StillTailTactics
import Derived.Deep.QuietTactic
import Derived.BigQuiet
import Derived.Deep.RegionLaw
import Derived.Deep.AppendLies
import Derived.Deep.Cut
import Derived.Test.YtpcfjdhalglebaaPjAf
import Derived.Deep.LoopGhost
namespace Go.Proofs.Ytpcfjdhalglebaa
open Go.RowKit
set_option linter.unusedVariables false

theorem BytesAt.less {w : World} {B : Nat} {A : Option Addr} {n m : Nat} (h : BytesAt w B A n) (hm : m ≤ n) : BytesAt w B A m := fun k hk => h k (by omega)
theorem BytesAt.more {w : World} {B B' : Nat} {A : Option Addr} {n : Nat} (h : BytesAt w B A n) (hB : B ≤ B') : BytesAt w B' A n := fun k hk => by
  obtain ⟨b, off, x, h1, h2, h3⟩ := h k hk
  exact ⟨b, off, x, h1, by omega, h3⟩

set_option maxHeartbeats 1000000 in
theorem newReader_any (A : Option Addr) (n c : Nat) (w : World) (h : BytesAt w w.heap.size A n) (hc : n ≤ c) (hn : n ≤ 9223372036854775807) :
    Calls Try.prog 7 #[.slice A n c] w fun e w' => e = .returned (.pointer (some ⟨w.heap.size, 0, none⟩)) ∧ (∃ n' c', Rd w' w.heap.size A n' c' 0) ∧ Below w.heap.size w w' := by
  by_cases h2 : n ≤ 2000
  · have d : decide ((2000 : Int) < (n : Int)) = false := by simp; omega
    have hB : Below w.heap.size w (w.alloc (.cells #[.slice A n c, .int .i64 0] 44)) := (Below.refl _ _).alloc (Nat.le_refl _) _
    have HR : Hid (Rd (w.alloc (.cells #[.slice A n c, .int .i64 0] 44)) w.heap.size A n c 0) := hide ⟨Lies.new w _ _, h.later hB, h2⟩
    clear h
    go_enter Try.func7, Try.ntmps7
    go_wp2
    go_ret
    exact ⟨rfl, ⟨n, c, HR.out⟩, hB⟩
  · have d : decide ((2000 : Int) < (n : Int)) = true := by simp; omega
    obtain ⟨b, off, _, rfl, _⟩ := h 0 (by omega)
    have hcap : ¬ ((c : Int) < 2000) := by omega
    have hB : Below w.heap.size w (w.alloc (.cells #[.slice (some ⟨b, off, none⟩) 2000 c, .int .i64 0] 44)) := (Below.refl _ _).alloc (Nat.le_refl _) _
    have HR : Hid (Rd (w.alloc (.cells #[.slice (some ⟨b, off, none⟩) 2000 c, .int .i64 0] 44)) w.heap.size (some ⟨b, off, none⟩) 2000 c 0) := hide ⟨Lies.new w _ _, (h.less (by omega)).later hB, Nat.le_refl _⟩
    clear h
    go_enter Try.func7, Try.ntmps7
    go_wp2
    go_ret
    exact ⟨rfl, ⟨2000, c, HR.out⟩, hB⟩

end Go.Proofs.Ytpcfjdhalglebaa

namespace Go.Proofs.Ytpcfjdhalglebaa
open Go.RowKit
set_option linter.unusedVariables false

/-- the block g holds just these numbers -/
def RowL (w : World) (g : Nat) (xs : List Int) : Prop := Lies w g (xs.map (fun x => Value.int .i64 x)).toArray 3

theorem RowL.lt {w : World} {g : Nat} {xs : List Int} (h : RowL w g xs) : g < w.heap.size := Lies.lt h
theorem RowL.cell {w : World} {g j : Nat} {xs : List Int} {x : Int} (h : RowL w g xs) (hj : xs[j]? = some x) : w.cell? ⟨g, j, none⟩ = some (.int .i64 x) := by
  have := Lies.cell h j
  rw [this]
  simp [hj]
theorem RowL.frozen {w : World} {g : Nat} {xs : List Int} (h : RowL w g xs) (j : Nat) : w.frozen? ⟨g, j, none⟩ = false := Lies.frozen h j
theorem RowL.set {w : World} {g : Nat} {xs : List Int} (h : RowL w g xs) (j : Nat) (x : Int) : RowL (w.setCell ⟨g, j, none⟩ (.int .i64 x)) g (xs.set j x) := by
  have := Lies.set h j (.int .i64 x)
  unfold RowL
  rw [List.map_set]
  simpa using this
theorem RowL.block {w w' : World} {g : Nat} {xs : List Int} (h : RowL w g xs) (hb : w'.heap[g]? = w.heap[g]?) : RowL w' g xs := hb.trans h
theorem RowL.below {w w' : World} {g B : Nat} {xs : List Int} (h : RowL w g xs) (hb : Below B w w') (hg : g < B) : RowL w' g xs := h.block (hb.block g hg)
theorem RowL.later {w w' : World} {g : Nat} {xs : List Int} (h : RowL w g xs) (hb : Below w.heap.size w w') : RowL w' g xs := h.below hb h.lt
theorem RowL.far {w : World} {g q j : Nat} {v : Value} {xs : List Int} (h : RowL w g xs) (hq : g ≠ q) : RowL (w.setCell ⟨q, j, none⟩ v) g xs := h.block (Below.heap_setCell _ _ _ _ hq)
theorem RowL.ints {w : World} {g : Nat} {xs : List Int} (h : RowL w g xs) (hwf : ∀ x ∈ xs, In64 x) (hl : xs.length ≤ 9223372036854775807) : IntsAt w w.heap.size (some ⟨g, 0, none⟩) xs :=
  ⟨fun _ => ⟨g, 0, rfl, h.lt, fun j x hj => by rw [Nat.zero_add]; exact h.cell hj⟩, hwf, hl⟩
theorem RowL.own {w : World} {g base : Nat} {xs : List Int} (h : RowL w g xs) (hb : base ≤ g) (hl : xs.length ≤ maxLen) : OwnI w base (some ⟨g, 0, none⟩) xs.length xs :=
  ⟨⟨by simp, .inr ⟨g, xs.length, _, rfl, hb, h, Nat.le_refl _, hl, by simp, by simp [List.take_of_length_le]⟩⟩⟩
theorem RowL.of_row {w : World} {g : Nat} {xs : List Int} {f : Nat → Value} (h : w.rowIs g 3 xs.length f) (hf : ∀ i x, xs[i]? = some x → f i = .int .i64 x) : RowL w g xs := by
  obtain ⟨cur, hh, hs, hc⟩ := h
  have : cur = (xs.map (fun x => Value.int .i64 x)).toArray := by
    apply Array.ext
    · simpa using hs
    · intro i h1 h2
      have hi : i < xs.length := by simpa using h2
      have h3 := hc i hi
      rw [Array.getElem?_eq_getElem h1, hf i _ (List.getElem?_eq_getElem hi)] at h3
      simpa using h3
  unfold RowL
  rw [← this]
  exact hh
theorem RowL.made (w : World) (n : Nat) : RowL (w.alloc (.cells (madeCells #[.int .i64 0] n) 3)) w.heap.size (List.replicate n 0) := by
  have h := World.rowIs_made w (.int .i64 0) n 3
  refine RowL.of_row (f := fun _ => .int .i64 0) (by rw [List.length_replicate]; exact h) (fun i x hx => ?_)
  rw [List.getElem?_replicate] at hx
  split at hx
  · injection hx with hx
    rw [hx]
  · cases hx

/-- the first i of a list, then those of another one -/
def mixL (xs ys : List Int) (i : Nat) : List Int := xs.take i ++ ys.drop i
theorem mixL_len {xs ys : List Int} {i : Nat} (h : xs.length = ys.length) : (mixL xs ys i).length = ys.length := by
  unfold mixL
  rw [List.length_append, List.length_take, List.length_drop]
  omega
theorem mixL_zero (xs ys : List Int) : mixL xs ys 0 = ys := by simp [mixL]
theorem mixL_all {xs ys : List Int} (h : xs.length = ys.length) : mixL xs ys ys.length = xs := by simp [mixL, ← h]
theorem mixL_set {xs ys : List Int} {i : Nat} {v : Int} (h : xs.length = ys.length) (hv : xs[i]? = some v) : (mixL xs ys i).set i v = mixL xs ys (i + 1) := by
  have hi := (List.getElem?_eq_some_iff.1 hv).1
  unfold mixL
  have hl : (xs.take i).length = i := by simp; omega
  have hd : ys.drop i = ys[i] :: ys.drop (i + 1) := List.drop_eq_getElem_cons (by omega)
  rw [List.set_append, if_neg (by omega), hl, Nat.sub_self, hd, List.set_cons_zero, List.take_add_one, hv]
  simp

end Go.Proofs.Ytpcfjdhalglebaa

namespace Go.Proofs.Ytpcfjdhalglebaa
open Go.RowKit
set_option linter.unusedVariables false

theorem copy_rowL {w : World} {ops : Array Oper} {rest : List Oper} {o : Oper} {a : Act} {Q : Exit → Act → World → Prop} (hgd : o.guard = none) (d s : Operand)
    (ho : o.op = .call { callee := .builtin .copy, args := #[d, s], argTypes := #[35, 35] }) (n g1 g2 : Nat) (hd : a.eval d = .slice (some ⟨g2, 0, none⟩) n n) (hs : a.eval s = .slice (some ⟨g1, 0, none⟩) n n)
    (xs ys : List Int) (h1 : RowL w g1 xs) (h2 : RowL w g2 ys) (hx : xs.length = n) (hy : ys.length = n)
    (h : ∀ w', RowL w' g2 xs → Below g2 w w' → wpList Try.prog ops Q rest (a.put o.dst (goInt n)) w') : wpList Try.prog ops Q (o :: rest) a w := by
  have hl : (xs.map (fun x => Value.int .i64 x)).length = n := by simpa using hx
  refine wpList_copy_splice hgd d s 35 35 ho 3 Try.underlying35 (by kernel_rfl) (some ⟨g2, 0, none⟩) (some ⟨g1, 0, none⟩) n n n n hd hs g2 0 (ys.map (fun x => Value.int .i64 x)) 3 h2 (xs.map (fun x => Value.int .i64 x)) (by rw [hl]; simp) (fun _ => ⟨rfl, _, rfl, fun j v hv => ?_⟩) (by simp; omega) (fun v hv => by obtain ⟨x, _, rfl⟩ := List.mem_map.1 hv; rfl) g2 w (Below.refl _ _) (Nat.le_refl _) ?_
  · rw [List.getElem?_map] at hv
    cases hj : xs[j]? with
    | none => rw [hj] at hv; cases hv
    | some x =>
      rw [hj] at hv
      injection hv with hv
      subst hv
      have := h1.cell hj
      by_cases h0 : j = 0
      · subst h0; simpa [Addr.add] using this
      · simpa [Addr.add, h0] using this
  · intro w' hl' hb
    rw [hl]
    refine h w' ?_ hb
    have h3 := hl'.out
    unfold splice at h3
    simp only [List.take_zero, List.nil_append, hl, Nat.zero_add] at h3
    rw [List.drop_eq_nil_of_le (by simp; omega), List.append_nil] at h3
    exact h3

end Go.Proofs.Ytpcfjdhalglebaa

namespace Go.Proofs.Ytpcfjdhalglebaa
open Go.RowKit Go.Maps

theorem laidOutP : laidOutB Try.prog = true := by kernel_rfl
theorem cellsI : Try.prog.cellsOf 3 = 1 := by kernel_rfl
theorem lawI : Keyed Try.prog 3 := int_keyed Try.underlying3
theorem wf_of_in64 {x : Int} (h : In64 x) : (Lit.int .i64 x).wf = true := WalkArith.wf_i64 h
theorem keyOf_i {x : Int} (h : In64 x) : keyOf Try.prog 3 (.int .i64 x) = some (.int .i64 x) := keyOf_int_mk Try.underlying3 (wf_of_in64 h)
theorem zeroI (w : World) : (zeroValue 3).run Try.prog w = .ok (.int .i64 0) w := by kernel_rfl

/-- but for block g nothing below base has turned -/
structure But (base g : Nat) (w w' : World) : Prop where
  os : w'.os = w.os
  tape : w'.tape = w.tape
  output : w'.output = w.output
  size : w.heap.size ≤ w'.heap.size
  block : ∀ k, k < base → k ≠ g → w'.heap[k]? = w.heap[k]?

theorem But.below {base g B : Nat} {w0 w w' : World} (h : But base g w w') (hb : Below B w0 w) (hg : B ≤ g) (hB : B ≤ base) : Below B w0 w' :=
  hb.trans ⟨h.os, h.tape, h.output, h.size, fun k hk => h.block k (by omega) (by omega)⟩

theorem But.trans {base g : Nat} {a b c : World} (h : But base g a b) (k : But base g b c) : But base g a c :=
  ⟨k.os.trans h.os, k.tape.trans h.tape, k.output.trans h.output, Nat.le_trans h.size k.size, fun j hj hjg => (k.block j hj hjg).trans (h.block j hj hjg)⟩

theorem But.of_below {base g : Nat} {w w' : World} (h : Below w.heap.size w w') (hb : base ≤ w.heap.size) : But base g w w' :=
  ⟨h.os, h.tape, h.output, h.size, fun j hj _ => h.block j (by omega)⟩

end Go.Proofs.Ytpcfjdhalglebaa

namespace Go.Proofs.Ytpcfjdhalglebaa
open Go.RowKit Go.Maps

theorem rowK : 80 < Try.prog.types.size := of_decide_eq_true (by kernel_rfl)
theorem lawK : Keyed Try.prog 80 := Keyed.of_law (deep_law_laid laidOutP (m := 2) (by omega) rowK (by kernel_rfl) (by kernel_rfl))
theorem typeK : Try.prog.keyType 80 = true := by kernel_rfl
theorem cellsK : Try.prog.cellsOf 80 = 2 := by kernel_rfl

def keyLit (k v : Int) : Lit := .string (keyBytes [.int .i64 k, .int .i64 v])

theorem size_succ : ∃ m, Try.prog.types.size + 1 = m + 3 := ⟨Try.prog.types.size - 2, by have := rowK; omega⟩

theorem lits_int {x : Int} (h : In64 x) (m : Nat) : Try.prog.keyLits (m + 1) 3 [.int .i64 x] = some [.int .i64 x] := by
  unfold Program.keyLits
  simp only [Try.underlying3]
  rw [if_pos ⟨trivial, wf_of_in64 h⟩]

theorem lits_key {k v : Int} (hk : In64 k) (hv : In64 v) (m : Nat) : Try.prog.keyLits (m + 2) 80 [.int .i64 k, .int .i64 v] = some [.int .i64 k, .int .i64 v] := by
  unfold Program.keyLits
  simp only [Try.underlying80]
  rw [if_pos ⟨cellsK.symm, by decide +kernel⟩]
  simp [cellsI, lits_int hk, lits_int hv]

theorem keyOf_key {k v : Int} (hk : In64 k) (hv : In64 v) : keyOf Try.prog 80 (.agg #[.int .i64 k, .int .i64 v]) = some (keyLit k v) := by
  have hf : (Value.agg #[.int .i64 k, .int .i64 v]).formed Try.prog 80 = true := by
    unfold Value.formed
    simp only [Try.underlying80, cellsK]
    rfl
  obtain ⟨m, hm⟩ := size_succ
  unfold keyOf
  simp only [Try.underlying80, typeK, hf, Bool.and_self, if_true, hm]
  rw [show (Value.agg #[.int .i64 k, .int .i64 v]).cells.toList = [.int .i64 k, .int .i64 v] from rfl, lits_key hk hv (m + 1)]
  rfl

theorem keyLit_inj {k v k' v' : Int} (hk : In64 k) (hv : In64 v) (hk' : In64 k') (hv' : In64 v') (h : keyLit k v = keyLit k' v') : k = k' ∧ v = v' := by
  have h1 := keyOf_key hk hv
  rw [h] at h1
  have := lawK.inj h1 (keyOf_key hk' hv')
  simp at this
  exact this

end Go.Proofs.Ytpcfjdhalglebaa

namespace Go.Proofs.Ytpcfjdhalglebaa
open Go.RowKit
set_option linter.unusedVariables false

set_option maxRecDepth 100000 in
set_option maxHeartbeats 2000000 in
theorem rewired_any (F : Nat) (binds caps : Array Value) (g : Int → Int) (n : Nd) (A : Option Addr) (c : Nat) (w : World) (hI : IntsAt w w.heap.size A n.kids) (hk : n.kids.length ≤ 1000) (h64 : ∀ k ∈ n.kids, In64 (g k))
    (hent : ∀ (args : Array Value) (W : World), (callFunc F args).run Try.prog W = .ok (.enter F args) W)
    (hcall : ∀ (k : Int) (W : World), Below w.heap.size w W → k ∈ n.kids → Calls Try.prog F (binds ++ #[.int .i64 k] ++ caps) W fun e w' => e = .returned (.int .i64 (g k)) ∧ W = w') :
    Calls Try.prog 32 #[.agg #[.int .i64 n.kind, .int .i64 n.value, .slice A n.kids.length c], .func (.func F) binds caps] w (GivesNd w n.kind n.value (n.kids.map g)) := by
  have hB : Below w.heap.size w ((w.alloc (.cells #[.int .i64 n.kind, .int .i64 n.value, .slice A n.kids.length c] 50)).alloc (.cells #[.int .i64 0, .int .i64 0, .slice none 0 0] 50)) := ((Below.refl _ _).alloc (Nat.le_refl _) _).alloc (by simp) _
  have l1 := (Lies.new w #[.int .i64 n.kind, .int .i64 n.value, .slice A n.kids.length c] 50).alloc (.cells #[.int .i64 0, .int .i64 0, .slice none 0 0] 50)
  have l2 := Lies.new (w.alloc (.cells #[.int .i64 n.kind, .int .i64 n.value, .slice A n.kids.length c] 50)) #[.int .i64 0, .int .i64 0, .slice none 0 0] 50
  simp only [World.size_alloc] at l2
  have HC := hide hcall
  have H64 := hide h64
  have HI := hide hI
  clear hcall h64 hI
  go_enter Try.func32, Try.ntmps32
  go_upto_region 2 with fail
  generalize (w.alloc (.cells #[.int .i64 n.kind, .int .i64 n.value, .slice A n.kids.length c] 50)).alloc (.cells #[.int .i64 0, .int .i64 0, .slice none 0 0] 50) = W at hB l1 l2 ⊢
  have HL1 := hide l1
  have HL2 := hide l2
  have HB := hide hB
  have hW1 : w.heap.size < W.heap.size := l1.lt
  have hW2 : w.heap.size + 1 < W.heap.size := l2.lt
  have q2 := l1.cell 2
  simp at q2
  clear l1 l2 hB
  go_wp2_with fail
  go_loopw [5, 11] (fun sv jv wr => ∃ (j : Nat) (Ak : Option Addr) (ck : Nat) (ks : List Int), j ≤ n.kids.length ∧ sv = .slice Ak ks.length ck ∧ jv = .int .i64 (j : Int) ∧ Hid (ks = (n.kids.take j).map g) ∧ OwnI wr W.heap.size Ak ck ks ∧ Below W.heap.size W wr) (fun _ jv _ => n.kids.length - (intOf jv).toNat)
  case atStart => exact ⟨0, none, 0, [], Nat.zero_le _, rfl, rfl, hide rfl, OwnI.empty _ _, Below.refl _ _⟩
  case round =>
    clear q2
    obtain ⟨j, Ak, ck, ks, hj, rfl, rfl, hks, hown, hb⟩ := hrel
    have hksl : ks.length ≤ 1000 := by rw [hks.out]; simp; omega
    have hsz := hb.size
    have Hown := hide hown
    have Hb := hide hb
    clear hown hb
    by_cases hlj : j < n.kids.length
    · obtain ⟨b, off, y, rfl, hbl, hy, hym, hcy⟩ := (HI.out.below (HB.out.trans (Hb.out.mono HB.out.size))).at_ hlj
      have HY := hide hy
      have hp64 := H64.out y hym
      have HCy := hide (HC.out y wr (HB.out.trans (Hb.out.mono HB.out.size)) hym)
      have hj1 : (0 : Int) ≤ (j : Int) := by omega
      have hj2 : (j : Int) < (n.kids.length : Int) := by omega
      clear hy hym hbl
      generalize hq : g y = q at hp64 HCy
      have Hq := hide hq
      clear hq
      go_wp2_with fail
      refine HCy.out.mono ?_
      rintro e w' ⟨rfl, rfl⟩
      clear HCy hcy
      go_wp2_with (at_builtin; refine append_ints rfl (.tmp 15) (.tmp 19) rfl W.heap.size Ak ck ks rfl (Hown.out.alloc _) (wr.heap.size + 1) _ 1 [q] rfl (fun e => by cases e) (IntsAt.one wr q hp64) (by simp <;> omega) (by simp <;> omega) ?_; intro zs A3 c3 w5 hz hown5 hg5 _)
      go_roundw
      case rel => exact ⟨j + 1, A3, c3, zs, by omega, rfl, by go_num, hide (by rw [hz.out, hks.out, List.take_add_one, HY.out, ← Hq.out]; simp), hown5, below_grown (Hb.out.alloc hsz _) hg5 (by simp; omega) (fun q hq => (Hown.out.blocks q hq).1)⟩
      case measure => simp [intOf]; omega
    · obtain rfl : j = n.kids.length := by omega
      rw [List.take_length] at hks
      have l3 := HL1.out.below Hb.out hW1
      have m0 := l3.cell 0
      have m1 := l3.cell 1
      simp at m0 m1
      have l4 := HL2.out.below Hb.out hW2
      have l5 := ((l4.set 0 (.int .i64 n.kind)).set 1 (.int .i64 n.value)).set 2 (.slice Ak ks.length ck)
      simp only [List.setIfInBounds_toArray, List.set_cons_succ, List.set_cons_zero] at l5
      have s0 := l5.cell 0
      have s1 := l5.cell 1
      have s2 := l5.cell 2
      have p0 := l4.cell 0
      have p1 := l4.cell 1
      have p2 := l4.cell 2
      have f0 := l4.frozen 0
      have f1 := l4.frozen 1
      have f2 := l4.frozen 2
      simp only [List.getElem?_toArray, List.getElem?_cons_zero, List.getElem?_cons_succ] at s0 s1 s2 p0 p1 p2
      have HF := hide (show OwnI (((wr.setCell ⟨w.heap.size + 1, 0, none⟩ (.int .i64 n.kind)).setCell ⟨w.heap.size + 1, 1, none⟩ (.int .i64 n.value)).setCell ⟨w.heap.size + 1, 2, none⟩ (.slice Ak ks.length ck)) W.heap.size Ak ck ks from Hown.out.of_blk (fun b hb => by
        have := (Hown.out.blocks b hb).1
        rw [Below.heap_setCell _ _ _ _ (by show b ≠ w.heap.size + 1; omega), Below.heap_setCell _ _ _ _ (by show b ≠ w.heap.size + 1; omega), Below.heap_setCell _ _ _ _ (by show b ≠ w.heap.size + 1; omega)]))
      have HBF := hide ((((HB.out.trans (Hb.out.mono HB.out.size)).setCell (p := ⟨w.heap.size + 1, 0, none⟩) (by show w.heap.size ≤ w.heap.size + 1; omega) (.int .i64 n.kind)).setCell (p := ⟨w.heap.size + 1, 1, none⟩) (by show w.heap.size ≤ w.heap.size + 1; omega) (.int .i64 n.value)).setCell (p := ⟨w.heap.size + 1, 2, none⟩) (by show w.heap.size ≤ w.heap.size + 1; omega) (.slice Ak ks.length ck))
      clear l3 l4 l5 hlj
      go_wp2
      refine bodyPost_ret (v := .agg #[.int .i64 n.kind, .int .i64 n.value, .slice Ak ks.length ck]) (by simp [results, Try.results32, go_sem, s0, s1, s2]) rfl ?_
      have e1 : n.kids.map g = ks := hks.out.symm
      rw [e1]
      exact ⟨Ak, ck, rfl, HF.out.mono (by omega), HBF.out⟩

end Go.Proofs.Ytpcfjdhalglebaa
