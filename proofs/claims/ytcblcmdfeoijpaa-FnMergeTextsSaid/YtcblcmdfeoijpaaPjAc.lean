/-
  Lemmas, several texts in one: Pick, OwnNA, RwL.
-/
import Derived.Test.YtcblcmdfeoijpaaMem
import Derived.BigQuiet
import Derived.Laws.Bits64
import Derived.Test.YtcblcmdfeoijpaaPjAb
import Derived.Deep.AppendLies
import Derived.Test.YtcblcmdfeoijpaaPjAa
namespace Go.Proofs.Ytcblcmdfeoijpaa
open Go.RowKit
set_option linter.unusedVariables false

/-- the numbers of bytes in memory -/
def BytesAt (w : World) (B : Nat) (A : Option Addr) (n : Nat) : Prop := ∀ k, k < n → ∃ b off x : Nat, A = some ⟨b, off, none⟩ ∧ b < B ∧ w.cell? ⟨b, off + k, none⟩ = some (.int .u8 (x : Int)) ∧ x < 256

/-- a reader in memory: it has given p numbers -/
structure Rd (w : World) (rb : Nat) (A : Option Addr) (n c p : Nat) : Prop where
  box : Lies w rb #[.slice A n c, .int .i64 (p : Int)] 52
  bytes : BytesAt w rb A n
  few : n ≤ 2000

/-- nothing but one block has turned -/
structure Turn (g : Nat) (w w' : World) : Prop where
  os : w'.os = w.os
  tape : w'.tape = w.tape
  output : w'.output = w.output
  size : w'.heap.size = w.heap.size
  block : ∀ k, k ≠ g → w'.heap[k]? = w.heap[k]?

theorem xor_i64 (a b : Nat) (ha : a < 4611686018427387904) (hb : b < 4611686018427387904) : bits .xor .i64 (a : Int) (b : Int) = ((a ^^^ b : Nat) : Int) := by
  have hx : a ^^^ b < 2 ^ 62 := Nat.xor_lt_two_pow (by omega) (by omega)
  have h1 : (BitVec.ofInt 64 (a : Int)).toNat = a := by
    rw [BitVec.ofInt_natCast, BitVec.toNat_ofNat]; exact Nat.mod_eq_of_lt (by omega)
  have h2 : (BitVec.ofInt 64 (b : Int)).toNat = b := by
    rw [BitVec.ofInt_natCast, BitVec.toNat_ofNat]; exact Nat.mod_eq_of_lt (by omega)
  show IntKind.i64.wrap ((BitVec.ofInt 64 (a : Int) ^^^ BitVec.ofInt 64 (b : Int)).toNat : Int) = _
  rw [BitVec.toNat_xor, h1, h2, IntKind.wrap_i64]
  omega

theorem Rd.next {w : World} {rb : Nat} {A : Option Addr} {n c p : Nat} (h : Rd w rb A n c p) : Rd (w.setCell ⟨rb, 1, none⟩ (.int .i64 ((p : Int) + 1))) rb A n c (p + 1) ∧ Turn rb w (w.setCell ⟨rb, 1, none⟩ (.int .i64 ((p : Int) + 1))) := by
  have hb := h.box.set 1 (.int .i64 ((p : Int) + 1))
  simp only [List.setIfInBounds_toArray, List.set_cons_succ, List.set_cons_zero] at hb
  refine ⟨⟨by simpa using hb, fun k hk => ?_, h.few⟩, ⟨rfl, rfl, rfl, by simp, fun k hk => Below.heap_setCell _ _ _ _ hk⟩⟩
  obtain ⟨b, off, x, h1, h2, h3, h4⟩ := h.bytes k hk
  refine ⟨b, off, x, h1, h2, ?_, h4⟩
  rw [World.cell?_setCell_other]
  · exact h3
  · intro e
    injection e with e _
    omega

/-- what a pick gives -/
def Picked (rb : Nat) (A : Option Addr) (n c p : Nat) (m : Int) (w : World) (e : Ending) (w' : World) : Prop :=
  (∃ x : Nat, e = .returned (.int .i64 (x : Int)) ∧ (1 ≤ m → (x : Int) < m) ∧ (m < 1 → x = 0)) ∧ Rd w' rb A n c (p + 1) ∧ Turn rb w w'

theorem Turn.drew {g : Nat} {w w' : World} (h : Turn g w w') : Turn g w w'.drew := ⟨h.os, h.tape, h.output, h.size, h.block⟩
theorem BytesAt.later {w w' : World} {B : Nat} {A : Option Addr} {n : Nat} (h : BytesAt w B A n) (hb : Below B w w') : BytesAt w' B A n := fun k hk => by
  obtain ⟨b, off, x, h1, h2, h3, h4⟩ := h k hk
  exact ⟨b, off, x, h1, h2, (hb.cell (p := ⟨b, off + k, none⟩) h2).trans h3, h4⟩
theorem Rd.drew {w : World} {rb : Nat} {A : Option Addr} {n c p : Nat} (h : Rd w rb A n c p) : Rd w.drew rb A n c p := ⟨h.box, h.bytes, h.few⟩

set_option maxRecDepth 100000 in
set_option maxHeartbeats 4000000 in
theorem pick_any (rb : Nat) (A : Option Addr) (n c p : Nat) (m : Int) (w : World) (h : Rd w rb A n c p) (hp : p < 1000000) (hm : m ≤ 1000000) :
    Calls Try.prog 28 #[.pointer (some ⟨rb, 0, none⟩), .int .i64 m] w (Picked rb A n c p m w) := by
  have e0 := h.box.cell 0
  have e1 := h.box.cell 1
  have f1 := h.box.frozen 1
  simp at e0 e1
  have hn := h.few
  have hx := h.next
  have HX := hide hx
  have z0 := hx.1.box.cell 0
  have z1 := hx.1.box.cell 1
  have hby := hx.1.bytes
  simp at z0 z1
  have HB := hide hby
  clear h hx hby
  by_cases hm1 : m < 1
  · have hfin : Hid (Picked rb A n c p m w (.returned (.int .i64 0)) (w.setCell ⟨rb, 1, none⟩ (.int .i64 ((p : Int) + 1)))) := ⟨⟨0, rfl, fun h => by omega, fun _ => rfl⟩, HX.out⟩
    have t1 : decide (m < 1) = true := by simpa using hm1
    go_enter Try.func28, Try.ntmps28
    go_wp2
    go_ret
    exact hfin.out
  · have t1 : decide (m < 1) = false := by simpa using hm1
    by_cases hn0 : n = 0
    · subst hn0
      have hfin : Hid (Picked rb A 0 c p m w (.returned (.int .i64 0)) (w.setCell ⟨rb, 1, none⟩ (.int .i64 ((p : Int) + 1)))) := ⟨⟨0, rfl, fun h => by show (0 : Int) < m; omega, fun _ => rfl⟩, HX.out⟩
      go_enter Try.func28, Try.ntmps28
      go_wp2
      go_ret
      exact hfin.out
    · have hne : ((n : Int) == 0) = false := by simpa using hn0
      have hpn0 : (0 : Int) ≤ (p : Int) := by omega
      by_cases hpn : p < n
      · obtain ⟨b, off, x, rfl, hb, hc, hx⟩ := HB.out p hpn
        have hpn2 : (p : Int) < (n : Int) := by omega
        go_enter Try.func28, Try.ntmps28
        have hfin : Hid (Picked rb (some ⟨b, off, none⟩) n c p m w (.returned (.int .i64 ((x : Int) % m))) (w.setCell ⟨rb, 1, none⟩ (.int .i64 ((p : Int) + 1)))) := by
          have h1 := Int.emod_nonneg (x : Int) (show m ≠ 0 by omega)
          have h2 := Int.emod_lt_of_pos (x : Int) (show 0 < m by omega)
          obtain ⟨y, hy⟩ := Int.eq_ofNat_of_zero_le h1
          rw [hy] at h2 ⊢
          exact ⟨⟨y, rfl, fun _ => h2, fun h => by omega⟩, HX.out⟩
        go_wp2
        go_ret
        exact hfin.out
      · obtain ⟨j1, hj1, hj1n⟩ : ∃ j : Nat, (p : Int) % (n : Int) = (j : Int) ∧ j < n := ⟨p % n, by simp, Nat.mod_lt _ (by omega)⟩
        obtain ⟨j2, hj2, hj2n⟩ : ∃ j : Nat, ((p : Int) * 7 + 3) % (n : Int) = (j : Int) ∧ j < n := ⟨(p * 7 + 3) % n, by simp, Nat.mod_lt _ (by omega)⟩
        obtain ⟨q, hq, hqp⟩ : ∃ q : Nat, (p : Int) / (n : Int) = (q : Int) ∧ q ≤ p := ⟨p / n, by simp, Nat.div_le_self _ _⟩
        obtain ⟨b, off, x1, rfl, hb, hc1, hx1⟩ := HB.out j1 hj1n
        obtain ⟨b', off', x2, he', _, hc2, hx2⟩ := HB.out j2 hj2n
        simp only [Option.some.injEq, Addr.mk.injEq, and_true] at he'
        obtain ⟨rfl, rfl⟩ := he'
        have hpn2 : (n : Int) ≤ (p : Int) := by omega
        have a1 : (0 : Int) ≤ (j1 : Int) := by omega
        have a2 : (j1 : Int) < (n : Int) := by omega
        have a3 : (0 : Int) ≤ (j2 : Int) := by omega
        have a4 : (j2 : Int) < (n : Int) := by omega
        go_enter Try.func28, Try.ntmps28
        go_wp2_with fail
        go_quiet (fail)
        obtain ⟨V, hV, hVl⟩ : ∃ V : Nat, (x1 : Int) * 131 + (x2 : Int) * 1117 + (p : Int) * 29 + (q : Int) * 53 = (V : Int) ∧ V < 4611686018427387904 := ⟨x1 * 131 + x2 * 1117 + p * 29 + q * 53, by simp, by omega⟩
        rw [hV]
        obtain ⟨D, hD, hDl⟩ : ∃ D : Nat, (V : Int) / 64 = (D : Int) ∧ D < 4611686018427387904 := ⟨V / 64, by simp, by omega⟩
        obtain ⟨Y, hY⟩ : ∃ Y : Nat, bits .xor .i64 (V : Int) (D : Int) = (Y : Int) := ⟨_, xor_i64 V D hVl hDl⟩
        have hfin : Hid (Picked rb (some ⟨b, off, none⟩) n c p m w (.returned (.int .i64 ((Y : Int) % m))) ((w.setCell ⟨rb, 1, none⟩ (.int .i64 ((p : Int) + 1))).drewN nq)) := by
          have h1 := Int.emod_nonneg (Y : Int) (show m ≠ 0 by omega)
          have h2 := Int.emod_lt_of_pos (Y : Int) (show 0 < m by omega)
          obtain ⟨y, hy⟩ := Int.eq_ofNat_of_zero_le h1
          rw [hy] at h2 ⊢
          exact ⟨⟨y, rfl, fun _ => h2, fun h => by omega⟩, ⟨HX.out.1.box, HX.out.1.bytes, HX.out.1.few⟩, ⟨HX.out.2.os, HX.out.2.tape, HX.out.2.output, HX.out.2.size, HX.out.2.block⟩⟩
        have hY0 : (0 : Int) ≤ (Y : Int) := by omega
        generalize (w.setCell ⟨rb, 1, none⟩ (.int .i64 ((p : Int) + 1))).drewN nq = X at hfin ⊢
        go_wp2
        go_ret
        exact hfin.out

end Go.Proofs.Ytcblcmdfeoijpaa

namespace Go.Proofs.Ytcblcmdfeoijpaa
open Go.RowKit
set_option linter.unusedVariables false

/-- a row of one node without kids -/
theorem OwnRow.one {w : World} {g cap : Nat} {f : Nat → Value} (a b : Int) (h : w.rowIs g 32 (cap * 3) f) (hc : 1 ≤ cap) (h0 : f 0 = .int .i64 a) (h1 : f 1 = .int .i64 b) (h2 : f 2 = .slice none 0 0) :
    OwnRow w g (g + 1) g cap [⟨a, b, []⟩] := by
  have c0 := World.rowIs.cell h (i := 0) (by omega)
  have c1 := World.rowIs.cell h (i := 1) (by omega)
  have c2 := World.rowIs.cell h (i := 2) (by omega)
  rw [h0] at c0
  rw [h1] at c1
  rw [h2] at c2
  refine ⟨⟨f, h⟩, by simpa using hc, Nat.le_refl _, Nat.lt_succ_self _, fun j n hj => ?_, fun i j A A' n n' c c' hij hi hj => by simp at hi hj; omega⟩
  match j, hj with
  | 0, hj =>
    simp at hj
    subst hj
    exact ⟨c0, c1, ⟨none, 0, c2, OwnI.empty _ _, fun b hb => by cases hb⟩⟩
  | j + 1, hj => simp at hj

/-- a row of no node -/
theorem OwnRow.zero {w : World} {g cap : Nat} {f : Nat → Value} (h : w.rowIs g 32 (cap * 3) f) : OwnRow w g (g + 1) g cap [] :=
  ⟨⟨f, h⟩, Nat.zero_le _, Nat.le_refl _, Nat.lt_succ_self _, fun j n hj => by simp at hj, fun i j A A' n n' c c' _ hi => by simp at hi⟩

theorem infoNdA : (Try.prog.info? 32).map (fun i => (i.zero, i.size, i.bytes)) = some (some (.agg #[.int .i64 0, .int .i64 0, .slice none 0 0]), 3, 40) := by kernel_rfl

/-- append(nil, n) of one node without kids, which lies in a block of its own -/
theorem append_nd1 {w : World} {ops : Array Oper} {rest : List Oper} {o : Oper} {a : Act} {Q : Exit → Act → World → Prop} (hgd : o.guard = none) (s x : Operand)
    (ho : o.op = .call { callee := .builtin .append, args := #[s, x], argTypes := #[23, 23] })
    (base : Nat) (hs : a.eval s = .slice none 0 0) (b : Nat) (k v : Int) (t : TypeId) (hx : a.eval x = .slice (some ⟨b, 0, none⟩) 1 1) (hr : w.heap[b]? = some (.cells #[.int .i64 k, .int .i64 v, .slice none 0 0] t (0, 0)))
    (hbase : base ≤ w.heap.size)
    (h : ∀ (g cap : Nat) (w' : World), base ≤ g → g < w'.heap.size → OwnRow w' g (g + 1) g cap [⟨k, v, []⟩] → w.grownBy w' none → g = w.heap.size →
      wpList Try.prog ops Q rest (a.put o.dst (.slice (some ⟨g, 0, none⟩) 1 cap)) w') : wpList Try.prog ops Q (o :: rest) a w := by
  obtain ⟨i0, hi, hz0, hz1, hz2⟩ := info_parts infoNdA
  refine wpList_append_own_at w hgd s x 23 ho base 32 i0 _ 3 40 Try.underlying23 hi hz0 hz1 hz2 rfl (by omega) _ 0 [] hs (World.ownsRow_nil _ _ _ _) ⟨b, 0, none⟩ 1 1 [.int .i64 k, .int .i64 v, .slice none 0 0] hx (by simp) (World.news_of_block hr) (by
      intro u hu
      simp at hu
      rcases hu with rfl | rfl | rfl <;> rfl)
    (by unfold maxLen; omega) (by omega) hbase ?_
  intro v' w' h2 h3 _ h5
  rcases h2.2 with ⟨_, h6⟩ | ⟨g, cap, cur, rfl, hg, hh, hn, hm, hsz, htk⟩
  · omega
  · have hat : ∀ i u, i < 3 → ([.int .i64 k, .int .i64 v, .slice none 0 0] : List Value)[i]? = some u → cur[i]? = some u := by
      intro i u hi' hu
      rw [List.nil_append] at htk
      rw [← htk, List.getElem?_take, if_pos (by omega), Array.getElem?_toList] at hu
      exact hu
    have hrow : w'.rowIs g 32 (cap * 3) (fun i => (cur[i]?).getD undef) := ⟨cur, hh, by simpa using hsz, fun i hi' => by
      have : i < cur.size := by rw [hsz]; omega
      show _ = some ((cur[i]?).getD undef)
      rw [Array.getElem?_eq_getElem this]; rfl⟩
    refine h g cap w' hg hrow.lt (OwnRow.one k v hrow (by omega) ?_ ?_ ?_) h3 ?_
    · show (cur[0]?).getD undef = _
      rw [hat 0 _ (by omega) rfl]; rfl
    · show (cur[1]?).getD undef = _
      rw [hat 1 _ (by omega) rfl]; rfl
    · show (cur[2]?).getD undef = _
      rw [hat 2 _ (by omega) rfl]; rfl
    · rcases h5 with h5 | h5
      · cases h5
      · simpa [Value.ownBlock] using h5

end Go.Proofs.Ytcblcmdfeoijpaa

namespace Go.Proofs.Ytcblcmdfeoijpaa
open Go.RowKit
set_option linter.unusedVariables false

/-- the block g holds just these numbers -/
def RowL (w : World) (g : Nat) (xs : List Int) : Prop := Lies w g (xs.map (fun x => Value.int .i64 x)).toArray 3

theorem RowL.lt {w : World} {g : Nat} {xs : List Int} (h : RowL w g xs) : g < w.heap.size := Lies.lt h
theorem RowL.cell {w : World} {g j : Nat} {xs : List Int} {x : Int} (h : RowL w g xs) (hj : xs[j]? = some x) : w.cell? ⟨g, j, none⟩ = some (.int .i64 x) := by
  have := Lies.cell h j
  rw [this]
  simp [hj]
theorem RowL.frozen {w : World} {g : Nat} {xs : List Int} (h : RowL w g xs) (j : Nat) : w.frozen? ⟨g, j, none⟩ = false := Lies.frozen h j
theorem RowL.set {w : World} {g : Nat} {xs : List Int} (h : RowL w g xs) (j : Nat) (x : Int) : RowL (w.setCell ⟨g, j, none⟩ (.int .i64 x)) g (xs.set j x) := by
  have := Lies.set h j (.int .i64 x)
  unfold RowL
  rw [List.map_set]
  simpa using this
theorem RowL.block {w w' : World} {g : Nat} {xs : List Int} (h : RowL w g xs) (hb : w'.heap[g]? = w.heap[g]?) : RowL w' g xs := hb.trans h
theorem RowL.below {w w' : World} {g B : Nat} {xs : List Int} (h : RowL w g xs) (hb : Below B w w') (hg : g < B) : RowL w' g xs := h.block (hb.block g hg)
theorem RowL.later {w w' : World} {g : Nat} {xs : List Int} (h : RowL w g xs) (hb : Below w.heap.size w w') : RowL w' g xs := h.below hb h.lt
theorem RowL.far {w : World} {g q j : Nat} {v : Value} {xs : List Int} (h : RowL w g xs) (hq : g ≠ q) : RowL (w.setCell ⟨q, j, none⟩ v) g xs := h.block (Below.heap_setCell _ _ _ _ hq)
theorem RowL.ints {w : World} {g : Nat} {xs : List Int} (h : RowL w g xs) (hwf : ∀ x ∈ xs, In64 x) (hl : xs.length ≤ 9223372036854775807) : IntsAt w w.heap.size (some ⟨g, 0, none⟩) xs :=
  ⟨fun _ => ⟨g, 0, rfl, h.lt, fun j x hj => by rw [Nat.zero_add]; exact h.cell hj⟩, hwf, hl⟩
theorem RowL.own {w : World} {g base : Nat} {xs : List Int} (h : RowL w g xs) (hb : base ≤ g) (hl : xs.length ≤ maxLen) : OwnI w base (some ⟨g, 0, none⟩) xs.length xs :=
  ⟨⟨by simp, .inr ⟨g, xs.length, _, rfl, hb, h, Nat.le_refl _, hl, by simp, by simp [List.take_of_length_le]⟩⟩⟩
theorem RowL.of_row {w : World} {g : Nat} {xs : List Int} {f : Nat → Value} (h : w.rowIs g 3 xs.length f) (hf : ∀ i x, xs[i]? = some x → f i = .int .i64 x) : RowL w g xs := by
  obtain ⟨cur, hh, hs, hc⟩ := h
  have : cur = (xs.map (fun x => Value.int .i64 x)).toArray := by
    apply Array.ext
    · simpa using hs
    · intro i h1 h2
      have hi : i < xs.length := by simpa using h2
      have h3 := hc i hi
      rw [Array.getElem?_eq_getElem h1, hf i _ (List.getElem?_eq_getElem hi)] at h3
      simpa using h3
  unfold RowL
  rw [← this]
  exact hh
theorem RowL.made (w : World) (n : Nat) : RowL (w.alloc (.cells (madeCells #[.int .i64 0] n) 3)) w.heap.size (List.replicate n 0) := by
  have h := World.rowIs_made w (.int .i64 0) n 3
  refine RowL.of_row (f := fun _ => .int .i64 0) (by rw [List.length_replicate]; exact h) (fun i x hx => ?_)
  rw [List.getElem?_replicate] at hx
  split at hx
  · injection hx with hx
    rw [hx]
  · cases hx

/-- the first i of a list, then those of another one -/
def mixL (xs ys : List Int) (i : Nat) : List Int := xs.take i ++ ys.drop i
theorem mixL_len {xs ys : List Int} {i : Nat} (h : xs.length = ys.length) : (mixL xs ys i).length = ys.length := by
  unfold mixL
  rw [List.length_append, List.length_take, List.length_drop]
  omega
theorem mixL_zero (xs ys : List Int) : mixL xs ys 0 = ys := by simp [mixL]
theorem mixL_all {xs ys : List Int} (h : xs.length = ys.length) : mixL xs ys ys.length = xs := by simp [mixL, ← h]
theorem mixL_set {xs ys : List Int} {i : Nat} {v : Int} (h : xs.length = ys.length) (hv : xs[i]? = some v) : (mixL xs ys i).set i v = mixL xs ys (i + 1) := by
  have hi := (List.getElem?_eq_some_iff.1 hv).1
  unfold mixL
  have hl : (xs.take i).length = i := by simp; omega
  have hd : ys.drop i = ys[i] :: ys.drop (i + 1) := List.drop_eq_getElem_cons (by omega)
  rw [List.set_append, if_neg (by omega), hl, Nat.sub_self, hd, List.set_cons_zero, List.take_add_one, hv]
  simp

end Go.Proofs.Ytcblcmdfeoijpaa
