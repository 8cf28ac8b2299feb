/-
  Lemmas, several texts in one: Gen, ImplA, RowD.
-/
import Derived.Test.YtcblcmdfeoijpabSomeNode
import Derived.Test.YtcblcmdfeoijpabPjAd
import Derived.Test.YtcblcmdfeoijpabSetK
import Derived.Test.YtcblcmdfeoijpabPjAf
import Derived.Test.YtcblcmdfeoijpabPjAe
import Derived.Test.YtcblcmdfeoijpabPjAh
import Derived.Test.YtcblcmdfeoijpabPjAb
namespace Go.Proofs.Ytcblcmdfeoijpab
open Go.RowKit
set_option linter.unusedVariables false

/-- the three cells of the node j in the row of the block g -/
structure NdX (w : World) (g rb j : Nat) (n : Nd) : Prop where
  kind : w.cell? ⟨g, j * 3, none⟩ = some (.int .i64 n.kind)
  value : w.cell? ⟨g, j * 3 + 1, none⟩ = some (.int .i64 n.value)
  kids : ∃ A c, w.cell? ⟨g, j * 3 + 2, none⟩ = some (.slice A n.kids.length c) ∧ OwnI w 0 A c n.kids ∧ (∀ x ∈ n.kids, In64 x) ∧ n.kids.length ≤ 1000 ∧ blockOf A ≠ some g ∧ blockOf A ≠ some rb
  wfk : In64 n.kind
  wfv : In64 n.value

structure GenG (w : World) (g rb cap : Nat) (ns : List Nd) : Prop where
  row : ∃ f, w.rowIs g 41 (cap * 3) f
  le : ns.length ≤ cap
  few : ns.length ≤ 1000
  nd : ∀ j n, ns[j]? = some n → NdX w g rb j n
  ne : g ≠ rb
  dis : ∀ (i j : Nat) (A A' : Option Addr) (n n' c c' : Nat), i ≠ j → i < ns.length → j < ns.length → w.cell? ⟨g, i * 3 + 2, none⟩ = some (.slice A n c) → w.cell? ⟨g, j * 3 + 2, none⟩ = some (.slice A' n' c') → ∀ b, blockOf A = some b → blockOf A' ≠ some b

theorem OwnI.same' {w w' : World} {base : Nat} {A : Option Addr} {c : Nat} {xs : List Int} (h : OwnI w base A c xs) (hA : ∀ g, blockOf A = some g → w'.heap[g]? = w.heap[g]?) : OwnI w' base A c xs := by
  refine ⟨h.own.1, ?_⟩
  rcases h.own.2 with h2 | ⟨g, cap, cur, hv, hg, hh, r⟩
  · exact .inl h2
  · have hAg : blockOf A = some g := by
      injection hv with hv
      rw [hv]; rfl
    exact .inr ⟨g, cap, cur, hv, hg, (hA g hAg).trans hh, r⟩

/-- old memory is as it was, but for two blocks -/
structure Grew2 (g1 g2 : Nat) (w w' : World) : Prop where
  os : w'.os = w.os
  tape : w'.tape = w.tape
  output : w'.output = w.output
  size : w.heap.size ≤ w'.heap.size
  block : ∀ k, k < w.heap.size → k ≠ g1 → k ≠ g2 → w'.heap[k]? = w.heap[k]?

theorem Grew2.of_grew {g1 g2 : Nat} {w w' : World} (h : Grew g1 w w') : Grew2 g1 g2 w w' := ⟨h.os, h.tape, h.output, h.size, fun k hk h1 _ => h.block k hk h1⟩
theorem Grew2.trans {g1 g2 : Nat} {a b c : World} (h : Grew2 g1 g2 a b) (k : Grew2 g1 g2 b c) : Grew2 g1 g2 a c :=
  ⟨k.os.trans h.os, k.tape.trans h.tape, k.output.trans h.output, Nat.le_trans h.size k.size, fun j hj h1 h2 => (k.block j (Nat.lt_of_lt_of_le hj h.size) h1 h2).trans (h.block j hj h1 h2)⟩
theorem Grew2.below {g1 g2 B : Nat} {w0 w w' : World} (h : Grew2 g1 g2 w w') (hb : Below B w0 w) (h1 : B ≤ g1) (h2 : B ≤ g2) (hB : B ≤ w.heap.size) : Below B w0 w' :=
  hb.trans ⟨h.os, h.tape, h.output, h.size, fun k hk => h.block k (by omega) (by omega) (by omega)⟩

/-- int slices in a block that is left alone -/
theorem IntsAt.kept {w w' : World} {A : Option Addr} {xs : List Int} (h : IntsAt w w.heap.size A xs) (hs : w.heap.size ≤ w'.heap.size) (hb : ∀ k, blockOf A = some k → k < w.heap.size → w'.heap[k]? = w.heap[k]?) : IntsAt w' w'.heap.size A xs :=
  ⟨fun hx => by
    obtain ⟨b, off, e, hlt, hc⟩ := h.row hx
    subst e
    exact ⟨b, off, rfl, Nat.lt_of_lt_of_le hlt hs, fun j x hj => (World.cell?_of_block (w := w) (hb b rfl hlt)).trans (hc j x hj)⟩, h.wf, h.len⟩

theorem NdX.kept {w w' : World} {g rb j : Nat} {n : Nd} (h : NdX w g rb j n) (hc : ∀ o, o < 3 → w'.cell? ⟨g, j * 3 + o, none⟩ = w.cell? ⟨g, j * 3 + o, none⟩) (hb : ∀ k, k < w.heap.size → k ≠ rb → k ≠ g → w'.heap[k]? = w.heap[k]?) : NdX w' g rb j n := by
  obtain ⟨A, c, h1, h2, h3, h6, h4, h5⟩ := h.kids
  exact ⟨(hc 0 (by omega)).trans h.kind, (hc 1 (by omega)).trans h.value, ⟨A, c, (hc 2 (by omega)).trans h1, h2.same' (fun k hk => hb k (h2.blocks k hk).2 (fun e => h5 (by rw [hk, e])) (fun e => h4 (by rw [hk, e]))), h3, h6, h4, h5⟩, h.wfk, h.wfv⟩

theorem GenG.lt {w : World} {g rb cap : Nat} {ns : List Nd} (h : GenG w g rb cap ns) : g < w.heap.size := by
  obtain ⟨f, hf⟩ := h.row
  exact hf.lt

theorem GenG.grew {w w' : World} {g rb cap : Nat} {ns : List Nd} (h : GenG w g rb cap ns) (hg : Grew rb w w') : GenG w' g rb cap ns := by
  have hb := hg.block g h.lt h.ne
  obtain ⟨f, hf⟩ := h.row
  exact ⟨⟨f, hf.of_block hb⟩, h.le, h.few, fun j n hj => (h.nd j n hj).kept (fun o _ => World.cell?_of_block (w := w) hb) (fun k hk h1 _ => hg.block k hk h1), h.ne, fun i j A A' n n' c c' hij hi hj h1 h2 => h.dis i j A A' n n' c c' hij hi hj ((World.cell?_of_block (w := w) hb).symm.trans h1) ((World.cell?_of_block (w := w) hb).symm.trans h2)⟩

theorem GenG.nds {w : World} {g rb cap : Nat} {ns : List Nd} (h : GenG w g rb cap ns) : NdsAt w w.heap.size (some ⟨g, 0, none⟩) ns :=
  ⟨fun _ => ⟨g, 0, rfl, h.lt, fun j n hj => by
    have hn := h.nd j n hj
    obtain ⟨A, c, h1, h2, h3, h6, _, _⟩ := hn.kids
    rw [Nat.zero_add]
    exact ⟨hn.kind, hn.value, ⟨A, c, h1, h2.ints h3 (by omega), h2.nil⟩, hn.wfk, hn.wfv⟩⟩, by have := h.few; omega⟩

/-- the world behind a store to the node j -/
def put3 (w : World) (g j : Nat) (v0 v1 v2 : Value) : World := ((w.setCell ⟨g, j * 3, none⟩ v0).setCell ⟨g, j * 3 + 1, none⟩ v1).setCell ⟨g, j * 3 + 2, none⟩ v2

theorem put3_block {w : World} {g j k : Nat} {v0 v1 v2 : Value} (hk : k ≠ g) : (put3 w g j v0 v1 v2).heap[k]? = w.heap[k]? := by
  unfold put3
  rw [Below.heap_setCell _ _ _ _ (by show k ≠ g; exact hk), Below.heap_setCell _ _ _ _ (by show k ≠ g; exact hk), Below.heap_setCell _ _ _ _ (by show k ≠ g; exact hk)]
theorem put3_size {w : World} {g j : Nat} {v0 v1 v2 : Value} : (put3 w g j v0 v1 v2).heap.size = w.heap.size := by unfold put3; simp
theorem put3_far {w : World} {g j q : Nat} {v0 v1 v2 : Value} (hq : q < j * 3 ∨ j * 3 + 2 < q) : (put3 w g j v0 v1 v2).cell? ⟨g, q, none⟩ = w.cell? ⟨g, q, none⟩ := by
  unfold put3
  rw [World.cell?_setCell_other, World.cell?_setCell_other, World.cell?_setCell_other] <;> (intro e; injection e with _ e; omega)
theorem put3_row {w : World} {g j n : Nat} {t : TypeId} {f : Nat → Value} (h : w.rowIs g t n f) (v0 v1 v2 : Value) : ∃ f', (put3 w g j v0 v1 v2).rowIs g t n f' := ⟨_, ((h.set _ _).set _ _).set _ _⟩
theorem put3_at {w : World} {g j n : Nat} {t : TypeId} {f : Nat → Value} (h : w.rowIs g t n f) (hn : j * 3 + 2 < n) (v0 v1 v2 : Value) : (put3 w g j v0 v1 v2).cell? ⟨g, j * 3, none⟩ = some v0 ∧ (put3 w g j v0 v1 v2).cell? ⟨g, j * 3 + 1, none⟩ = some v1 ∧ (put3 w g j v0 v1 v2).cell? ⟨g, j * 3 + 2, none⟩ = some v2 := by
  have hr := ((h.set (j * 3) v0).set (j * 3 + 1) v1).set (j * 3 + 2) v2
  unfold put3
  refine ⟨?_, ?_, ?_⟩
  · have := hr.cell (i := j * 3) (by omega)
    simpa using this
  · have := hr.cell (i := j * 3 + 1) (by omega)
    simpa using this
  · have := hr.cell (i := j * 3 + 2) (by omega)
    simpa using this
theorem put3_grew {w : World} {g rb j : Nat} {v0 v1 v2 : Value} : Grew2 rb g w (put3 w g j v0 v1 v2) := ⟨rfl, rfl, rfl, by rw [put3_size]; exact Nat.le_refl _, fun k _ _ hk => put3_block hk⟩

theorem GenG.setFar {w : World} {g rb cap b o : Nat} {ns : List Nd} {v : Value} (h : GenG w g rb cap ns) (hb : b ≠ g) (hk : ∀ j, j < ns.length → ∀ (A : Option Addr) (n c : Nat), w.cell? ⟨g, j * 3 + 2, none⟩ = some (.slice A n c) → blockOf A ≠ some b) : GenG (w.setCell ⟨b, o, none⟩ v) g rb cap ns := by
  have hbl : ∀ k, k ≠ b → (w.setCell ⟨b, o, none⟩ v).heap[k]? = w.heap[k]? := fun k hk => Below.heap_setCell _ _ _ _ hk
  have hg := hbl g (fun e => hb e.symm)
  obtain ⟨f, hf⟩ := h.row
  refine ⟨⟨f, hf.of_block hg⟩, h.le, h.few, fun j n hj => ?_, h.ne, fun i j A A' n n' c c' hij hi hj h1 h2 => h.dis i j A A' n n' c c' hij hi hj ((World.cell?_of_block (w := w) hg).symm.trans h1) ((World.cell?_of_block (w := w) hg).symm.trans h2)⟩
  have hn := h.nd j n hj
  obtain ⟨A, c, h1, h2, h3, h6, h4, h5⟩ := hn.kids
  have hc := fun q => World.cell?_of_block (w := w) (w' := w.setCell ⟨b, o, none⟩ v) (a := ⟨g, q, none⟩) hg
  exact ⟨(hc _).trans hn.kind, (hc _).trans hn.value, ⟨A, c, (hc _).trans h1, h2.same' (fun k hk2 => hbl k (fun e => hk j (List.getElem?_eq_some_iff.1 hj).1 A _ c h1 (by rw [hk2, e]))), h3, h6, h4, h5⟩, hn.wfk, hn.wfv⟩

theorem Rd.kept {w w' : World} {rb : Nat} {A : Option Addr} {n c p : Nat} (h : Rd w rb A n c p) (hr : Below (rb + 1) w w') : Rd w' rb A n c p :=
  ⟨h.box.below hr (by omega), h.bytes.later (hr.mono (by omega)), h.few⟩
theorem Rd.put {w : World} {rb g j : Nat} {A : Option Addr} {n c p : Nat} (h : Rd w rb A n c p) (hg : rb < g) (v0 v1 v2 : Value) : Rd (put3 w g j v0 v1 v2) rb A n c p :=
  h.kept ⟨rfl, rfl, rfl, by rw [put3_size]; exact Nat.le_refl _, fun k hk => put3_block (by omega)⟩

end Go.Proofs.Ytcblcmdfeoijpab

namespace Go.Proofs.Ytcblcmdfeoijpab
open Go.RowKit Go.Maps
set_option linter.unusedVariables false

/-- all numbers are among N nodes -/
def Among (N : Nat) (xs : List Int) : Prop := ∀ x ∈ xs, 0 ≤ x ∧ x < N

set_option maxHeartbeats 1000000 in
theorem areNodes_any (A : Option Addr) (xs : List Int) (c : Nat) (N : Nat) (w : World) (h : IntsAt w w.heap.size A xs) (hN : N ≤ 9223372036854775807) :
    Calls Try.prog 21 #[.slice A xs.length c, .int .i64 (N : Int)] w fun e w' => e = .returned (.bool (tf (Among N xs))) ∧ w = w' := by
  have hl := h.len
  go_enter Try.func21, Try.ntmps21
  go_wp2_with fail
  go_loop [9] (fun i => ∃ k : Nat, k ≤ xs.length ∧ i = .int .i64 k ∧ ∀ j x, j < k → xs[j]? = some x → 0 ≤ x ∧ x < N) (fun i => xs.length - (intOf i).toNat)
  case atStart => exact ⟨0, Nat.zero_le _, rfl, fun j x hj => absurd hj (by omega)⟩
  case round =>
    obtain ⟨k, hk, rfl, he0⟩ := hrel
    have he := hide he0
    clear he0
    by_cases hlt : k < xs.length
    · obtain ⟨b, off, x, rfl, hbl, hx, hmem, hc⟩ := h.at_ hlt
      have Hx := hide hx
      clear hx
      by_cases hin : 0 ≤ x ∧ x < N
      · have He : Hid (∀ j y, j < k + 1 → xs[j]? = some y → 0 ≤ y ∧ y < N) := by
          intro j y hj hy
          by_cases e : j = k
          · subst e
            obtain rfl := Option.some.inj (Hx.out.symm.trans hy)
            exact hin
          · exact he.out j y (by omega) hy
        obtain ⟨a1, a2⟩ := hin
        have a3 : x ≤ (N : Int) - 1 := by omega
        clear he hmem
        go_wp2_with fail
        refine (isUpTo_yes x ((N : Int) - 1) w a1 a3).mono ?_
        rintro e w' ⟨rfl, rfl⟩
        go_wp2
        go_round
        case rel => exact ⟨k + 1, by omega, by go_num, He.out⟩
        case measure => simp [intOf]; omega
      · have HF := hide (show tf (Among N xs) = false from tf_false fun hh => hin (hh x hmem))
        have hno : x < 0 ∨ (N : Int) - 1 < x := by omega
        clear he hmem hin
        go_wp2_with fail
        refine (isUpTo_no x ((N : Int) - 1) w hno).mono ?_
        rintro e w' ⟨rfl, rfl⟩
        clear hno
        go_wp2
        go_ret
        exact ⟨ret_bool HF.out.symm, rfl⟩
    · have HF := hide (show tf (Among N xs) = true from tf_true fun x hx => by
        obtain ⟨j, hj, rfl⟩ := List.getElem_of_mem hx
        exact he.out j _ (by omega) (List.getElem?_eq_getElem hj))
      go_wp2
      go_ret
      exact ⟨ret_bool HF.out.symm, rfl⟩

/-- keys and values by turns -/
structure PairsOk (ns : List Nd) (kids : List Int) : Prop where
  even : kids.length % 2 = 0
  key : ∀ p n, p % 2 = 0 → KidNd ns kids p n → IsKey n

set_option maxRecDepth 100000 in
set_option maxHeartbeats 2000000 in
theorem arePairs_even (A : Option Addr) (ns : List Nd) (c : Nat) (A' : Option Addr) (xs : List Int) (c' : Nat) (w : World) (hr : NdsAt w w.heap.size A ns) (hk : IntsAt w w.heap.size A' xs) (hin : InG ns xs) (hsm : xs.length ≤ 1048576) (hev : xs.length % 2 = 0) :
    Calls Try.prog 42 #[.slice A ns.length c, .slice A' xs.length c'] w fun e w' =>
      e = .returned (.bool (tf (PairsOk ns xs))) ∧ w = w' := by
  have hnl := hr.len
  have tev : ((xs.length : Int) % 2 != 0) = false := by rw [bne_eq_false_iff_eq]; omega
  have Hev := hide hev
  clear hev
  go_enter Try.func42, Try.ntmps42
  go_wp2_with fail
  go_loop [5] (fun i => ∃ k : Nat, k ≤ xs.length ∧ k % 2 = 0 ∧ i = .int .i64 k ∧ ∀ p n, p < k → p % 2 = 0 → KidNd ns xs p n → IsKey n) (fun i => xs.length + 2 - (intOf i).toNat)
  case atStart => exact ⟨0, Nat.zero_le _, rfl, rfl, fun p n hp => absurd hp (by omega)⟩
  case round =>
    obtain ⟨k, hkl, hk2, rfl, he0⟩ := hrel
    have he := hide he0
    have Hk2 := hide hk2
    clear he0 hk2
    by_cases hlt : k < xs.length
    · obtain ⟨b, off, b', off', x, nd, rfl, hbl, rfl, hbl', hxl, hcx, hM, hkn, _⟩ := kid_at hr hk hin hlt
      obtain ⟨hm_k, hm_v, ⟨A1, c1, hm_s, hI1, _⟩, hwk, hwv⟩ := hM
      have hk1 : (0 : Int) ≤ (k : Int) := by omega
      have hk3 : (k : Int) < (xs.length : Int) := by omega
      have hx1 : (0 : Int) ≤ (x : Int) := by omega
      have hx3 : (x : Int) < (ns.length : Int) := by omega
      have hle : k + 2 ≤ xs.length := by have := Hev.out; have := Hk2.out; omega
      have Hkn := hide hkn
      clear hkn hwk hwv hI1 hm_s
      by_cases hik : IsKey nd
      · have He : Hid (∀ p n, p < k + 2 → p % 2 = 0 → KidNd ns xs p n → IsKey n) := by
          intro p n hp hp2 hn
          by_cases e : p = k
          · subst e
            obtain rfl := Hkn.out.eq hn
            exact hik
          · exact he.out p n (by have := Hk2.out; omega) hp2 hn
        clear he Hkn
        by_cases h0 : nd.kind = 0
        · have t0 : (nd.kind != 0) = false := by rw [bne_eq_false_iff_eq]; exact h0
          clear hik h0
          go_wp2
          go_round
          case rel => exact ⟨k + 2, by omega, by have := Hk2.out; omega, by go_num, He.out⟩
          case measure => simp [intOf]; omega
        · have t0 : (nd.kind != 0) = true := by rw [bne_iff_ne]; exact h0
          have t1 : (nd.kind != 1) = false := by rw [bne_eq_false_iff_eq]; exact hik.resolve_left h0
          clear hik h0
          go_wp2
          go_round
          case rel => exact ⟨k + 2, by omega, by have := Hk2.out; omega, by go_num, He.out⟩
          case measure => simp [intOf]; omega
      · have HF := hide (show tf (PairsOk ns xs) = false from tf_false fun h => hik (h.key k nd Hk2.out Hkn.out))
        have t0 : (nd.kind != 0) = true := by rw [bne_iff_ne]; exact fun e => hik (.inl e)
        have t1 : (nd.kind != 1) = true := by rw [bne_iff_ne]; exact fun e => hik (.inr e)
        clear hik he Hkn
        go_wp2
        go_ret
        exact ⟨ret_bool HF.out.symm, rfl⟩
    · have HF := hide (show tf (PairsOk ns xs) = true from tf_true ⟨Hev.out, fun p n hp hn => he.out p n (by have := hn.lt; omega) hp hn⟩)
      go_wp2
      go_ret
      exact ⟨ret_bool HF.out.symm, rfl⟩

theorem arePairs_any (A : Option Addr) (ns : List Nd) (c : Nat) (A' : Option Addr) (xs : List Int) (c' : Nat) (w : World) (hr : NdsAt w w.heap.size A ns) (hk : IntsAt w w.heap.size A' xs) (hin : InG ns xs) (hsm : xs.length ≤ 1048576) :
    Calls Try.prog 42 #[.slice A ns.length c, .slice A' xs.length c'] w fun e w' =>
      e = .returned (.bool (tf (PairsOk ns xs))) ∧ w = w' := by
  by_cases hev : xs.length % 2 = 0
  · exact arePairs_even A ns c A' xs c' w hr hk hin hsm hev
  · have HF := hide (show tf (PairsOk ns xs) = false from tf_false fun h => hev h.even)
    have tev : ((xs.length : Int) % 2 != 0) = true := by rw [bne_iff_ne]; omega
    clear hev
    go_enter Try.func42, Try.ntmps42
    go_wp2
    go_ret
    exact ⟨ret_bool HF.out.symm, rfl⟩

set_option maxHeartbeats 400000 in
theorem keyOf_any (k v : Int) (x : Value) (w : World) :
    Calls Try.prog 62 #[.agg #[.int .i64 k, .int .i64 v, x]] w fun e w' => e = .returned (.agg #[.int .i64 k, .int .i64 v]) ∧ Below w.heap.size w w' := by
  go_enter Try.func62, Try.ntmps62
  go_wp2
  refine bodyPost_ret (v := .agg #[.int .i64 k, .int .i64 v]) (by simp [results, Try.results62, go_sem]) rfl ⟨rfl, ?_⟩
  exact ((Below.refl _ _).alloc (Nat.le_refl _) _).alloc (by simp) _

/-- what the loop over the keys has found when it has come to place k -/
structure KInv (ns : List Nd) (kids : List Int) (L : List (Int × Int)) (k : Nat) : Prop where
  even : k % 2 = 0
  le : k ≤ kids.length
  len : L.length * 2 = k
  have_ : ∀ p n, p < k → p % 2 = 0 → KidNd ns kids p n → IsKey n ∧ (n.kind, n.value) ∈ L
  from_ : ∀ x ∈ L, ∃ p n, p < k ∧ p % 2 = 0 ∧ KidNd ns kids p n ∧ (n.kind, n.value) = x
  diff : ∀ p q m n, p < k → p % 2 = 0 → q % 2 = 0 → q < p → KidNd ns kids p m → KidNd ns kids q n → ¬ SameKey m n

theorem KInv.start (ns : List Nd) (kids : List Int) : KInv ns kids [] 0 :=
  ⟨rfl, Nat.zero_le _, rfl, fun p n hp => absurd hp (by omega), fun x hx => (by cases hx), fun p q m n hp => absurd hp (by omega)⟩

theorem KInv.next {ns : List Nd} {kids : List Int} {L : List (Int × Int)} {k : Nat} {n : Nd} (h : KInv ns kids L k) (hev : kids.length % 2 = 0) (hlt : k < kids.length) (hn : KidNd ns kids k n) (hik : IsKey n) (hno : (n.kind, n.value) ∉ L) :
    KInv ns kids (L ++ [(n.kind, n.value)]) (k + 2) := by
  have hk2 := h.even
  have hlen := h.len
  refine ⟨by omega, by omega, by simp; omega, fun p m hp hp2 hm => ?_, fun x hx => ?_, fun p q m m' hp hp2 hq2 hqp hm hm' => ?_⟩
  · by_cases e : p = k
    · subst e
      obtain rfl := hn.eq hm
      exact ⟨hik, by simp⟩
    · have := h.have_ p m (by omega) hp2 hm
      exact ⟨this.1, List.mem_append_left _ this.2⟩
  · rcases List.mem_append.1 hx with hx | hx
    · obtain ⟨p, m, h1, h2, h3, h4⟩ := h.from_ x hx
      exact ⟨p, m, by omega, h2, h3, h4⟩
    · simp at hx
      exact ⟨k, n, by omega, hk2, hn, hx.symm⟩
  · by_cases e : p = k
    · subst e
      obtain rfl := hn.eq hm
      intro hs
      have := (h.have_ q m' hqp hq2 hm').2
      rw [← hs.1, ← hs.2] at this
      exact hno this
    · exact h.diff p q m m' (by omega) hp2 hq2 hqp hm hm'

theorem KInv.clash {ns : List Nd} {kids : List Int} {L : List (Int × Int)} {k : Nat} {n : Nd} (h : KInv ns kids L k) (hn : KidNd ns kids k n) (hin : (n.kind, n.value) ∈ L) : ¬ DictOk ns kids := by
  obtain ⟨q, m, h1, h2, h3, h4⟩ := h.from_ _ hin
  injection h4 with h5 h6
  exact fun hd => hd.diff k q n m h.even h2 h1 hn h3 ⟨h5.symm, h6.symm⟩

theorem KInv.done {ns : List Nd} {kids : List Int} {L : List (Int × Int)} (h : KInv ns kids L kids.length) : DictOk ns kids :=
  ⟨h.even, fun p n hp hn => (h.have_ p n hn.lt hp hn).1, fun p q m n hp hq hqp hm hn => h.diff p q m n hm.lt hp hq hqp hm hn⟩

set_option maxRecDepth 100000 in
set_option maxHeartbeats 4000000 in
theorem hasDifferentKeys_any (A : Option Addr) (ns : List Nd) (c : Nat) (A' : Option Addr) (n : Nd) (c' : Nat) (w : World) (hr : NdsAt w w.heap.size A ns) (hk : IntsAt w w.heap.size A' n.kids) (hin : InG ns n.kids) (hsm : n.kids.length ≤ 1048576) (hp : PairsOk ns n.kids) :
    Calls Try.prog 43 #[.slice A ns.length c, .agg #[.int .i64 n.kind, .int .i64 n.value, .slice A' n.kids.length c']] w fun e w' =>
      e = .returned (.bool (tf (DictOk ns n.kids))) ∧ Below w.heap.size w w' := by
  have hnl := hr.len
  have Hp := hide hp
  have hB : Below w.heap.size w ((w.alloc (.cells #[.int .i64 n.kind, .int .i64 n.value, .slice A' n.kids.length c'] 41)).alloc (.cells #[.map none, .slice none 0 0] 77)) :=
    ((Below.refl _ _).alloc (Nat.le_refl _) _).alloc (by simp) _
  have l1 := (Lies.new w #[.int .i64 n.kind, .int .i64 n.value, .slice A' n.kids.length c'] 41).alloc (.cells #[.map none, .slice none 0 0] 77)
  have l2 := Lies.new (w.alloc (.cells #[.int .i64 n.kind, .int .i64 n.value, .slice A' n.kids.length c'] 41)) #[.map none, .slice none 0 0] 77
  have hr2 := hr.below hB
  have hk2 := hk.below hB
  simp only [World.size_alloc] at l2
  clear hr hk hp
  go_enter Try.func43, Try.ntmps43
  go_wp2_with fail
  generalize hWd : (w.alloc (.cells #[.int .i64 n.kind, .int .i64 n.value, .slice A' n.kids.length c'] 41)).alloc (.cells #[.map none, .slice none 0 0] 77) = W at hB l1 l2 hr2 hk2 ⊢
  have hWs : W.heap.size = w.heap.size + 2 := by rw [← hWd]; simp
  have HWs := hide hWs
  have hs0 : SetK W (w.heap.size + 1) (w.heap.size + 2) none none 0 [] := ⟨l2, World.ownsRow_nil _ _ _ _, .inl ⟨rfl, rfl⟩, by omega, fun p hp => by cases hp⟩
  clear hWd hWs l2
  go_loopw [6] (fun i wr => ∃ (k : Nat) (L : List (Int × Int)) (m : Option Nat) (Am : Option Addr) (cm : Nat), i = .int .i64 k ∧ SetK wr (w.heap.size + 1) (w.heap.size + 2) m Am cm L ∧ Below (w.heap.size + 1) W wr ∧ KInv ns n.kids L k) (fun i _ => n.kids.length + 2 - (intOf i).toNat)
  case atStart => exact ⟨0, [], none, none, 0, rfl, hs0, Below.refl _ _, KInv.start _ _⟩
  case round =>
    clear hs0
    obtain ⟨k, L, m, Am, cm, rfl, hset, hb, hinv⟩ := hrel
    have Hinv := hide hinv
    have hle := hinv.le
    have hLk := hinv.len
    have HLk := hide hLk
    clear hinv hLk
    have e2 := (l1.below hb (by omega)).cell 2
    simp at e2
    have hsz : w.heap.size + 2 ≤ wr.heap.size := by have := hb.size; have := HWs.out; omega
    by_cases hlt : k < n.kids.length
    · obtain ⟨b, off, b', off', x, nd, rfl, hbl, rfl, hbl', hxl, hcx, hM, hkn, _⟩ := kid_at (hr2.below (hb.mono (by omega))) (hk2.below (hb.mono (by omega))) hin hlt
      obtain ⟨hm_k, hm_v, ⟨A1, c1, hm_s, hI1, _⟩, hwk, hwv⟩ := hM
      have hk1 : (0 : Int) ≤ (k : Int) := by omega
      have hk3 : (k : Int) < (n.kids.length : Int) := by omega
      have hx1 : (0 : Int) ≤ (x : Int) := by omega
      have hx3 : (x : Int) < (ns.length : Int) := by omega
      have hik : IsKey nd := Hp.out.key k nd Hinv.out.even hkn
      have Hkn := hide hkn
      have Hwk := hide hwk
      have Hwv := hide hwv
      have Hik := hide hik
      clear hkn hwk hwv hI1 hik
      by_cases hmem : (nd.kind, nd.value) ∈ L
      · have HF := hide (show tf (DictOk ns n.kids) = false from tf_false (Hinv.out.clash Hkn.out hmem))
        go_wp2_with fail
        refine (keyOf_any nd.kind nd.value _ wr).mono ?_
        rintro e w2 ⟨rfl, hb2⟩
        have hsetA := hset.below hb2
        have hbA := hb.trans (hb2.mono (by omega))
        clear hset hb hb2
        go_wp2_with fail
        refine (addK_seen (w.heap.size + 1) (w.heap.size + 2) m Am cm L nd.kind nd.value _ hsetA Hwk.out Hwv.out hmem).mono ?_
        rintro e w' ⟨rfl, hb3⟩
        have hb4 := hbA.trans (hb3.mono (by have := hbA.size; have := HWs.out; omega))
        clear hmem hb3 hsetA
        go_wp2
        go_ret
        exact ⟨ret_bool HF.out.symm, hB.trans (hb4.mono (by omega))⟩
      · have Hn := hide (Hinv.out.next Hp.out.even hlt Hkn.out Hik.out hmem)
        go_wp2_with fail
        refine (keyOf_any nd.kind nd.value _ wr).mono ?_
        rintro e w2 ⟨rfl, hb2⟩
        have hsetA := hset.below hb2
        have hbA := hb.trans (hb2.mono (by omega))
        have hsz2 : w.heap.size + 2 ≤ w2.heap.size := by have := hbA.size; have := HWs.out; omega
        clear hset hb hb2
        go_wp2_with fail
        refine (addK_new (w.heap.size + 1) (w.heap.size + 2) m cm Am L nd.kind nd.value _ hsetA Hwk.out Hwv.out (by omega) hmem (by have := HLk.out; omega)).mono ?_
        rintro e w' ⟨rfl, ⟨m2, A2, c2, hset2⟩, hbut⟩
        have hb4 := hbut.below hbA (Nat.le_refl _) (by omega)
        clear hmem hbut hsetA
        go_wp2
        go_roundw
        case rel => exact ⟨k + 2, L ++ [(nd.kind, nd.value)], m2, A2, c2, by go_num, hset2, hb4, Hn.out⟩
        case measure => simp [intOf]; omega
    · have HF := hide (show tf (DictOk ns n.kids) = true from tf_true (by
        have h := Hinv.out
        have : k = n.kids.length := by omega
        subst this
        exact h.done))
      go_wp2
      go_ret
      exact ⟨ret_bool HF.out.symm, hB.trans (hb.mono (by omega))⟩

end Go.Proofs.Ytcblcmdfeoijpab

namespace Go.Proofs.Ytcblcmdfeoijpab
open Go.RowKit
set_option linter.unusedVariables false

/-- the kids of the first n nodes lie in blocks that are apart -/
def ApartN (cs : List Value) (n : Nat) : Prop :=
  ∀ (i j : Nat) (A1 A2 : Option Addr) (n1 n2 c1 c2 : Nat), i < j → j < n → cs[i * 3 + 2]? = some (.slice A1 n1 c1) → cs[j * 3 + 2]? = some (.slice A2 n2 c2) → ∀ b, blockOf A1 = some b → blockOf A2 ≠ some b
/-- .. and below a block -/
def UnderN (cs : List Value) (n bnd : Nat) : Prop :=
  ∀ (i : Nat) (A1 : Option Addr) (n1 c1 : Nat), i < n → cs[i * 3 + 2]? = some (.slice A1 n1 c1) → ∀ b, blockOf A1 = some b → b < bnd

structure RowD (w : World) (base bnd : Nat) (A : Option Addr) (c : Nat) (ns : List Nd) : Prop where
  row : ∃ cs, w.ownsRow base 41 3 (.slice A ns.length c) ns.length cs ∧ (∀ j n, ns[j]? = some n → CellsN w base cs j n) ∧ ApartN cs ns.length ∧ UnderN cs ns.length bnd

theorem RowD.rowN {w : World} {base bnd : Nat} {A : Option Addr} {c : Nat} {ns : List Nd} (h : RowD w base bnd A c ns) : RowN w base A c ns := by
  obtain ⟨cs, h1, h2, _⟩ := h.row
  exact ⟨⟨cs, h1, h2⟩⟩

/-- memory that keeps the row and its kids keeps this -/
theorem RowD.ofBlk {w w' : World} {base bnd : Nat} {A : Option Addr} {c : Nat} {ns : List Nd} (h : RowD w base bnd A c ns) (hA : ∀ b, base ≤ b → b < w.heap.size → w'.heap[b]? = w.heap[b]?) : RowD w' base bnd A c ns := by
  obtain ⟨cs, h1, h2, h3, h4⟩ := h.row
  have hb := h.rowN.blocks
  refine ⟨⟨cs, ⟨h1.1, ?_⟩, fun j n hj => ?_, h3, h4⟩⟩
  · rcases h1.2 with h5 | ⟨g, cap, cur, hv, hg, hh, r⟩
    · exact .inl h5
    · refine .inr ⟨g, cap, cur, hv, hg, (hA g hg ?_).trans hh, r⟩
      injection hv with hv _ _
      exact (hb g (by rw [hv]; rfl)).2
  · obtain ⟨A1, c1, a1, a2, a3, a4⟩ := h2 j n hj
    exact ⟨A1, c1, a1, a2, a3, a4.of_blk (fun b hb' => hA b (a4.blocks b hb').1 (a4.blocks b hb').2)⟩

theorem RowD.below {w w' : World} {base bnd : Nat} {A : Option Addr} {c : Nat} {ns : List Nd} (h : RowD w base bnd A c ns) (hb : Below w.heap.size w w') : RowD w' base bnd A c ns :=
  h.ofBlk fun b _ hlt => hb.block b hlt

theorem RowD.own {w : World} {base bnd : Nat} {A : Option Addr} {c : Nat} {ns : List Nd} (h : RowD w base bnd A c ns) (hbnd : bnd ≤ w.heap.size) : OwnNs w base w.heap.size A c ns := by
  obtain ⟨cs, h1, h2, h3, h4⟩ := h.row
  have hb := h.rowN.blocks
  rcases h1.2 with ⟨hv, hn⟩ | ⟨g, cap, cur, hv, hg, hh, hle, hcap, hsz, htk⟩
  · injection hv with e1 _ e3
    exact .inl ⟨e1, e3, List.length_eq_zero_iff.1 hn⟩
  · injection hv with e1 _ e3
    subst e1
    subst e3
    have hsome : ∀ i, i < c * 3 → cur[i]? = some ((cur[i]?).getD (.int .i64 0)) := fun i hi => by
      have h9 : cur[i]? = some cur[i] := Array.getElem?_eq_getElem (by omega)
      rw [h9]
      rfl
    have hrow : w.rowIs g 41 (c * 3) (fun i => (cur[i]?).getD (.int .i64 0)) := ⟨cur, hh, hsz, hsome⟩
    have hat : ∀ i, i < ns.length * 3 → w.cell? ⟨g, i, none⟩ = cs[i]? := fun i hi => by
      rw [hrow.cell (by omega), ← htk, List.getElem?_take_of_lt hi, Array.getElem?_toList, ← hsome i (by omega)]
    refine .inr ⟨g, rfl, ⟨_, hrow⟩, hle, hg, (hb g rfl).2, fun j n hj => ?_, ?_⟩
    · have hjl := (List.getElem?_eq_some_iff.1 hj).1
      obtain ⟨A1, c1, a1, a2, a3, a4⟩ := h2 j n hj
      exact ⟨(hat _ (by omega)).trans a1, (hat _ (by omega)).trans a2, A1, c1, (hat _ (by omega)).trans a3, a4, fun b hb' => ⟨by have := h4 j A1 _ c1 hjl a3 b hb'; omega, fun e => node_int_ne h1 a4.own g rfl (by rw [← e]; exact hb')⟩⟩
    · intro i j A1 A2 n1 n2 c1 c2 hij hi hj d1 d2 b hb1 hb2
      rw [hat _ (by omega)] at d1 d2
      rcases Nat.lt_or_gt_of_ne hij with h5 | h5
      · exact h3 i j A1 A2 n1 n2 c1 c2 h5 hj d1 d2 b hb1 hb2
      · exact h3 j i A2 A1 n2 n1 c2 c1 h5 hi d2 d1 b hb2 hb1

theorem RowD.one {w : World} {base g bnd : Nat} (h : Lies w g #[.int .i64 0, .int .i64 1, .slice none 0 0] 41) (hb : base ≤ g) : RowD w base bnd (some ⟨g, 0, none⟩) 1 [⟨0, 1, []⟩] := by
  refine ⟨⟨[.int .i64 0, .int .i64 1, .slice none 0 0], ⟨by simp, .inr ⟨g, 1, _, rfl, hb, h, by simp, by unfold maxLen; omega, by simp, by simp⟩⟩, fun j n hj => ?_, fun i j A1 A2 n1 n2 c1 c2 hij hj => ?_, fun i A1 n1 c1 hi hc b hb' => ?_⟩⟩
  · match j, hj with
    | 0, hj =>
      simp at hj
      subst hj
      exact ⟨none, 0, rfl, rfl, rfl, OwnI.empty _ _⟩
    | j + 1, hj => simp at hj
  · simp at hj
    omega
  · simp at hi
    subst hi
    simp at hc
    obtain ⟨rfl, _, _⟩ := hc
    cases hb'

/-- append of one node whose kids lie apart from all before -/
theorem append_ndD {w : World} {ops : Array Oper} {rest : List Oper} {o : Oper} {a : Act} {Q : Exit → Act → World → Prop} (hgd : o.guard = none) (s x : Operand)
    (ho : o.op = .call { callee := .builtin .append, args := #[s, x], argTypes := #[23, 23] })
    (base bnd bnd' : Nat) (An : Option Addr) (cn : Nat) (ns : List Nd) (hs : a.eval s = .slice An ns.length cn) (hrow : RowD w base bnd An cn ns) (b : Nat) (n : Nd) (Ak : Option Addr) (ck : Nat) (t : TypeId) (hx : a.eval x = .slice (some ⟨b, 0, none⟩) 1 1)
    (hr : w.heap[b]? = some (.cells #[.int .i64 n.kind, .int .i64 n.value, .slice Ak n.kids.length ck] t (0, 0))) (hown : OwnI w base Ak ck n.kids) (hbase : base ≤ w.heap.size) (hn : ns.length ≤ 1000)
    (hk : ∀ q, blockOf Ak = some q → bnd ≤ q ∧ q < bnd') (hbb : bnd ≤ bnd')
    (h : ∀ (A' : Option Addr) (c' : Nat) (w' : World), RowD w' base bnd' A' c' (ns ++ [n]) → w.grownBy w' (blockOf An) →
      wpList Try.prog ops Q rest (a.put o.dst (.slice A' (ns.length + 1) c')) w') : wpList Try.prog ops Q (o :: rest) a w := by
  obtain ⟨i0, hi, hz0, hz1, hz2⟩ := info_parts infoNdA
  obtain ⟨cs, h1, hcs, hap, hun⟩ := hrow.row
  have hlen := h1.1
  refine wpList_append_own_at w hgd s x 23 ho base 41 i0 _ 3 40 Try.underlying23 hi hz0 hz1 hz2 rfl (by omega) _ ns.length cs hs h1 ⟨b, 0, none⟩ 1 1 [.int .i64 n.kind, .int .i64 n.value, .slice Ak n.kids.length ck] hx (by simp) (World.news_of_block hr) (by
      intro u hu
      simp at hu
      rcases hu with rfl | rfl | rfl <;> rfl)
    (by unfold maxLen; omega) (by omega) hbase ?_
  intro v' w' h2 h3 _ h5
  rw [ownBlock_slice] at h3
  have h2' := h2
  rcases h2.2 with ⟨_, h6⟩ | ⟨g, cap, cur, rfl, hg, hh, r⟩
  · omega
  · have hold : ∀ i, i < ns.length → (cs ++ [.int .i64 n.kind, .int .i64 n.value, .slice Ak n.kids.length ck])[i * 3 + 2]? = cs[i * 3 + 2]? := fun i hi2 => List.getElem?_append_left (by omega)
    have hnew : (cs ++ [.int .i64 n.kind, .int .i64 n.value, .slice Ak n.kids.length ck])[ns.length * 3 + 2]? = some (.slice Ak n.kids.length ck) := by
      rw [List.getElem?_append_right (by omega), hlen]
      simp
    have hll : (ns ++ [n]).length = ns.length + 1 := by simp
    refine h (some ⟨g, 0, none⟩) cap w' ⟨⟨_, by simpa using h2', fun j m hj => ?_, fun i j A1 A2 n1 n2 c1 c2 hij hj d1 d2 q hq1 hq2 => ?_, fun i A1 n1 c1 hi2 d1 q hq1 => ?_⟩⟩ h3
    · have hkeep : ∀ (A1 : Option Addr) (c1 : Nat) (ks : List Int), OwnI w base A1 c1 ks → OwnI w' base A1 c1 ks := fun A1 c1 ks ho => ho.kept h3 (by
        cases hA : blockOf A1 with
        | none => exact .inl rfl
        | some q => exact .inr (fun e => node_int_ne h1 ho.own q e.symm hA))
      rw [List.getElem?_append] at hj
      split at hj
      next hlt =>
        obtain ⟨A1, c1, a1, a2, a3, a4⟩ := hcs j m hj
        exact ⟨A1, c1, by rw [List.getElem?_append_left (by omega)]; exact a1, by rw [List.getElem?_append_left (by omega)]; exact a2, by rw [List.getElem?_append_left (by omega)]; exact a3, hkeep _ _ _ a4⟩
      next hlt =>
        have hjl := (List.getElem?_eq_some_iff.1 hj).1
        simp at hjl
        obtain rfl : j = ns.length := by omega
        simp at hj
        subst hj
        refine ⟨Ak, ck, ?_, ?_, ?_, hkeep _ _ _ hown⟩
        · rw [List.getElem?_append_right (by omega), hlen]; simp
        · rw [List.getElem?_append_right (by omega), hlen]; simp
        · exact hnew
    · rw [hll] at hj
      rw [hold i (by omega)] at d1
      rcases Nat.lt_or_ge j ns.length with h7 | h7
      · rw [hold j h7] at d2
        exact hap i j A1 A2 n1 n2 c1 c2 hij h7 d1 d2 q hq1 hq2
      · obtain rfl : j = ns.length := by omega
        rw [hnew] at d2
        injection d2 with d2
        injection d2 with d2 _ _
        subst d2
        have e1 := hun i A1 n1 c1 (by omega) d1 q hq1
        have e2 := (hk q hq2).1
        omega
    · rw [hll] at hi2
      rcases Nat.lt_or_ge i ns.length with h7 | h7
      · rw [hold i h7] at d1
        have := hun i A1 n1 c1 h7 d1 q hq1
        omega
      · obtain rfl : i = ns.length := by omega
        rw [hnew] at d1
        injection d1 with d1
        injection d1 with d1 _ _
        subst d1
        exact (hk q hq1).2

end Go.Proofs.Ytcblcmdfeoijpab
