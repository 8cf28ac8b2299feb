/-
  Lemmas, several texts in one: Gen, HasA, ABy, Rds, DtS.
-/
import Derived.Test.YtmilbhhlbjcodaaDoorSomeNode
import Derived.Test.YtmilbhhlbjcodaaDoorPjAe
import Derived.Test.YtmilbhhlbjcodaaDoorPjAf
import Derived.Deep.QuietTactic
import Derived.BigQuiet
import Derived.Test.YtmilbhhlbjcodaaDoorPjAg
import Derived.Test.YtmilbhhlbjcodaaDoorPjAh
import Derived.Test.YtmilbhhlbjcodaaDoorPjAb
import Derived.Deep.LoopGhost
import Derived.Deep.Cut
namespace Go.Proofs.YtmilbhhlbjcodaaDoor
open Go.RowKit
set_option linter.unusedVariables false
structure NdX (w : World) (g rb j : Nat) (n : Nd) : Prop where
  kind : w.cell? ⟨g, j * 3, none⟩ = some (.int .i64 n.kind)
  value : w.cell? ⟨g, j * 3 + 1, none⟩ = some (.int .i64 n.value)
  kids : ∃ A c, w.cell? ⟨g, j * 3 + 2, none⟩ = some (.slice A n.kids.length c) ∧ OwnI w 0 A c n.kids ∧ (∀ x ∈ n.kids, In64 x) ∧ n.kids.length ≤ 1000 ∧ blockOf A ≠ some g ∧ blockOf A ≠ some rb
  wfk : In64 n.kind
  wfv : In64 n.value
structure GenG (w : World) (g rb cap : Nat) (ns : List Nd) : Prop where
  row : ∃ f, w.rowIs g 81 (cap * 3) f
  le : ns.length ≤ cap
  few : ns.length ≤ 1000
  nd : ∀ j n, ns[j]? = some n → NdX w g rb j n
  ne : g ≠ rb
  dis : ∀ (i j : Nat) (A A' : Option Addr) (n n' c c' : Nat), i ≠ j → i < ns.length → j < ns.length → w.cell? ⟨g, i * 3 + 2, none⟩ = some (.slice A n c) → w.cell? ⟨g, j * 3 + 2, none⟩ = some (.slice A' n' c') → ∀ b, blockOf A = some b → blockOf A' ≠ some b
theorem OwnI.same' {w w' : World} {base : Nat} {A : Option Addr} {c : Nat} {xs : List Int} (h : OwnI w base A c xs) (hA : ∀ g, blockOf A = some g → w'.heap[g]? = w.heap[g]?) : OwnI w' base A c xs := by
  refine ⟨h.own.1, ?_⟩
  rcases h.own.2 with h2 | ⟨g, cap, cur, hv, hg, hh, r⟩
  · exact .inl h2
  · have hAg : blockOf A = some g := by
      injection hv with hv
      rw [hv]; rfl
    exact .inr ⟨g, cap, cur, hv, hg, (hA g hAg).trans hh, r⟩
structure Grew2 (g1 g2 : Nat) (w w' : World) : Prop where
  os : w'.os = w.os
  tape : w'.tape = w.tape
  output : w'.output = w.output
  size : w.heap.size ≤ w'.heap.size
  block : ∀ k, k < w.heap.size → k ≠ g1 → k ≠ g2 → w'.heap[k]? = w.heap[k]?
theorem Grew2.trans {g1 g2 : Nat} {a b c : World} (h : Grew2 g1 g2 a b) (k : Grew2 g1 g2 b c) : Grew2 g1 g2 a c :=
  ⟨k.os.trans h.os, k.tape.trans h.tape, k.output.trans h.output, Nat.le_trans h.size k.size, fun j hj h1 h2 => (k.block j (Nat.lt_of_lt_of_le hj h.size) h1 h2).trans (h.block j hj h1 h2)⟩
theorem Grew2.below {g1 g2 B : Nat} {w0 w w' : World} (h : Grew2 g1 g2 w w') (hb : Below B w0 w) (h1 : B ≤ g1) (h2 : B ≤ g2) (hB : B ≤ w.heap.size) : Below B w0 w' :=
  hb.trans ⟨h.os, h.tape, h.output, h.size, fun k hk => h.block k (by omega) (by omega) (by omega)⟩
theorem IntsAt.kept {w w' : World} {A : Option Addr} {xs : List Int} (h : IntsAt w w.heap.size A xs) (hs : w.heap.size ≤ w'.heap.size) (hb : ∀ k, blockOf A = some k → k < w.heap.size → w'.heap[k]? = w.heap[k]?) : IntsAt w' w'.heap.size A xs :=
  ⟨fun hx => by
    obtain ⟨b, off, e, hlt, hc⟩ := h.row hx
    subst e
    exact ⟨b, off, rfl, Nat.lt_of_lt_of_le hlt hs, fun j x hj => (World.cell?_of_block (w := w) (hb b rfl hlt)).trans (hc j x hj)⟩, h.wf, h.len⟩
theorem NdX.kept {w w' : World} {g rb j : Nat} {n : Nd} (h : NdX w g rb j n) (hc : ∀ o, o < 3 → w'.cell? ⟨g, j * 3 + o, none⟩ = w.cell? ⟨g, j * 3 + o, none⟩) (hb : ∀ k, k < w.heap.size → k ≠ rb → k ≠ g → w'.heap[k]? = w.heap[k]?) : NdX w' g rb j n := by
  obtain ⟨A, c, h1, h2, h3, h6, h4, h5⟩ := h.kids
  exact ⟨(hc 0 (by omega)).trans h.kind, (hc 1 (by omega)).trans h.value, ⟨A, c, (hc 2 (by omega)).trans h1, h2.same' (fun k hk => hb k (h2.blocks k hk).2 (fun e => h5 (by rw [hk, e])) (fun e => h4 (by rw [hk, e]))), h3, h6, h4, h5⟩, h.wfk, h.wfv⟩
theorem GenG.lt {w : World} {g rb cap : Nat} {ns : List Nd} (h : GenG w g rb cap ns) : g < w.heap.size := by
  obtain ⟨f, hf⟩ := h.row
  exact hf.lt
theorem GenG.grew {w w' : World} {g rb cap : Nat} {ns : List Nd} (h : GenG w g rb cap ns) (hg : Grew rb w w') : GenG w' g rb cap ns := by
  have hb := hg.block g h.lt h.ne
  obtain ⟨f, hf⟩ := h.row
  exact ⟨⟨f, hf.of_block hb⟩, h.le, h.few, fun j n hj => (h.nd j n hj).kept (fun o _ => World.cell?_of_block (w := w) hb) (fun k hk h1 _ => hg.block k hk h1), h.ne, fun i j A A' n n' c c' hij hi hj h1 h2 => h.dis i j A A' n n' c c' hij hi hj ((World.cell?_of_block (w := w) hb).symm.trans h1) ((World.cell?_of_block (w := w) hb).symm.trans h2)⟩
theorem GenG.nds {w : World} {g rb cap : Nat} {ns : List Nd} (h : GenG w g rb cap ns) : NdsAt w w.heap.size (some ⟨g, 0, none⟩) ns :=
  ⟨fun _ => ⟨g, 0, rfl, h.lt, fun j n hj => by
    have hn := h.nd j n hj
    obtain ⟨A, c, h1, h2, h3, h6, _, _⟩ := hn.kids
    rw [Nat.zero_add]
    exact ⟨hn.kind, hn.value, ⟨A, c, h1, h2.ints h3 (by omega), h2.nil⟩, hn.wfk, hn.wfv⟩⟩, by have := h.few; omega⟩
def put3 (w : World) (g j : Nat) (v0 v1 v2 : Value) : World := ((w.setCell ⟨g, j * 3, none⟩ v0).setCell ⟨g, j * 3 + 1, none⟩ v1).setCell ⟨g, j * 3 + 2, none⟩ v2
theorem put3_block {w : World} {g j k : Nat} {v0 v1 v2 : Value} (hk : k ≠ g) : (put3 w g j v0 v1 v2).heap[k]? = w.heap[k]? := by
  unfold put3
  rw [Below.heap_setCell _ _ _ _ (by show k ≠ g; exact hk), Below.heap_setCell _ _ _ _ (by show k ≠ g; exact hk), Below.heap_setCell _ _ _ _ (by show k ≠ g; exact hk)]
theorem put3_size {w : World} {g j : Nat} {v0 v1 v2 : Value} : (put3 w g j v0 v1 v2).heap.size = w.heap.size := by unfold put3; simp
theorem put3_far {w : World} {g j q : Nat} {v0 v1 v2 : Value} (hq : q < j * 3 ∨ j * 3 + 2 < q) : (put3 w g j v0 v1 v2).cell? ⟨g, q, none⟩ = w.cell? ⟨g, q, none⟩ := by
  unfold put3
  rw [World.cell?_setCell_other, World.cell?_setCell_other, World.cell?_setCell_other] <;> (intro e; injection e with _ e; omega)
theorem put3_row {w : World} {g j n : Nat} {t : TypeId} {f : Nat → Value} (h : w.rowIs g t n f) (v0 v1 v2 : Value) : ∃ f', (put3 w g j v0 v1 v2).rowIs g t n f' := ⟨_, ((h.set _ _).set _ _).set _ _⟩
theorem put3_at {w : World} {g j n : Nat} {t : TypeId} {f : Nat → Value} (h : w.rowIs g t n f) (hn : j * 3 + 2 < n) (v0 v1 v2 : Value) : (put3 w g j v0 v1 v2).cell? ⟨g, j * 3, none⟩ = some v0 ∧ (put3 w g j v0 v1 v2).cell? ⟨g, j * 3 + 1, none⟩ = some v1 ∧ (put3 w g j v0 v1 v2).cell? ⟨g, j * 3 + 2, none⟩ = some v2 := by
  have hr := ((h.set (j * 3) v0).set (j * 3 + 1) v1).set (j * 3 + 2) v2
  unfold put3
  refine ⟨?_, ?_, ?_⟩
  · have := hr.cell (i := j * 3) (by omega)
    simpa using this
  · have := hr.cell (i := j * 3 + 1) (by omega)
    simpa using this
  · have := hr.cell (i := j * 3 + 2) (by omega)
    simpa using this
theorem GenG.setFar {w : World} {g rb cap b o : Nat} {ns : List Nd} {v : Value} (h : GenG w g rb cap ns) (hb : b ≠ g) (hk : ∀ j, j < ns.length → ∀ (A : Option Addr) (n c : Nat), w.cell? ⟨g, j * 3 + 2, none⟩ = some (.slice A n c) → blockOf A ≠ some b) : GenG (w.setCell ⟨b, o, none⟩ v) g rb cap ns := by
  have hbl : ∀ k, k ≠ b → (w.setCell ⟨b, o, none⟩ v).heap[k]? = w.heap[k]? := fun k hk => Below.heap_setCell _ _ _ _ hk
  have hg := hbl g (fun e => hb e.symm)
  obtain ⟨f, hf⟩ := h.row
  refine ⟨⟨f, hf.of_block hg⟩, h.le, h.few, fun j n hj => ?_, h.ne, fun i j A A' n n' c c' hij hi hj h1 h2 => h.dis i j A A' n n' c c' hij hi hj ((World.cell?_of_block (w := w) hg).symm.trans h1) ((World.cell?_of_block (w := w) hg).symm.trans h2)⟩
  have hn := h.nd j n hj
  obtain ⟨A, c, h1, h2, h3, h6, h4, h5⟩ := hn.kids
  have hc := fun q => World.cell?_of_block (w := w) (w' := w.setCell ⟨b, o, none⟩ v) (a := ⟨g, q, none⟩) hg
  exact ⟨(hc _).trans hn.kind, (hc _).trans hn.value, ⟨A, c, (hc _).trans h1, h2.same' (fun k hk2 => hbl k (fun e => hk j (List.getElem?_eq_some_iff.1 hj).1 A _ c h1 (by rw [hk2, e]))), h3, h6, h4, h5⟩, hn.wfk, hn.wfv⟩
theorem Rd.kept {w w' : World} {rb : Nat} {A : Option Addr} {n c p : Nat} (h : Rd w rb A n c p) (hr : Below (rb + 1) w w') : Rd w' rb A n c p :=
  ⟨h.box.below hr (by omega), h.bytes.later (hr.mono (by omega)), h.few⟩
theorem Rd.put {w : World} {rb g j : Nat} {A : Option Addr} {n c p : Nat} (h : Rd w rb A n c p) (hg : rb < g) (v0 v1 v2 : Value) : Rd (put3 w g j v0 v1 v2) rb A n c p :=
  h.kept ⟨rfl, rfl, rfl, by rw [put3_size]; exact Nat.le_refl _, fun k hk => put3_block (by omega)⟩
end Go.Proofs.YtmilbhhlbjcodaaDoor

namespace Go.Proofs.YtmilbhhlbjcodaaDoor
open Go.RowKit
set_option linter.unusedVariables false
set_option maxHeartbeats 1000000 in
theorem hasArg_yes (c : Int) (w : World) (hF : FormsAt w w.heap.size) (h1 : 0 ≤ c) (h2 : c < 20) (ha : ¬ argMost c < 0) :
    Calls Tryd.prog 19 #[.int .i64 c] w fun e w' => e = .returned (.bool true) ∧ w = w' := by
  obtain ⟨m, rfl⟩ := Int.eq_ofNat_of_zero_le h1
  have hm : m < 20 := by omega
  have hc := hF.arg m hm
  have ht : 0 < argTop (m : Int) := by
    unfold argTop
    rw [if_neg ha]
    unfold argMost at ha ⊢
    repeat' split
    all_goals first | omega | (exfalso; simp_all)
  have hr := argTop_range (m : Int)
  generalize argTop (m : Int) = T at hc ht hr
  have d : decide (0 < T) = true := by simpa using ht
  clear ha
  go_enter Tryd.func19, Tryd.ntmps19
  go_wp2
  go_ret
  exact ⟨rfl, rfl⟩
set_option maxHeartbeats 1000000 in
theorem hasArg_no (c : Int) (w : World) (hF : FormsAt w w.heap.size) (h1 : 0 ≤ c) (h2 : c < 20) (ha : argMost c < 0) :
    Calls Tryd.prog 19 #[.int .i64 c] w fun e w' => e = .returned (.bool false) ∧ w = w' := by
  obtain ⟨m, rfl⟩ := Int.eq_ofNat_of_zero_le h1
  have hm : m < 20 := by omega
  have hc := hF.arg m hm
  have ht : argTop (m : Int) = 0 := by unfold argTop; rw [if_pos ha]
  rw [ht] at hc
  clear ha ht
  go_enter Tryd.func19, Tryd.ntmps19
  go_wp2
  go_ret
  exact ⟨rfl, rfl⟩
end Go.Proofs.YtmilbhhlbjcodaaDoor

namespace Go.Proofs.YtmilbhhlbjcodaaDoor
open Go.RowKit
set_option maxHeartbeats 1000000 in
theorem areBytes_any (A : Option Addr) (xs : List Int) (c : Nat) (m : Nat) (w : World) (h : IntsAt w w.heap.size A xs) (hm : m ≤ 1048576) :
    Calls Tryd.prog 14 #[.slice A xs.length c, .int .i64 (m : Int)] w fun e w' => e = .returned (.bool (tf (BytesOk m xs))) ∧ w = w' := by
  have hl := h.len
  by_cases hlen : xs.length ≤ m
  · have d1 : decide (m < xs.length) = false := by simpa using hlen
    go_enter Tryd.func14, Tryd.ntmps14
    go_wp2_with fail
    clear d1
    go_loop [6, 13] (fun _ i => ∃ k : Nat, k ≤ xs.length ∧ i = .int .i64 k ∧ ∀ j x, j < k → xs[j]? = some x → 0 ≤ x ∧ x ≤ 255) (fun _ i => xs.length - (intOf i).toNat)
    case atStart => exact ⟨0, Nat.zero_le _, rfl, fun j _ hj => absurd hj (by omega)⟩
    case round =>
      obtain ⟨k, hk, rfl, he0⟩ := hrel
      have he := hide he0
      clear he0
      by_cases hlt : k < xs.length
      · obtain ⟨b, off, x, rfl, hbl, hx, hmem, hc⟩ := h.at_ hlt
        have Hx := hide hx
        clear hx
        by_cases hin : 0 ≤ x ∧ x ≤ 255
        · have He : Hid (∀ j y, j < k + 1 → xs[j]? = some y → 0 ≤ y ∧ y ≤ 255) := by
            intro j y hj hy
            by_cases e : j = k
            · subst e
              have := Hx.out.symm.trans hy
              injection this with this
              subst this
              exact hin
            · exact he.out j y (by omega) hy
          obtain ⟨h1, h2⟩ := hin
          clear he hmem
          go_wp2_with fail
          refine (isUpTo_yes x 255 w h1 h2).mono ?_
          rintro e w' ⟨rfl, rfl⟩
          go_wp2
          go_round
          case rel => exact ⟨k + 1, by omega, by go_num, He.out⟩
          case measure => simp [intOf]; omega
        · have HF := hide (show tf (BytesOk m xs) = false from tf_false fun hall => hin (hall.2 x hmem))
          have hno : x < 0 ∨ 255 < x := by omega
          clear he hmem
          go_wp2_with fail
          refine (isUpTo_no x 255 w hno).mono ?_
          rintro e w' ⟨rfl, rfl⟩
          clear hno hin
          go_wp2
          go_ret
          exact ⟨ret_bool HF.out.symm, rfl⟩
      · obtain rfl : k = xs.length := by omega
        have HF := hide (show tf (BytesOk m xs) = true from tf_true ⟨hlen, fun x hx => by
          obtain ⟨j, hj, rfl⟩ := List.getElem_of_mem hx
          exact he.out j _ hj (List.getElem?_eq_getElem hj)⟩)
        clear hlt
        go_wp2
        go_ret
        exact ⟨ret_bool HF.out.symm, rfl⟩
  · have d1 : decide (m < xs.length) = true := by simpa using hlen
    have HF := hide (show tf (BytesOk m xs) = false from tf_false fun h => hlen h.1)
    go_enter Tryd.func14, Tryd.ntmps14
    go_wp2
    go_ret
    exact ⟨ret_bool HF.out.symm, rfl⟩
end Go.Proofs.YtmilbhhlbjcodaaDoor

namespace Go.Proofs.YtmilbhhlbjcodaaDoor
open Go.RowKit
set_option linter.unusedVariables false
theorem readOp_any (A : Option Addr) (xs : List Int) (c : Nat) (w : World) (h : IntsAt w w.heap.size A xs) (hb : ∀ x ∈ xs, 0 ≤ x ∧ x ≤ 255) (hl : xs.length ≤ 1000) :
    Calls Tryd.prog 29 #[.slice A xs.length c] w (GivesOpM w (fstO xs)) := by
  match xs, h, hb, hl with
  | [], h, hb, hl =>
    rw [fstO_none (xs := []) rfl]
    exact readOp_nil A c w
  | y :: t, h, hb, hl =>
    obtain ⟨b, off, _, rfl, _⟩ := h.at_ (k := 0) (by simp)
    have hy := hb y (by simp)
    by_cases hneg : argMost y < 0
    · exact readOp_bare b off y t c w h hy hl hneg
    · match t, h, hb, hl with
      | [], h, hb, hl => exact readOp_one b off y c w h hb hl hneg
      | a :: u, h, hb, hl =>
        by_cases ha : a < 128
        · exact readOp_short b off y a u c w h hb hl hneg ha
        · match u, h, hb, hl with
          | [], h, hb, hl => exact readOp_cut b off y a c w h hb hl hneg ha
          | z :: v, h, hb, hl => exact readOp_long b off y a z v c w h hb hl hneg ha
set_option maxRecDepth 100000 in
set_option maxHeartbeats 2000000 in
theorem readOps_any (A : Option Addr) (xs : List Int) (c : Nat) (w : World) (h : IntsAt w w.heap.size A xs) (hnil : A = none → c = 0) (hc : xs.length ≤ c) (hok : BytesOk 1000 xs) :
    Calls Tryd.prog 17 #[.slice A xs.length c] w (GivesOpsV w (decs 300 xs).1 (.int .i64 ((decs 300 xs).2 : Int))) := by
  have hl := hok.1
  have Hb := hide hok.2
  clear hok
  obtain ⟨R, hR⟩ : ∃ R, R = (decs 300 xs).1 := ⟨_, rfl⟩
  obtain ⟨N, hN⟩ : ∃ N, N = (decs 300 xs).2 := ⟨_, rfl⟩
  have HR := hide hR
  have HN := hide hN
  rw [← hR, ← hN]
  clear hR hN
  have HS0 := hide (show DcS w (w.alloc (.cells #[] 39)) R N xs 0 0 (some ⟨w.heap.size, 0, none⟩) 0 [] from
    ⟨(Below.refl _ _).alloc (Nat.le_refl _) _, OwnO.bare w, by rw [HR.out]; rfl, by rw [HN.out]; simp, rfl, by omega, Nat.zero_le _⟩)
  have Hnil := hide hnil
  clear hnil
  go_enter Tryd.func17, Tryd.ntmps17
  go_wp2_with fail
  generalize w.alloc (.cells #[] 39) = w0 at HS0 ⊢
  go_loopg [4, 5, 6, 7] 300 (fun gk ov iv _ _ wr => ∃ (k i : Nat) (Ao : Option Addr) (co : Nat) (acc : List Od), gk = 300 - k ∧ iv = .int .i64 (i : Int) ∧ ov = .slice Ao acc.length co ∧ DcS w wr R N xs k i Ao co acc)
  case atStart => exact ⟨0, 0, _, 0, [], rfl, rfl, rfl, HS0.out⟩
  case round =>
    clear HS0
    obtain ⟨k, i, Ao, co, acc, rfl, rfl, rfl, hS⟩ := hrel
    have HS := hide hS
    have hil := hS.le
    have hkl := hS.few
    have hbs := hS.bel.size
    have hlen0 := hS.len
    have hlen := hide hlen0
    subst hlen0
    by_cases hk : acc.length < 300
    · have hw0 : (i : Int) ≤ (xs.length : Int) := by omega
      have hwc : (i : Int) ≤ (c : Int) := by omega
      have HD : Hid ((xs.drop i).length = xs.length - i) := hide (by simp)
      have HBd := hide (fun x (hx : x ∈ xs.drop i) => Hb.out x (List.mem_of_mem_drop hx))
      have HC : Hid (∃ A2 : Option Addr, (if c = i then A else A.map fun (a : Addr) => a.add i) = A2) := hide ⟨_, rfl⟩
      obtain ⟨o, hoD⟩ : ∃ o, o = (fstO (xs.drop i)).1 := ⟨_, rfl⟩
      obtain ⟨n, hnD⟩ : ∃ n, n = (fstO (xs.drop i)).2 := ⟨_, rfl⟩
      have HP : Hid (fstO (xs.drop i) = (o, n)) := hide (by rw [hoD, hnD])
      clear hoD hnD HC
      -- the slice from i on
      have hP0 : ∀ A2 c2, IntsAt wr wr.heap.size A2 (xs.drop i) → xs.length - i ≤ c2 → Calls Tryd.prog 29 #[.slice A2 (xs.length - i) c2] wr (GivesOpM wr (o, n)) := by
        intro A2 c2 hI hcc
        have := readOp_any A2 (xs.drop i) c2 wr hI HBd.out (by rw [HD.out]; omega)
        rw [HD.out, HP.out] at this
        exact this
      have HP0 := hide hP0
      have HI := hide h
      have hIr := hide (fun (b off : Nat) (e : A = some ⟨b, off, none⟩) => (by subst e; exact (h.behind i).later HS.out.bel (Nat.le_refl _) : IntsAt wr wr.heap.size (some ⟨b, off + i, none⟩) (xs.drop i)))
      have hsum := hide hS.own
      clear hS h hP0
      have hcase : (∃ ad, A = some ad ∧ c = i) ∨ (∃ b off, A = some ⟨b, off, none⟩ ∧ c ≠ i) ∨ (∃ ad, A = some ad ∧ c ≠ i ∧ xs = []) ∨ A = none := by
        rcases A with _ | ad
        · exact .inr (.inr (.inr rfl))
        · by_cases hci : c = i
          · exact .inl ⟨ad, rfl, hci⟩
          · by_cases hx : xs = []
            · exact .inr (.inr (.inl ⟨ad, rfl, hci, hx⟩))
            · obtain ⟨b, off, e, _⟩ := HI.out.row hx
              exact .inr (.inl ⟨b, off, e, hci⟩)
      rcases hcase with ⟨ad, rfl, rfl⟩ | ⟨b, off, rfl, hci⟩ | ⟨ad, rfl, hci, rfl⟩ | rfl
      · have HE : Hid (xs.drop c = []) := hide (List.drop_eq_nil_of_le (by omega))
        have HZ : Hid (xs.length - c = 0) := hide (by omega)
        go_wp2_with fail
        have HC := HP0.out (some ad) 0 (by rw [HE.out]; exact IntsAt.empt _) (by omega)
        rw [HZ.out] at HC
        refine HC.mono ?_
        clear HC
        rintro e w2 ⟨rfl, hb2⟩
        have HO2 := hide (HS.out.own.below hb2)
        have HB2 := hide (HS.out.bel.trans (hb2.mono hbs))
        clear hb2
        have lb := Lies.new w2 #[.int .i64 o.code, .int .i64 o.arg] 39
        have hBb := HB2.out.alloc HB2.out.size (.cells #[.int .i64 o.code, .int .i64 o.arg] 39)
        have hOb := HO2.out.alloc (.cells #[.int .i64 o.code, .int .i64 o.arg] 39)
        have hgb := lb.lt
        have HBb := hide hBb
        have HOb := hide hOb
        have Hne := hide (fun (e : some w2.heap.size = blockOf Ao) => (by have := (HO2.out.blocks _ e.symm).2; omega : False))
        have HLb := hide lb
        clear hBb hOb lb
        go_upto_region 5 with fail
        generalize w2.alloc (.cells #[.int .i64 o.code, .int .i64 o.arg] 39) = wb at HBb HOb HLb hgb ⊢
        generalize w2.heap.size = gb at Hne HLb hgb ⊢
        by_cases hn0 : n = 0
        · have dn : ((n : Int) == 0) = true := by simpa using hn0
          have hE := HS.out.stop (.inr (firstO_zero HBd.out HP.out hn0))
          obtain ⟨rfl, rfl⟩ := hE
          clear hn0
          go_wp2
          go_ret2
          exact ⟨Ao, co, rfl, HOb.out, HBb.out⟩
        · have dn : ((n : Int) == 0) = false := by simpa using hn0
          have hF := hide (firstO_pos HBd.out HP.out hn0)
          have hfs := firstO_some HBd.out hF.out
          have hn3 := hfs.2.2.2.2.1
          clear hn0 hfs
          have lb := HLb.out
          have x0 := lb.cell 0
          have x1 := lb.cell 1
          simp at x0 x1
          have hal : acc.length ≤ 300 := hkl
          have HNw := hide (show Lies (wb.alloc (.cells #[.int .i64 o.code, .int .i64 o.arg] 39)) wb.heap.size #[.int .i64 o.code, .int .i64 o.arg] 39 from Lies.new wb _ _)
          clear lb
          go_wp2_with (at_builtin; refine append_op rfl (.tmp 23) (.tmp 25) rfl w.heap.size Ao co acc rfl (HOb.out.alloc _) wb.heap.size o 39 rfl HNw.out (by omega) (by have := HBb.out.size; simp; omega) ?_; intro zs A3 c3 w7 hz hown7 hg7 hat7; have HO7 := hide hown7; have HG7 := hide hg7; clear hown7 hg7 hat7)
          go_roundg (300 - (acc.length + 1))
          case measure => omega
          case rel => exact ⟨acc.length + 1, c + n, A3, c3, zs, rfl, by go_num, rfl, HS.out.step Hb.out hk hF.out (below_grown (HBb.out.alloc HBb.out.size _) HG7.out (by have := HBb.out.size; simp; omega) (fun q hq => (HOb.out.blocks q hq).1)) hz.out HO7.out⟩
      · go_wp2_with fail
        refine (HP0.out (some ⟨b, off + i, none⟩) (c - i) (hIr.out b off rfl) (by omega)).mono ?_
        rintro e w2 ⟨rfl, hb2⟩
        have HO2 := hide (HS.out.own.below hb2)
        have HB2 := hide (HS.out.bel.trans (hb2.mono hbs))
        clear hb2
        have lb := Lies.new w2 #[.int .i64 o.code, .int .i64 o.arg] 39
        have hBb := HB2.out.alloc HB2.out.size (.cells #[.int .i64 o.code, .int .i64 o.arg] 39)
        have hOb := HO2.out.alloc (.cells #[.int .i64 o.code, .int .i64 o.arg] 39)
        have hgb := lb.lt
        have HBb := hide hBb
        have HOb := hide hOb
        have Hne := hide (fun (e : some w2.heap.size = blockOf Ao) => (by have := (HO2.out.blocks _ e.symm).2; omega : False))
        have HLb := hide lb
        clear hBb hOb lb
        go_upto_region 5 with fail
        generalize w2.alloc (.cells #[.int .i64 o.code, .int .i64 o.arg] 39) = wb at HBb HOb HLb hgb ⊢
        generalize w2.heap.size = gb at Hne HLb hgb ⊢
        by_cases hn0 : n = 0
        · have dn : ((n : Int) == 0) = true := by simpa using hn0
          have hE := HS.out.stop (.inr (firstO_zero HBd.out HP.out hn0))
          obtain ⟨rfl, rfl⟩ := hE
          clear hn0
          go_wp2
          go_ret2
          exact ⟨Ao, co, rfl, HOb.out, HBb.out⟩
        · have dn : ((n : Int) == 0) = false := by simpa using hn0
          have hF := hide (firstO_pos HBd.out HP.out hn0)
          have hfs := firstO_some HBd.out hF.out
          have hn3 := hfs.2.2.2.2.1
          clear hn0 hfs
          have lb := HLb.out
          have x0 := lb.cell 0
          have x1 := lb.cell 1
          simp at x0 x1
          have hal : acc.length ≤ 300 := hkl
          have HNw := hide (show Lies (wb.alloc (.cells #[.int .i64 o.code, .int .i64 o.arg] 39)) wb.heap.size #[.int .i64 o.code, .int .i64 o.arg] 39 from Lies.new wb _ _)
          clear lb
          go_wp2_with (at_builtin; refine append_op rfl (.tmp 23) (.tmp 25) rfl w.heap.size Ao co acc rfl (HOb.out.alloc _) wb.heap.size o 39 rfl HNw.out (by omega) (by have := HBb.out.size; simp; omega) ?_; intro zs A3 c3 w7 hz hown7 hg7 hat7; have HO7 := hide hown7; have HG7 := hide hg7; clear hown7 hg7 hat7)
          go_roundg (300 - (acc.length + 1))
          case measure => omega
          case rel => exact ⟨acc.length + 1, i + n, A3, c3, zs, rfl, by go_num, rfl, HS.out.step Hb.out hk hF.out (below_grown (HBb.out.alloc HBb.out.size _) HG7.out (by have := HBb.out.size; simp; omega) (fun q hq => (HOb.out.blocks q hq).1)) hz.out HO7.out⟩
      · obtain rfl : i = 0 := by simpa using hil
        go_wp2_with fail
        refine (HP0.out (some ad) c (IntsAt.empt _) (by simp)).mono ?_
        rintro e w2 ⟨rfl, hb2⟩
        have HO2 := hide (HS.out.own.below hb2)
        have HB2 := hide (HS.out.bel.trans (hb2.mono hbs))
        clear hb2
        have lb := Lies.new w2 #[.int .i64 o.code, .int .i64 o.arg] 39
        have hBb := HB2.out.alloc HB2.out.size (.cells #[.int .i64 o.code, .int .i64 o.arg] 39)
        have hOb := HO2.out.alloc (.cells #[.int .i64 o.code, .int .i64 o.arg] 39)
        have hgb := lb.lt
        have HBb := hide hBb
        have HOb := hide hOb
        have Hne := hide (fun (e : some w2.heap.size = blockOf Ao) => (by have := (HO2.out.blocks _ e.symm).2; omega : False))
        have HLb := hide lb
        clear hBb hOb lb
        go_upto_region 5 with fail
        generalize w2.alloc (.cells #[.int .i64 o.code, .int .i64 o.arg] 39) = wb at HBb HOb HLb hgb ⊢
        generalize w2.heap.size = gb at Hne HLb hgb ⊢
        by_cases hn0 : n = 0
        · have dn : ((n : Int) == 0) = true := by simpa using hn0
          have hE := HS.out.stop (.inr (firstO_zero HBd.out HP.out hn0))
          obtain ⟨rfl, rfl⟩ := hE
          clear hn0
          go_wp2
          go_ret2
          exact ⟨Ao, co, rfl, HOb.out, HBb.out⟩
        · have dn : ((n : Int) == 0) = false := by simpa using hn0
          have hF := hide (firstO_pos HBd.out HP.out hn0)
          have hfs := firstO_some HBd.out hF.out
          have hn3 := hfs.2.2.2.2.1
          clear hn0 hfs
          have lb := HLb.out
          have x0 := lb.cell 0
          have x1 := lb.cell 1
          simp at x0 x1
          have hal : acc.length ≤ 300 := hkl
          have HNw := hide (show Lies (wb.alloc (.cells #[.int .i64 o.code, .int .i64 o.arg] 39)) wb.heap.size #[.int .i64 o.code, .int .i64 o.arg] 39 from Lies.new wb _ _)
          clear lb
          go_wp2_with (at_builtin; refine append_op rfl (.tmp 23) (.tmp 25) rfl w.heap.size Ao co acc rfl (HOb.out.alloc _) wb.heap.size o 39 rfl HNw.out (by omega) (by have := HBb.out.size; simp; omega) ?_; intro zs A3 c3 w7 hz hown7 hg7 hat7; have HO7 := hide hown7; have HG7 := hide hg7; clear hown7 hg7 hat7)
          go_roundg (300 - (acc.length + 1))
          case measure => omega
          case rel => exact ⟨acc.length + 1, 0 + n, A3, c3, zs, rfl, by first | rw [Nat.zero_add] | go_num, rfl, HS.out.step Hb.out hk hF.out (below_grown (HBb.out.alloc HBb.out.size _) HG7.out (by have := HBb.out.size; simp; omega) (fun q hq => (HOb.out.blocks q hq).1)) hz.out HO7.out⟩
      · obtain rfl := Hnil.out rfl
        have e0 : xs = [] := List.eq_nil_of_length_eq_zero (by omega)
        subst e0
        obtain rfl : i = 0 := by simpa using hil
        go_wp2_with fail
        refine (HP0.out none 0 (IntsAt.empt _) (by simp)).mono ?_
        rintro e w2 ⟨rfl, hb2⟩
        have HO2 := hide (HS.out.own.below hb2)
        have HB2 := hide (HS.out.bel.trans (hb2.mono hbs))
        clear hb2
        have lb := Lies.new w2 #[.int .i64 o.code, .int .i64 o.arg] 39
        have hBb := HB2.out.alloc HB2.out.size (.cells #[.int .i64 o.code, .int .i64 o.arg] 39)
        have hOb := HO2.out.alloc (.cells #[.int .i64 o.code, .int .i64 o.arg] 39)
        have hgb := lb.lt
        have HBb := hide hBb
        have HOb := hide hOb
        have Hne := hide (fun (e : some w2.heap.size = blockOf Ao) => (by have := (HO2.out.blocks _ e.symm).2; omega : False))
        have HLb := hide lb
        clear hBb hOb lb
        go_upto_region 5 with fail
        generalize w2.alloc (.cells #[.int .i64 o.code, .int .i64 o.arg] 39) = wb at HBb HOb HLb hgb ⊢
        generalize w2.heap.size = gb at Hne HLb hgb ⊢
        by_cases hn0 : n = 0
        · have dn : ((n : Int) == 0) = true := by simpa using hn0
          have hE := HS.out.stop (.inr (firstO_zero HBd.out HP.out hn0))
          obtain ⟨rfl, rfl⟩ := hE
          clear hn0
          go_wp2
          go_ret2
          exact ⟨Ao, co, rfl, HOb.out, HBb.out⟩
        · have dn : ((n : Int) == 0) = false := by simpa using hn0
          have hF := hide (firstO_pos HBd.out HP.out hn0)
          have hfs := firstO_some HBd.out hF.out
          have hn3 := hfs.2.2.2.2.1
          clear hn0 hfs
          have lb := HLb.out
          have x0 := lb.cell 0
          have x1 := lb.cell 1
          simp at x0 x1
          have hal : acc.length ≤ 300 := hkl
          have HNw := hide (show Lies (wb.alloc (.cells #[.int .i64 o.code, .int .i64 o.arg] 39)) wb.heap.size #[.int .i64 o.code, .int .i64 o.arg] 39 from Lies.new wb _ _)
          clear lb
          go_wp2_with (at_builtin; refine append_op rfl (.tmp 23) (.tmp 25) rfl w.heap.size Ao co acc rfl (HOb.out.alloc _) wb.heap.size o 39 rfl HNw.out (by omega) (by have := HBb.out.size; simp; omega) ?_; intro zs A3 c3 w7 hz hown7 hg7 hat7; have HO7 := hide hown7; have HG7 := hide hg7; clear hown7 hg7 hat7)
          go_roundg (300 - (acc.length + 1))
          case measure => omega
          case rel => exact ⟨acc.length + 1, 0 + n, A3, c3, zs, rfl, by first | rw [Nat.zero_add] | go_num, rfl, HS.out.step Hb.out hk hF.out (below_grown (HBb.out.alloc HBb.out.size _) HG7.out (by have := HBb.out.size; simp; omega) (fun q hq => (HOb.out.blocks q hq).1)) hz.out HO7.out⟩
    · have hk3 : acc.length = 300 := by omega
      have hE := HS.out.stop (.inl hk3)
      clear hk3
      obtain ⟨rfl, rfl⟩ := hE
      clear hS
      go_wp2
      go_ret2
      exact ⟨Ao, co, rfl, HS.out.own, HS.out.bel⟩
end Go.Proofs.YtmilbhhlbjcodaaDoor

namespace Go.Proofs.YtmilbhhlbjcodaaDoor
open Go.RowKit
set_option linter.unusedVariables false
set_option maxHeartbeats 1000000 in
theorem specDecodeTorn_any (A : Option Addr) (xs : List Int) (c : Nat) (w : World) (h : IntsAt w w.heap.size A xs) (hnil : A = none → c = 0) (hc : xs.length ≤ c) :
    Calls Tryd.prog 6 #[.slice A xs.length c] w (GivesOpsV w (tornOps xs) (.int .i64 (tornSize xs))) := by
  by_cases hok : BytesOk 1000 xs
  · rw [tornOps_ok hok, tornSize_ok hok]
    have ht := hide (tf_true hok)
    have Hok := hide hok
    have Hnil := hide hnil
    clear hok hnil
    go_enter Tryd.func6, Tryd.ntmps6
    go_wp2_with fail
    refine (validBytes_any A xs c w h).mono ?_
    rintro e w' ⟨rfl, rfl⟩
    rw [ht.out]
    go_wp2_with fail
    refine (readOps_any A xs c w h Hnil.out hc Hok.out).mono ?_
    rintro e w2 ⟨A2, c2, rfl, ho, hb⟩
    go_wp2
    go_ret2
    exact ⟨A2, c2, rfl, ho, hb⟩
  · rw [tornOps_no hok, tornSize_no hok]
    have ht := hide (tf_false hok)
    clear hok hnil
    go_enter Tryd.func6, Tryd.ntmps6
    go_wp2_with fail
    refine (validBytes_any A xs c w h).mono ?_
    rintro e w' ⟨rfl, rfl⟩
    rw [ht.out]
    go_wp2
    go_ret2
    exact ⟨none, 0, rfl, OwnO.empty _ _, Below.refl _ _⟩
end Go.Proofs.YtmilbhhlbjcodaaDoor
