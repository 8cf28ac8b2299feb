/-
  The marking functions markIntS, heldIntS, markNodeS, markGraph: what they write, and what they leave alone.
-/
import Derived.Test.YtpmdnliipcnehacOwn
import Derived.Test.YtpmdnliipcnehacSz
namespace Go.Proofs.Ytpmdnliipcnehac
open Go.RowKit
set_option linter.unusedVariables false

/-- n numbers from k on -/
def marks (k : Int) (n : Nat) : List Int := (List.range n).map fun (i : Nat) => k + (i : Int)

theorem marks_len (k : Int) (n : Nat) : (marks k n).length = n := by simp [marks]
theorem marks_at {k : Int} {n j : Nat} (h : j < n) : (marks k n)[j]? = some (k + (j : Int)) := by
  simp [marks, h]

/-- but for blocks from lo on and below hi nothing has turned -/
structure Only (lo hi : Nat) (w w' : World) : Prop where
  os : w'.os = w.os
  tape : w'.tape = w.tape
  output : w'.output = w.output
  size : w'.heap.size = w.heap.size
  block : ∀ k, k < lo ∨ hi ≤ k → w'.heap[k]? = w.heap[k]?

theorem Only.refl (lo hi : Nat) (w : World) : Only lo hi w w := ⟨rfl, rfl, rfl, rfl, fun _ _ => rfl⟩
theorem Only.trans {lo hi : Nat} {a b c : World} (h : Only lo hi a b) (k : Only lo hi b c) : Only lo hi a c :=
  ⟨k.os.trans h.os, k.tape.trans h.tape, k.output.trans h.output, k.size.trans h.size, fun j hj => (k.block j hj).trans (h.block j hj)⟩
theorem Only.setCell {lo hi : Nat} {a w : World} (h : Only lo hi a w) {p : Addr} (h1 : lo ≤ p.block) (h2 : p.block < hi) (u : Value) : Only lo hi a (w.setCell p u) :=
  h.trans ⟨rfl, rfl, rfl, by simp, fun k hk => Below.heap_setCell _ _ _ _ (by omega)⟩
theorem Only.below {lo hi : Nat} {w w' : World} (h : Only lo hi w w') : Below lo w w' := ⟨h.os, h.tape, h.output, by rw [h.size]; exact Nat.le_refl _, fun k hk => h.block k (.inl hk)⟩
theorem Only.mono {lo hi lo' hi' : Nat} {w w' : World} (h : Only lo hi w w') (h1 : lo' ≤ lo) (h2 : hi ≤ hi') : Only lo' hi' w w' :=
  ⟨h.os, h.tape, h.output, h.size, fun k hk => h.block k (by omega)⟩

/-- an int slice in a row of the call's own keeps its numbers where the row is left alone -/
theorem OwnI.only {w w' : World} {base lo hi : Nat} {A : Option Addr} {c : Nat} {xs : List Int} (h : OwnI w base A c xs) (ho : Only lo hi w w') (hA : ∀ g, blockOf A = some g → g < lo ∨ hi ≤ g) : OwnI w' base A c xs := by
  refine ⟨h.own.1, ?_⟩
  rcases h.own.2 with h2 | ⟨g, cap, cur, hv, hg, hh, r⟩
  · exact .inl h2
  · refine .inr ⟨g, cap, cur, hv, hg, ?_, r⟩
    rw [ho.block g]
    · exact hh
    · apply hA g
      injection hv with hv
      rw [hv]
      rfl

set_option maxHeartbeats 1000000 in
theorem markIntS_row (g t0 : Nat) (n c : Nat) (f : Nat → Value) (k0 : Int) (w : World) (hrow : w.rowIs g t0 n f) (m : Nat) (hm : m ≤ n) (hk0 : 0 ≤ k0) (hk1 : k0 ≤ 4611686018427387904) (hn : m ≤ 1048576) :
    Calls Try.prog 11 #[.slice (some ⟨g, 0, none⟩) m c, .int .i64 k0] w fun e w' => e = .returned (.int .i64 (k0 + m)) ∧
      w'.rowIs g t0 n (fun i => if i < m then .int .i64 (k0 + (i : Int)) else f i) ∧ Only g (g + 1) w w' := by
  go_enter Try.func11, Try.ntmps11
  go_wp2_with fail
  go_loopw [1, 5] (fun kv iv wr => ∃ j : Nat, j ≤ m ∧ iv = .int .i64 j ∧ kv = .int .i64 (k0 + (j : Int)) ∧ wr.rowIs g t0 n (fun i => if i < j then .int .i64 (k0 + (i : Int)) else f i) ∧ Only g (g + 1) w wr) (fun _ iv _ => m - (intOf iv).toNat)
  case atStart => exact ⟨0, Nat.zero_le _, rfl, by go_num, hrow.congr (fun i _ => by simp), Only.refl _ _ _⟩
  case round =>
    obtain ⟨j, hj, rfl, rfl, hr, ho⟩ := hrel
    clear hrow
    by_cases hlt : j < m
    · have c1 := hr.cell (i := j) (by omega)
      have c2 := hr.frozen j
      simp at c1
      have hset := hr.set j (.int .i64 (k0 + (j : Int)))
      have hos := ho.setCell (p := ⟨g, j, none⟩) (Nat.le_refl _) (Nat.lt_succ_self _) (.int .i64 (k0 + (j : Int)))
      have HR := hide hset
      have HO := hide hos
      clear hr ho hset hos
      have hk2 : k0 + (j : Int) ≤ 9223372036854775806 := by omega
      go_wp2
      go_roundw
      case rel => exact ⟨j + 1, by omega, by go_num, by go_num, HR.out.congr (fun i _ => by
        by_cases e : i = j
        · subst e; rw [if_pos rfl, if_pos (by omega)]
        · rw [if_neg e]
          by_cases e2 : i < j
          · rw [if_pos e2, if_pos (by omega)]
          · rw [if_neg e2, if_neg (by omega)]), HO.out⟩
      case measure => simp [intOf]; omega
    · obtain rfl : j = m := by omega
      clear hlt
      have HR := hide hr
      clear hr
      go_wp2
      go_ret
      exact ⟨rfl, HR.out, ho⟩

set_option maxHeartbeats 400000 in
theorem markIntS_nil (c : Nat) (k0 : Int) (w : World) :
    Calls Try.prog 11 #[.slice none 0 c, .int .i64 k0] w fun e w' => e = .returned (.int .i64 k0) ∧ w = w' := by
  go_enter Try.func11, Try.ntmps11
  go_wp2_with fail
  refine wp_loop_rounds 1 ?_
  rw [rounds_succ]
  go_wp2
  go_ret
  exact ⟨rfl, rfl⟩

/-- a row behind an owned int slice -/
theorem OwnI.row {w : World} {base g : Nat} {c : Nat} {xs : List Int} (h : OwnI w base (some ⟨g, 0, none⟩) c xs) :
    ∃ (cap : Nat) (f : Nat → Value), w.rowIs g 3 cap f ∧ xs.length ≤ cap ∧ cap ≤ maxLen ∧ c = cap ∧ base ≤ g := by
  rcases h.own.2 with ⟨h1, _⟩ | ⟨g', cap, cur, hv, hg, hh, hn, hm, hs, _⟩
  · injection h1 with h1
    cases h1
  · injection hv with hv _ hc
    obtain rfl : g = g' := by simpa using hv
    refine ⟨cap, fun i => (cur[i]?).getD undef, ⟨cur, hh, by simpa using hs, fun i hi => ?_⟩, hn, hm, hc, hg⟩
    have : i < cur.size := by rw [hs]; omega
    show _ = some ((cur[i]?).getD undef)
    rw [Array.getElem?_eq_getElem this]; rfl

theorem OwnI.of_row {w : World} {base g cap : Nat} {f : Nat → Value} {xs : List Int} (h : w.rowIs g 3 cap f) (hl : xs.length ≤ cap) (hm : cap ≤ maxLen) (hb : base ≤ g) (hf : ∀ i x, xs[i]? = some x → f i = .int .i64 x) :
    OwnI w base (some ⟨g, 0, none⟩) cap xs := by
  obtain ⟨cur, hh, hs, hc⟩ := h
  refine ⟨⟨by simp, .inr ⟨g, cap, cur, rfl, hb, hh, hl, hm, by simpa using hs, ?_⟩⟩⟩
  apply List.ext_getElem?
  intro i
  rw [List.getElem?_take, List.getElem?_map]
  by_cases hi : i < xs.length
  · rw [if_pos (by omega), Array.getElem?_toList, hc i (by omega), List.getElem?_eq_getElem hi]
    simp [hf i _ (List.getElem?_eq_getElem hi)]
  · rw [if_neg (by omega), List.getElem?_eq_none (by omega)]
    rfl

/-- markIntS of an owned slice -/
theorem markIntS_own (base : Nat) (A : Option Addr) (c : Nat) (xs : List Int) (k0 : Int) (w : World) (h : OwnI w base A c xs) (hk0 : 0 ≤ k0) (hk1 : k0 ≤ 1048576) (hn : xs.length ≤ 1048576) :
    Calls Try.prog 11 #[.slice A xs.length c, .int .i64 k0] w fun e w' => e = .returned (.int .i64 (k0 + xs.length)) ∧ OwnI w' base A c (marks k0 xs.length) ∧
      (∀ lo hi, (∀ g, blockOf A = some g → lo ≤ g ∧ g < hi) → Only lo hi w w') := by
  rcases h.form with ⟨rfl, rfl, rfl⟩ | ⟨g, rfl, hb, hg⟩
  · refine (markIntS_nil 0 k0 w).mono fun e w' ⟨he, hw⟩ => ?_
    subst hw
    exact ⟨by rw [he]; simp, OwnI.empty _ _, fun lo hi _ => Only.refl _ _ _⟩
  · obtain ⟨cap, f, hrow, hle, hm, rfl, hbg⟩ := h.row
    refine (markIntS_row g 3 c c f k0 w hrow xs.length hle hk0 (by omega) hn).mono fun e w' ⟨he, hr, ho⟩ => ?_
    refine ⟨he, OwnI.of_row hr (by rw [marks_len]; exact hle) hm hbg (fun i x hx => ?_), fun lo hi hgb => ?_⟩
    · have hi : i < xs.length := by have := (List.getElem?_eq_some_iff.1 hx).1; rw [marks_len] at this; exact this
      rw [marks_at hi] at hx
      injection hx with hx
      rw [if_pos hi, hx]
    · have := hgb g rfl
      exact ho.mono this.1 (by omega)

set_option maxHeartbeats 1000000 in
theorem heldIntS_any (A : Option Addr) (n c : Nat) (k0 : Int) (w : World) (h : IntsAt w w.heap.size A (marks k0 n)) (hk0 : 0 ≤ k0) (hk1 : k0 ≤ 4611686018427387904) (hn : n ≤ 1048576) :
    Calls Try.prog 12 #[.slice A n c, .int .i64 k0] w fun e w' => e = .returned (.int .i64 (k0 + n)) ∧ w = w' := by
  go_enter Try.func12, Try.ntmps12
  go_wp2_with fail
  go_loop [1, 5] (fun kv iv => ∃ j : Nat, j ≤ n ∧ iv = .int .i64 j ∧ kv = .int .i64 (k0 + (j : Int))) (fun _ iv => n - (intOf iv).toNat)
  case atStart => exact ⟨0, Nat.zero_le _, rfl, by go_num⟩
  case round =>
    obtain ⟨j, hj, rfl, rfl⟩ := hrel
    by_cases hlt : j < n
    · obtain ⟨b, off, x, rfl, hbl, hx, _, hc⟩ := h.at_ (k := j) (by rw [marks_len]; exact hlt)
      rw [marks_at hlt] at hx
      obtain rfl : k0 + (j : Int) = x := Option.some.inj hx
      have t : ((k0 + (j : Int)) != (k0 + (j : Int))) = false := by simp
      have hk2 : k0 + (j : Int) ≤ 9223372036854775806 := by omega
      clear hx
      go_wp2
      go_round
      case rel => exact ⟨j + 1, by omega, by go_num, by go_num⟩
      case measure => simp [intOf]; omega
    · obtain rfl : j = n := by omega
      clear hlt
      go_wp2
      go_ret
      exact ⟨rfl, rfl⟩

/-- what is known of a graph's rows while they are marked: rows that can be written, in blocks from lo on and below hi -/
structure Markable (w : World) (g lo hi : Nat) (tn t : TypeId) (ns : List Nd) : Prop where
  row : ∃ f, w.rowIs g tn (ns.length * 3) f
  kids : ∀ j n, ns[j]? = some n → ∃ gk, lo ≤ gk ∧ gk < hi ∧ gk ≠ g ∧ w.cell? ⟨g, j * 3 + 2, none⟩ = some (.slice (some ⟨gk, 0, none⟩) n.kids.length n.kids.length) ∧ ∃ f, w.rowIs gk t n.kids.length f

theorem MadeNds.markable {w : World} {g : Nat} {tn t : TypeId} {ns : List Nd} (h : MadeNds w g tn t ns) : Markable w g g w.heap.size tn t ns :=
  ⟨h.row, fun j n hj => by
    obtain ⟨gk, h1, h2, h3⟩ := (h.nodes j n hj).kids
    exact ⟨gk, by omega, h3.lt, by omega, h2, _, h3⟩⟩

theorem Markable.kept {w w' : World} {g lo hi : Nat} {tn t : TypeId} {ns : List Nd} (h : Markable w g lo hi tn t ns) (hg : w'.heap[g]? = w.heap[g]?) (hk : ∀ k, lo ≤ k → k < hi → w'.heap[k]? = w.heap[k]?) : Markable w' g lo hi tn t ns := by
  obtain ⟨f, hf⟩ := h.row
  refine ⟨⟨f, hf.of_block hg⟩, fun j n hj => ?_⟩
  obtain ⟨gk, h1, h2, h3, h4, f', h5⟩ := h.kids j n hj
  exact ⟨gk, h1, h2, h3, (World.cell?_of_block (w := w) hg).trans h4, f', h5.of_block (hk gk h1 h2)⟩

/-- marking a cell of a node that is not its kids' slice -/
theorem Markable.set {w : World} {g lo hi p : Nat} {tn t : TypeId} {ns : List Nd} (h : Markable w g lo hi tn t ns) (hp : ∀ j, p ≠ j * 3 + 2) (u : Value) : Markable (w.setCell ⟨g, p, none⟩ u) g lo hi tn t ns := by
  obtain ⟨f, hf⟩ := h.row
  refine ⟨⟨_, hf.set p u⟩, fun j n hj => ?_⟩
  obtain ⟨gk, h1, h2, h3, h4, f', h5⟩ := h.kids j n hj
  refine ⟨gk, h1, h2, h3, ?_, f', h5.setOther (by show gk ≠ g; exact h3) u⟩
  rw [World.cell?_setCell_other]
  · exact h4
  · intro e
    injection e with _ e
    exact hp j e

/-- marking the row of one node's kids -/
theorem Markable.only {w w' : World} {g lo hi gk m : Nat} {tn t : TypeId} {ns : List Nd} {f' : Nat → Value} (h : Markable w g lo hi tn t ns) (hgk : gk ≠ g) (ho : Only gk (gk + 1) w w') (hr : w'.rowIs gk t m f')
    (hlen : ∀ n f, w.rowIs gk t n f → n = m) : Markable w' g lo hi tn t ns := by
  obtain ⟨f, hf⟩ := h.row
  have hg : w'.heap[g]? = w.heap[g]? := ho.block g (by omega)
  refine ⟨⟨f, hf.of_block hg⟩, fun j n hj => ?_⟩
  obtain ⟨gk', h1, h2, h3, h4, f2, h5⟩ := h.kids j n hj
  refine ⟨gk', h1, h2, h3, (World.cell?_of_block (w := w) hg).trans h4, ?_⟩
  by_cases e : gk' = gk
  · subst e
    rw [hlen _ _ h5]
    exact ⟨f', hr⟩
  · exact ⟨f2, h5.of_block (ho.block gk' (by omega))⟩

theorem rowIs_len {w : World} {g : Nat} {t t' : TypeId} {m n : Nat} {f f' : Nat → Value} (h : w.rowIs g t m f) (h' : w.rowIs g t' n f') : m = n := by
  obtain ⟨c, h1, h2, _⟩ := h
  obtain ⟨c', h3, h4, _⟩ := h'
  rw [h1] at h3
  injection h3 with h3
  injection h3 with h3
  subst h3
  omega

set_option maxRecDepth 100000 in
set_option maxHeartbeats 2000000 in
theorem markNodeS_any (g lo hi : Nat) (ns : List Nd) (c : Nat) (k0 : Int) (w : World) (h : Markable w g lo hi 48 3 ns) (hs : Small ns) (hk0 : 0 ≤ k0) (hk1 : k0 ≤ 1048576) (hg1 : lo ≤ g) (hg2 : g < hi) :
    Calls Try.prog 20 #[.slice (some ⟨g, 0, none⟩) ns.length c, .int .i64 k0] w fun e w' => (∃ k1 : Int, 0 ≤ k1 ∧ e = .returned (.int .i64 k1)) ∧ Only lo hi w w' := by
  have hlen := hs.len
  go_enter Try.func20, Try.ntmps20
  go_wp2_with fail
  go_loopw [1, 5] (fun kv iv wr => ∃ (j : Nat) (kc : Int), j ≤ ns.length ∧ iv = .int .i64 j ∧ kv = .int .i64 kc ∧ 0 ≤ kc ∧ kc ≤ 1048576 + 1048578 * (j : Int) ∧ Markable wr g lo hi 48 3 ns ∧ Only lo hi w wr) (fun _ iv _ => ns.length - (intOf iv).toNat)
  case atStart => exact ⟨0, k0, Nat.zero_le _, rfl, rfl, hk0, by omega, h, Only.refl _ _ _⟩
  case round =>
    obtain ⟨j, kc, hj, rfl, rfl, hc0, hc1, hm, ho⟩ := hrel
    clear h
    by_cases hlt : j < ns.length
    · have hat : ns[j]? = some ns[j] := List.getElem?_eq_getElem hlt
      have hkl := hs.kids _ (List.getElem_mem hlt)
      generalize ns[j] = n at hat hkl
      have Hat := hide hat
      obtain ⟨f, hf⟩ := hm.row
      have a0 := hf.cell (i := j * 3) (by omega)
      have a1 := hf.cell (i := j * 3 + 1) (by omega)
      have b0 := hf.frozen (j * 3)
      have b1 := hf.frozen (j * 3 + 1)
      have hkc : kc ≤ 4611686018427387000 := by omega
      have hm2 := (hm.set (p := j * 3) (fun i => by omega) (.int .i64 kc)).set (p := j * 3 + 1) (fun i => by omega) (.int .i64 (kc + 1))
      have ho2 := (ho.setCell (p := ⟨g, j * 3, none⟩) hg1 hg2 (.int .i64 kc)).setCell (p := ⟨g, j * 3 + 1, none⟩) hg1 hg2 (.int .i64 (kc + 1))
      obtain ⟨gk, h1, h2, h3, h4, f2, h5⟩ := hm2.kids j n hat
      have HM := hide hm2
      have HO := hide ho2
      have H5 := hide h5
      clear hat hm ho hf hm2 ho2 h5
      go_wp2_with fail
      refine (markIntS_row gk 3 _ _ f2 (kc + 1 + 1) _ H5.out n.kids.length (Nat.le_refl _) (by omega) (by omega) hkl).mono ?_
      rintro e w2 ⟨rfl, hr2, ho3⟩
      have HM2 := hide (HM.out.only h3 ho3 hr2 (fun m f hf => rowIs_len hf H5.out))
      have HO2 := hide (HO.out.trans (ho3.mono h1 (by omega)))
      clear a0 a1 b0 b1 h4 hr2 ho3
      go_wp2
      go_roundw
      case rel => exact ⟨j + 1, kc + 1 + 1 + n.kids.length, by omega, by go_num, rfl, by omega, by omega, HM2.out, HO2.out⟩
      case measure => simp [intOf]; omega
    · obtain rfl : j = ns.length := by omega
      clear hlt hm
      go_wp2
      go_ret
      exact ⟨⟨kc, hc0, rfl⟩, ho⟩

end Go.Proofs.Ytpmdnliipcnehac
