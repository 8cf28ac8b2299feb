/-
  The generator's rootsOf: some graph and some list of numbers come back.
-/
import Derived.Test.YthdldkbeccmcmabNewR
import Derived.Test.YthdldkbeccmcmabAnyGraph
import Derived.Test.YthdldkbeccmcmabOwnS
import Derived.Deep.LoopGhost
import Derived.Deep.Cut
namespace Go.Proofs.Ythdldkbeccmcmab
open Go.RowKit
set_option linter.unusedVariables false

theorem OwnI.ofR {w w' : World} {base : Nat} {A : Option Addr} {c : Nat} {xs : List Int} (h : OwnI w base A c xs) (hA : ∀ g, blockOf A = some g → w'.heap[g]? = w.heap[g]?) : OwnI w' base A c xs := by
  refine ⟨h.own.1, ?_⟩
  rcases h.own.2 with h2 | ⟨g, cap, cur, hv, hg, hh, r⟩
  · exact .inl h2
  · refine .inr ⟨g, cap, cur, hv, hg, ?_, r⟩
    rw [hA g (by injection hv with hv; rw [hv]; rfl)]
    exact hh

theorem NdsAt.keptR {w w' : World} {B g lo : Nat} {ns : List Nd} (h : NdsAt w B (some ⟨g, 0, none⟩) ns) (hk : KidsFrom w g lo ns.length) (hg : lo ≤ g) (hs : ∀ k, lo ≤ k → k < B → w'.heap[k]? = w.heap[k]?) : NdsAt w' B (some ⟨g, 0, none⟩) ns := by
  refine ⟨fun hx => ?_, h.len⟩
  obtain ⟨b, off, e, hlt, hn⟩ := h.row hx
  injection e with e
  injection e with e1 e2
  subst e1 e2
  refine ⟨g, 0, rfl, hlt, fun j n hj => ?_⟩
  obtain ⟨a0, a1, ⟨A, c, a2, a3, a4⟩, a5, a6⟩ := hn j n hj
  have hc := fun q => World.cell?_of_block (w := w) (w' := w') (a := ⟨g, q, none⟩) (hs g hg hlt)
  refine ⟨(hc _).trans a0, (hc _).trans a1, ⟨A, c, (hc _).trans a2, ⟨fun hne => ?_, a3.wf, a3.len⟩, a4⟩, a5, a6⟩
  obtain ⟨b2, off2, rfl, hb2, hcell⟩ := a3.row hne
  rw [Nat.zero_add] at a2
  have hlo := hk j (List.getElem?_eq_some_iff.1 hj).1 _ _ _ a2 b2 rfl
  exact ⟨b2, off2, rfl, hb2, fun i x hi => (World.cell?_of_block (w := w) (hs b2 hlo hb2)).trans (hcell i x hi)⟩

/-- some graph, whose memory is new, and some numbers in memory of the call's own come back; the reader is further on -/
def DrawnRt (rb : Nat) (A : Option Addr) (nb cb P : Nat) (w : World) (e : Ending) (w' : World) : Prop :=
  ∃ (g cap p' : Nat) (ns : List Nd) (r : Int) (Ao : Option Addr) (os : List Int) (co : Nat), e = .returned (.tuple #[.agg #[.slice (some ⟨g, 0, none⟩) ns.length cap, .int .i64 r], .slice Ao os.length co]) ∧ p' ≤ P ∧ Rd w' rb A nb cb p' ∧ NdsAt w' w'.heap.size (some ⟨g, 0, none⟩) ns ∧ w.heap.size ≤ g ∧ 1 ≤ ns.length ∧ ns.length ≤ 10 ∧ In64 r ∧ OwnI w' w.heap.size Ao co os ∧ os.length ≤ 5 ∧ (∀ x ∈ os, In64 x) ∧ Grew rb w w' ∧ KidsFrom w' g w.heap.size ns.length

/-- the memory while the list grows -/
structure RtS (w w2 wr : World) (rb b5 g cap : Nat) (Ar : Option Addr) (n' c' : Nat) (ns : List Nd) (r : Int) (A : Option Addr) (c : Nat) (os : List Int) (P : Nat) : Prop where
  grew : Grew rb w wr
  rd : ∃ p, p ≤ P ∧ Rd wr rb Ar n' c' p
  l2 : Lies wr w.heap.size #[.slice none 0 0, .int .i64 0] 25
  l5 : Lies wr b5 #[.slice (some ⟨g, 0, none⟩) ns.length cap, .int .i64 r] 25
  same : ∀ k, w.heap.size + 1 ≤ k → k < b5 → wr.heap[k]? = w2.heap[k]?
  own : OwnI wr (b5 + 1) A c os
  wf : ∀ x ∈ os, In64 x
  h2 : rb < w.heap.size
  h4 : w.heap.size + 1 ≤ b5
  h7 : A ≠ none

theorem RtS.turn {w w2 wr w' : World} {rb b5 g cap n' c' c p P P' : Nat} {Ar A : Option Addr} {ns : List Nd} {r : Int} {os : List Int} (h : RtS w w2 wr rb b5 g cap Ar n' c' ns r A c os P) (hr : Rd w' rb Ar n' c' p) (ht : Turn rb wr w') (hp : p ≤ P') : RtS w w2 w' rb b5 g cap Ar n' c' ns r A c os P' := by
  have a2 := h.h2
  have a4 := h.h4
  have hG := Grew.of_turn ht
  exact ⟨h.grew.trans hG, ⟨p, hp, hr⟩, h.l2.grew hG (by omega), h.l5.grew hG (by omega), fun k h1 h2 => (ht.block k (by omega)).trans (h.same k h1 h2), h.own.ofR (fun b hb => ht.block b (by have := (h.own.blocks b hb).1; omega)), h.wf, a2, a4, h.h7⟩

theorem RtS.next {w w2 wr w' : World} {rb b5 g cap n' c' c c2 P P' : Nat} {Ar A A2 : Option Addr} {ns : List Nd} {r : Int} {os os2 : List Int} (h : RtS w w2 wr rb b5 g cap Ar n' c' ns r A c os P) (hb : Below (b5 + 1) wr w') (ho : OwnI w' (b5 + 1) A2 c2 os2) (hw : ∀ x ∈ os2, In64 x) (hA : A2 ≠ none) (hP : P ≤ P') : RtS w w2 w' rb b5 g cap Ar n' c' ns r A2 c2 os2 P' := by
  have a2 := h.h2
  have a4 := h.h4
  obtain ⟨p, hp, hr⟩ := h.rd
  have hgw : Grew rb w w' := ⟨hb.os.trans h.grew.os, hb.tape.trans h.grew.tape, hb.output.trans h.grew.output, Nat.le_trans h.grew.size hb.size, fun k hk hne => (hb.block k (by omega)).trans (h.grew.block k hk hne)⟩
  exact ⟨hgw, ⟨p, by omega, ⟨hr.box.below hb (by omega), hr.bytes.later (hb.mono (by omega)), hr.few⟩⟩, h.l2.below hb (by omega), h.l5.below hb (by omega), fun k h1 h2 => (hb.block k (by omega)).trans (h.same k h1 h2), ho, hw, a2, a4, hA⟩

theorem RtS.fin {w w2 X : World} {rb b5 g cap n' c' c P : Nat} {Ar A : Option Addr} {ns : List Nd} {r : Int} {os : List Int} (h : RtS w w2 X rb b5 g cap Ar n' c' ns r A c os P) (hn : NdsAt w2 b5 (some ⟨g, 0, none⟩) ns) (hk : KidsFrom w2 g (w.heap.size + 1) ns.length) (hg : w.heap.size + 1 ≤ g) (h1 : 1 ≤ ns.length) (h10 : ns.length ≤ 10) (hr : In64 r) (hl : os.length ≤ 5) :
    Hid (X.cell? ⟨w.heap.size, 0, none⟩ = some (.slice none 0 0) ∧ X.cell? ⟨w.heap.size, 1, none⟩ = some (.int .i64 0) ∧ X.frozen? ⟨w.heap.size, 0, none⟩ = false ∧ X.frozen? ⟨w.heap.size, 1, none⟩ = false ∧
      ((X.setCell ⟨w.heap.size, 0, none⟩ (.slice (some ⟨g, 0, none⟩) ns.length cap)).setCell ⟨w.heap.size, 1, none⟩ (.int .i64 r)).cell? ⟨w.heap.size, 0, none⟩ = some (.slice (some ⟨g, 0, none⟩) ns.length cap) ∧ ((X.setCell ⟨w.heap.size, 0, none⟩ (.slice (some ⟨g, 0, none⟩) ns.length cap)).setCell ⟨w.heap.size, 1, none⟩ (.int .i64 r)).cell? ⟨w.heap.size, 1, none⟩ = some (.int .i64 r) ∧
      DrawnRt rb Ar n' c' P w (.returned (.tuple #[.agg #[.slice (some ⟨g, 0, none⟩) ns.length cap, .int .i64 r], .slice A os.length c])) ((X.setCell ⟨w.heap.size, 0, none⟩ (.slice (some ⟨g, 0, none⟩) ns.length cap)).setCell ⟨w.heap.size, 1, none⟩ (.int .i64 r))) := by
  have l5 := (h.l2.set 0 (.slice (some ⟨g, 0, none⟩) ns.length cap)).set 1 (.int .i64 r)
  simp only [List.setIfInBounds_toArray, List.set_cons_succ, List.set_cons_zero] at l5
  have s0 := l5.cell 0
  have s1 := l5.cell 1
  have b0 := h.l2.cell 0
  have b1 := h.l2.cell 1
  simp only [List.getElem?_toArray, List.getElem?_cons_zero, List.getElem?_cons_succ] at s0 s1 b0 b1
  have a2 := h.h2
  have a4 := h.h4
  have a5 := h.l5.lt
  have hf : ∀ k, k ≠ w.heap.size → ((X.setCell ⟨w.heap.size, 0, none⟩ (.slice (some ⟨g, 0, none⟩) ns.length cap)).setCell ⟨w.heap.size, 1, none⟩ (.int .i64 r)).heap[k]? = X.heap[k]? := fun k hk => by
    rw [Below.heap_setCell _ _ _ _ (by show k ≠ w.heap.size; exact hk), Below.heap_setCell _ _ _ _ (by show k ≠ w.heap.size; exact hk)]
  have hsz : ((X.setCell ⟨w.heap.size, 0, none⟩ (.slice (some ⟨g, 0, none⟩) ns.length cap)).setCell ⟨w.heap.size, 1, none⟩ (.int .i64 r)).heap.size = X.heap.size := by simp
  obtain ⟨p, hp, hrd⟩ := h.rd
  refine ⟨b0, b1, h.l2.frozen 0, h.l2.frozen 1, s0, s1, g, cap, p, ns, r, A, os, c, rfl, hp, ?_, ?_, by omega, h1, h10, hr, ?_, hl, h.wf, ?_⟩
  · exact hrd.kept (w' := (X.setCell ⟨w.heap.size, 0, none⟩ (.slice (some ⟨g, 0, none⟩) ns.length cap)).setCell ⟨w.heap.size, 1, none⟩ (.int .i64 r)) ⟨rfl, rfl, rfl, by rw [hsz]; exact Nat.le_refl _, fun k hk => hf k (by omega)⟩
  · refine (hn.keptR hk hg (fun k h1 h2 => (hf k (by omega)).trans (h.same k h1 h2))).more ?_
    rw [hsz]; omega
  · exact (h.own.ofR (w' := (X.setCell ⟨w.heap.size, 0, none⟩ (.slice (some ⟨g, 0, none⟩) ns.length cap)).setCell ⟨w.heap.size, 1, none⟩ (.int .i64 r)) (fun b hb => hf b (by have := (h.own.blocks b hb).1; omega))).mono (by omega)
  · refine ⟨⟨h.grew.os, h.grew.tape, h.grew.output, by rw [hsz]; exact h.grew.size, fun k hk hne => (hf k (by omega)).trans (h.grew.block k hk hne)⟩, fun j hj A k d hc b hb => ?_⟩
    obtain ⟨b2, off2, e2, hlt2, _⟩ := hn.row (by intro e; rw [e] at h1; simp at h1)
    injection e2 with e2
    injection e2 with e2 _
    subst e2
    have hsg := (hf g (by omega)).trans (h.same g hg hlt2)
    have := hk j hj A k d ((World.cell?_of_block (w := w2) (a := ⟨g, j * 3 + 2, none⟩) hsg).symm.trans hc) b hb
    omega

theorem OwnI.frozR {w : World} {base g : Nat} {c : Nat} {xs : List Int} (h : OwnI w base (some ⟨g, 0, none⟩) c xs) (j : Nat) : w.frozen? ⟨g, j, none⟩ = false := by
  rcases h.own.2 with ⟨h1, _⟩ | ⟨g', cap, cur, hv, hg, hh, _⟩
  · injection h1 with h1
    cases h1
  · injection hv with hv _ hc
    obtain rfl : g = g' := by simpa using hv
    exact Lies.frozen hh j

theorem OwnI.setR {w : World} {base g : Nat} {c : Nat} {xs : List Int} (h : OwnI w base (some ⟨g, 0, none⟩) c xs) (j : Nat) (x : Int) :
    OwnI (w.setCell ⟨g, j, none⟩ (.int .i64 x)) base (some ⟨g, 0, none⟩) c (xs.set j x) := by
  have := (h.own.stored j (.int .i64 x)).1
  refine ⟨?_⟩
  rw [List.length_set, List.map_set]
  exact this

theorem OwnI.cellR {w : World} {base g : Nat} {c : Nat} {xs : List Int} (h : OwnI w base (some ⟨g, 0, none⟩) c xs) {j : Nat} {x : Int} (hj : xs[j]? = some x) : w.cell? ⟨g, j, none⟩ = some (.int .i64 x) := by
  rw [h.own.cellAt j (by have := (List.getElem?_eq_some_iff.1 hj).1; omega), List.getElem?_map, hj]
  rfl

theorem OwnI.someR {w : World} {base : Nat} {A : Option Addr} {c : Nat} {xs : List Int} (h : OwnI w base A c xs) (hx : xs ≠ []) : A ≠ none := by
  rcases h.form with ⟨_, _, h3⟩ | ⟨g, h3, _⟩
  · exact absurd h3 hx
  · rw [h3]; simp

set_option maxRecDepth 100000 in
set_option maxHeartbeats 2000000 in
theorem rootsOf_any (rb : Nat) (A : Option Addr) (nb cb p : Nat) (w : World) (h : Rd w rb A nb cb p) (hp : p < 600000) :
    Calls Try.prog 9 #[.pointer (some ⟨rb, 0, none⟩)] w (DrawnRt rb A nb cb (p + 300) w) := by
  have hrlt := h.box.lt
  have hB : Below w.heap.size w (w.alloc (.cells #[.slice none 0 0, .int .i64 0] 25)) := (Below.refl _ w).alloc (Nat.le_refl _) _
  have hr0 := h.below hB
  have l2 := Lies.new w #[.slice none 0 0, .int .i64 0] 25
  have hWs : (w.alloc (.cells #[.slice none 0 0, .int .i64 0] 25)).heap.size = w.heap.size + 1 := by simp
  clear h
  go_enter Try.func9, Try.ntmps9
  go_wp2_with fail
  generalize w.alloc (.cells #[.slice none 0 0, .int .i64 0] 25) = W at hB l2 hr0 hWs ⊢
  have HWs := hide hWs
  clear hWs
  refine (anyGraph_any rb A nb cb p W hr0 hp).mono ?_
  rintro e w2 ⟨g, cap, p', ns, r, rfl, hp', hr2, hnds, hg, h1, h10, hr64, hG, hkf⟩
  rw [HWs.out] at hg hkf
  have hs2 : w.heap.size + 1 ≤ w2.heap.size := by have := hG.size; have := HWs.out; omega
  have hS0 : RtS w w2 ((w2.alloc (.cells #[.slice (some ⟨g, 0, none⟩) ns.length cap, .int .i64 r] 25)).alloc (.cells #[] 3)) rb w2.heap.size g cap A nb cb ns r (some ⟨w2.heap.size + 1, 0, none⟩) 0 [] (p + 204) := by
    have hb : Below w2.heap.size w2 ((w2.alloc (.cells #[.slice (some ⟨g, 0, none⟩) ns.length cap, .int .i64 r] 25)).alloc (.cells #[] 3)) := ((Below.refl _ _).alloc (Nat.le_refl _) _).alloc (by simp) _
    have ho := OwnI.bare (w2.alloc (.cells #[.slice (some ⟨g, 0, none⟩) ns.length cap, .int .i64 r] 25))
    simp only [World.size_alloc] at ho
    have hgw : Grew rb w w2 := (Grew.of_below hB).trans hG
    exact ⟨hgw.trans (Grew.of_below hb), ⟨p', hp', hr2.below hb⟩, (l2.grew hG (by omega)).below hb (by omega), (Lies.new _ _ _).alloc _, fun k _ hk => hb.block k hk, ho, fun x hx => by simp at hx, hrlt, hs2, by simp⟩
  have HN := hide hnds
  have HK := hide hkf
  have HS0 := hide hS0
  clear hS0 l2 hB hnds hG hkf hr2 hr0
  go_wp2_with fail
  have hW3 : ((w2.alloc (.cells #[.slice (some ⟨g, 0, none⟩) ns.length cap, .int .i64 r] 25)).alloc (.cells #[] 3)).heap.size = w2.heap.size + 1 + 1 := by simp
  have HW3 := hide hW3
  clear hW3
  generalize (w2.alloc (.cells #[.slice (some ⟨g, 0, none⟩) ns.length cap, .int .i64 r] 25)).alloc (.cells #[] 3) = W3 at HS0 HW3 ⊢
  obtain ⟨pq, hpq, hrq⟩ := HS0.out.rd
  have hWl3 : rb < W3.heap.size := hrq.box.lt
  have hb5l := HS0.out.l5.lt
  generalize w2.heap.size = b5 at HS0 HN hs2 hb5l HW3 ⊢
  have hl := Lies.new W3 #[.int .i64 2, .int .i64 3, .int .i64 1, .int .i64 0, .int .i64 5] 3
  have hbl := (Below.refl W3.heap.size W3).alloc (Nat.le_refl _) (.cells #[.int .i64 2, .int .i64 3, .int .i64 1, .int .i64 0, .int .i64 5] 3)
  have hr4 := hrq.below hbl
  have HS4 := hide (HS0.out.next (hbl.mono (by omega)) (HS0.out.own.alloc _) HS0.out.wf HS0.out.h7 (Nat.le_refl _))
  clear HS0 hrq hbl
  generalize W3.alloc (.cells #[.int .i64 2, .int .i64 3, .int .i64 1, .int .i64 0, .int .i64 5] 3) = W4 at HS4 hl hr4 ⊢
  rw [HW3.out] at hl hWl3
  refine (one_any rb A nb cb pq (b5 + 1 + 1) 5 5 [2, 3, 1, 0, 5] W4 hr4 (by omega) rfl (by omega) (by omega) (by omega) (fun k y hk => ?_)).mono ?_
  · rw [hl.cell]
    match k, hk with
    | 0, hk => simp at hk; subst hk; rfl
    | 1, hk => simp at hk; subst hk; rfl
    | 2, hk => simp at hk; subst hk; rfl
    | 3, hk => simp at hk; subst hk; rfl
    | 4, hk => simp at hk; subst hk; rfl
    | k + 5, hk => simp at hk
  rintro e w5 ⟨⟨x, hx, rfl⟩, hr5, ht5⟩
  have HS5 := hide (HS4.out.turn hr5 ht5 (P' := p + 205) (by omega))
  obtain ⟨m, rfl, hm5⟩ : ∃ m : Nat, x = (m : Int) ∧ m ≤ 5 := by
    have : 0 ≤ x ∧ x ≤ 5 := by simp at hx; rcases hx with rfl | rfl | rfl | rfl | rfl <;> omega
    obtain ⟨m, rfl⟩ := Int.eq_ofNat_of_zero_le this.1
    exact ⟨m, rfl, by omega⟩
  clear HS4 hr5 ht5 hl hx hr4
  go_wp2_with fail
  go_loopw [5, 6] (fun ov iv wr => ∃ (k : Nat) (Ao : Option Addr) (co : Nat) (os : List Int), os.length + k ≤ 5 ∧ iv = .int .i64 (k : Int) ∧ ov = .slice Ao os.length co ∧ RtS w w2 wr rb b5 g cap A nb cb ns r Ao co os (p + 205 + os.length)) (fun _ iv _ => (intOf iv).toNat)
  case atStart => exact ⟨m, _, 0, [], by simp; omega, rfl, rfl, HS5.out⟩
  case round =>
    clear HS5
    obtain ⟨k, Ao, co, os, hk, rfl, rfl, hS⟩ := hrel
    have HS := hide hS
    have hol : os.length ≤ 5 := by omega
    have hk5 : k ≤ 5 := by omega
    have e0 := hS.l5.cell 0
    have e1 := hS.l5.cell 1
    simp at e0 e1
    obtain ⟨p1, hp1, hrd⟩ := hS.rd
    obtain ⟨gb, rfl⟩ : ∃ gb, Ao = some ⟨gb, 0, none⟩ := by
      rcases HS.out.own.form with ⟨h1, _, _⟩ | ⟨gb, h1, _⟩
      · exact absurd h1 HS.out.h7
      · exact ⟨gb, h1⟩
    by_cases hlt : 0 < k
    · have hk1 : (0 : Int) < (k : Int) := by omega
      clear hS
      go_wp2_with fail
      refine (pick_any rb A nb cb p1 (ns.length : Int) wr hrd (by omega) (by omega)).mono ?_
      rintro e w3 ⟨⟨j, rfl, hj, _⟩, hr3, ht3⟩
      have hj2 : j < 1000 := by have := hj (by omega); omega
      have HS3 := hide (HS.out.turn hr3 ht3 (P' := p + 205 + (os.length + 1)) (by omega))
      have hj64 : In64 (j : Int) := by constructor <;> omega
      have hb5 := HS3.out.l5.lt
      clear HS hr3 ht3 e0 e1 hrd hj hp1 hk1
      go_wp2_with (at_builtin; refine append_ints rfl (.tmp 17) (.tmp 23) rfl (b5 + 1) (some ⟨gb, 0, none⟩) co os rfl (HS3.out.own.alloc _) (w3.heap.size + 1) _ 1 [(j : Int)] rfl (fun e => by cases e) (IntsAt.one w3 (j : Int) hj64) (by simp <;> omega) (by simp <;> omega) ?_; intro zs A3 c3 w4 hz ho3 hg3 ha3)
      have hb34 : Below (b5 + 1) w3 w4 := below_grown ((Below.refl _ _).alloc (by omega) _) hg3 (by simp; omega) (fun q hq => by have := (HS3.out.own.blocks q hq).1; omega)
      have hzl : zs.length = os.length + 1 := by rw [hz.out]; simp
      have HZL := hide hzl
      have HF := hide (HS3.out.next hb34 ho3 (fun x hx => by
        rw [hz.out] at hx
        simp only [List.mem_append, List.mem_singleton] at hx
        rcases hx with hx | rfl
        · exact HS3.out.wf x hx
        · exact hj64) (ho3.someR (by rw [hz.out]; simp)) (Nat.le_refl _))
      clear hb34 hzl ho3 hg3 ha3 hb5 HS3
      go_wp2
      go_roundw
      case rel => exact ⟨k - 1, A3, c3, zs, by have := HZL.out; omega, by go_num, rfl, by rw [HZL.out]; exact HF.out⟩
      case measure => simp [intOf]; omega
    · obtain rfl : k = 0 := by omega
      clear hlt
      by_cases hpos : 0 < os.length
      · have hp0 : (0 : Int) < (os.length : Int) := by omega
        obtain ⟨y, hy⟩ : ∃ y, os[0]? = some y := ⟨_, List.getElem?_eq_getElem hpos⟩
        clear hS
        go_wp2_with fail
        refine (pick_any rb A nb cb p1 16 wr hrd (by omega) (by omega)).mono ?_
        rintro e w3 ⟨⟨j, rfl, hj, _⟩, hr3, ht3⟩
        have HS3 := hide (HS.out.turn hr3 ht3 (P' := p + 250) (by omega))
        clear HS hr3 ht3 e0 e1 hrd hj hp1
        by_cases hj0 : j = 0
        · subst hj0
          obtain ⟨p3, hp3, hr3⟩ := HS3.out.rd
          have hl := Lies.new w3 #[.int .i64 (-1), .int .i64 12] 3
          have hbl := (Below.refl w3.heap.size w3).alloc (Nat.le_refl _) (.cells #[.int .i64 (-1), .int .i64 12] 3)
          have hr4 := hr3.below hbl
          have hb5 := HS3.out.l5.lt
          have HS4 := hide (HS3.out.next (hbl.mono (by omega)) (HS3.out.own.alloc _) HS3.out.wf HS3.out.h7 (Nat.le_refl _))
          have hrb3 : rb < w3.heap.size := hr3.box.lt
          clear HS3 hr3 hbl
          go_wp2_with fail
          generalize w3.alloc (.cells #[.int .i64 (-1), .int .i64 12] 3) = w4 at HS4 hl hr4 ⊢
          generalize w3.heap.size = gl2 at hl hrb3 ⊢
          refine (one_any rb A nb cb p3 gl2 2 2 [-1, 12] w4 hr4 (by omega) rfl (by omega) (by omega) (by omega) (fun k y hk => ?_)).mono ?_
          · rw [hl.cell]
            match k, hk with
            | 0, hk => simp at hk; subst hk; rfl
            | 1, hk => simp at hk; subst hk; rfl
            | k + 2, hk => simp at hk
          rintro e w6 ⟨⟨z, hz, rfl⟩, hr6, ht6⟩
          have hz64 : In64 z := by
            simp at hz
            rcases hz with rfl | rfl <;> constructor <;> omega
          have HS6 := hide (HS4.out.turn hr6 ht6 (P' := p + 260) (by omega))
          have f0 := HS6.out.own.frozR 0
          have c0 := HS6.out.own.cellR hy
          have hgb := HS6.out.own.blocks gb rfl
          have HS7 := hide (HS6.out.next (w' := w6.setCell ⟨gb, 0, none⟩ (.int .i64 z)) ((Below.refl _ _).setCell (p := ⟨gb, 0, none⟩) hgb.1 _) (HS6.out.own.setR 0 z) (fun v hv => by
            rcases List.mem_or_eq_of_mem_set hv with hv | rfl
            · exact HS6.out.wf v hv
            · exact hz64) (by simp) (Nat.le_refl _))
          have hfin := HS7.out.fin HN.out HK.out hg h1 h10 hr64 (by simp; omega)
          rw [List.length_set] at hfin
          obtain ⟨b0, b1, g0, g1, s0, s1, hD⟩ := hfin.out
          have d0 := HS7.out.l5.cell 0
          have d1 := HS7.out.l5.cell 1
          simp only [List.getElem?_toArray, List.getElem?_cons_zero, List.getElem?_cons_succ] at d0 d1
          have HD := hide hD
          have HX : ∃ X, X = w6.setCell ⟨gb, 0, none⟩ (.int .i64 z) := ⟨_, rfl⟩
          clear HS4 hr6 ht6 hl hr4 hz hfin hD HS6 HS7
          go_upto_region 9 with fail
          generalize w6.setCell ⟨gb, 0, none⟩ (.int .i64 z) = X at b0 b1 g0 g1 s0 s1 d0 d1 HD ⊢
          clear f0 c0
          go_wp2
          refine bodyPost_ret (v := .tuple #[.agg #[.slice (some ⟨g, 0, none⟩) ns.length cap, .int .i64 r], .slice (some ⟨gb, 0, none⟩) os.length co]) (by simp [results, Try.results9, go_sem, s0, s1]) rfl ?_
          obtain ⟨g', cap', p', ns', r', Ao', os', co', q1, q2, q3⟩ := HD.out
          exact ⟨g', cap', p', ns', r', Ao', os', co', q1, by omega, q3⟩
        · have t0 : ((j : Int) == 0) = false := by simp; omega
          have hfin := HS3.out.fin HN.out HK.out hg h1 h10 hr64 (by omega)
          obtain ⟨b0, b1, g0, g1, s0, s1, hD⟩ := hfin.out
          have d0 := HS3.out.l5.cell 0
          have d1 := HS3.out.l5.cell 1
          simp only [List.getElem?_toArray, List.getElem?_cons_zero, List.getElem?_cons_succ] at d0 d1
          have HD := hide hD
          clear hfin hD HS3
          go_wp2
          refine bodyPost_ret (v := .tuple #[.agg #[.slice (some ⟨g, 0, none⟩) ns.length cap, .int .i64 r], .slice (some ⟨gb, 0, none⟩) os.length co]) (by simp [results, Try.results9, go_sem, s0, s1]) rfl ?_
          obtain ⟨g', cap', p', ns', r', Ao', os', co', q1, q2, q3⟩ := HD.out
          exact ⟨g', cap', p', ns', r', Ao', os', co', q1, by omega, q3⟩
      · have hp0 : decide ((0 : Int) < (os.length : Int)) = false := decide_eq_false (by omega)
        have hnil : Hid (os = []) := hide (List.eq_nil_of_length_eq_zero (by omega))
        have hfin := hS.fin HN.out HK.out hg h1 h10 hr64 (by omega)
        obtain ⟨b0, b1, g0, g1, s0, s1, hD⟩ := hfin.out
        have HD := hide hD
        clear hfin hD hS HS
        go_wp2
        refine bodyPost_ret (v := .tuple #[.agg #[.slice (some ⟨g, 0, none⟩) ns.length cap, .int .i64 r], .slice (some ⟨gb, 0, none⟩) os.length co]) (by simp [results, Try.results9, go_sem, s0, s1]) rfl ?_
        obtain ⟨g', cap', p', ns', r', Ao', os', co', q1, q2, q3⟩ := HD.out
        exact ⟨g', cap', p', ns', r', Ao', os', co', q1, by omega, q3⟩

end Go.Proofs.Ythdldkbeccmcmab
