/-
  The generator's draw for RenumberGraph: some graph and some list that can be read come back.
-/
import Derived.Test.YtigelbilfddhgabPjAh
import Derived.Test.YtigelbilfddhgabAnyGraph
import Derived.Test.YtigelbilfddhgabPjAb
import Derived.Test.YtigelbilfddhgabPjAf
import Derived.Deep.LoopGhost
import Derived.Deep.RegionHeld3
import Derived.Deep.RegionLaw
import Derived.Deep.RegionHeld
namespace Go.Proofs.Ytigelbilfddhgab
open Go.RowKit
set_option linter.unusedVariables false

theorem OwnI.ofK {w w' : World} {base : Nat} {A : Option Addr} {c : Nat} {xs : List Int} (h : OwnI w base A c xs) (hA : ∀ g, blockOf A = some g → w'.heap[g]? = w.heap[g]?) : OwnI w' base A c xs := by
  refine ⟨h.own.1, ?_⟩
  rcases h.own.2 with h2 | ⟨g, cap, cur, hv, hg, hh, r⟩
  · exact .inl h2
  · refine .inr ⟨g, cap, cur, hv, hg, ?_, r⟩
    rw [hA g (by injection hv with hv; rw [hv]; rfl)]
    exact hh

theorem OwnI.pre {w : World} {base : Nat} {A : Option Addr} {c : Nat} {xs : List Int} (h : OwnI w base A c xs) {k : Nat} (hk : k ≤ xs.length) : OwnI w base A c (xs.take k) := by
  have hl : (xs.take k).length = k := by simp; omega
  obtain ⟨h1, h2⟩ := h.own
  refine ⟨⟨by simp, ?_⟩⟩
  rcases h2 with ⟨h3, h4⟩ | ⟨g, cap, cur, hv, hg, hh, hn, hm, hs, ht⟩
  · have : xs = [] := List.eq_nil_of_length_eq_zero h4
    subst this
    exact .inl ⟨by simpa using h3, by simp⟩
  · refine .inr ⟨g, cap, cur, ?_, hg, hh, by omega, hm, hs, ?_⟩
    · injection hv with e1 _ e3
      rw [e1, e3]
    · rw [hl]
      have := congrArg (fun l => l.take k) ht
      simp only [List.take_take, Nat.mul_one] at this
      rw [Nat.min_eq_left hk] at this
      rw [Nat.mul_one, this, List.map_take]

theorem IntsAt.from {w : World} {B : Nat} {A : Option Addr} {xs : List Int} (b off : Nat) (hA : A = some ⟨b, off, none⟩) (h : IntsAt w B A xs) (k : Nat) : IntsAt w B (some ⟨b, off + k, none⟩) (xs.drop k) := by
  subst hA
  refine ⟨fun hx => ?_, fun x hx => h.wf x (List.mem_of_mem_drop hx), Nat.le_trans (by simp) h.len⟩
  obtain ⟨b', off', e, hlt, hc⟩ := h.row (by intro e; subst e; simp at hx)
  injection e with e
  injection e with e1 e2
  subst e1 e2
  refine ⟨b, off + k, rfl, hlt, fun j x hj => ?_⟩
  rw [List.getElem?_drop] at hj
  have := hc (k + j) x hj
  rwa [← Nat.add_assoc] at this

/-- some graph and some list that can be read come back, and old memory is as it was -/
def DrawnR (w : World) (e : Ending) (w' : World) : Prop :=
  ∃ (g cap : Nat) (ns : List Nd) (r : Int) (A : Option Addr) (os : List Int) (c : Nat), e = .returned (.tuple #[.agg #[.slice (some ⟨g, 0, none⟩) ns.length cap, .int .i64 r], .slice A os.length c]) ∧ NdsAt w' w'.heap.size (some ⟨g, 0, none⟩) ns ∧ In64 r ∧ IntsAt w' w'.heap.size A os ∧ os.length ≤ c ∧ Below w.heap.size w w'

theorem OwnI.capLe' {w : World} {base : Nat} {A : Option Addr} {c : Nat} {xs : List Int} (h : OwnI w base A c xs) : xs.length ≤ c := by
  rcases h.own with ⟨hl, hh⟩
  rcases hh with ⟨h1, h2⟩ | ⟨g, cap, cur, hv, hg, hh, hle, hm, hs, hx⟩
  · rw [h2]; exact Nat.zero_le _
  · injection hv with _ _ h3
    subst h3
    exact hle

theorem NdsAt.keptS {w w' : World} {B g lo : Nat} {ns : List Nd} (h : NdsAt w B (some ⟨g, 0, none⟩) ns) (hk : KidsFrom w g lo ns.length) (hg : lo ≤ g) (hs : ∀ k, lo ≤ k → k < B → w'.heap[k]? = w.heap[k]?) : NdsAt w' B (some ⟨g, 0, none⟩) ns := by
  refine ⟨fun hx => ?_, h.len⟩
  obtain ⟨b, off, e, hlt, hn⟩ := h.row hx
  injection e with e
  injection e with e1 e2
  subst e1 e2
  refine ⟨g, 0, rfl, hlt, fun j n hj => ?_⟩
  obtain ⟨a0, a1, ⟨A, c, a2, a3, a4⟩, a5, a6⟩ := hn j n hj
  have hc := fun q => World.cell?_of_block (w := w) (w' := w') (a := ⟨g, q, none⟩) (hs g hg hlt)
  refine ⟨(hc _).trans a0, (hc _).trans a1, ⟨A, c, (hc _).trans a2, ⟨fun hne => ?_, a3.wf, a3.len⟩, a4⟩, a5, a6⟩
  obtain ⟨b2, off2, rfl, hb2, hcell⟩ := a3.row hne
  rw [Nat.zero_add] at a2
  have hlo := hk j (List.getElem?_eq_some_iff.1 hj).1 _ _ _ a2 b2 rfl
  exact ⟨b2, off2, rfl, hb2, fun i x hi => (World.cell?_of_block (w := w) (hs b2 hlo hb2)).trans (hcell i x hi)⟩

theorem Rd.belowB {w w' : World} {B rb : Nat} {A : Option Addr} {n c p : Nat} (h : Rd w rb A n c p) (hb : Below B w w') (hB : rb < B) : Rd w' rb A n c p :=
  ⟨h.box.below hb hB, h.bytes.later (hb.mono (Nat.le_of_lt hB)), h.few⟩

/-- the memory while the list grows -/
structure DrS (w w2 wr : World) (rb lo b5 q g cap : Nat) (Ar : Option Addr) (n' c' : Nat) (ns : List Nd) (r : Int) (A : Option Addr) (c : Nat) (os : List Int) (P : Nat) : Prop where
  bel : Below w.heap.size w wr
  rd : ∃ p, p ≤ P ∧ Rd wr rb Ar n' c' p
  l2 : Lies wr q #[.slice none 0 0, .int .i64 0] 25
  l5 : Lies wr b5 #[.slice (some ⟨g, 0, none⟩) ns.length cap, .int .i64 r] 25
  same : ∀ k, lo ≤ k → k < b5 → wr.heap[k]? = w2.heap[k]?
  own : OwnI wr (b5 + 1) A c os
  wf : ∀ x ∈ os, In64 x
  h1 : w.heap.size ≤ q
  h2 : q < rb
  h3 : rb < lo
  h4 : lo ≤ b5
  h7 : A ≠ none

theorem DrS.turn {w w2 wr w' : World} {rb lo b5 q g cap n' c' c p P P' : Nat} {Ar A : Option Addr} {ns : List Nd} {r : Int} {os : List Int} (h : DrS w w2 wr rb lo b5 q g cap Ar n' c' ns r A c os P) (hr : Rd w' rb Ar n' c' p) (ht : Turn rb wr w') (hp : p ≤ P') : DrS w w2 w' rb lo b5 q g cap Ar n' c' ns r A c os P' := by
  have a1 := h.h1
  have a2 := h.h2
  have a3 := h.h3
  have a4 := h.h4
  have hG := Grew.of_turn ht
  exact ⟨hG.below h.bel (by omega) h.bel.size, ⟨p, hp, hr⟩, h.l2.grew hG (by omega), h.l5.grew hG (by omega), fun k h1 h2 => (ht.block k (by omega)).trans (h.same k h1 h2), h.own.ofK (fun b hb => ht.block b (by have := (h.own.blocks b hb).1; omega)), h.wf, a1, a2, a3, a4, h.h7⟩

theorem DrS.next {w w2 wr w' : World} {rb lo b5 q g cap n' c' c c2 P P' : Nat} {Ar A A2 : Option Addr} {ns : List Nd} {r : Int} {os os2 : List Int} (h : DrS w w2 wr rb lo b5 q g cap Ar n' c' ns r A c os P) (hb : Below (b5 + 1) wr w') (ho : OwnI w' (b5 + 1) A2 c2 os2) (hw : ∀ x ∈ os2, In64 x) (hA : A2 ≠ none) (hP : P ≤ P') : DrS w w2 w' rb lo b5 q g cap Ar n' c' ns r A2 c2 os2 P' := by
  have a1 := h.h1
  have a2 := h.h2
  have a3 := h.h3
  have a4 := h.h4
  obtain ⟨p, hp, hr⟩ := h.rd
  exact ⟨h.bel.trans (hb.mono (by omega)), ⟨p, by omega, hr.belowB hb (by omega)⟩, h.l2.below hb (by omega), h.l5.below hb (by omega), fun k h1 h2 => (hb.block k (by omega)).trans (h.same k h1 h2), ho, hw, a1, a2, a3, a4, hA⟩

theorem OwnI.some_ {w : World} {base : Nat} {A : Option Addr} {c : Nat} {xs : List Int} (h : OwnI w base A c xs) (hx : xs ≠ []) : A ≠ none := by
  rcases h.form with ⟨_, _, h3⟩ | ⟨g, h3, _⟩
  · exact absurd h3 hx
  · rw [h3]; simp

theorem DrS.fin {w w2 X : World} {rb lo b5 q g cap n' c' c P : Nat} {Ar A : Option Addr} {ns : List Nd} {r : Int} {os : List Int} (h : DrS w w2 X rb lo b5 q g cap Ar n' c' ns r A c os P) (hn : NdsAt w2 b5 (some ⟨g, 0, none⟩) ns) (hk : KidsFrom w2 g lo ns.length) (hg : lo ≤ g) (hr : In64 r) (hl : os.length ≤ 1000) :
    Hid (X.cell? ⟨q, 0, none⟩ = some (.slice none 0 0) ∧ X.cell? ⟨q, 1, none⟩ = some (.int .i64 0) ∧ X.frozen? ⟨q, 0, none⟩ = false ∧ X.frozen? ⟨q, 1, none⟩ = false ∧
      ((X.setCell ⟨q, 0, none⟩ (.slice (some ⟨g, 0, none⟩) ns.length cap)).setCell ⟨q, 1, none⟩ (.int .i64 r)).cell? ⟨q, 0, none⟩ = some (.slice (some ⟨g, 0, none⟩) ns.length cap) ∧ ((X.setCell ⟨q, 0, none⟩ (.slice (some ⟨g, 0, none⟩) ns.length cap)).setCell ⟨q, 1, none⟩ (.int .i64 r)).cell? ⟨q, 1, none⟩ = some (.int .i64 r) ∧
      DrawnR w (.returned (.tuple #[.agg #[.slice (some ⟨g, 0, none⟩) ns.length cap, .int .i64 r], .slice A os.length c])) ((X.setCell ⟨q, 0, none⟩ (.slice (some ⟨g, 0, none⟩) ns.length cap)).setCell ⟨q, 1, none⟩ (.int .i64 r))) := by
  have l5 := (h.l2.set 0 (.slice (some ⟨g, 0, none⟩) ns.length cap)).set 1 (.int .i64 r)
  simp only [List.setIfInBounds_toArray, List.set_cons_succ, List.set_cons_zero] at l5
  have s0 := l5.cell 0
  have s1 := l5.cell 1
  have b0 := h.l2.cell 0
  have b1 := h.l2.cell 1
  simp only [List.getElem?_toArray, List.getElem?_cons_zero, List.getElem?_cons_succ] at s0 s1 b0 b1
  have a1 := h.h1
  have a2 := h.h2
  have a3 := h.h3
  have a4 := h.h4
  have a5 := h.l5.lt
  have hf : ∀ k, k ≠ q → ((X.setCell ⟨q, 0, none⟩ (.slice (some ⟨g, 0, none⟩) ns.length cap)).setCell ⟨q, 1, none⟩ (.int .i64 r)).heap[k]? = X.heap[k]? := fun k hk => by
    rw [Below.heap_setCell _ _ _ _ (by show k ≠ q; exact hk), Below.heap_setCell _ _ _ _ (by show k ≠ q; exact hk)]
  have hsz : ((X.setCell ⟨q, 0, none⟩ (.slice (some ⟨g, 0, none⟩) ns.length cap)).setCell ⟨q, 1, none⟩ (.int .i64 r)).heap.size = X.heap.size := by simp
  refine ⟨b0, b1, h.l2.frozen 0, h.l2.frozen 1, s0, s1, g, cap, ns, r, A, os, c, rfl, ?_, hr, ?_, h.own.capLe', ?_⟩
  · refine (hn.keptS hk hg (fun k h1 h2 => (hf k (by omega)).trans (h.same k h1 h2))).more ?_
    rw [hsz]; omega
  · have ho := h.own.ofK (w' := (X.setCell ⟨q, 0, none⟩ (.slice (some ⟨g, 0, none⟩) ns.length cap)).setCell ⟨q, 1, none⟩ (.int .i64 r)) (fun b hb => hf b (by have := (h.own.blocks b hb).1; omega))
    exact ho.ints h.wf (by omega)
  · exact (h.bel.setCell (p := ⟨q, 0, none⟩) a1 _).setCell (p := ⟨q, 1, none⟩) a1 _

theorem OwnI.cellJ {w : World} {base g : Nat} {c : Nat} {xs : List Int} (h : OwnI w base (some ⟨g, 0, none⟩) c xs) {j : Nat} {x : Int} (hj : xs[j]? = some x) : w.cell? ⟨g, j, none⟩ = some (.int .i64 x) := by
  rw [h.own.cellAt j (by have := (List.getElem?_eq_some_iff.1 hj).1; omega), List.getElem?_map, hj]
  rfl

theorem OwnI.froz {w : World} {base g : Nat} {c : Nat} {xs : List Int} (h : OwnI w base (some ⟨g, 0, none⟩) c xs) (j : Nat) : w.frozen? ⟨g, j, none⟩ = false := by
  rcases h.own.2 with ⟨h1, _⟩ | ⟨g', cap, cur, hv, hg, hh, _⟩
  · injection h1 with h1
    cases h1
  · injection hv with hv _ hc
    obtain rfl : g = g' := by simpa using hv
    exact Lies.frozen hh j

theorem OwnI.setJ {w : World} {base g : Nat} {c : Nat} {xs : List Int} (h : OwnI w base (some ⟨g, 0, none⟩) c xs) (j : Nat) (x : Int) :
    OwnI (w.setCell ⟨g, j, none⟩ (.int .i64 x)) base (some ⟨g, 0, none⟩) c (xs.set j x) := by
  have := (h.own.stored j (.int .i64 x)).1
  refine ⟨?_⟩
  rw [List.length_set, List.map_set]
  exact this

set_option maxHeartbeats 2000000 in
theorem drawRenumber_any (A : Option Addr) (n c : Nat) (w : World) (h : BytesAt w w.heap.size A n) (hc : n ≤ c) (hn : n ≤ 9223372036854775807) :
    Calls Try.prog 4 #[.slice A n c] w (DrawnR w) := by
  have hB : Below w.heap.size w (w.alloc (.cells #[.slice none 0 0, .int .i64 0] 25)) := (Below.refl _ w).alloc (Nat.le_refl _) _
  have l2 := Lies.new w #[.slice none 0 0, .int .i64 0] 25
  have h2 := (h.later hB).more hB.size
  clear h
  go_enter Try.func4, Try.ntmps4
  go_wp2_with fail
  generalize w.alloc (.cells #[.slice none 0 0, .int .i64 0] 25) = W at hB l2 h2 ⊢
  refine (newReader_any A n c W h2 hc hn).mono ?_
  rintro e w1 ⟨rfl, ⟨n', c', hrd⟩, hb1⟩
  have l3 := l2.below hb1 l2.lt
  have hB1 := hB.trans (hb1.mono hB.size)
  have hrl := hrd.box.lt
  have hwl := l2.lt
  clear l2 h2 hB hb1
  generalize W.heap.size = rb at hrd hrl hwl ⊢
  go_wp2_with fail
  refine (anyGraph_any rb A n' c' 0 w1 hrd (by omega)).mono ?_
  rintro e w2 ⟨g, cap, p', ns, r, rfl, hp', hr2, hnds, hg, h1, h10, hr64, hG, hkf⟩
  have l4 : Lies w2 w.heap.size _ _ := l3.grew hG (by omega)
  have hB2 : Below w.heap.size w w2 := hG.below hB1 (by omega) (by omega)
  have hs2 := hG.size
  have hS0 : DrS w w2 ((w2.alloc (.cells #[.slice (some ⟨g, 0, none⟩) ns.length cap, .int .i64 r] 25)).alloc (.cells #[] 3)) rb w1.heap.size w2.heap.size w.heap.size g cap A n' c' ns r (some ⟨w2.heap.size + 1, 0, none⟩) 0 [] 300 := by
    have hb : Below w2.heap.size w2 ((w2.alloc (.cells #[.slice (some ⟨g, 0, none⟩) ns.length cap, .int .i64 r] 25)).alloc (.cells #[] 3)) := ((Below.refl _ _).alloc (Nat.le_refl _) _).alloc (by simp) _
    have ho := OwnI.bare (w2.alloc (.cells #[.slice (some ⟨g, 0, none⟩) ns.length cap, .int .i64 r] 25))
    simp only [World.size_alloc] at ho
    exact ⟨hB2.trans (hb.mono (by omega)), ⟨p', by omega, hr2.below hb⟩, l4.below hb (by have := l4.lt; omega), (Lies.new _ _ _).alloc _, fun k _ hk => hb.block k hk, ho, fun x hx => by simp at hx, Nat.le_refl _, hwl, hrl, hs2, by simp⟩
  have HN := hide hnds
  have HK := hide hkf
  have HS0 := hide hS0
  clear hS0 l3 l4 hB1 hB2 hnds hG hkf hr2 hrd
  go_wp2_with fail
  generalize (w2.alloc (.cells #[.slice (some ⟨g, 0, none⟩) ns.length cap, .int .i64 r] 25)).alloc (.cells #[] 3) = W3 at HS0 ⊢
  generalize w2.heap.size = b5 at HS0 HN hs2 ⊢
  generalize w1.heap.size = lo at HS0 HK hs2 hg hrl ⊢
  go_loopg [6, 7, 8, 9] ns.length (fun gk ov iv _ _ wr => ∃ (k : Nat) (Ao : Option Addr) (co : Nat) (os : List Int), k ≤ ns.length ∧ gk = ns.length - k ∧ iv = .int .i64 (k : Int) ∧ ov = .slice Ao os.length co ∧ os.length = k ∧ DrS w w2 wr rb lo b5 w.heap.size g cap A n' c' ns r Ao co os (300 + k))
  case atStart => exact ⟨0, _, 0, [], Nat.zero_le _, rfl, rfl, rfl, rfl, HS0.out⟩
  case round =>
    clear HS0
    obtain ⟨k, Ao, co, os, hk, rfl, rfl, rfl, hok, hS⟩ := hrel
    have HS := hide hS
    have hol : os.length ≤ 10 := by omega
    have hop : 300 + k ≤ 310 := by omega
    have Hok := hide hok
    clear hok
    have e0 := hS.l5.cell 0
    have e1 := hS.l5.cell 1
    simp at e0 e1
    obtain ⟨p, hp, hrd⟩ := hS.rd
    obtain ⟨gb, rfl⟩ : ∃ gb, Ao = some ⟨gb, 0, none⟩ := by
      rcases HS.out.own.form with ⟨h1, _, _⟩ | ⟨gb, h1, _⟩
      · exact absurd h1 HS.out.h7
      · exact ⟨gb, h1⟩
    by_cases hlt : k < ns.length
    · have hk1 : (k : Int) < (ns.length : Int) := by omega
      clear hS
      go_wp2_with fail
      refine (pick_any rb A n' c' p ((os.length : Int) + 1) wr hrd (by omega) (by omega)).mono ?_
      rintro e w3 ⟨⟨j, rfl, hj, _⟩, hr3, ht3⟩
      have hj2 : j ≤ os.length := by have := hj (by omega); omega
      have HS3 := hide (HS.out.turn hr3 ht3 (P' := 300 + (k + 1)) (by omega))
      have hcap := HS3.out.own.capLe'
      have hj3 : (0 : Int) ≤ (j : Int) := by omega
      have hj4 : (j : Int) ≤ (os.length : Int) := by omega
      have hj5 : (j : Int) ≤ (co : Int) := by omega
      have hj6 : (os.length : Int) ≤ (co : Int) := by omega
      have HLT := hide hlt
      clear HS hr3 ht3 e0 e1 hrd hj hlt hp hk1
      have hI0 := HS3.out.own.ints HS3.out.wf (by omega)
      by_cases hcj : co = j
      · have hcj' : j = co := hcj.symm
        subst hcj'
        have hI1 : IntsAt w3 w3.heap.size (some ⟨gb, 0, none⟩) (os.drop j) := by
          rw [List.drop_eq_nil_of_le (by omega)]
          exact ⟨fun h => absurd rfl h, fun x hx => by simp at hx, by simp⟩
        have hdl0 : (os.drop j).length = 0 := by simp; omega
        clear hI0
        go_wp2_with fail
        all_goals first | (exfalso; omega) | skip
        have HC0 := copyInts_any (some ⟨gb, 0, none⟩) (os.drop j) 0 w3 hI1 (fun e => by cases e) (by simp; omega)
        rw [hdl0] at HC0
        refine HC0.mono ?_
        clear HC0
        rintro e w4 ⟨A2, c2, he4, ho2, hb4⟩
        rw [hdl0] at he4
        subst he4
        have hdl : (os.drop j).length = 0 := by simp; omega
        have hgb := HS3.out.own.blocks gb rfl
        have hne2 : ∀ b, blockOf A2 = some b → b ≠ gb := fun b hb => by have := (ho2.blocks b hb).1; omega
        have HD := hide (HS3.out.next (hb4.mono (by have := HS3.out.l5.lt; omega)) (HS3.out.own.below hb4) HS3.out.wf HS3.out.h7 (Nat.le_refl _))
        have hs34 := hb4.size
        have htl : (os.take j).length = j := by simp; omega
        have HO2 := hide ho2
        have HNE := hide hne2
        have HB4 := hide hb4
        have h64 : ∀ x ∈ os.drop j, In64 x := fun x hx => HS3.out.wf x (List.mem_of_mem_drop hx)
        have h64t : ∀ x ∈ os.take j, In64 x := fun x hx => HS3.out.wf x (List.mem_of_mem_take hx)
        have H64 := hide h64
        have H64t := hide h64t
        have hb5 := HD.out.l5.lt
        have hk64 : In64 (k : Int) := by constructor <;> omega
        clear ho2 hne2 hb4 h64 h64t HS3
        go_wp2_with (first
          | (at_builtin; refine append_ints rfl (.tmp 33) (.tmp 35) rfl (b5 + 1) (some ⟨gb, 0, none⟩) j (os.take j) (by rw [htl]; rfl) ((HD.out.own.pre hj2).alloc _) (w4.heap.size + 1) _ 1 [(k : Int)] rfl (fun e => by cases e) (IntsAt.one w4 (k : Int) hk64) (by simp; omega) (by simp; omega) ?_; intro zs A3 c3 w5 hz ho3 hg3 ha3; have ho25 : OwnI w5 w3.heap.size A2 c2 (os.drop j) := (HO2.out.alloc _).kept hg3 (by cases hA2 : blockOf A2 with
              | none => exact .inl rfl
              | some b => exact .inr (fun e => HNE.out b hA2 (by injection e))); have hi25 := ho25.ints H64.out (by omega); have hs5 := hg3.size; simp at hs5)
          | (at_builtin; refine append_ints rfl (.tmp 36) (.tmp 37) rfl (b5 + 1) A3 c3 zs rfl ho3 w5.heap.size A2 c2 (os.drop j) (by rw [hdl]; rfl) HO2.out.nil hi25 (by rw [hz.out]; simp; omega) (by omega) ?_; intro ys A4 c4 w6 hy ho4 hg4 ha4))
        have hb45 : Below (b5 + 1) w4 w5 := below_grown ((Below.refl _ _).alloc (by omega) _) hg3 (by simp; omega) (fun q hq => by have := (HD.out.own.blocks q hq).1; omega)
        have hb46 : Below (b5 + 1) w4 w6 := below_grown hb45 hg4 (by omega) (fun q hq => (ho3.blocks q hq).1)
        have hyy : ys = os.take j ++ [(k : Int)] ++ os.drop j := by rw [hy.out, hz.out]
        have hyl : ys.length = k + 1 := by rw [hyy]; simp; have := Hok.out; omega
        have HF := hide (HD.out.next hb46 ho4 (fun x hx => by
          rw [hyy] at hx
          simp only [List.mem_append, List.mem_singleton] at hx
          rcases hx with (hx | rfl) | hx
          · exact H64t.out x hx
          · exact hk64
          · exact H64.out x hx) (ho4.some_ (by rw [hyy]; simp)) (Nat.le_refl (300 + (k + 1))))
        have HYL := hide hyl
        clear hb45 hb46 hyy hyl hi25 ho25 ho3 ho4 hg3 hg4 ha3 ha4 hb5
        go_wp2
        go_roundg (ns.length - (k + 1))
        case measure => have := HLT.out; omega
        case rel => exact ⟨k + 1, A4, c4, ys, by have := HLT.out; omega, rfl, by go_num, rfl, HYL.out, HF.out⟩
      · have hI2 : IntsAt w3 w3.heap.size (some ⟨gb, 0 + j, none⟩) (os.drop j) := hI0.from gb 0 rfl j
        rw [Nat.zero_add] at hI2
        have hdl0 : (os.drop j).length = os.length - j := by simp
        clear hI0
        go_wp2_with fail
        all_goals first | (exfalso; omega) | skip
        rw [← hdl0]

        refine (copyInts_any _ (os.drop j) _ w3 hI2 (fun e => by cases e) (by simp; omega)).mono ?_
        rintro e w4 ⟨A2, c2, rfl, ho2, hb4⟩
        have hdl : (os.drop j).length = os.length - j := by simp
        have hgb := HS3.out.own.blocks gb rfl
        have hne2 : ∀ b, blockOf A2 = some b → b ≠ gb := fun b hb => by have := (ho2.blocks b hb).1; omega
        have HD := hide (HS3.out.next (hb4.mono (by have := HS3.out.l5.lt; omega)) (HS3.out.own.below hb4) HS3.out.wf HS3.out.h7 (Nat.le_refl _))
        have hs34 := hb4.size
        have htl : (os.take j).length = j := by simp; omega
        have HO2 := hide ho2
        have HNE := hide hne2
        have HB4 := hide hb4
        have h64 : ∀ x ∈ os.drop j, In64 x := fun x hx => HS3.out.wf x (List.mem_of_mem_drop hx)
        have h64t : ∀ x ∈ os.take j, In64 x := fun x hx => HS3.out.wf x (List.mem_of_mem_take hx)
        have H64 := hide h64
        have H64t := hide h64t
        have hb5 := HD.out.l5.lt
        have hk64 : In64 (k : Int) := by constructor <;> omega
        clear ho2 hne2 hb4 h64 h64t HS3
        go_wp2_with (first
          | (at_builtin; refine append_ints rfl (.tmp 33) (.tmp 35) rfl (b5 + 1) (some ⟨gb, 0, none⟩) co (os.take j) (by rw [htl]; rfl) ((HD.out.own.pre hj2).alloc _) (w4.heap.size + 1) _ 1 [(k : Int)] rfl (fun e => by cases e) (IntsAt.one w4 (k : Int) hk64) (by simp; omega) (by simp; omega) ?_; intro zs A3 c3 w5 hz ho3 hg3 ha3; have ho25 : OwnI w5 w3.heap.size A2 c2 (os.drop j) := (HO2.out.alloc _).kept hg3 (by cases hA2 : blockOf A2 with
              | none => exact .inl rfl
              | some b => exact .inr (fun e => HNE.out b hA2 (by injection e))); have hi25 := ho25.ints H64.out (by omega); have hs5 := hg3.size; simp at hs5)
          | (at_builtin; refine append_ints rfl (.tmp 36) (.tmp 37) rfl (b5 + 1) A3 c3 zs rfl ho3 w5.heap.size A2 c2 (os.drop j) (by rw [hdl]; rfl) HO2.out.nil hi25 (by rw [hz.out]; simp; omega) (by omega) ?_; intro ys A4 c4 w6 hy ho4 hg4 ha4))
        have hb45 : Below (b5 + 1) w4 w5 := below_grown ((Below.refl _ _).alloc (by omega) _) hg3 (by simp; omega) (fun q hq => by have := (HD.out.own.blocks q hq).1; omega)
        have hb46 : Below (b5 + 1) w4 w6 := below_grown hb45 hg4 (by omega) (fun q hq => (ho3.blocks q hq).1)
        have hyy : ys = os.take j ++ [(k : Int)] ++ os.drop j := by rw [hy.out, hz.out]
        have hyl : ys.length = k + 1 := by rw [hyy]; simp; have := Hok.out; omega
        have HF := hide (HD.out.next hb46 ho4 (fun x hx => by
          rw [hyy] at hx
          simp only [List.mem_append, List.mem_singleton] at hx
          rcases hx with (hx | rfl) | hx
          · exact H64t.out x hx
          · exact hk64
          · exact H64.out x hx) (ho4.some_ (by rw [hyy]; simp)) (Nat.le_refl (300 + (k + 1))))
        have HYL := hide hyl
        clear hb45 hb46 hyy hyl hi25 ho25 ho3 ho4 hg3 hg4 ha3 ha4 hb5
        go_wp2
        go_roundg (ns.length - (k + 1))
        case measure => have := HLT.out; omega
        case rel => exact ⟨k + 1, A4, c4, ys, by have := HLT.out; omega, rfl, by go_num, rfl, HYL.out, HF.out⟩
    · obtain rfl : k = ns.length := by omega
      have hpos : 0 < os.length := by have := Hok.out; omega
      clear hS hlt hk
      go_wp2_with fail
      refine (pick_any rb A n' c' p 12 wr hrd (by omega) (by omega)).mono ?_
      rintro e w3 ⟨⟨x, rfl, _, _⟩, hr3, ht3⟩
      have hS3 := HS.out.turn hr3 ht3 (P' := 400) (by omega)
      have HS3 := hide hS3
      clear HS hr3 ht3 hrd e0 e1
      by_cases hx : x = 0
      · subst hx
        obtain ⟨m, hm⟩ : ∃ m : Nat, os.length = m + 1 := ⟨os.length - 1, by omega⟩
        obtain ⟨y, hy⟩ : ∃ y, os[m]? = some y := ⟨_, List.getElem?_eq_getElem (by omega)⟩
        have cy := hS3.own.cellJ hy
        have e0 := hS3.l5.cell 0
        have e1 := hS3.l5.cell 1
        simp at e0 e1
        have hidx : (os.length : Int) - 1 = (m : Int) := by omega
        have hm0 : (0 : Int) ≤ (m : Int) := by omega
        have hwrap : IntKind.i64.wrap ((os.length : Int) - 1) = (m : Int) := by rw [hidx, IntKind.wrap_i64]; omega
        have hwm : IntKind.i64.wrap (m : Int) = (m : Int) := by rw [IntKind.wrap_i64]; omega
        have hm1 : (m : Int) < (os.length : Int) := by omega
        have hp0 : (0 : Int) < (os.length : Int) := by omega
        have hy64 := hS3.wf y (List.mem_of_getElem? hy)
        have hgb := hS3.own.blocks gb rfl
        obtain ⟨p3, hp3, hr3⟩ := hS3.rd
        have hT := hS3.next (w' := w3.alloc (.cells #[.int .i64 (-1), .int .i64 (ns.length : Int), .int .i64 y] 3)) ((Below.refl _ _).alloc (by have := hS3.l5.lt; omega) _) (hS3.own.alloc _) hS3.wf hS3.h7 (Nat.le_refl _)
        have HT := hide hT
        have hl3 := Lies.new w3 #[.int .i64 (-1), .int .i64 (ns.length : Int), .int .i64 y] 3
        have hrT := hr3.below (w' := w3.alloc (.cells #[.int .i64 (-1), .int .i64 (ns.length : Int), .int .i64 y] 3)) ((Below.refl _ _).alloc (Nat.le_refl _) _)
        have hrb3 := hr3.box.lt
        have Hm := hide hm
        have ht0 : ((0 : Int) == 0) = true := rfl
        have hone := hide (fun (w4 : World) (gl : Nat) (hl3 : Lies w4 gl #[.int .i64 (-1), .int .i64 (ns.length : Int), .int .i64 y] 3) (hrT : Rd w4 rb A n' c' p3) (hgl : gl ≠ rb) => one_any rb A n' c' p3 gl 3 3 [-1, (ns.length : Int), y] w4 hrT (by omega) rfl (by omega) (by omega) hgl (fun k z hk => by
          rw [hl3.cell]
          match k, hk with
          | 0, hk => simp at hk; subst hk; rfl
          | 1, hk => simp at hk; subst hk; rfl
          | 2, hk => simp at hk; subst hk; rfl
          | k + 3, hk => simp at hk))
        have HS3r := hide hr3
        have HY := hide hy
        obtain ⟨y0, hy0⟩ : ∃ y0, os[0]? = some y0 := ⟨_, List.getElem?_eq_getElem hpos⟩
        have HY0 := hide hy0
        clear hy0
        clear hS3 hT hm hr3 hy Hok hl3 hrT HT
        have hb5l := HS3.out.l5.lt
        have hgl := hgb.2
        have nn1 : w3.heap.size ≠ b5 := by omega
        have nn2 : w3.heap.size ≠ gb := by omega
        have hgb5 : b5 ≠ gb := by omega
        go_wp2_with fail
        refine wp_region_held_drew (S := fun w' => w'.cell? ⟨b5, 0, none⟩ = some (.slice (some ⟨g, 0, none⟩) ns.length cap)) (by kernel_rfl) e0 (fun hHeld => ?_)
        refine wpAnyH_take (i := 0) (oi := { dst := some 42, op := _, type := _, pos := _, after := _, guard := _ }) (v := ?_) rfl (by kernel_rfl) (by kernel_rfl) (by kernel_rfl) (fun _ _ _ h => h) (Or.inl ⟨by rfl, ?_⟩) (by assumption) ?_
        rotate_left
        · (intro w hSw; (try dsimp only at hSw); go_simp; try with_reducible rfl)
        try simp only [Act.put, List.setIfInBounds_toArray, List.set_cons_zero, List.set_cons_succ]
        refine wpAnyH_take (i := 1) (oi := { dst := some 43, op := _, type := _, pos := _, after := _, guard := _ }) (v := ?_) rfl (by kernel_rfl) (by kernel_rfl) (by kernel_rfl) (fun _ _ _ h => h) (Or.inl ⟨by rfl, ?_⟩) (by assumption) ?_
        rotate_left
        · (intro w hSw; (try dsimp only at hSw); go_simp; try with_reducible rfl)
        try simp only [Act.put, List.setIfInBounds_toArray, List.set_cons_zero, List.set_cons_succ]
        refine wpAnyH_take (i := 2) (oi := { dst := some 44, op := _, type := _, pos := _, after := _, guard := _ }) (v := ?_) rfl (by kernel_rfl) (by kernel_rfl) (by kernel_rfl) (fun _ _ _ h => h) (Or.inl ⟨by rfl, ?_⟩) (by assumption) ?_
        rotate_left
        · (intro w hSw; (try dsimp only at hSw); go_simp; try with_reducible rfl)
        try simp only [Act.put, List.setIfInBounds_toArray, List.set_cons_zero, List.set_cons_succ]
        refine wpAnyH_take (i := 3) (oi := { dst := some 45, op := _, type := _, pos := _, after := _, guard := _ }) (v := ?_) rfl (by kernel_rfl) (by kernel_rfl) (by kernel_rfl) (fun _ _ _ h => h) (Or.inl ⟨by rfl, ?_⟩) (by assumption) ?_
        rotate_left
        · (intro w hSw; (try dsimp only at hSw); go_simp; try with_reducible rfl)
        try simp only [Act.put, List.setIfInBounds_toArray, List.set_cons_zero, List.set_cons_succ]
        refine wpAnyH_take (i := 4) (oi := { dst := some 46, op := _, type := _, pos := _, after := _, guard := _ }) (v := ?_) rfl (by kernel_rfl) (by kernel_rfl) (by kernel_rfl) (fun _ _ _ h => h) (Or.inl ⟨by rfl, ?_⟩) (by assumption) ?_
        rotate_left
        · (intro w hSw; (try dsimp only at hSw); go_simp; try with_reducible rfl)
        try simp only [Act.put, List.setIfInBounds_toArray, List.set_cons_zero, List.set_cons_succ]
        refine wpAnyH_take (i := 5) (oi := { dst := some 47, op := _, type := _, pos := _, after := _, guard := _ }) (v := ?_) rfl (by kernel_rfl) (by kernel_rfl) (by kernel_rfl) (fun _ _ _ h => h) (Or.inl ⟨by rfl, ?_⟩) (by assumption) ?_
        rotate_left
        · (intro w hSw; (try dsimp only at hSw); go_simp; try with_reducible rfl)
        try simp only [Act.put, List.setIfInBounds_toArray, List.set_cons_zero, List.set_cons_succ]
        refine wpAnyH_take (i := 6) (oi := { dst := some 48, op := _, type := _, pos := _, after := _, guard := _ }) (v := ?_) rfl (by kernel_rfl) (by kernel_rfl) (by kernel_rfl) (fun _ _ _ h => h) (Or.inl ⟨by rfl, ?_⟩) (by assumption) ?_
        rotate_left
        · (intro w hSw; (try dsimp only at hSw); go_simp; try with_reducible rfl)
        try simp only [Act.put, List.setIfInBounds_toArray, List.set_cons_zero, List.set_cons_succ]
        refine wpAnyH_take (i := 7) (oi := { dst := some 49, op := _, type := _, pos := _, after := _, guard := _ }) (v := ?_) rfl (by kernel_rfl) (by kernel_rfl) (by kernel_rfl) (fun _ _ _ h => h) (Or.inl ⟨by rfl, ?_⟩) (by assumption) ?_
        rotate_left
        · (intro w hSw; (try dsimp only at hSw); go_simp; try with_reducible rfl)
        try simp only [Act.put, List.setIfInBounds_toArray, List.set_cons_zero, List.set_cons_succ]
        refine wpAnyH_take (i := 8) (oi := { dst := some 50, op := _, type := _, pos := _, after := _, guard := _ }) (v := ?_) rfl (by kernel_rfl) (by kernel_rfl) (by kernel_rfl) (fun _ _ _ h => h) (Or.inl ⟨by rfl, ?_⟩) (by assumption) ?_
        rotate_left
        · (intro w hSw; (try dsimp only at hSw); go_simp; try with_reducible rfl)
        try simp only [Act.put, List.setIfInBounds_toArray, List.set_cons_zero, List.set_cons_succ]
        refine wpAnyH_take (i := 9) (oi := { dst := some 51, op := _, type := _, pos := _, after := _, guard := _ }) (v := ?_) rfl (by kernel_rfl) (by kernel_rfl) (by kernel_rfl) (fun _ _ _ h => h) (Or.inl ⟨by rfl, ?_⟩) (by assumption) ?_
        rotate_left
        · (intro w hSw; (try dsimp only at hSw); go_simp; try with_reducible rfl)
        try simp only [Act.put, List.setIfInBounds_toArray, List.set_cons_zero, List.set_cons_succ]
        refine wpAnyH_ready (rs := [10]) (by kernel_rfl) (by simp) ?_
        refine AllReadyH.cons (o := { dst := some 52, op := _, type := _, pos := _, after := _, guard := _ }) rfl (fun K hK => ?_) AllReadyH.nil
        go_simp
        refine hK.out _ _ ?_ (fun hH => ?_)
        · exact hHeld
        clear hK K hHeld
        have hHeld := hH
        clear hH
        try simp only [Act.put, List.setIfInBounds_toArray, List.set_cons_zero, List.set_cons_succ]
        refine wpAnyH_ready (rs := [11]) (by kernel_rfl) (by simp) ?_
        refine AllReadyH.cons (o := { dst := some 53, op := _, type := _, pos := _, after := _, guard := _ }) rfl (fun K hK => ?_) AllReadyH.nil
        go_simp
        refine hK.out _ _ ?_ (fun hH => ?_)
        · exact (World.cell?_alloc_some _ _ _ (Option.isSome_iff_exists.2 ⟨_, hHeld⟩)).trans hHeld
        clear hK K hHeld
        have hHeld := hH
        clear hH
        try simp only [Act.put, List.setIfInBounds_toArray, List.set_cons_zero, List.set_cons_succ]
        refine wpAnyH_ready (rs := [12]) (by kernel_rfl) (by simp) ?_
        refine AllReadyH.cons (o := { dst := some 54, op := _, type := _, pos := _, after := _, guard := _ }) rfl (fun K hK => ?_) AllReadyH.nil
        go_simp
        go_at_call 14
        have hT := HS3.out.next (w' := w3.drew.alloc (.cells #[.int .i64 (-1), .int .i64 (ns.length : Int), .int .i64 y] 3)) ((Below.refl _ _).drew.alloc (by have := HS3.out.l5.lt; show _ ≤ w3.heap.size; omega) _) (HS3.out.own.drew.alloc _) HS3.out.wf HS3.out.h7 (Nat.le_refl _)
        have hrT := HS3r.out.below (w' := w3.drew.alloc (.cells #[.int .i64 (-1), .int .i64 (ns.length : Int), .int .i64 y] 3)) ((Below.refl _ _).drew.alloc (Nat.le_refl _) _)
        refine (hone.out _ w3.heap.size (Lies.new w3.drew _ _) hrT (by omega)).mono ?_
        rintro e w5 ⟨⟨z, hz, rfl⟩, hr5, ht5⟩
        have HS5 := hide (hT.turn hr5 ht5 (P' := 500) (by omega))
        have q0 : w5.cell? ⟨b5, 0, none⟩ = some (.slice (some ⟨g, 0, none⟩) ns.length cap) := by
          have := HS5.out.l5.cell 0
          simpa using this
        have HZ := hide hz
        have f0 := HS5.out.own.froz 0
        have c0 := HS5.out.own.cellJ HY0.out
        clear hT hrT hr5 ht5 hz
        refine hK.out _ _ ?_ (fun hH => ?_)
        · exact q0
        clear hK K hHeld
        have hHeld := hH
        clear hH
        try simp only [Act.put, List.setIfInBounds_toArray, List.set_cons_zero, List.set_cons_succ]
        refine wpAnyH_ready (rs := [13]) (by kernel_rfl) (by simp) ?_
        refine AllReadyH.cons (o := { dst := some 55, op := _, type := _, pos := _, after := _, guard := _ }) rfl (fun K hK => ?_) AllReadyH.nil
        go_simp
        refine hK.out _ _ ?_ (fun hH => ?_)
        · exact hHeld
        clear hK K hHeld
        have hHeld := hH
        clear hH
        try simp only [Act.put, List.setIfInBounds_toArray, List.set_cons_zero, List.set_cons_succ]
        refine wpAnyH_ready (rs := [14]) (by kernel_rfl) (by simp) ?_
        refine AllReadyH.cons (o := { dst := none, op := _, type := _, pos := _, after := _, guard := _ }) rfl (fun K hK => ?_) AllReadyH.nil
        go_simp
        refine hK.out _ _ ?_ (fun hH => ?_)
        · exact (World.cell?_setCell_far _ _ _ _ hgb5.symm).trans hHeld
        clear hK K hHeld
        have hHeld := hH
        clear hH
        try simp only [Act.put, List.setIfInBounds_toArray, List.set_cons_zero, List.set_cons_succ]
        refine wpAnyH_done (by kernel_rfl) ?_ _
        have hz64 : In64 z := by
          have hz := HZ.out
          simp at hz
          rcases hz with rfl | rfl | rfl
          · constructor <;> omega
          · constructor <;> omega
          · exact hy64
        have hS5 := HS5.out
        have hS6 := hS5.next (w' := w5.setCell ⟨gb, 0, none⟩ (.int .i64 z)) ((Below.refl _ _).setCell (p := ⟨gb, 0, none⟩) hgb.1 _) (hS5.own.setJ 0 z) (fun v hv => by
          rcases List.mem_or_eq_of_mem_set hv with hv | rfl
          · exact hS5.wf v hv
          · exact hz64) (by simp) (Nat.le_refl _)
        have hfin := hS6.fin HN.out HK.out hg hr64 (by simp; omega)
        rw [List.length_set] at hfin
        obtain ⟨b0, b1, g0, g1, s0, s1, _⟩ := hfin.out
        have d0 := hS6.l5.cell 0
        have d1 := hS6.l5.cell 1
        simp only [List.getElem?_toArray, List.getElem?_cons_zero, List.getElem?_cons_succ] at d0 d1
        clear hS5 hS6 q0 f0 c0 HS5 HS3 HS3r hone hHeld e0 e1 cy
        generalize w5.setCell ⟨gb, 0, none⟩ (.int .i64 z) = X at hfin b0 b1 g0 g1 s0 s1 d0 d1 ⊢
        go_wp2
        refine bodyPost_ret (v := .tuple #[.agg #[.slice (some ⟨g, 0, none⟩) ns.length cap, .int .i64 r], .slice (some ⟨gb, 0, none⟩) os.length co]) (by simp [results, Try.results4, go_sem, s0, s1]) rfl ?_
        exact hfin.out.2.2.2.2.2.2
      · have tx : ((x : Int) == 0) = false := by simp; omega
        have hfin := hS3.fin HN.out HK.out hg hr64 (by omega)
        obtain ⟨b0, b1, f0, f1, s0, s1, _⟩ := hfin.out
        have e0 := hS3.l5.cell 0
        have e1 := hS3.l5.cell 1
        simp only [List.getElem?_toArray, List.getElem?_cons_zero, List.getElem?_cons_succ] at e0 e1
        clear hS3 hx
        go_wp2
        refine bodyPost_ret (v := .tuple #[.agg #[.slice (some ⟨g, 0, none⟩) ns.length cap, .int .i64 r], .slice (some ⟨gb, 0, none⟩) os.length co]) (by simp [results, Try.results4, go_sem, s0, s1]) rfl ?_
        exact hfin.out.2.2.2.2.2.2

end Go.Proofs.Ytigelbilfddhgab
