/-
  The generator's anyGraph: some graph that can be read comes back.
-/
import Derived.Test.YthgklkpfmjgeoaaAnyEndC
import Derived.Deep.RegionLaw
import Derived.Deep.RegionHeld
namespace Go.Proofs.Ythgklkpfmjgeoaa
open Go.RowKit
set_option linter.unusedVariables false
set_option linter.unusedSimpArgs false

theorem AnyS.kidsK {w wr : World} {rb b2 b3 nb cb gn cap len k n ck : Nat} {A Ak : Option Addr} {r : Int} {P : Nat} {ns : List Nd} {m : Nd} (h : AnyS w wr rb b2 b3 nb cb gn cap len A r P ns) (hm : ns[k]? = some m) (hc : wr.cell? ⟨gn, k * 3 + 2, none⟩ = some (.slice Ak n ck)) : OwnI wr 0 Ak ck m.kids := by
  obtain ⟨A2, d, e1, e2, _⟩ := (h.gen.nd k m hm).kids
  rw [hc] at e1
  injection e1 with e1
  injection e1 with e1 _ e3
  subst e1 e3
  exact e2

/-- what is known behind the choice of a kid -/
structure AnyC (w w7 : World) (rb b2 b3 nb cb gn cap len k p7 P ck : Nat) (A Ak : Option Addr) (r z : Int) (ns : List Nd) (m : Nd) : Prop where
  s : AnyS w w7 rb b2 b3 nb cb gn cap len A r P ns
  rd : Rd w7 rb A nb cb p7
  z64 : In64 z
  own : OwnI w7 0 Ak ck m.kids

/-- what is known behind the append -/
structure AnyA (w w9 : World) (rb b2 b3 nb cb gn cap len k P c' : Nat) (A A' : Option Addr) (r : Int) (zs : List Int) : Prop where
  fin : Drawn rb A nb cb P w (.returned (.agg #[.slice (some ⟨gn, 0, none⟩) len cap, .int .i64 r])) (((w9.setCell ⟨gn, k * 3 + 2, none⟩ (.slice A' zs.length c')).setCell ⟨b2, 0, none⟩ (.slice (some ⟨gn, 0, none⟩) len cap)).setCell ⟨b2, 1, none⟩ (.int .i64 r))
  s0 : (((w9.setCell ⟨gn, k * 3 + 2, none⟩ (.slice A' zs.length c')).setCell ⟨b2, 0, none⟩ (.slice (some ⟨gn, 0, none⟩) len cap)).setCell ⟨b2, 1, none⟩ (.int .i64 r)).cell? ⟨b2, 0, none⟩ = some (.slice (some ⟨gn, 0, none⟩) len cap)
  s1 : (((w9.setCell ⟨gn, k * 3 + 2, none⟩ (.slice A' zs.length c')).setCell ⟨b2, 0, none⟩ (.slice (some ⟨gn, 0, none⟩) len cap)).setCell ⟨b2, 1, none⟩ (.int .i64 r)).cell? ⟨b2, 1, none⟩ = some (.int .i64 r)
  q0 : (w9.setCell ⟨gn, k * 3 + 2, none⟩ (.slice A' zs.length c')).cell? ⟨b2, 0, none⟩ = some (.slice none 0 0)
  q1 : (w9.setCell ⟨gn, k * 3 + 2, none⟩ (.slice A' zs.length c')).cell? ⟨b2, 1, none⟩ = some (.int .i64 0)
  q2 : (w9.setCell ⟨gn, k * 3 + 2, none⟩ (.slice A' zs.length c')).frozen? ⟨b2, 0, none⟩ = false
  q3 : (w9.setCell ⟨gn, k * 3 + 2, none⟩ (.slice A' zs.length c')).frozen? ⟨b2, 1, none⟩ = false
  d0 : (w9.setCell ⟨gn, k * 3 + 2, none⟩ (.slice A' zs.length c')).cell? ⟨b3, 0, none⟩ = some (.slice (some ⟨gn, 0, none⟩) len cap)
  d1 : (w9.setCell ⟨gn, k * 3 + 2, none⟩ (.slice A' zs.length c')).cell? ⟨b3, 1, none⟩ = some (.int .i64 r)

theorem AnyC.app {w w7 w9 : World} {rb b2 b3 nb cb gn cap len k p7 P P' ck c' : Nat} {A Ak A' : Option Addr} {r z : Int} {ns : List Nd} {m : Nd} {zs : List Int} {ob : Obj} (h : AnyC w w7 rb b2 b3 nb cb gn cap len k p7 P ck A Ak r z ns m) (hp : p7 ≤ P') (hk : k < len) (h10 : len ≤ 10) (hm : ns[k]? = some m)
    (k27 : w7.cell? ⟨gn, k * 3 + 2, none⟩ = some (.slice Ak m.kids.length ck)) (hzs : zs = m.kids ++ [z]) (hown : OwnI w9 0 A' c' zs) (hg : (w7.alloc ob).grownBy w9 (blockOf Ak)) (ha : blockOf A' = blockOf Ak ∨ blockOf A' = some (w7.alloc ob).heap.size) :
    AnyA w w9 rb b2 b3 nb cb gn cap len k P' c' A A' r zs ∧ w9.cell? ⟨b3, 0, none⟩ = some (.slice (some ⟨gn, 0, none⟩) len cap) ∧ w9.cell? ⟨gn, k * 3 + 2, none⟩ = some (.slice Ak m.kids.length ck) ∧ w9.frozen? ⟨gn, k * 3 + 2, none⟩ = false := by
  have n1 := h.s.n1
  have n2 := h.s.n2
  have n3 := h.s.n3
  have hl37 := h.s.l3.lt
  have hl27 := h.s.l2.lt
  have hgl7 := h.s.gen.lt
  have hov := h.s.over k hk Ak _ ck k27
  obtain ⟨A2, d, e1, _, _, _, k5, _⟩ := (h.s.gen.nd k m hm).kids
  rw [k27] at e1
  injection e1 with e1
  injection e1 with e1 _ _
  subst e1
  have hgs := hg.size
  simp only [World.size_alloc] at hgs
  have l39 : Lies w9 b3 _ _ := (hg.block b3 (by simp; omega) (fun e => (hov b3 e.symm).2 rfl)).trans (h.s.l3.alloc _)
  have l29 : Lies w9 b2 _ _ := (hg.block b2 (by simp; omega) (fun e => by have := (hov b2 e.symm).1; omega)).trans (h.s.l2.alloc _)
  have hgn9 : w9.heap[gn]? = w7.heap[gn]? := (hg.block gn (by simp; omega) (fun e => k5 e.symm)).trans (Below.heap_alloc _ _ _ hgl7)
  have l3x := l39.far (p := ⟨gn, k * 3 + 2, none⟩) (by show b3 ≠ gn; omega) (.slice A' zs.length c')
  have l2x := l29.far (p := ⟨gn, k * 3 + 2, none⟩) (by show b2 ≠ gn; omega) (.slice A' zs.length c')
  have l2f := (l2x.set 0 (.slice (some ⟨gn, 0, none⟩) len cap)).set 1 (.int .i64 r)
  simp only [List.setIfInBounds_toArray, List.set_cons_succ, List.set_cons_zero] at l2f
  obtain ⟨fw, hfw⟩ := h.s.gen.row
  refine ⟨⟨any_app h.s h.rd hp hk h10 hm k27 z h.z64 hzs hown hg ha _ _, ?_, ?_, ?_, ?_, l2x.frozen 0, l2x.frozen 1, ?_, ?_⟩, ?_, (World.cell?_of_block (w := w7) hgn9).trans k27, (hfw.of_block hgn9).frozen _⟩
  · have := l2f.cell 0; simpa using this
  · have := l2f.cell 1; simpa using this
  · have := l2x.cell 0; simpa using this
  · have := l2x.cell 1; simpa using this
  · have := l3x.cell 0; simpa using this
  · have := l3x.cell 1; simpa using this
  · have := l39.cell 0; simpa using this

set_option maxRecDepth 100000 in
set_option maxHeartbeats 100000000 in
theorem anyGraph_any (rb : Nat) (A : Option Addr) (nb cb p : Nat) (w : World) (h : Rd w rb A nb cb p) (hp : p < 600000) :
    Calls Try.prog 27 #[.pointer (some ⟨rb, 0, none⟩)] w (Drawn rb A nb cb (p + 204) w) := by
  have hrlt := h.box.lt
  have hB : Below w.heap.size w (w.alloc (.cells #[.slice none 0 0, .int .i64 0] 25)) := (Below.refl _ w).alloc (Nat.le_refl _) _
  have hr0 := h.below hB
  have l2 := Lies.new w #[.slice none 0 0, .int .i64 0] 25
  clear h
  go_enter Try.func27, Try.ntmps27
  go_wp2_with fail
  generalize hWd : w.alloc (.cells #[.slice none 0 0, .int .i64 0] 25) = W at hB hr0 l2 ⊢
  have hWs : Hid (W.heap.size = w.heap.size + 1) := by show _ = _; rw [← hWd]; simp
  clear hWd
  refine (someGraph_any rb A nb cb p W hr0 (by omega)).mono ?_
  rintro e w1 ⟨gn, cap, p1, ns, r, rfl, hp1, hr1, hg1, hgn, hl1, hl10, hr64, _, hG1, hov1⟩
  have hgl := hg1.lt
  have hbA : Below w1.heap.size w1 (w1.alloc (.cells #[.slice (some ⟨gn, 0, none⟩) ns.length cap, .int .i64 r] 25)) := (Below.refl _ w1).alloc (Nat.le_refl _) _
  have l2a : Lies w1 w.heap.size _ _ := l2.grew hG1 (by omega)
  have hS0 : AnyS w (w1.alloc (.cells #[.slice (some ⟨gn, 0, none⟩) ns.length cap, .int .i64 r] 25)) rb w.heap.size w1.heap.size nb cb gn cap ns.length A r (p + 200) ns := by
    have hc : ∀ q, (w1.alloc (.cells #[.slice (some ⟨gn, 0, none⟩) ns.length cap, .int .i64 r] 25)).cell? ⟨gn, q, none⟩ = w1.cell? ⟨gn, q, none⟩ := fun q => World.cell?_of_block (w := w1) (hbA.block gn hgl)
    refine ⟨⟨p1, hp1, hr1.below hbA⟩, (Grew.of_below hB).trans (hG1.trans (Grew.of_below hbA)), l2a.below hbA l2a.lt, Lies.new w1 #[.slice (some ⟨gn, 0, none⟩) ns.length cap, .int .i64 r] 25, hg1.grew (Grew.of_below hbA), rfl, fun j hj B2 k d h1 b hb => ?_, Nat.le_refl _, by have := hWs.out; omega, hgl, hrlt, hr64⟩
    rw [hc] at h1
    have h2 := hov1 j hj B2 k d h1 b hb
    obtain ⟨A4, d4, f1, f2, _⟩ := (hg1.nd j _ (List.getElem?_eq_getElem hj)).kids
    rw [h1] at f1
    injection f1 with f1
    injection f1 with f1 _ _
    subst f1
    have := (f2.blocks b hb).2
    have := hWs.out
    omega
  have HS0 := hide hS0
  have hr2 := hr1.below hbA
  have HNL : Hid (1 ≤ ns.length ∧ ns.length ≤ 10) := ⟨hl1, hl10⟩
  clear hS0 l2 l2a hB hr0 hG1 hov1 hg1 hr1 hbA
  go_wp2_with fail
  generalize w1.alloc (.cells #[.slice (some ⟨gn, 0, none⟩) ns.length cap, .int .i64 r] 25) = W1 at HS0 hr2 ⊢
  generalize hb3d : w1.heap.size = b3 at HS0 hgl ⊢
  generalize hlen : ns.length = len at HS0 HNL ⊢
  clear hb3d hlen hl1 hl10
  have hl1 := HNL.out.1
  have hl10 := HNL.out.2
  refine (pick_any rb A nb cb p1 (len : Int) W1 hr2 (by omega) (by omega)).mono ?_
  rintro e w2 ⟨⟨k, rfl, hk, _⟩, hr3, ht3⟩
  have hkl : (k : Int) < (len : Int) := hk (by omega)
  have hk0 : (0 : Int) ≤ (k : Int) := by omega
  have HS2 := hide (HS0.out.turn (P' := p + 201) ht3 hr3 (by omega))
  clear hr2 hk ht3 HS0
  go_wp2_with fail
  refine (pick_any rb A nb cb (p1 + 1) 20 w2 hr3 (by omega) (by omega)).mono ?_
  rintro e w5 ⟨⟨x, rfl, hx, _⟩, hr5, ht5⟩
  have HS5 := hide (HS2.out.turn (P' := p + 202) ht5 hr5 (by omega))
  clear HS2 hr3 ht5 hx
  have e0 := HS5.out.l3.cell 0
  have e1 := HS5.out.l3.cell 1
  have b0 := HS5.out.l2.cell 0
  have b1 := HS5.out.l2.cell 1
  have c0 := HS5.out.l2.frozen 0
  have c1 := HS5.out.l2.frozen 1
  simp only [List.getElem?_toArray, List.getElem?_cons_zero, List.getElem?_cons_succ] at e0 e1 b0 b1
  by_cases hx0 : x = 0
  · subst hx0
    have n1 := HS5.out.n1
    have n2 := HS5.out.n2
    have n3 := HS5.out.n3
    have nr := HS5.out.nr
    have hl3 := HS5.out.l3.lt
    have hgl5 := HS5.out.gen.lt
    have hlen := HS5.out.hlen
    obtain ⟨m, hm⟩ : ∃ m, ns[k]? = some m := ⟨_, List.getElem?_eq_getElem (by omega)⟩
    have Hm := hide hm
    obtain ⟨Ak, ck, k2, _, _, hmf, k5, _⟩ := (HS5.out.gen.nd k m hm).kids
    have hbA : Below w5.heap.size w5 (w5.drew.alloc (.cells #[.int .i64 (-1), .int .i64 (len : Int)] 3)) := ((Below.refl _ w5).drew).alloc (Nat.le_refl _) _
    have lA := Lies.new w5.drew #[.int .i64 (-1), .int .i64 (len : Int)] 3
    have HS6 := hide (HS5.out.later hbA)
    have hr6 := hr5.below hbA
    have hrl := hr5.box.lt
    have k26 := (hbA.cell (p := ⟨gn, k * 3 + 2, none⟩) hgl5).trans k2
    have hone := hide (one_any rb A nb cb (p1 + 1 + 1) w5.heap.size 2 2 [-1, (len : Int)] _ hr6 (by omega) rfl (by omega) (by omega) (by omega) (fun j z hz => by
      have := lA.cell j
      rw [show w5.heap.size = w5.drew.heap.size from rfl, this]
      match j, hz with
      | 0, hz => simpa using hz
      | 1, hz => simpa using hz
      | j + 2, hz => simp at hz))
    have H10 := hide hl10
    have hgb : gn ≠ b3 := by omega
    have hgr : gn ≠ rb := by omega
    have hcall : Hid (∀ (e : Ending) (w7 : World), Chosen rb A nb cb (p1 + 1 + 1) [-1, (len : Int)] (w5.drew.alloc (.cells #[.int .i64 (-1), .int .i64 (len : Int)] 3)) e w7 → ∃ z : Int, e = .returned (.int .i64 z) ∧ w7.cell? ⟨b3, 0, none⟩ = some (.slice (some ⟨gn, 0, none⟩) len cap) ∧ w7.cell? ⟨gn, k * 3 + 2, none⟩ = some (.slice Ak m.kids.length ck) ∧ b3 < w7.heap.size ∧ gn < w7.heap.size ∧ AnyC w w7 rb w.heap.size b3 nb cb gn cap len k (p1 + 1 + 1 + 1) (p + 203) ck A Ak r z ns m) := hide (by
      rintro e w7 ⟨⟨z, hz, rfl⟩, hr7, ht7⟩
      have S7 := HS6.out.turn (P' := p + 203) ht7 hr7 (by omega)
      have hz64 : In64 z := by
        simp at hz
        rcases hz with rfl | rfl <;> constructor <;> omega
      have z0 := S7.l3.cell 0
      simp at z0
      have k27 := (World.cell?_of_block (w := w5.drew.alloc (.cells #[.int .i64 (-1), .int .i64 (len : Int)] 3)) (a := ⟨gn, k * 3 + 2, none⟩) (ht7.block gn (by omega))).trans k26
      exact ⟨z, rfl, z0, k27, S7.l3.lt, S7.gen.lt, S7, hr7, hz64, S7.kidsK Hm.out k27⟩)
    have hpp : Hid (p1 + 1 + 1 + 1 ≤ p + 204 ∧ k < len) := hide ⟨by omega, by omega⟩
    clear hm hbA lA hr6 hlen b0 b1 c0 c1 e1 hr5 HS5 hp hrlt hWs hgn hr64 HS6 k26 hp1 n2 n3 nr hgr HNL hl1 hl10 hgl n1
    go_wp2_with fail
    refine wp_region_held_drew (S := fun w' => w'.cell? ⟨b3, 0, none⟩ = some (.slice (some ⟨gn, 0, none⟩) len cap)) (by kernel_rfl) e0 (fun hHeld => ?_)
    refine wpAnyH_take (i := 0) (oi := { dst := some 16, op := _, type := _, pos := _, after := _, guard := _ }) (v := ?_) rfl (by kernel_rfl) (by kernel_rfl) (by kernel_rfl) (fun _ _ _ h => h) (Or.inl ⟨by rfl, ?_⟩) (by assumption) ?_
    rotate_left
    · (intro w hSw; (try dsimp only at hSw); go_simp; try with_reducible rfl)
    try simp only [Act.put, List.setIfInBounds_toArray, List.set_cons_zero, List.set_cons_succ]
    refine wpAnyH_take (i := 1) (oi := { dst := some 17, op := _, type := _, pos := _, after := _, guard := _ }) (v := ?_) rfl (by kernel_rfl) (by kernel_rfl) (by kernel_rfl) (fun _ _ _ h => h) (Or.inl ⟨by rfl, ?_⟩) (by assumption) ?_
    rotate_left
    · (intro w hSw; (try dsimp only at hSw); go_simp; try with_reducible rfl)
    try simp only [Act.put, List.setIfInBounds_toArray, List.set_cons_zero, List.set_cons_succ]
    refine wpAnyH_take (i := 2) (oi := { dst := some 18, op := _, type := _, pos := _, after := _, guard := _ }) (v := ?_) rfl (by kernel_rfl) (by kernel_rfl) (by kernel_rfl) (fun _ _ _ h => h) (Or.inl ⟨by rfl, ?_⟩) (by assumption) ?_
    rotate_left
    · (intro w hSw; (try dsimp only at hSw); go_simp; try with_reducible rfl)
    try simp only [Act.put, List.setIfInBounds_toArray, List.set_cons_zero, List.set_cons_succ]
    refine wpAnyH_take (i := 3) (oi := { dst := some 19, op := _, type := _, pos := _, after := _, guard := _ }) (v := ?_) rfl (by kernel_rfl) (by kernel_rfl) (by kernel_rfl) (fun _ _ _ h => h) (Or.inl ⟨by rfl, ?_⟩) (by assumption) ?_
    rotate_left
    · (intro w hSw; (try dsimp only at hSw); go_simp; try with_reducible rfl)
    try simp only [Act.put, List.setIfInBounds_toArray, List.set_cons_zero, List.set_cons_succ]
    refine wpAnyH_take (i := 4) (oi := { dst := some 20, op := _, type := _, pos := _, after := _, guard := _ }) (v := ?_) rfl (by kernel_rfl) (by kernel_rfl) (by kernel_rfl) (fun _ _ _ h => h) (Or.inl ⟨by rfl, ?_⟩) (by assumption) ?_
    rotate_left
    · (intro w hSw; (try dsimp only at hSw); go_simp; try with_reducible rfl)
    try simp only [Act.put, List.setIfInBounds_toArray, List.set_cons_zero, List.set_cons_succ]
    refine wpAnyH_take (i := 5) (oi := { dst := some 21, op := _, type := _, pos := _, after := _, guard := _ }) (v := ?_) rfl (by kernel_rfl) (by kernel_rfl) (by kernel_rfl) (fun _ _ _ h => h) (Or.inl ⟨by rfl, ?_⟩) (by assumption) ?_
    rotate_left
    · (intro w hSw; (try dsimp only at hSw); go_simp; try with_reducible rfl)
    try simp only [Act.put, List.setIfInBounds_toArray, List.set_cons_zero, List.set_cons_succ]
    refine wpAnyH_take (i := 6) (oi := { dst := some 22, op := _, type := _, pos := _, after := _, guard := _ }) (v := ?_) rfl (by kernel_rfl) (by kernel_rfl) (by kernel_rfl) (fun _ _ _ h => h) (Or.inl ⟨by rfl, ?_⟩) (by assumption) ?_
    rotate_left
    · (intro w hSw; (try dsimp only at hSw); go_simp; try with_reducible rfl)
    try simp only [Act.put, List.setIfInBounds_toArray, List.set_cons_zero, List.set_cons_succ]
    refine wpAnyH_take (i := 7) (oi := { dst := some 23, op := _, type := _, pos := _, after := _, guard := _ }) (v := ?_) rfl (by kernel_rfl) (by kernel_rfl) (by kernel_rfl) (fun _ _ _ h => h) (Or.inl ⟨by rfl, ?_⟩) (by assumption) ?_
    rotate_left
    · (intro w hSw; (try dsimp only at hSw); go_simp; try with_reducible rfl)
    try simp only [Act.put, List.setIfInBounds_toArray, List.set_cons_zero, List.set_cons_succ]
    refine wpAnyH_take (i := 9) (oi := { dst := some 25, op := _, type := _, pos := _, after := _, guard := _ }) (v := ?_) rfl (by kernel_rfl) (by kernel_rfl) (by kernel_rfl) (fun _ _ _ h => h) (Or.inl ⟨by rfl, ?_⟩) (by assumption) ?_
    rotate_left
    · (intro w hSw; (try dsimp only at hSw); go_simp; try with_reducible rfl)
    try simp only [Act.put, List.setIfInBounds_toArray, List.set_cons_zero, List.set_cons_succ]
    refine wpAnyH_take (i := 10) (oi := { dst := some 26, op := _, type := _, pos := _, after := _, guard := _ }) (v := ?_) rfl (by kernel_rfl) (by kernel_rfl) (by kernel_rfl) (fun _ _ _ h => h) (Or.inl ⟨by rfl, ?_⟩) (by assumption) ?_
    rotate_left
    · (intro w hSw; (try dsimp only at hSw); go_simp; try with_reducible rfl)
    try simp only [Act.put, List.setIfInBounds_toArray, List.set_cons_zero, List.set_cons_succ]
    refine wpAnyH_take (i := 11) (oi := { dst := some 27, op := _, type := _, pos := _, after := _, guard := _ }) (v := ?_) rfl (by kernel_rfl) (by kernel_rfl) (by kernel_rfl) (fun _ _ _ h => h) (Or.inl ⟨by rfl, ?_⟩) (by assumption) ?_
    rotate_left
    · (intro w hSw; (try dsimp only at hSw); go_simp; try with_reducible rfl)
    try simp only [Act.put, List.setIfInBounds_toArray, List.set_cons_zero, List.set_cons_succ]
    refine wpAnyH_take (i := 12) (oi := { dst := some 28, op := _, type := _, pos := _, after := _, guard := _ }) (v := ?_) rfl (by kernel_rfl) (by kernel_rfl) (by kernel_rfl) (fun _ _ _ h => h) (Or.inl ⟨by rfl, ?_⟩) (by assumption) ?_
    rotate_left
    · (intro w hSw; (try dsimp only at hSw); go_simp; try with_reducible rfl)
    try simp only [Act.put, List.setIfInBounds_toArray, List.set_cons_zero, List.set_cons_succ]
    refine wpAnyH_ready (rs := [8, 13]) (by kernel_rfl) (by simp) ?_
    refine AllReadyH.cons (o := { dst := some 24, op := _, type := _, pos := _, after := _, guard := _ }) rfl (fun K hK => ?_) ?_
    · skip
      go_simp
      refine hK.out _ _ ?_ (fun hH => ?_)
      · exact hHeld
      clear hK K hHeld
      have hHeld := hH
      clear hH
      try simp only [Act.put, List.setIfInBounds_toArray, List.set_cons_zero, List.set_cons_succ]
      refine wpAnyH_ready (rs := [13]) (by kernel_rfl) (by simp) ?_
      refine AllReadyH.cons (o := { dst := some 29, op := _, type := _, pos := _, after := _, guard := _ }) rfl (fun K hK => ?_) ?_
      · skip
        go_simp
        refine hK.out _ _ ?_ (fun hH => ?_)
        · exact (World.cell?_alloc_some _ _ _ (Option.isSome_iff_exists.2 ⟨_, hHeld⟩)).trans hHeld
        clear hK K hHeld
        have hHeld := hH
        clear hH
        try simp only [Act.put, List.setIfInBounds_toArray, List.set_cons_zero, List.set_cons_succ]
        refine wpAnyH_ready (rs := [14]) (by kernel_rfl) (by simp) ?_
        refine AllReadyH.cons (o := { dst := some 30, op := _, type := _, pos := _, after := _, guard := _ }) rfl (fun K hK => ?_) ?_
        · skip
          go_simp
          go_at_call 53
          refine hone.out.mono ?_
          intro e w7 h7
          obtain ⟨z, rfl, z0, k27, hl37, hgl7, HC⟩ := hcall.out e w7 h7
          have HC7 := hide HC
          clear h7 HC
          refine hK.out _ _ ?_ (fun hH => ?_)
          · exact z0
          clear hK K hHeld
          have hHeld := hH
          clear hH
          try simp only [Act.put, List.setIfInBounds_toArray, List.set_cons_zero, List.set_cons_succ]
          refine wpAnyH_ready (rs := [15]) (by kernel_rfl) (by simp) ?_
          refine AllReadyH.cons (o := { dst := some 31, op := _, type := _, pos := _, after := _, guard := _ }) rfl (fun K hK => ?_) ?_
          · skip
            go_simp
            refine hK.out _ _ ?_ (fun hH => ?_)
            · exact (World.cell?_alloc_some _ _ _ (Option.isSome_iff_exists.2 ⟨_, hHeld⟩)).trans hHeld
            clear hK K hHeld
            have hHeld := hH
            clear hH
            try simp only [Act.put, List.setIfInBounds_toArray, List.set_cons_zero, List.set_cons_succ]
            refine wpAnyH_ready (rs := [16]) (by kernel_rfl) (by simp) ?_
            refine AllReadyH.cons (o := { dst := some 32, op := _, type := _, pos := _, after := _, guard := _ }) rfl (fun K hK => ?_) ?_
            · skip
              refine step_append_ints (by rfl) (.tmp 24) (.tmp 31) (by rfl) 0 Ak ck m.kids (by simp [Act.eval, Act.put]) (HC7.out.own.alloc _) ⟨w7.heap.size, 0, none⟩ 1 [z] (by simp) (by simp [Act.eval, Act.put]) (by simpa using IntsAt.lit w7 [z] (by intro y hy; simp at hy; rw [hy]; exact HC7.out.z64) (by simp)) (by simp; omega) (by simp) ?_
              intro zs A' c' w9 hz9 hown9 hg9 hat9
              obtain ⟨HF, z9, q9, hf9⟩ := HC7.out.app (P' := p + 204) hpp.out.1 hpp.out.2 H10.out Hm.out k27 hz9.out hown9 hg9 hat9
              have HF9 := hide HF
              clear HF hown9 hg9 hat9
              refine hK.out _ _ ?_ (fun hH => ?_)
              · exact z9
              clear hK K hHeld
              have hHeld := hH
              clear hH
              try simp only [Act.put, List.setIfInBounds_toArray, List.set_cons_zero, List.set_cons_succ]
              refine wpAnyH_take (i := 17) (oi := { dst := some 33, op := _, type := _, pos := _, after := _, guard := _ }) (v := ?_) rfl (by kernel_rfl) (by kernel_rfl) (by kernel_rfl) (fun _ _ _ h => h) (Or.inl ⟨by rfl, ?_⟩) (by assumption) ?_
              rotate_left
              · (intro w hSw; (try dsimp only at hSw); go_simp; try with_reducible rfl)
              try simp only [Act.put, List.setIfInBounds_toArray, List.set_cons_zero, List.set_cons_succ]
              refine wpAnyH_take (i := 18) (oi := { dst := some 34, op := _, type := _, pos := _, after := _, guard := _ }) (v := ?_) rfl (by kernel_rfl) (by kernel_rfl) (by kernel_rfl) (fun _ _ _ h => h) (Or.inl ⟨by rfl, ?_⟩) (by assumption) ?_
              rotate_left
              · (intro w hSw; (try dsimp only at hSw); go_simp; try with_reducible rfl)
              try simp only [Act.put, List.setIfInBounds_toArray, List.set_cons_zero, List.set_cons_succ]
              refine wpAnyH_ready (rs := [19]) (by kernel_rfl) (by simp) ?_
              refine AllReadyH.cons (o := { dst := none, op := _, type := _, pos := _, after := _, guard := _ }) rfl (fun K hK => ?_) ?_
              · skip
                go_simp
                refine hK.out _ _ ?_ (fun hH => ?_)
                · exact (World.cell?_setCell_far _ _ _ _ hgb).trans hHeld
                clear hK K hHeld
                have hHeld := hH
                clear hH
                try simp only [Act.put, List.setIfInBounds_toArray, List.set_cons_zero, List.set_cons_succ]
                refine wpAnyH_done (by kernel_rfl) ?_ _
                have s0 := HF9.out.s0
                have s1 := HF9.out.s1
                have q0 := HF9.out.q0
                have q1 := HF9.out.q1
                have q2 := HF9.out.q2
                have q3 := HF9.out.q3
                have d0 := HF9.out.d0
                have d1 := HF9.out.d1
                clear q9 hf9 z9 e0 hcall hone
                go_wp2
                refine bodyPost_ret (v := .agg #[.slice (some ⟨gn, 0, none⟩) len cap, .int .i64 r]) (by simp [results, Try.results27, go_sem, s0, s1]) rfl ?_
                exact HF9.out.fin
              exact AllReadyH.nil
            exact AllReadyH.nil
          exact AllReadyH.nil
        exact AllReadyH.nil
      exact AllReadyH.nil
    refine AllReadyH.cons (o := { dst := some 29, op := _, type := _, pos := _, after := _, guard := _ }) rfl (fun K hK => ?_) ?_
    · skip
      go_simp
      refine hK.out _ _ ?_ (fun hH => ?_)
      · exact (World.cell?_alloc_some _ _ _ (Option.isSome_iff_exists.2 ⟨_, hHeld⟩)).trans hHeld
      clear hK K hHeld
      have hHeld := hH
      clear hH
      try simp only [Act.put, List.setIfInBounds_toArray, List.set_cons_zero, List.set_cons_succ]
      refine wpAnyH_ready (rs := [8, 14]) (by kernel_rfl) (by simp) ?_
      refine AllReadyH.cons (o := { dst := some 24, op := _, type := _, pos := _, after := _, guard := _ }) rfl (fun K hK => ?_) ?_
      · skip
        go_simp
        refine hK.out _ _ ?_ (fun hH => ?_)
        · exact hHeld
        clear hK K hHeld
        have hHeld := hH
        clear hH
        try simp only [Act.put, List.setIfInBounds_toArray, List.set_cons_zero, List.set_cons_succ]
        refine wpAnyH_ready (rs := [14]) (by kernel_rfl) (by simp) ?_
        refine AllReadyH.cons (o := { dst := some 30, op := _, type := _, pos := _, after := _, guard := _ }) rfl (fun K hK => ?_) ?_
        · skip
          go_simp
          go_at_call 53
          refine hone.out.mono ?_
          intro e w7 h7
          obtain ⟨z, rfl, z0, k27, hl37, hgl7, HC⟩ := hcall.out e w7 h7
          have HC7 := hide HC
          clear h7 HC
          refine hK.out _ _ ?_ (fun hH => ?_)
          · exact z0
          clear hK K hHeld
          have hHeld := hH
          clear hH
          try simp only [Act.put, List.setIfInBounds_toArray, List.set_cons_zero, List.set_cons_succ]
          refine wpAnyH_ready (rs := [15]) (by kernel_rfl) (by simp) ?_
          refine AllReadyH.cons (o := { dst := some 31, op := _, type := _, pos := _, after := _, guard := _ }) rfl (fun K hK => ?_) ?_
          · skip
            go_simp
            refine hK.out _ _ ?_ (fun hH => ?_)
            · exact (World.cell?_alloc_some _ _ _ (Option.isSome_iff_exists.2 ⟨_, hHeld⟩)).trans hHeld
            clear hK K hHeld
            have hHeld := hH
            clear hH
            try simp only [Act.put, List.setIfInBounds_toArray, List.set_cons_zero, List.set_cons_succ]
            refine wpAnyH_ready (rs := [16]) (by kernel_rfl) (by simp) ?_
            refine AllReadyH.cons (o := { dst := some 32, op := _, type := _, pos := _, after := _, guard := _ }) rfl (fun K hK => ?_) ?_
            · skip
              refine step_append_ints (by rfl) (.tmp 24) (.tmp 31) (by rfl) 0 Ak ck m.kids (by simp [Act.eval, Act.put]) (HC7.out.own.alloc _) ⟨w7.heap.size, 0, none⟩ 1 [z] (by simp) (by simp [Act.eval, Act.put]) (by simpa using IntsAt.lit w7 [z] (by intro y hy; simp at hy; rw [hy]; exact HC7.out.z64) (by simp)) (by simp; omega) (by simp) ?_
              intro zs A' c' w9 hz9 hown9 hg9 hat9
              obtain ⟨HF, z9, q9, hf9⟩ := HC7.out.app (P' := p + 204) hpp.out.1 hpp.out.2 H10.out Hm.out k27 hz9.out hown9 hg9 hat9
              have HF9 := hide HF
              clear HF hown9 hg9 hat9
              refine hK.out _ _ ?_ (fun hH => ?_)
              · exact z9
              clear hK K hHeld
              have hHeld := hH
              clear hH
              try simp only [Act.put, List.setIfInBounds_toArray, List.set_cons_zero, List.set_cons_succ]
              refine wpAnyH_take (i := 17) (oi := { dst := some 33, op := _, type := _, pos := _, after := _, guard := _ }) (v := ?_) rfl (by kernel_rfl) (by kernel_rfl) (by kernel_rfl) (fun _ _ _ h => h) (Or.inl ⟨by rfl, ?_⟩) (by assumption) ?_
              rotate_left
              · (intro w hSw; (try dsimp only at hSw); go_simp; try with_reducible rfl)
              try simp only [Act.put, List.setIfInBounds_toArray, List.set_cons_zero, List.set_cons_succ]
              refine wpAnyH_take (i := 18) (oi := { dst := some 34, op := _, type := _, pos := _, after := _, guard := _ }) (v := ?_) rfl (by kernel_rfl) (by kernel_rfl) (by kernel_rfl) (fun _ _ _ h => h) (Or.inl ⟨by rfl, ?_⟩) (by assumption) ?_
              rotate_left
              · (intro w hSw; (try dsimp only at hSw); go_simp; try with_reducible rfl)
              try simp only [Act.put, List.setIfInBounds_toArray, List.set_cons_zero, List.set_cons_succ]
              refine wpAnyH_ready (rs := [19]) (by kernel_rfl) (by simp) ?_
              refine AllReadyH.cons (o := { dst := none, op := _, type := _, pos := _, after := _, guard := _ }) rfl (fun K hK => ?_) ?_
              · skip
                go_simp
                refine hK.out _ _ ?_ (fun hH => ?_)
                · exact (World.cell?_setCell_far _ _ _ _ hgb).trans hHeld
                clear hK K hHeld
                have hHeld := hH
                clear hH
                try simp only [Act.put, List.setIfInBounds_toArray, List.set_cons_zero, List.set_cons_succ]
                refine wpAnyH_done (by kernel_rfl) ?_ _
                have s0 := HF9.out.s0
                have s1 := HF9.out.s1
                have q0 := HF9.out.q0
                have q1 := HF9.out.q1
                have q2 := HF9.out.q2
                have q3 := HF9.out.q3
                have d0 := HF9.out.d0
                have d1 := HF9.out.d1
                clear q9 hf9 z9 e0 hcall hone
                go_wp2
                refine bodyPost_ret (v := .agg #[.slice (some ⟨gn, 0, none⟩) len cap, .int .i64 r]) (by simp [results, Try.results27, go_sem, s0, s1]) rfl ?_
                exact HF9.out.fin
              exact AllReadyH.nil
            exact AllReadyH.nil
          exact AllReadyH.nil
        exact AllReadyH.nil
      refine AllReadyH.cons (o := { dst := some 30, op := _, type := _, pos := _, after := _, guard := _ }) rfl (fun K hK => ?_) ?_
      · skip
        go_simp
        go_at_call 53
        refine hone.out.mono ?_
        intro e w7 h7
        obtain ⟨z, rfl, z0, k27, hl37, hgl7, HC⟩ := hcall.out e w7 h7
        have HC7 := hide HC
        clear h7 HC
        refine hK.out _ _ ?_ (fun hH => ?_)
        · exact z0
        clear hK K hHeld
        have hHeld := hH
        clear hH
        try simp only [Act.put, List.setIfInBounds_toArray, List.set_cons_zero, List.set_cons_succ]
        refine wpAnyH_ready (rs := [8, 15]) (by kernel_rfl) (by simp) ?_
        refine AllReadyH.cons (o := { dst := some 24, op := _, type := _, pos := _, after := _, guard := _ }) rfl (fun K hK => ?_) ?_
        · skip
          go_simp
          refine hK.out _ _ ?_ (fun hH => ?_)
          · exact hHeld
          clear hK K hHeld
          have hHeld := hH
          clear hH
          try simp only [Act.put, List.setIfInBounds_toArray, List.set_cons_zero, List.set_cons_succ]
          refine wpAnyH_ready (rs := [15]) (by kernel_rfl) (by simp) ?_
          refine AllReadyH.cons (o := { dst := some 31, op := _, type := _, pos := _, after := _, guard := _ }) rfl (fun K hK => ?_) ?_
          · skip
            go_simp
            refine hK.out _ _ ?_ (fun hH => ?_)
            · exact (World.cell?_alloc_some _ _ _ (Option.isSome_iff_exists.2 ⟨_, hHeld⟩)).trans hHeld
            clear hK K hHeld
            have hHeld := hH
            clear hH
            try simp only [Act.put, List.setIfInBounds_toArray, List.set_cons_zero, List.set_cons_succ]
            refine wpAnyH_ready (rs := [16]) (by kernel_rfl) (by simp) ?_
            refine AllReadyH.cons (o := { dst := some 32, op := _, type := _, pos := _, after := _, guard := _ }) rfl (fun K hK => ?_) ?_
            · skip
              refine step_append_ints (by rfl) (.tmp 24) (.tmp 31) (by rfl) 0 Ak ck m.kids (by simp [Act.eval, Act.put]) (HC7.out.own.alloc _) ⟨w7.heap.size, 0, none⟩ 1 [z] (by simp) (by simp [Act.eval, Act.put]) (by simpa using IntsAt.lit w7 [z] (by intro y hy; simp at hy; rw [hy]; exact HC7.out.z64) (by simp)) (by simp; omega) (by simp) ?_
              intro zs A' c' w9 hz9 hown9 hg9 hat9
              obtain ⟨HF, z9, q9, hf9⟩ := HC7.out.app (P' := p + 204) hpp.out.1 hpp.out.2 H10.out Hm.out k27 hz9.out hown9 hg9 hat9
              have HF9 := hide HF
              clear HF hown9 hg9 hat9
              refine hK.out _ _ ?_ (fun hH => ?_)
              · exact z9
              clear hK K hHeld
              have hHeld := hH
              clear hH
              try simp only [Act.put, List.setIfInBounds_toArray, List.set_cons_zero, List.set_cons_succ]
              refine wpAnyH_take (i := 17) (oi := { dst := some 33, op := _, type := _, pos := _, after := _, guard := _ }) (v := ?_) rfl (by kernel_rfl) (by kernel_rfl) (by kernel_rfl) (fun _ _ _ h => h) (Or.inl ⟨by rfl, ?_⟩) (by assumption) ?_
              rotate_left
              · (intro w hSw; (try dsimp only at hSw); go_simp; try with_reducible rfl)
              try simp only [Act.put, List.setIfInBounds_toArray, List.set_cons_zero, List.set_cons_succ]
              refine wpAnyH_take (i := 18) (oi := { dst := some 34, op := _, type := _, pos := _, after := _, guard := _ }) (v := ?_) rfl (by kernel_rfl) (by kernel_rfl) (by kernel_rfl) (fun _ _ _ h => h) (Or.inl ⟨by rfl, ?_⟩) (by assumption) ?_
              rotate_left
              · (intro w hSw; (try dsimp only at hSw); go_simp; try with_reducible rfl)
              try simp only [Act.put, List.setIfInBounds_toArray, List.set_cons_zero, List.set_cons_succ]
              refine wpAnyH_ready (rs := [19]) (by kernel_rfl) (by simp) ?_
              refine AllReadyH.cons (o := { dst := none, op := _, type := _, pos := _, after := _, guard := _ }) rfl (fun K hK => ?_) ?_
              · skip
                go_simp
                refine hK.out _ _ ?_ (fun hH => ?_)
                · exact (World.cell?_setCell_far _ _ _ _ hgb).trans hHeld
                clear hK K hHeld
                have hHeld := hH
                clear hH
                try simp only [Act.put, List.setIfInBounds_toArray, List.set_cons_zero, List.set_cons_succ]
                refine wpAnyH_done (by kernel_rfl) ?_ _
                have s0 := HF9.out.s0
                have s1 := HF9.out.s1
                have q0 := HF9.out.q0
                have q1 := HF9.out.q1
                have q2 := HF9.out.q2
                have q3 := HF9.out.q3
                have d0 := HF9.out.d0
                have d1 := HF9.out.d1
                clear q9 hf9 z9 e0 hcall hone
                go_wp2
                refine bodyPost_ret (v := .agg #[.slice (some ⟨gn, 0, none⟩) len cap, .int .i64 r]) (by simp [results, Try.results27, go_sem, s0, s1]) rfl ?_
                exact HF9.out.fin
              exact AllReadyH.nil
            exact AllReadyH.nil
          exact AllReadyH.nil
        refine AllReadyH.cons (o := { dst := some 31, op := _, type := _, pos := _, after := _, guard := _ }) rfl (fun K hK => ?_) ?_
        · skip
          go_simp
          refine hK.out _ _ ?_ (fun hH => ?_)
          · exact (World.cell?_alloc_some _ _ _ (Option.isSome_iff_exists.2 ⟨_, hHeld⟩)).trans hHeld
          clear hK K hHeld
          have hHeld := hH
          clear hH
          try simp only [Act.put, List.setIfInBounds_toArray, List.set_cons_zero, List.set_cons_succ]
          refine wpAnyH_ready (rs := [8]) (by kernel_rfl) (by simp) ?_
          refine AllReadyH.cons (o := { dst := some 24, op := _, type := _, pos := _, after := _, guard := _ }) rfl (fun K hK => ?_) ?_
          · skip
            go_simp
            refine hK.out _ _ ?_ (fun hH => ?_)
            · exact hHeld
            clear hK K hHeld
            have hHeld := hH
            clear hH
            try simp only [Act.put, List.setIfInBounds_toArray, List.set_cons_zero, List.set_cons_succ]
            refine wpAnyH_ready (rs := [16]) (by kernel_rfl) (by simp) ?_
            refine AllReadyH.cons (o := { dst := some 32, op := _, type := _, pos := _, after := _, guard := _ }) rfl (fun K hK => ?_) ?_
            · skip
              refine step_append_ints (by rfl) (.tmp 24) (.tmp 31) (by rfl) 0 Ak ck m.kids (by simp [Act.eval, Act.put]) (HC7.out.own.alloc _) ⟨w7.heap.size, 0, none⟩ 1 [z] (by simp) (by simp [Act.eval, Act.put]) (by simpa using IntsAt.lit w7 [z] (by intro y hy; simp at hy; rw [hy]; exact HC7.out.z64) (by simp)) (by simp; omega) (by simp) ?_
              intro zs A' c' w9 hz9 hown9 hg9 hat9
              obtain ⟨HF, z9, q9, hf9⟩ := HC7.out.app (P' := p + 204) hpp.out.1 hpp.out.2 H10.out Hm.out k27 hz9.out hown9 hg9 hat9
              have HF9 := hide HF
              clear HF hown9 hg9 hat9
              refine hK.out _ _ ?_ (fun hH => ?_)
              · exact z9
              clear hK K hHeld
              have hHeld := hH
              clear hH
              try simp only [Act.put, List.setIfInBounds_toArray, List.set_cons_zero, List.set_cons_succ]
              refine wpAnyH_take (i := 17) (oi := { dst := some 33, op := _, type := _, pos := _, after := _, guard := _ }) (v := ?_) rfl (by kernel_rfl) (by kernel_rfl) (by kernel_rfl) (fun _ _ _ h => h) (Or.inl ⟨by rfl, ?_⟩) (by assumption) ?_
              rotate_left
              · (intro w hSw; (try dsimp only at hSw); go_simp; try with_reducible rfl)
              try simp only [Act.put, List.setIfInBounds_toArray, List.set_cons_zero, List.set_cons_succ]
              refine wpAnyH_take (i := 18) (oi := { dst := some 34, op := _, type := _, pos := _, after := _, guard := _ }) (v := ?_) rfl (by kernel_rfl) (by kernel_rfl) (by kernel_rfl) (fun _ _ _ h => h) (Or.inl ⟨by rfl, ?_⟩) (by assumption) ?_
              rotate_left
              · (intro w hSw; (try dsimp only at hSw); go_simp; try with_reducible rfl)
              try simp only [Act.put, List.setIfInBounds_toArray, List.set_cons_zero, List.set_cons_succ]
              refine wpAnyH_ready (rs := [19]) (by kernel_rfl) (by simp) ?_
              refine AllReadyH.cons (o := { dst := none, op := _, type := _, pos := _, after := _, guard := _ }) rfl (fun K hK => ?_) ?_
              · skip
                go_simp
                refine hK.out _ _ ?_ (fun hH => ?_)
                · exact (World.cell?_setCell_far _ _ _ _ hgb).trans hHeld
                clear hK K hHeld
                have hHeld := hH
                clear hH
                try simp only [Act.put, List.setIfInBounds_toArray, List.set_cons_zero, List.set_cons_succ]
                refine wpAnyH_done (by kernel_rfl) ?_ _
                have s0 := HF9.out.s0
                have s1 := HF9.out.s1
                have q0 := HF9.out.q0
                have q1 := HF9.out.q1
                have q2 := HF9.out.q2
                have q3 := HF9.out.q3
                have d0 := HF9.out.d0
                have d1 := HF9.out.d1
                clear q9 hf9 z9 e0 hcall hone
                go_wp2
                refine bodyPost_ret (v := .agg #[.slice (some ⟨gn, 0, none⟩) len cap, .int .i64 r]) (by simp [results, Try.results27, go_sem, s0, s1]) rfl ?_
                exact HF9.out.fin
              exact AllReadyH.nil
            exact AllReadyH.nil
          exact AllReadyH.nil
        exact AllReadyH.nil
      exact AllReadyH.nil
    exact AllReadyH.nil
  · by_cases hx1 : x = 1
    · subst hx1
      have n1 := HS5.out.n1
      have n2 := HS5.out.n2
      have n3 := HS5.out.n3
      have nr := HS5.out.nr
      have hl3 := HS5.out.l3.lt
      have hgl5 := HS5.out.gen.lt
      have hlen := HS5.out.hlen
      obtain ⟨m, hm⟩ : ∃ m, ns[k]? = some m := ⟨_, List.getElem?_eq_getElem (by omega)⟩
      have Hm := hide hm
      have hbA : Below w5.heap.size w5 (w5.drew.alloc (.cells #[.int .i64 (-1), .int .i64 6, .int .i64 4] 3)) := ((Below.refl _ w5).drew).alloc (Nat.le_refl _) _
      have lA := Lies.new w5.drew #[.int .i64 (-1), .int .i64 6, .int .i64 4] 3
      have HS6 := hide (HS5.out.later hbA)
      have hr6 := hr5.below hbA
      have hrl := hr5.box.lt
      have hone := hide (one_any rb A nb cb (p1 + 1 + 1) w5.heap.size 3 3 [-1, 6, 4] _ hr6 (by omega) rfl (by omega) (by omega) (by omega) (fun j z hz => by
        have := lA.cell j
        rw [show w5.heap.size = w5.drew.heap.size from rfl, this]
        match j, hz with
        | 0, hz => simpa using hz
        | 1, hz => simpa using hz
        | 2, hz => simpa using hz
        | j + 3, hz => simp at hz))
      have H10 := hide hl10
      clear hm hbA lA hr6 hlen
      go_wp2_with fail
      go_region_law (first
        | (go_simp; go_at_call 53; refine hone.out.mono ?_; rintro e w7 ⟨⟨z, hz, rfl⟩, hr7, ht7⟩; dsimp only
           have S7 := HS6.out.turn (P' := p + 203) ht7 hr7 (by omega)
           have hz64 : Hid (In64 z) := by
             simp at hz
             rcases hz with rfl | rfl | rfl <;> constructor <;> omega
           have z0 := S7.l3.cell 0
           simp at z0
           have hl37 := S7.l3.lt
           have hgl7 := S7.gen.lt
           have k07 := (S7.gen.nd k m Hm.out).kind
           have kf7 : w7.frozen? ⟨gn, k * 3, none⟩ = false := by
             obtain ⟨fw, hfw⟩ := S7.gen.row
             exact World.rowIs.frozen hfw (k * 3)
           have HS7 := hide S7
           have HR7 := hide hr7
           clear S7 hz ht7 hr7))
      all_goals
        have hfin := hide (any_kind HS7.out (P' := p + 204) (k := k) HR7.out (by omega) (by omega) H10.out z hz64.out (.slice (some ⟨gn, 0, none⟩) len cap) (.int .i64 r))
        have l3x := HS7.out.l3.far (p := ⟨gn, k * 3, none⟩) (by show b3 ≠ gn; omega) (.int .i64 z)
        have l2x := HS7.out.l2.far (p := ⟨gn, k * 3, none⟩) (by show w.heap.size ≠ gn; omega) (.int .i64 z)
        have l2f := (l2x.set 0 (.slice (some ⟨gn, 0, none⟩) len cap)).set 1 (.int .i64 r)
        simp only [List.setIfInBounds_toArray, List.set_cons_succ, List.set_cons_zero] at l2f
        have s0 := l2f.cell 0
        have s1 := l2f.cell 1
        have q0 := l2x.cell 0
        have q1 := l2x.cell 1
        have q2 := l2x.frozen 0
        have q3 := l2x.frozen 1
        have d0 := l3x.cell 0
        have d1 := l3x.cell 1
        simp only [List.getElem?_toArray, List.getElem?_cons_zero, List.getElem?_cons_succ] at s0 s1 q0 q1 d0 d1
        clear l3x l2x l2f b0 b1 c0 c1 e0 e1 z0
        go_wp2
        refine bodyPost_ret (v := .agg #[.slice (some ⟨gn, 0, none⟩) len cap, .int .i64 r]) (by simp [results, Try.results27, go_sem, s0, s1]) rfl ?_
        exact hfin.out
    · by_cases hx2 : x = 2
      · subst hx2
        have n1 := HS5.out.n1
        have n2 := HS5.out.n2
        have n3 := HS5.out.n3
        have hgl5 := HS5.out.gen.lt
        have hlen := HS5.out.hlen
        obtain ⟨m, hm⟩ : ∃ m, ns[k]? = some m := ⟨_, List.getElem?_eq_getElem (by omega)⟩
        have hnd := HS5.out.gen.nd k m hm
        obtain ⟨Ak, ck, k2, _⟩ := hnd.kids
        have k0 := hnd.kind
        have k1 := hnd.value
        obtain ⟨fw, hfw⟩ := HS5.out.gen.row
        have g0 := World.rowIs.frozen hfw (k * 3)
        have g1 := World.rowIs.frozen hfw (k * 3 + 1)
        have g2 := World.rowIs.frozen hfw (k * 3 + 2)
        have hlt3 := HS5.out.l3.lt
        have hlt2 := HS5.out.l2.lt
        have hfin := hide (any_two HS5.out (P' := p + 204) (k := k) hr5 (by omega) (by omega) hl10 (.slice (some ⟨gn, 0, none⟩) len cap) (.int .i64 r))
        have l3a := ((HS5.out.l3.far (p := ⟨gn, k * 3, none⟩) (by show b3 ≠ gn; omega) (.int .i64 2)).far (p := ⟨gn, k * 3 + 1, none⟩) (by show b3 ≠ gn; omega) (.int .i64 0)).far (p := ⟨gn, k * 3 + 2, none⟩) (by show b3 ≠ gn; omega) (.slice (some ⟨w5.heap.size, 0, none⟩) 1 1)
        have l2a := ((HS5.out.l2.far (p := ⟨gn, k * 3, none⟩) (by show w.heap.size ≠ gn; omega) (.int .i64 2)).far (p := ⟨gn, k * 3 + 1, none⟩) (by show w.heap.size ≠ gn; omega) (.int .i64 0)).far (p := ⟨gn, k * 3 + 2, none⟩) (by show w.heap.size ≠ gn; omega) (.slice (some ⟨w5.heap.size, 0, none⟩) 1 1)
        have l3b := l3a.alloc (.cells #[.int .i64 (k : Int)] 3)
        have l2b := l2a.alloc (.cells #[.int .i64 (k : Int)] 3)
        have l2c := (l2a.set 0 (.slice (some ⟨gn, 0, none⟩) len cap)).alloc (.cells #[.int .i64 (k : Int)] 3)
        have l2d := ((l2a.set 0 (.slice (some ⟨gn, 0, none⟩) len cap)).set 1 (.int .i64 r)).alloc (.cells #[.int .i64 (k : Int)] 3)
        simp only [List.setIfInBounds_toArray, List.set_cons_succ, List.set_cons_zero] at l2c l2d
        have s0 := l2d.cell 0
        have s1 := l2d.cell 1
        have q0 := l2b.cell 0
        have q1 := l2b.cell 1
        have q2 := l2b.frozen 0
        have q3 := l2c.cell 1
        have q4 := l2c.frozen 1
        have d0 := l3b.cell 0
        have d1 := l3b.cell 1
        simp only [List.getElem?_toArray, List.getElem?_cons_zero, List.getElem?_cons_succ] at s0 s1 q0 q1 q3 d0 d1
        clear l3a l2a l3b l2b l2c l2d HS5 hnd hfw hr5 hm b0 b1 c0 c1 hlen
        go_wp2
        refine bodyPost_ret (v := .agg #[.slice (some ⟨gn, 0, none⟩) len cap, .int .i64 r]) (by simp [results, Try.results27, go_sem, s0, s1]) rfl ?_
        exact hfin.out
      · by_cases hx3 : x = 3
        · subst hx3
          have hbA : Below w5.heap.size w5 (w5.alloc (.cells #[.int .i64 (-1), .int .i64 (len : Int)] 3)) := (Below.refl _ w5).alloc (Nat.le_refl _) _
          have lA := Lies.new w5 #[.int .i64 (-1), .int .i64 (len : Int)] 3
          have HS6 := hide (HS5.out.later hbA)
          have hr6 := hr5.below hbA
          have hrl := hr5.box.lt
          go_wp2_with fail
          generalize w5.alloc (.cells #[.int .i64 (-1), .int .i64 (len : Int)] 3) = W6 at HS6 hr6 lA ⊢
          refine (one_any rb A nb cb (p1 + 1 + 1) w5.heap.size 2 2 [-1, (len : Int)] W6 hr6 (by omega) rfl (by omega) (by omega) (by omega) (fun j z hz => by
            have := lA.cell j
            rw [this]
            match j, hz with
            | 0, hz => simpa using hz
            | 1, hz => simpa using hz
            | j + 2, hz => simp at hz)).mono ?_
          rintro e w7 ⟨⟨z, hz, rfl⟩, hr7, ht7⟩
          have hz64 : In64 z := by
            simp at hz
            rcases hz with rfl | rfl <;> constructor <;> omega
          have HS7 := hide (HS6.out.turn (P' := p + 203) ht7 hr7 (by omega))
          have f1 := HS7.out.l3.frozen 1
          have g0 := HS7.out.l3.cell 0
          have g1 := HS7.out.l3.cell 1
          simp only [List.getElem?_toArray, List.getElem?_cons_zero, List.getElem?_cons_succ] at g0 g1
          have n1 := HS7.out.n1
          have n2 := HS7.out.n2
          have n3 := HS7.out.n3
          have hbl : ∀ b, b ≠ b3 → (w7.setCell ⟨b3, 1, none⟩ (.int .i64 z)).heap[b]? = w7.heap[b]? := fun b hb => Below.heap_setCell _ _ _ _ hb
          have l3x := HS7.out.l3.set 1 (.int .i64 z)
          simp only [List.setIfInBounds_toArray, List.set_cons_succ, List.set_cons_zero] at l3x
          have l2x : Lies (w7.setCell ⟨b3, 1, none⟩ (.int .i64 z)) w.heap.size _ _ := (hbl _ (by omega)).trans HS7.out.l2
          have hfin := hide (any_same HS7.out (P' := p + 204) (X := w7.setCell ⟨b3, 1, none⟩ (.int .i64 z)) ⟨p1 + 1 + 1 + 1, by omega, hr7.kept ⟨rfl, rfl, rfl, by simp, fun b hb => hbl b (by omega)⟩⟩ ⟨HS7.out.grew.os, HS7.out.grew.tape, HS7.out.grew.output, by simpa using HS7.out.grew.size, fun b hb hne => (hbl b (by omega)).trans (HS7.out.grew.block b hb hne)⟩ (by simp) hl1 hl10 (fun b _ _ hb => hbl b hb) z hz64 (.slice (some ⟨gn, 0, none⟩) len cap) (.int .i64 z))
          clear HS5 HS6 HS7 hr6 hr5 hr7 ht7 hz lA hbA hbl b0 b1 c0 c1 e0 e1
          have l2f := (l2x.set 0 (.slice (some ⟨gn, 0, none⟩) len cap)).set 1 (.int .i64 z)
          simp only [List.setIfInBounds_toArray, List.set_cons_succ, List.set_cons_zero] at l2f
          have s0 := l2f.cell 0
          have s1 := l2f.cell 1
          have q0 := l2x.cell 0
          have q1 := l2x.cell 1
          have q2 := l2x.frozen 0
          have q3 := l2x.frozen 1
          have d0 := l3x.cell 0
          have d1 := l3x.cell 1
          simp only [List.getElem?_toArray, List.getElem?_cons_zero, List.getElem?_cons_succ] at s0 s1 q0 q1 d0 d1
          clear l2f
          go_wp2
          refine bodyPost_ret (v := .agg #[.slice (some ⟨gn, 0, none⟩) len cap, .int .i64 z]) (by simp [results, Try.results27, go_sem, s0, s1]) rfl ?_
          exact hfin.out
        · have t0 : ((x : Int) == 0) = false := by simp; omega
          have t1 : ((x : Int) == 1) = false := by simp; omega
          have t2 : ((x : Int) == 2) = false := by simp; omega
          have t3 : ((x : Int) == 3) = false := by simp; omega
          have l2f := (HS5.out.l2.set 0 (.slice (some ⟨gn, 0, none⟩) len cap)).set 1 (.int .i64 r)
          simp only [List.setIfInBounds_toArray, List.set_cons_succ, List.set_cons_zero] at l2f
          have s0 := l2f.cell 0
          have s1 := l2f.cell 1
          simp only [List.getElem?_toArray, List.getElem?_cons_zero, List.getElem?_cons_succ] at s0 s1
          have hfin := hide (any_same HS5.out (P' := p + 204) (X := w5) ⟨p1 + 1 + 1, by omega, hr5⟩ HS5.out.grew (Nat.le_refl _) hl1 hl10 (fun _ _ _ _ => rfl) r hr64 (.slice (some ⟨gn, 0, none⟩) len cap) (.int .i64 r))
          clear l2f HS5
          go_wp2
          refine bodyPost_ret (v := .agg #[.slice (some ⟨gn, 0, none⟩) len cap, .int .i64 r]) (by simp [results, Try.results27, go_sem, s0, s1]) rfl ?_
          exact hfin.out

end Go.Proofs.Ythgklkpfmjgeoaa
