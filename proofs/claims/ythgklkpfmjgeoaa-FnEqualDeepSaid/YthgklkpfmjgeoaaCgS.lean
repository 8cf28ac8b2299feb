/-
  The model's copyGraph: a graph of the call's own that reads as the one that was handed in. Made by wip/gen/gencg.py.
-/
import Derived.Test.YthgklkpfmjgeoaaPjAz
import Derived.Test.YthgklkpfmjgeoaaPjAy
import Derived.Test.YthgklkpfmjgeoaaSpecCp
import Derived.Deep.Cut
import Derived.Deep.LoopGhost
import Derived.Deep.RegionHeld
namespace Go.Proofs.Ythgklkpfmjgeoaa
open Go.RowKit Go.Maps
set_option linter.unusedVariables false
set_option linter.unusedSimpArgs false

theorem RowD.up {w : World} {base bnd bnd2 : Nat} {A : Option Addr} {c : Nat} {ns : List Nd} (h : RowD w base bnd A c ns) (h2 : bnd ≤ bnd2) : RowD w base bnd2 A c ns := by
  obtain ⟨cs, h1, h3, h4, h5⟩ := h.row
  exact ⟨⟨cs, h1, h3, h4, fun i A1 n1 c1 hi hc b hb => Nat.lt_of_lt_of_le (h5 i A1 n1 c1 hi hc b hb) h2⟩⟩

theorem RowD.lowD {w : World} {base base' bnd : Nat} {A : Option Addr} {c : Nat} {ns : List Nd} (h : RowD w base bnd A c ns) (hb : base' ≤ base) : RowD w base' bnd A c ns := by
  obtain ⟨cs, h1, h2, h4, h5⟩ := h.row
  refine ⟨⟨cs, ⟨h1.1, ?_⟩, fun j n hj => ?_, h4, h5⟩⟩
  · rcases h1.2 with h3 | ⟨g, cap, cur, hv, hg, r⟩
    · exact .inl h3
    · exact .inr ⟨g, cap, cur, hv, by omega, r⟩
  · obtain ⟨A1, c1, a1, a2, a3, a4⟩ := h2 j n hj
    exact ⟨A1, c1, a1, a2, a3, a4.lowB hb⟩

/-- a row that starts -/
theorem RowD.start (w : World) (base bnd : Nat) : RowD w base bnd none 0 [] :=
  ⟨⟨[], World.ownsRow_nil _ _ _ _, fun j n h => by simp at h, fun i j _ _ _ _ _ _ _ hj => by simp at hj, fun i _ _ _ hi => by simp at hi⟩⟩

/-- the answer: a row that can grow and reads as the nodes -/
def GivesD (w : World) (ns : List Nd) (r : Int) (e : Ending) (w' : World) : Prop :=
  ∃ A c, e = .returned (.agg #[.slice A ns.length c, .int .i64 r]) ∧ RowD w' w.heap.size w'.heap.size A c ns ∧ Below w.heap.size w w'

/-- the memory of the loop -/
structure CgA (w wr : World) (A : Option Addr) (c : Nat) (ns : List Nd) (r : Int) (k : Nat) (A2 : Option Addr) (c2 : Nat) : Prop where
  bel : Below w.heap.size w wr
  lG : Lies wr w.heap.size #[.slice A ns.length c, .int .i64 r] 25
  lR : Lies wr (w.heap.size + 1) #[.slice none 0 0, .int .i64 0] 25
  lC : Lies wr (w.heap.size + 2) #[.slice A2 k c2, .int .i64 r] 25
  row : RowD wr (w.heap.size + 3) wr.heap.size A2 c2 (ns.take k)
  size : w.heap.size + 3 ≤ wr.heap.size

theorem CgA.step {w wr w7 : World} {A A2 A5 : Option Addr} {c c2 c5 k bnd : Nat} {ns : List Nd} {r : Int} {n : Nd} (h : CgA w wr A c ns r k A2 c2) (hn : ns[k]? = some n) (hb : Below (w.heap.size + 3) wr w7) (hbnd : bnd ≤ w7.heap.size)
    (hD : RowD w7 (w.heap.size + 3) bnd A5 c5 (ns.take k ++ [n])) : CgA w (w7.setCell ⟨w.heap.size + 2, 0, none⟩ (.slice A5 (k + 1) c5)) A c ns r (k + 1) A5 c5 := by
  have lC := (h.lC.below hb (by omega)).set 0 (.slice A5 (k + 1) c5)
  simp only [List.setIfInBounds_toArray, List.set_cons_succ, List.set_cons_zero] at lC
  refine ⟨(h.bel.trans (hb.mono (by omega))).setCell (p := ⟨w.heap.size + 2, 0, none⟩) (by show w.heap.size ≤ w.heap.size + 2; omega) _, ?_, ?_, lC, ?_, by have := hb.size; have := h.size; simp; omega⟩
  · exact (Below.heap_setCell _ _ _ _ (by show w.heap.size ≠ w.heap.size + 2; omega)).trans (h.lG.below hb (by omega))
  · exact (Below.heap_setCell _ _ _ _ (by show w.heap.size + 1 ≠ w.heap.size + 2; omega)).trans (h.lR.below hb (by omega))
  · rw [List.take_add_one, hn]
    exact (hD.ofBlk (fun q hq _ => Below.heap_setCell _ _ _ _ (by show q ≠ w.heap.size + 2; omega))).up (by simp; omega)

set_option maxRecDepth 100000 in
set_option maxHeartbeats 4000000 in
theorem copyGraph_any (A : Option Addr) (ns : List Nd) (c : Nat) (r : Int) (w : World) (hr : NdsAt w w.heap.size A ns) (hl : ns.length ≤ 1000) (hk : ∀ n ∈ ns, n.kids.length ≤ 1000) :
    Calls Try.prog 43 #[.agg #[.slice A ns.length c, .int .i64 r]] w (GivesD w ns r) := by
  have hB3 : Below w.heap.size w (((w.alloc (.cells #[.slice A ns.length c, .int .i64 r] 25)).alloc (.cells #[.slice none 0 0, .int .i64 0] 25)).alloc (.cells #[.slice none 0 0, .int .i64 r] 25)) := (((Below.refl _ _).alloc (Nat.le_refl _) _).alloc (by simp) _).alloc (by simp; omega) _
  have lG := ((Lies.new w #[.slice A ns.length c, .int .i64 r] 25).alloc (.cells #[.slice none 0 0, .int .i64 0] 25)).alloc (.cells #[.slice none 0 0, .int .i64 r] 25)
  have lR := (Lies.new (w.alloc (.cells #[.slice A ns.length c, .int .i64 r] 25)) #[.slice none 0 0, .int .i64 0] 25).alloc (.cells #[.slice none 0 0, .int .i64 r] 25)
  have lC := Lies.new ((w.alloc (.cells #[.slice A ns.length c, .int .i64 r] 25)).alloc (.cells #[.slice none 0 0, .int .i64 0] 25)) #[.slice none 0 0, .int .i64 r] 25
  simp only [World.size_alloc] at lR lC
  have HS0 := hide (show CgA w (((w.alloc (.cells #[.slice A ns.length c, .int .i64 r] 25)).alloc (.cells #[.slice none 0 0, .int .i64 0] 25)).alloc (.cells #[.slice none 0 0, .int .i64 r] 25)) A c ns r 0 none 0 from ⟨hB3, lG, lR, lC, RowD.start _ _ _, by simp⟩)
  have HR := hide hr
  have HK := hide hk
  clear hr hk lG lR lC hB3
  go_enter Try.func43, Try.ntmps43
  go_upto_region 2 with fail
  generalize (((w.alloc (.cells #[.slice A ns.length c, .int .i64 r] 25)).alloc (.cells #[.slice none 0 0, .int .i64 0] 25)).alloc (.cells #[.slice none 0 0, .int .i64 r] 25)) = W at HS0 ⊢
  go_wp2_with fail
  go_loopg [4] ns.length (fun gk iv wr => ∃ (k : Nat) (A2 : Option Addr) (c2 : Nat), k ≤ ns.length ∧ gk = ns.length - k ∧ iv = .int .i64 (k : Int) ∧ CgA w wr A c ns r k A2 c2)
  case atStart => exact ⟨0, none, 0, Nat.zero_le _, rfl, rfl, HS0.out⟩
  case round =>
    clear HS0
    obtain ⟨k, A2, c2, hk, rfl, rfl, hS⟩ := hrel
    have HS := hide hS
    have e0 := hS.lG.cell 0
    simp at e0
    have hszw : w.heap.size ≤ wr.heap.size := hS.bel.size
    by_cases hlt : k < ns.length
    · obtain ⟨b, off, n, rfl, hbl, hn, hm, hnd⟩ := (HR.out.below hS.bel).at_ hlt
      obtain ⟨A1, c1, k2, hki, hnil⟩ := hnd.kids
      have k0 := hnd.kind
      have k1 := hnd.value
      have d0 := hS.lC.cell 0
      simp at d0
      have HN := hide hn
      have HM := hide (HK.out n hm)
      have HKI := hide hki
      have hkl : (ns.take k).length = k := by simp; omega
      have hkn : n.kids.length ≤ 1000 := HM.out
      have hS0 : wr.cell? ⟨w.heap.size, 0, none⟩ = some (.slice (some ⟨b, off, none⟩) ns.length c) ∧ wr.cell? ⟨w.heap.size + 2, 0, none⟩ = some (.slice A2 k c2) ∧ wr.cell? ⟨b, off + k * 3, none⟩ = some (.int .i64 n.kind) ∧ wr.cell? ⟨b, off + k * 3 + 1, none⟩ = some (.int .i64 n.value) ∧ wr.cell? ⟨b, off + k * 3 + 2, none⟩ = some (.slice A1 n.kids.length c1) := ⟨e0, d0, k0, k1, k2⟩
      have HSt := hide (show ∀ X : World, Below (w.heap.size + 3) wr X → X.cell? ⟨w.heap.size, 0, none⟩ = some (.slice (some ⟨b, off, none⟩) ns.length c) ∧ X.cell? ⟨w.heap.size + 2, 0, none⟩ = some (.slice A2 k c2) ∧ X.cell? ⟨b, off + k * 3, none⟩ = some (.int .i64 n.kind) ∧ X.cell? ⟨b, off + k * 3 + 1, none⟩ = some (.int .i64 n.value) ∧ X.cell? ⟨b, off + k * 3 + 2, none⟩ = some (.slice A1 n.kids.length c1) from fun X hX =>
        ⟨(hX.cell (p := ⟨w.heap.size, 0, none⟩) (by show w.heap.size < w.heap.size + 3; omega)).trans e0, (hX.cell (p := ⟨w.heap.size + 2, 0, none⟩) (by show w.heap.size + 2 < w.heap.size + 3; omega)).trans d0, (hX.cell (p := ⟨b, off + k * 3, none⟩) (by show b < w.heap.size + 3; omega)).trans k0, (hX.cell (p := ⟨b, off + k * 3 + 1, none⟩) (by show b < w.heap.size + 3; omega)).trans k1, (hX.cell (p := ⟨b, off + k * 3 + 2, none⟩) (by show b < w.heap.size + 3; omega)).trans k2⟩)
      have hi3 : (0 : Int) ≤ (k : Int) := by omega
      have hi4 : (k : Int) < (ns.length : Int) := by omega
      have hx1 : w.heap.size + 1 + 1 ≠ w.heap.size := by omega
      have hxb : w.heap.size + 1 + 1 ≠ b := by omega
      have hdl : decide ((k : Int) < (ns.length : Int)) = true := by simp; omega
      clear hn hm hnd hS hki d0 k0 k1 k2
      go_upto_region 5 with fail
      refine wp_region_held_drew (S := fun w' => w'.cell? ⟨w.heap.size, 0, none⟩ = some (.slice (some ⟨b, off, none⟩) ns.length c) ∧ w'.cell? ⟨b, off + k * 3, none⟩ = some (.int .i64 n.kind) ∧ w'.cell? ⟨b, off + k * 3 + 1, none⟩ = some (.int .i64 n.value) ∧ w'.cell? ⟨b, off + k * 3 + 2, none⟩ = some (.slice A1 n.kids.length c1)) (by kernel_rfl) ⟨hS0.1, hS0.2.2⟩ (fun hHeld => ?_)
      refine wpAnyH_take (i := 0) (oi := { dst := some 15, op := _, type := _, pos := _, after := _, guard := _ }) (v := ?_) rfl (by kernel_rfl) (by kernel_rfl) (by kernel_rfl) (fun _ _ _ h => h) (Or.inl ⟨by rfl, ?_⟩) (by assumption) ?_
      rotate_left
      · (intro w hSw; (try dsimp only at hSw); obtain ⟨u0, u2, u3, u4⟩ := hSw; go_simp; try with_reducible rfl)
      try simp only [Act.put, List.setIfInBounds_toArray, List.set_cons_zero, List.set_cons_succ]
      refine wpAnyH_take (i := 2) (oi := { dst := some 17, op := _, type := _, pos := _, after := _, guard := _ }) (v := ?_) rfl (by kernel_rfl) (by kernel_rfl) (by kernel_rfl) (fun _ _ _ h => h) (Or.inl ⟨by rfl, ?_⟩) (by assumption) ?_
      rotate_left
      · (intro w hSw; (try dsimp only at hSw); obtain ⟨u0, u2, u3, u4⟩ := hSw; go_simp; try with_reducible rfl)
      try simp only [Act.put, List.setIfInBounds_toArray, List.set_cons_zero, List.set_cons_succ]
      refine wpAnyH_take (i := 3) (oi := { dst := some 18, op := _, type := _, pos := _, after := _, guard := _ }) (v := ?_) rfl (by kernel_rfl) (by kernel_rfl) (by kernel_rfl) (fun _ _ _ h => h) (Or.inl ⟨by rfl, ?_⟩) (by assumption) ?_
      rotate_left
      · (intro w hSw; (try dsimp only at hSw); obtain ⟨u0, u2, u3, u4⟩ := hSw; go_simp; try with_reducible rfl)
      try simp only [Act.put, List.setIfInBounds_toArray, List.set_cons_zero, List.set_cons_succ]
      refine wpAnyH_take (i := 4) (oi := { dst := some 19, op := _, type := _, pos := _, after := _, guard := _ }) (v := ?_) rfl (by kernel_rfl) (by kernel_rfl) (by kernel_rfl) (fun _ _ _ h => h) (Or.inl ⟨by rfl, ?_⟩) (by assumption) ?_
      rotate_left
      · (intro w hSw; (try dsimp only at hSw); obtain ⟨u0, u2, u3, u4⟩ := hSw; go_simp; try with_reducible rfl)
      try simp only [Act.put, List.setIfInBounds_toArray, List.set_cons_zero, List.set_cons_succ]
      refine wpAnyH_take (i := 5) (oi := { dst := some 20, op := _, type := _, pos := _, after := _, guard := _ }) (v := ?_) rfl (by kernel_rfl) (by kernel_rfl) (by kernel_rfl) (fun _ _ _ h => h) (Or.inl ⟨by rfl, ?_⟩) (by assumption) ?_
      rotate_left
      · (intro w hSw; (try dsimp only at hSw); obtain ⟨u0, u2, u3, u4⟩ := hSw; go_simp; try with_reducible rfl)
      try simp only [Act.put, List.setIfInBounds_toArray, List.set_cons_zero, List.set_cons_succ]
      refine wpAnyH_take (i := 6) (oi := { dst := some 21, op := _, type := _, pos := _, after := _, guard := _ }) (v := ?_) rfl (by kernel_rfl) (by kernel_rfl) (by kernel_rfl) (fun _ _ _ h => h) (Or.inl ⟨by rfl, ?_⟩) (by assumption) ?_
      rotate_left
      · (intro w hSw; (try dsimp only at hSw); obtain ⟨u0, u2, u3, u4⟩ := hSw; go_simp; try with_reducible rfl)
      try simp only [Act.put, List.setIfInBounds_toArray, List.set_cons_zero, List.set_cons_succ]
      refine wpAnyH_take (i := 7) (oi := { dst := some 22, op := _, type := _, pos := _, after := _, guard := _ }) (v := ?_) rfl (by kernel_rfl) (by kernel_rfl) (by kernel_rfl) (fun _ _ _ h => h) (Or.inl ⟨by rfl, ?_⟩) (by assumption) ?_
      rotate_left
      · (intro w hSw; (try dsimp only at hSw); obtain ⟨u0, u2, u3, u4⟩ := hSw; go_simp; try with_reducible rfl)
      try simp only [Act.put, List.setIfInBounds_toArray, List.set_cons_zero, List.set_cons_succ]
      refine wpAnyH_take (i := 8) (oi := { dst := some 23, op := _, type := _, pos := _, after := _, guard := _ }) (v := ?_) rfl (by kernel_rfl) (by kernel_rfl) (by kernel_rfl) (fun _ _ _ h => h) (Or.inl ⟨by rfl, ?_⟩) (by assumption) ?_
      rotate_left
      · (intro w hSw; (try dsimp only at hSw); obtain ⟨u0, u2, u3, u4⟩ := hSw; go_simp; try with_reducible rfl)
      try simp only [Act.put, List.setIfInBounds_toArray, List.set_cons_zero, List.set_cons_succ]
      refine wpAnyH_take (i := 9) (oi := { dst := some 24, op := _, type := _, pos := _, after := _, guard := _ }) (v := ?_) rfl (by kernel_rfl) (by kernel_rfl) (by kernel_rfl) (fun _ _ _ h => h) (Or.inl ⟨by rfl, ?_⟩) (by assumption) ?_
      rotate_left
      · (intro w hSw; (try dsimp only at hSw); obtain ⟨u0, u2, u3, u4⟩ := hSw; go_simp; try with_reducible rfl)
      try simp only [Act.put, List.setIfInBounds_toArray, List.set_cons_zero, List.set_cons_succ]
      refine wpAnyH_take (i := 10) (oi := { dst := some 25, op := _, type := _, pos := _, after := _, guard := _ }) (v := ?_) rfl (by kernel_rfl) (by kernel_rfl) (by kernel_rfl) (fun _ _ _ h => h) (Or.inl ⟨by rfl, ?_⟩) (by assumption) ?_
      rotate_left
      · (intro w hSw; (try dsimp only at hSw); obtain ⟨u0, u2, u3, u4⟩ := hSw; go_simp; try with_reducible rfl)
      try simp only [Act.put, List.setIfInBounds_toArray, List.set_cons_zero, List.set_cons_succ]
      refine wpAnyH_take (i := 11) (oi := { dst := some 26, op := _, type := _, pos := _, after := _, guard := _ }) (v := ?_) rfl (by kernel_rfl) (by kernel_rfl) (by kernel_rfl) (fun _ _ _ h => h) (Or.inl ⟨by rfl, ?_⟩) (by assumption) ?_
      rotate_left
      · (intro w hSw; (try dsimp only at hSw); obtain ⟨u0, u2, u3, u4⟩ := hSw; go_simp; try with_reducible rfl)
      try simp only [Act.put, List.setIfInBounds_toArray, List.set_cons_zero, List.set_cons_succ]
      refine wpAnyH_take (i := 12) (oi := { dst := some 27, op := _, type := _, pos := _, after := _, guard := _ }) (v := ?_) rfl (by kernel_rfl) (by kernel_rfl) (by kernel_rfl) (fun _ _ _ h => h) (Or.inl ⟨by rfl, ?_⟩) (by assumption) ?_
      rotate_left
      · (intro w hSw; (try dsimp only at hSw); obtain ⟨u0, u2, u3, u4⟩ := hSw; go_simp; try with_reducible rfl)
      try simp only [Act.put, List.setIfInBounds_toArray, List.set_cons_zero, List.set_cons_succ]
      refine wpAnyH_take (i := 13) (oi := { dst := some 28, op := _, type := _, pos := _, after := _, guard := _ }) (v := ?_) rfl (by kernel_rfl) (by kernel_rfl) (by kernel_rfl) (fun _ _ _ h => h) (Or.inl ⟨by rfl, ?_⟩) (by assumption) ?_
      rotate_left
      · (intro w hSw; (try dsimp only at hSw); obtain ⟨u0, u2, u3, u4⟩ := hSw; go_simp; try with_reducible rfl)
      try simp only [Act.put, List.setIfInBounds_toArray, List.set_cons_zero, List.set_cons_succ]
      refine wpAnyH_take (i := 14) (oi := { dst := some 29, op := _, type := _, pos := _, after := _, guard := _ }) (v := ?_) rfl (by kernel_rfl) (by kernel_rfl) (by kernel_rfl) (fun _ _ _ h => h) (Or.inl ⟨by rfl, ?_⟩) (by assumption) ?_
      rotate_left
      · (intro w hSw; (try dsimp only at hSw); obtain ⟨u0, u2, u3, u4⟩ := hSw; go_simp; try with_reducible rfl)
      try simp only [Act.put, List.setIfInBounds_toArray, List.set_cons_zero, List.set_cons_succ]
      refine wpAnyH_take (i := 15) (oi := { dst := some 30, op := _, type := _, pos := _, after := _, guard := _ }) (v := ?_) rfl (by kernel_rfl) (by kernel_rfl) (by kernel_rfl) (fun _ _ _ h => h) (Or.inl ⟨by rfl, ?_⟩) (by assumption) ?_
      rotate_left
      · (intro w hSw; (try dsimp only at hSw); obtain ⟨u0, u2, u3, u4⟩ := hSw; go_simp; try with_reducible rfl)
      try simp only [Act.put, List.setIfInBounds_toArray, List.set_cons_zero, List.set_cons_succ]
      refine wpAnyH_take (i := 16) (oi := { dst := some 31, op := _, type := _, pos := _, after := _, guard := _ }) (v := ?_) rfl (by kernel_rfl) (by kernel_rfl) (by kernel_rfl) (fun _ _ _ h => h) (Or.inl ⟨by rfl, ?_⟩) (by assumption) ?_
      rotate_left
      · (intro w hSw; (try dsimp only at hSw); obtain ⟨u0, u2, u3, u4⟩ := hSw; go_simp; try with_reducible rfl)
      try simp only [Act.put, List.setIfInBounds_toArray, List.set_cons_zero, List.set_cons_succ]
      refine wpAnyH_take (i := 17) (oi := { dst := some 32, op := _, type := _, pos := _, after := _, guard := _ }) (v := ?_) rfl (by kernel_rfl) (by kernel_rfl) (by kernel_rfl) (fun _ _ _ h => h) (Or.inl ⟨by rfl, ?_⟩) (by assumption) ?_
      rotate_left
      · (intro w hSw; (try dsimp only at hSw); obtain ⟨u0, u2, u3, u4⟩ := hSw; go_simp; try with_reducible rfl)
      try simp only [Act.put, List.setIfInBounds_toArray, List.set_cons_zero, List.set_cons_succ]
      refine wpAnyH_take (i := 18) (oi := { dst := some 33, op := _, type := _, pos := _, after := _, guard := _ }) (v := ?_) rfl (by kernel_rfl) (by kernel_rfl) (by kernel_rfl) (fun _ _ _ h => h) (Or.inl ⟨by rfl, ?_⟩) (by assumption) ?_
      rotate_left
      · (intro w hSw; (try dsimp only at hSw); obtain ⟨u0, u2, u3, u4⟩ := hSw; go_simp; try with_reducible rfl)
      try simp only [Act.put, List.setIfInBounds_toArray, List.set_cons_zero, List.set_cons_succ]
      refine wpAnyH_take (i := 19) (oi := { dst := some 34, op := _, type := _, pos := _, after := _, guard := _ }) (v := ?_) rfl (by kernel_rfl) (by kernel_rfl) (by kernel_rfl) (fun _ _ _ h => h) (Or.inl ⟨by rfl, ?_⟩) (by assumption) ?_
      rotate_left
      · (intro w hSw; (try dsimp only at hSw); obtain ⟨u0, u2, u3, u4⟩ := hSw; go_simp; try with_reducible rfl)
      try simp only [Act.put, List.setIfInBounds_toArray, List.set_cons_zero, List.set_cons_succ]
      refine wpAnyH_ready (rs := [1, 20]) (by kernel_rfl) (by simp) ?_
      refine AllReadyH.cons (o := { dst := some 16, op := _, type := _, pos := _, after := _, guard := _ }) rfl (fun K hK => ?_) ?_
      · skip
        have r1 := (HSt.out _ (Below.refl _ _).drew).2.1
        go_simp
        clear r1
        refine hK.out _ _ hHeld (fun hH => ?_)
        clear hK K hHeld
        have hHeld := hH
        clear hH
        try simp only [Act.put, List.setIfInBounds_toArray, List.set_cons_zero, List.set_cons_succ]
        refine wpAnyH_ready (rs := [20]) (by kernel_rfl) (by simp) ?_
        refine AllReadyH.cons (o := { dst := some 35, op := _, type := _, pos := _, after := _, guard := _ }) rfl (fun K hK => ?_) ?_
        · skip
          go_simp
          go_at_call 56
          refine (copyInts_any A1 n.kids c1 _ ((HKI.out.later (Below.refl _ _) hszw).later (Below.refl _ _).drew (Nat.le_refl _)) hnil (by omega)).mono ?_
          rintro e w5 ⟨Ak, ck, rfl, hoc, hb5⟩
          have hbw : Below wr.heap.size wr w5 := (Below.refl _ _).drew.trans (hb5.mono (by simp))
          have hown5 : OwnI w5 wr.heap.size Ak ck n.kids := by simpa using hoc
          have hs5 := hbw.size
          have hba : Below w5.heap.size w5 (w5.alloc (.cells #[.int .i64 n.kind, .int .i64 n.value, .slice Ak n.kids.length ck] 43)) := (Below.refl _ _).alloc (Nat.le_refl _) _
          have HL6 := hide (Lies.new w5 #[.int .i64 n.kind, .int .i64 n.value, .slice Ak n.kids.length ck] 43)
          have HD6 := hide ((HS.out.row.below hbw).below hba)
          have HO6 := hide ((hown5.below hba).lowB (base' := w.heap.size + 3) HS.out.size)
          have HOb := hide hown5.blocks
          have HBX := hide (hbw.trans (hba.mono hs5))
          have HBW := hide hbw
          clear hoc hb5 hown5 hba hbw
          refine hK.out _ _ ⟨(HSt.out _ (HBW.out.mono HS.out.size)).1, (HSt.out _ (HBW.out.mono HS.out.size)).2.2⟩ (fun hH => ?_)
          clear hK K hHeld
          have hHeld := hH
          clear hH
          try simp only [Act.put, List.setIfInBounds_toArray, List.set_cons_zero, List.set_cons_succ]
          refine wpAnyH_take (i := 21) (oi := { dst := some 36, op := _, type := _, pos := _, after := _, guard := _ }) (v := ?_) rfl (by kernel_rfl) (by kernel_rfl) (by kernel_rfl) (fun _ _ _ h => h) (Or.inl ⟨by rfl, ?_⟩) (by assumption) ?_
          rotate_left
          · (intro w hSw; (try dsimp only at hSw); obtain ⟨u0, u2, u3, u4⟩ := hSw; go_simp; try with_reducible rfl)
          try simp only [Act.put, List.setIfInBounds_toArray, List.set_cons_zero, List.set_cons_succ]
          refine wpAnyH_ready (rs := [22]) (by kernel_rfl) (by simp) ?_
          refine AllReadyH.cons (o := { dst := some 37, op := _, type := _, pos := _, after := _, guard := _ }) rfl (fun K hK => ?_) ?_
          · skip
            go_simp
            refine hK.out _ _ ⟨(HSt.out _ (HBX.out.mono HS.out.size)).1, (HSt.out _ (HBX.out.mono HS.out.size)).2.2⟩ (fun hH => ?_)
            clear hK K hHeld
            have hHeld := hH
            clear hH
            try simp only [Act.put, List.setIfInBounds_toArray, List.set_cons_zero, List.set_cons_succ]
            refine wpAnyH_ready (rs := [23]) (by kernel_rfl) (by simp) ?_
            refine AllReadyH.cons (o := { dst := some 38, op := _, type := _, pos := _, after := _, guard := _ }) rfl (fun K hK => ?_) ?_
            · skip
              refine step_append_ndD (by rfl) (.tmp 16) (.tmp 37) (by rfl) (w.heap.size + 3) wr.heap.size w5.heap.size A2 c2 (ns.take k) (by simp [Act.eval, Act.put, hkl]) HD6.out w5.heap.size n Ak ck _ (by simp [Act.eval, Act.put]) HL6.out HO6.out (by have := HS.out.size; simp; omega) (by omega) (fun q hq => HOb.out q hq) hs5 ?_
              intro A5 c5 w7 hD7 hg7
              have HD7 := hide hD7
              have hs7 : w5.heap.size ≤ w7.heap.size := (by have := hg7.size; simp at this; omega)
              have hb7 : Below (w.heap.size + 3) wr w7 := below_grown (HBX.out.mono HS.out.size) hg7 (by have := HS.out.size; have := HBX.out.size; omega) (fun q hq => (HS.out.row.rowN.blocks q hq).1)
              have Hb7 := hide hb7
              have q := HSt.out _ hb7
              have lC7 := HS.out.lC.below hb7 (by omega)
              have d0 := lC7.cell 0
              have d1 := lC7.frozen 0
              simp only [List.getElem?_toArray, List.getElem?_cons_zero, List.getElem?_cons_succ] at d0
              rw [hkl]
              clear hD7 hg7 lC7 hb7
              refine hK.out _ _ ⟨q.1, q.2.2⟩ (fun hH => ?_)
              clear hK K hHeld
              have hHeld := hH
              clear hH
              try simp only [Act.put, List.setIfInBounds_toArray, List.set_cons_zero, List.set_cons_succ]
              refine wpAnyH_take (i := 24) (oi := { dst := some 39, op := _, type := _, pos := _, after := _, guard := _ }) (v := ?_) rfl (by kernel_rfl) (by kernel_rfl) (by kernel_rfl) (fun _ _ _ h => h) (Or.inl ⟨by rfl, ?_⟩) (by assumption) ?_
              rotate_left
              · (intro w hSw; (try dsimp only at hSw); obtain ⟨u0, u2, u3, u4⟩ := hSw; go_simp; try with_reducible rfl)
              try simp only [Act.put, List.setIfInBounds_toArray, List.set_cons_zero, List.set_cons_succ]
              refine wpAnyH_ready (rs := [25]) (by kernel_rfl) (by simp) ?_
              refine AllReadyH.cons (o := { dst := none, op := _, type := _, pos := _, after := _, guard := _ }) rfl (fun K hK => ?_) ?_
              · skip
                go_simp
                clear q d0 d1
                refine hK.out _ _ ⟨(World.cell?_setCell_far _ _ _ _ hx1).trans hHeld.1, (World.cell?_setCell_far _ _ _ _ hxb).trans hHeld.2.1, (World.cell?_setCell_far _ _ _ _ hxb).trans hHeld.2.2.1, (World.cell?_setCell_far _ _ _ _ hxb).trans hHeld.2.2.2⟩ (fun hH => ?_)
                clear hK K hHeld
                have hHeld := hH
                clear hH
                try simp only [Act.put, List.setIfInBounds_toArray, List.set_cons_zero, List.set_cons_succ]
                refine wpAnyH_done (by kernel_rfl) ?_ _
                have HB := hide (HS.out.step HN.out Hb7.out hs7 HD7.out)
                clear hHeld HSt HKI HM HN HS HD6 HO6 HOb HL6 HBX HBW Hb7 HD7 hS0
                go_wp2_with fail
                go_roundg (ns.length - (k + 1))
                case measure => omega
                case rel => exact ⟨k + 1, A5, c5, by omega, rfl, by go_num, HB.out⟩
              exact AllReadyH.nil
            exact AllReadyH.nil
          exact AllReadyH.nil
        exact AllReadyH.nil
      refine AllReadyH.cons (o := { dst := some 35, op := _, type := _, pos := _, after := _, guard := _ }) rfl (fun K hK => ?_) ?_
      · skip
        go_simp
        go_at_call 56
        refine (copyInts_any A1 n.kids c1 _ ((HKI.out.later (Below.refl _ _) hszw).later (Below.refl _ _).drew (Nat.le_refl _)) hnil (by omega)).mono ?_
        rintro e w5 ⟨Ak, ck, rfl, hoc, hb5⟩
        have hbw : Below wr.heap.size wr w5 := (Below.refl _ _).drew.trans (hb5.mono (by simp))
        have hown5 : OwnI w5 wr.heap.size Ak ck n.kids := by simpa using hoc
        have hs5 := hbw.size
        have hba : Below w5.heap.size w5 (w5.alloc (.cells #[.int .i64 n.kind, .int .i64 n.value, .slice Ak n.kids.length ck] 43)) := (Below.refl _ _).alloc (Nat.le_refl _) _
        have HL6 := hide (Lies.new w5 #[.int .i64 n.kind, .int .i64 n.value, .slice Ak n.kids.length ck] 43)
        have HD6 := hide ((HS.out.row.below hbw).below hba)
        have HO6 := hide ((hown5.below hba).lowB (base' := w.heap.size + 3) HS.out.size)
        have HOb := hide hown5.blocks
        have HBX := hide (hbw.trans (hba.mono hs5))
        have HBW := hide hbw
        clear hoc hb5 hown5 hba hbw
        refine hK.out _ _ ⟨(HSt.out _ (HBW.out.mono HS.out.size)).1, (HSt.out _ (HBW.out.mono HS.out.size)).2.2⟩ (fun hH => ?_)
        clear hK K hHeld
        have hHeld := hH
        clear hH
        try simp only [Act.put, List.setIfInBounds_toArray, List.set_cons_zero, List.set_cons_succ]
        refine wpAnyH_take (i := 21) (oi := { dst := some 36, op := _, type := _, pos := _, after := _, guard := _ }) (v := ?_) rfl (by kernel_rfl) (by kernel_rfl) (by kernel_rfl) (fun _ _ _ h => h) (Or.inl ⟨by rfl, ?_⟩) (by assumption) ?_
        rotate_left
        · (intro w hSw; (try dsimp only at hSw); obtain ⟨u0, u2, u3, u4⟩ := hSw; go_simp; try with_reducible rfl)
        try simp only [Act.put, List.setIfInBounds_toArray, List.set_cons_zero, List.set_cons_succ]
        refine wpAnyH_ready (rs := [1, 22]) (by kernel_rfl) (by simp) ?_
        refine AllReadyH.cons (o := { dst := some 16, op := _, type := _, pos := _, after := _, guard := _ }) rfl (fun K hK => ?_) ?_
        · skip
          have r1 := (HSt.out _ (HBW.out.mono HS.out.size)).2.1
          go_simp
          clear r1
          refine hK.out _ _ hHeld (fun hH => ?_)
          clear hK K hHeld
          have hHeld := hH
          clear hH
          try simp only [Act.put, List.setIfInBounds_toArray, List.set_cons_zero, List.set_cons_succ]
          refine wpAnyH_ready (rs := [22]) (by kernel_rfl) (by simp) ?_
          refine AllReadyH.cons (o := { dst := some 37, op := _, type := _, pos := _, after := _, guard := _ }) rfl (fun K hK => ?_) ?_
          · skip
            go_simp
            refine hK.out _ _ ⟨(HSt.out _ (HBX.out.mono HS.out.size)).1, (HSt.out _ (HBX.out.mono HS.out.size)).2.2⟩ (fun hH => ?_)
            clear hK K hHeld
            have hHeld := hH
            clear hH
            try simp only [Act.put, List.setIfInBounds_toArray, List.set_cons_zero, List.set_cons_succ]
            refine wpAnyH_ready (rs := [23]) (by kernel_rfl) (by simp) ?_
            refine AllReadyH.cons (o := { dst := some 38, op := _, type := _, pos := _, after := _, guard := _ }) rfl (fun K hK => ?_) ?_
            · skip
              refine step_append_ndD (by rfl) (.tmp 16) (.tmp 37) (by rfl) (w.heap.size + 3) wr.heap.size w5.heap.size A2 c2 (ns.take k) (by simp [Act.eval, Act.put, hkl]) HD6.out w5.heap.size n Ak ck _ (by simp [Act.eval, Act.put]) HL6.out HO6.out (by have := HS.out.size; simp; omega) (by omega) (fun q hq => HOb.out q hq) hs5 ?_
              intro A5 c5 w7 hD7 hg7
              have HD7 := hide hD7
              have hs7 : w5.heap.size ≤ w7.heap.size := (by have := hg7.size; simp at this; omega)
              have hb7 : Below (w.heap.size + 3) wr w7 := below_grown (HBX.out.mono HS.out.size) hg7 (by have := HS.out.size; have := HBX.out.size; omega) (fun q hq => (HS.out.row.rowN.blocks q hq).1)
              have Hb7 := hide hb7
              have q := HSt.out _ hb7
              have lC7 := HS.out.lC.below hb7 (by omega)
              have d0 := lC7.cell 0
              have d1 := lC7.frozen 0
              simp only [List.getElem?_toArray, List.getElem?_cons_zero, List.getElem?_cons_succ] at d0
              rw [hkl]
              clear hD7 hg7 lC7 hb7
              refine hK.out _ _ ⟨q.1, q.2.2⟩ (fun hH => ?_)
              clear hK K hHeld
              have hHeld := hH
              clear hH
              try simp only [Act.put, List.setIfInBounds_toArray, List.set_cons_zero, List.set_cons_succ]
              refine wpAnyH_take (i := 24) (oi := { dst := some 39, op := _, type := _, pos := _, after := _, guard := _ }) (v := ?_) rfl (by kernel_rfl) (by kernel_rfl) (by kernel_rfl) (fun _ _ _ h => h) (Or.inl ⟨by rfl, ?_⟩) (by assumption) ?_
              rotate_left
              · (intro w hSw; (try dsimp only at hSw); obtain ⟨u0, u2, u3, u4⟩ := hSw; go_simp; try with_reducible rfl)
              try simp only [Act.put, List.setIfInBounds_toArray, List.set_cons_zero, List.set_cons_succ]
              refine wpAnyH_ready (rs := [25]) (by kernel_rfl) (by simp) ?_
              refine AllReadyH.cons (o := { dst := none, op := _, type := _, pos := _, after := _, guard := _ }) rfl (fun K hK => ?_) ?_
              · skip
                go_simp
                clear q d0 d1
                refine hK.out _ _ ⟨(World.cell?_setCell_far _ _ _ _ hx1).trans hHeld.1, (World.cell?_setCell_far _ _ _ _ hxb).trans hHeld.2.1, (World.cell?_setCell_far _ _ _ _ hxb).trans hHeld.2.2.1, (World.cell?_setCell_far _ _ _ _ hxb).trans hHeld.2.2.2⟩ (fun hH => ?_)
                clear hK K hHeld
                have hHeld := hH
                clear hH
                try simp only [Act.put, List.setIfInBounds_toArray, List.set_cons_zero, List.set_cons_succ]
                refine wpAnyH_done (by kernel_rfl) ?_ _
                have HB := hide (HS.out.step HN.out Hb7.out hs7 HD7.out)
                clear hHeld HSt HKI HM HN HS HD6 HO6 HOb HL6 HBX HBW Hb7 HD7 hS0
                go_wp2_with fail
                go_roundg (ns.length - (k + 1))
                case measure => omega
                case rel => exact ⟨k + 1, A5, c5, by omega, rfl, by go_num, HB.out⟩
              exact AllReadyH.nil
            exact AllReadyH.nil
          exact AllReadyH.nil
        refine AllReadyH.cons (o := { dst := some 37, op := _, type := _, pos := _, after := _, guard := _ }) rfl (fun K hK => ?_) ?_
        · skip
          go_simp
          refine hK.out _ _ ⟨(HSt.out _ (HBX.out.mono HS.out.size)).1, (HSt.out _ (HBX.out.mono HS.out.size)).2.2⟩ (fun hH => ?_)
          clear hK K hHeld
          have hHeld := hH
          clear hH
          try simp only [Act.put, List.setIfInBounds_toArray, List.set_cons_zero, List.set_cons_succ]
          refine wpAnyH_ready (rs := [1]) (by kernel_rfl) (by simp) ?_
          refine AllReadyH.cons (o := { dst := some 16, op := _, type := _, pos := _, after := _, guard := _ }) rfl (fun K hK => ?_) ?_
          · skip
            have r1 := (HSt.out _ (HBX.out.mono HS.out.size)).2.1
            go_simp
            clear r1
            refine hK.out _ _ hHeld (fun hH => ?_)
            clear hK K hHeld
            have hHeld := hH
            clear hH
            try simp only [Act.put, List.setIfInBounds_toArray, List.set_cons_zero, List.set_cons_succ]
            refine wpAnyH_ready (rs := [23]) (by kernel_rfl) (by simp) ?_
            refine AllReadyH.cons (o := { dst := some 38, op := _, type := _, pos := _, after := _, guard := _ }) rfl (fun K hK => ?_) ?_
            · skip
              refine step_append_ndD (by rfl) (.tmp 16) (.tmp 37) (by rfl) (w.heap.size + 3) wr.heap.size w5.heap.size A2 c2 (ns.take k) (by simp [Act.eval, Act.put, hkl]) HD6.out w5.heap.size n Ak ck _ (by simp [Act.eval, Act.put]) HL6.out HO6.out (by have := HS.out.size; simp; omega) (by omega) (fun q hq => HOb.out q hq) hs5 ?_
              intro A5 c5 w7 hD7 hg7
              have HD7 := hide hD7
              have hs7 : w5.heap.size ≤ w7.heap.size := (by have := hg7.size; simp at this; omega)
              have hb7 : Below (w.heap.size + 3) wr w7 := below_grown (HBX.out.mono HS.out.size) hg7 (by have := HS.out.size; have := HBX.out.size; omega) (fun q hq => (HS.out.row.rowN.blocks q hq).1)
              have Hb7 := hide hb7
              have q := HSt.out _ hb7
              have lC7 := HS.out.lC.below hb7 (by omega)
              have d0 := lC7.cell 0
              have d1 := lC7.frozen 0
              simp only [List.getElem?_toArray, List.getElem?_cons_zero, List.getElem?_cons_succ] at d0
              rw [hkl]
              clear hD7 hg7 lC7 hb7
              refine hK.out _ _ ⟨q.1, q.2.2⟩ (fun hH => ?_)
              clear hK K hHeld
              have hHeld := hH
              clear hH
              try simp only [Act.put, List.setIfInBounds_toArray, List.set_cons_zero, List.set_cons_succ]
              refine wpAnyH_take (i := 24) (oi := { dst := some 39, op := _, type := _, pos := _, after := _, guard := _ }) (v := ?_) rfl (by kernel_rfl) (by kernel_rfl) (by kernel_rfl) (fun _ _ _ h => h) (Or.inl ⟨by rfl, ?_⟩) (by assumption) ?_
              rotate_left
              · (intro w hSw; (try dsimp only at hSw); obtain ⟨u0, u2, u3, u4⟩ := hSw; go_simp; try with_reducible rfl)
              try simp only [Act.put, List.setIfInBounds_toArray, List.set_cons_zero, List.set_cons_succ]
              refine wpAnyH_ready (rs := [25]) (by kernel_rfl) (by simp) ?_
              refine AllReadyH.cons (o := { dst := none, op := _, type := _, pos := _, after := _, guard := _ }) rfl (fun K hK => ?_) ?_
              · skip
                go_simp
                clear q d0 d1
                refine hK.out _ _ ⟨(World.cell?_setCell_far _ _ _ _ hx1).trans hHeld.1, (World.cell?_setCell_far _ _ _ _ hxb).trans hHeld.2.1, (World.cell?_setCell_far _ _ _ _ hxb).trans hHeld.2.2.1, (World.cell?_setCell_far _ _ _ _ hxb).trans hHeld.2.2.2⟩ (fun hH => ?_)
                clear hK K hHeld
                have hHeld := hH
                clear hH
                try simp only [Act.put, List.setIfInBounds_toArray, List.set_cons_zero, List.set_cons_succ]
                refine wpAnyH_done (by kernel_rfl) ?_ _
                have HB := hide (HS.out.step HN.out Hb7.out hs7 HD7.out)
                clear hHeld HSt HKI HM HN HS HD6 HO6 HOb HL6 HBX HBW Hb7 HD7 hS0
                go_wp2_with fail
                go_roundg (ns.length - (k + 1))
                case measure => omega
                case rel => exact ⟨k + 1, A5, c5, by omega, rfl, by go_num, HB.out⟩
              exact AllReadyH.nil
            exact AllReadyH.nil
          exact AllReadyH.nil
        exact AllReadyH.nil
      exact AllReadyH.nil
    · obtain rfl : k = ns.length := by omega
      have lR := HS.out.lR
      have lC := HS.out.lC
      have c0 := lC.cell 0
      have c1 := lC.cell 1
      have l5 := (lR.set 0 (.slice A2 ns.length c2)).set 1 (.int .i64 r)
      simp only [List.setIfInBounds_toArray, List.set_cons_succ, List.set_cons_zero] at l5
      have s0 := l5.cell 0
      have s1 := l5.cell 1
      have b0 := lR.cell 0
      have b1 := lR.cell 1
      have f0 := lR.frozen 0
      have f1 := lR.frozen 1
      simp only [List.getElem?_toArray, List.getElem?_cons_zero, List.getElem?_cons_succ] at s0 s1 b0 b1 c0 c1
      clear hS lR lC l5
      go_wp2
      refine bodyPost_ret (v := .agg #[.slice A2 ns.length c2, .int .i64 r]) (by simp [results, Try.results43, go_sem, s0, s1]) rfl ?_
      have hrow := HS.out.row
      rw [List.take_length] at hrow
      have hrow2 := (hrow.ofBlk (w' := (wr.setCell ⟨w.heap.size + 1, 0, none⟩ (.slice A2 ns.length c2)).setCell ⟨w.heap.size + 1, 1, none⟩ (.int .i64 r)) (fun q hq _ => (Below.heap_setCell _ _ _ _ (by show q ≠ w.heap.size + 1; omega)).trans (Below.heap_setCell _ _ _ _ (by show q ≠ w.heap.size + 1; omega)))).up (bnd2 := ((wr.setCell ⟨w.heap.size + 1, 0, none⟩ (.slice A2 ns.length c2)).setCell ⟨w.heap.size + 1, 1, none⟩ (.int .i64 r)).heap.size) (by simp)
      exact ⟨A2, c2, rfl, hrow2.lowD (by omega), (HS.out.bel.setCell (p := ⟨w.heap.size + 1, 0, none⟩) (by show w.heap.size ≤ w.heap.size + 1; omega) _).setCell (p := ⟨w.heap.size + 1, 1, none⟩) (by show w.heap.size ≤ w.heap.size + 1; omega) _⟩

end Go.Proofs.Ythgklkpfmjgeoaa
