/-
  The model's ShallowCopy: what it returns, in memory of its own. Made by wip/gen/gensh.py.
-/
import Derived.Test.YthgklkpfmjgeoaaPjAl
import Derived.Test.YthgklkpfmjgeoaaCgS
namespace Go.Proofs.Ythgklkpfmjgeoaa
open Go.RowKit Go.Maps
set_option linter.unusedVariables false
set_option linter.unusedSimpArgs false

theorem grown_set (w : World) (q i : Nat) (v : Value) : w.grownBy (w.setCell ⟨q, i, none⟩ v) (some q) :=
  ⟨rfl, rfl, rfl, by simp, fun k _ hk => Below.heap_setCell _ _ _ _ (by show k ≠ q; exact fun e => hk (by rw [e]))⟩

/-- a store into a graph's box leaves a row of nodes as it was -/
theorem RowD.farG {w : World} {base bnd q i c : Nat} {A : Option Addr} {ns : List Nd} {cs : Array Value} {v : Value} (h : RowD w base bnd A c ns) (hl : Lies w q cs 25) : RowD (w.setCell ⟨q, i, none⟩ v) base bnd A c ns := by
  obtain ⟨cs', h1, h2, h3, h4⟩ := h.row
  refine ⟨⟨cs', h1.kept (grown_set w q i v) ?_, fun j n hj => ?_, h3, h4⟩⟩
  · rw [ownBlock_slice]
    rcases h1.2 with ⟨hv, _⟩ | ⟨g, cap, cur, hv, _, hh, _⟩
    · injection hv with hv _ _
      exact .inl (by rw [hv]; rfl)
    · injection hv with hv _ _
      refine .inr (fun e => ?_)
      rw [hv] at e
      simp [blockOf] at e
      subst e
      have h9 := hh.symm.trans hl
      injection h9 with h9
      injection h9 with _ h9 _
      exact absurd h9 (by decide)
  · obtain ⟨A1, c1, a1, a2, a3, a4⟩ := h2 j n hj
    refine ⟨A1, c1, a1, a2, a3, a4.kept (grown_set w q i v) ?_⟩
    rcases a4.own.2 with ⟨hv, _⟩ | ⟨g, cap, cur, hv, _, hh, _⟩
    · injection hv with hv _ _
      exact .inl (by rw [hv]; rfl)
    · injection hv with hv _ _
      refine .inr (fun e => ?_)
      rw [hv] at e
      simp [blockOf] at e
      subst e
      have h9 := hh.symm.trans hl
      injection h9 with h9
      injection h9 with _ h9 _
      exact absurd h9 (by decide)

set_option maxRecDepth 100000 in
set_option maxHeartbeats 6000000 in
theorem specShallow_any (A : Option Addr) (ns : List Nd) (c : Nat) (r : Int) (w : World) (hr : NdsAt w w.heap.size A ns) :
    Calls Try.prog 32 #[.agg #[.slice A ns.length c, .int .i64 r]] w (GivesG w (shalN ns r) (shalR ns r)) := by
  have hB2 : Below w.heap.size w ((w.alloc (.cells #[.slice A ns.length c, .int .i64 r] 25)).alloc (.cells #[.slice none 0 0, .int .i64 0] 25)) := ((Below.refl _ _).alloc (Nat.le_refl _) _).alloc (by simp) _
  have lG := (Lies.new w #[.slice A ns.length c, .int .i64 r] 25).alloc (.cells #[.slice none 0 0, .int .i64 0] 25)
  have lR := Lies.new (w.alloc (.cells #[.slice A ns.length c, .int .i64 r] 25)) #[.slice none 0 0, .int .i64 0] 25
  simp only [World.size_alloc] at lR
  have hr2 := hr.later hB2 (Nat.le_refl _)
  clear hr
  go_enter Try.func32, Try.ntmps32
  go_wp2_with fail
  generalize (w.alloc (.cells #[.slice A ns.length c, .int .i64 r] 25)).alloc (.cells #[.slice none 0 0, .int .i64 0] 25) = W at hB2 lG lR hr2 ⊢
  refine (specValidGraph_any A ns c r W hr2).mono ?_
  rintro e w1 ⟨rfl, hb1⟩
  have lG1 := lG.below hb1 lG.lt
  have lR1 := lR.below hb1 lR.lt
  have hr3 := hr2.later hb1 (Nat.le_refl _)
  have hB3 := hB2.trans (hb1.mono hB2.size)
  have e0 := lG1.cell 0
  have e1 := lG1.cell 1
  simp at e0 e1
  clear lG lR hr2 hB2 hb1
  by_cases hy : ValidG ns r ∧ ns.length ≠ 12
  · obtain ⟨hv, h12⟩ := hy
    rw [tf_true hv]
    obtain ⟨i, rfl⟩ := Int.eq_ofNat_of_zero_le hv.root0
    have hil : i < ns.length := by have := hv.root; omega
    have hfew := hv.few
    have HK : Hid (∀ n ∈ ns, n.kids.length ≤ 1000) := hide (fun n hn => by have := (hv.nodes n hn).few; omega)
    have HV := hide hv
    have hRl := lR1.lt
    have hGl := lG1.lt
    have hd : decide ((ns.length : Int) = 12) = false := by simp; omega
    clear hv
    go_wp2_with fail
    refine (copyGraph_any A ns c i w1 hr3 (by omega) HK.out).mono ?_
    rintro e w2 ⟨A2, c2, rfl, hrow, hb2⟩
    obtain ⟨b, off, n, rfl, hbl, hn, hm, hnd⟩ := (hr3.below hb2).at_ hil
    obtain ⟨A1, c1, k2, hki, hnil⟩ := hnd.kids
    have k0 := hnd.kind
    have k1 := hnd.value
    have e0 := (hb2.cell (p := ⟨w.heap.size, 0, none⟩) hGl).trans e0
    have e1 := (hb2.cell (p := ⟨w.heap.size, 1, none⟩) hGl).trans e1
    have hs2 := hb2.size
    have hi3 : (0 : Int) ≤ (i : Int) := by omega
    have hi4 : (i : Int) < (ns.length : Int) := by omega
    have HN := hide hn
    have HM := hide (HK.out n hm)
    have hkn : n.kids.length ≤ 1000 := HM.out
    have HAb := hide hrow.rowN.blocks
    have hba3 : Below w2.heap.size w2 (w2.alloc (.cells #[.slice A2 ns.length c2, .int .i64 (i : Int)] 25)) := (Below.refl _ _).alloc (Nat.le_refl _) _
    have lC3 := Lies.new w2 #[.slice A2 ns.length c2, .int .i64 (i : Int)] 25
    have HLG0 := hide (lG1.below hb2 lG1.lt)
    have HLR0 := hide (lR1.below hb2 lR1.lt)
    have Hrow := hide hrow
    have Hb2 := hide hb2
    have HKI0 := hide hki
    have hG2 : w.heap.size < w2.heap.size := Nat.lt_of_lt_of_le hGl hs2
    have hbl2 : b < w2.heap.size := Nat.lt_of_lt_of_le hbl hs2
    clear hn hm hnd hki hrow hb2 hr3 lG1 lR1 hbl
    go_upto_region 4 with fail
    generalize w2.alloc (.cells #[.slice A2 ns.length c2, .int .i64 (i : Int)] 25) = w3 at hba3 lC3 ⊢
    have e0 := (hba3.cell (p := ⟨w.heap.size, 0, none⟩) hG2).trans e0
    have e1 := (hba3.cell (p := ⟨w.heap.size, 1, none⟩) hG2).trans e1
    have k0 := (hba3.cell (p := ⟨b, off + i * 3, none⟩) hbl2).trans k0
    have k1 := (hba3.cell (p := ⟨b, off + i * 3 + 1, none⟩) hbl2).trans k1
    have k2 := (hba3.cell (p := ⟨b, off + i * 3 + 2, none⟩) hbl2).trans k2
    have hcb : w2.heap.size < w3.heap.size := lC3.lt
    have hba : Below w2.heap.size w2 (w3.alloc (.cells #[.int .i64 n.kind, .int .i64 n.value, .slice A1 n.kids.length c1] 43)) := hba3.alloc (by omega) _
    have lC := lC3.alloc (.cells #[.int .i64 n.kind, .int .i64 n.value, .slice A1 n.kids.length c1] 43)
    have lN := Lies.new w3 #[.int .i64 n.kind, .int .i64 n.value, .slice A1 n.kids.length c1] 43
    clear hba3 lC3
    go_upto_region 5 with fail
    clear e0 e1 k0 k1 k2
    generalize w3.alloc (.cells #[.int .i64 n.kind, .int .i64 n.value, .slice A1 n.kids.length c1] 43) = wr at hba lC lN ⊢
    have hwr : w3.heap.size < wr.heap.size := lN.lt
    have hw1 : w1.heap.size ≤ wr.heap.size := by omega
    have HD := hide ((Hrow.out.below hba).up (bnd2 := wr.heap.size) (by omega))
    have HLC := hide lC
    have HLG := hide (HLG0.out.below hba (by omega))
    have HLR := hide (HLR0.out.below hba (by omega))
    have Hb0 := hide (Hb2.out.trans (hba.mono hs2))
    have HKI := hide ((HKI0.out.later (Below.refl _ _) hs2).later hba (Nat.le_refl _))
    have d0 := lC.cell 0
    have n0 := lN.cell 0
    have n1 := lN.cell 1
    have n2 := lN.cell 2
    simp only [List.getElem?_toArray, List.getElem?_cons_zero, List.getElem?_cons_succ] at d0 n0 n1 n2
    have hS0 : wr.cell? ⟨w2.heap.size, 0, none⟩ = some (.slice A2 ns.length c2) ∧ wr.cell? ⟨w3.heap.size, 0, none⟩ = some (.int .i64 n.kind) ∧ wr.cell? ⟨w3.heap.size, 1, none⟩ = some (.int .i64 n.value) ∧ wr.cell? ⟨w3.heap.size, 2, none⟩ = some (.slice A1 n.kids.length c1) := ⟨d0, n0, n1, n2⟩
    have HSt := hide (show ∀ X : World, (∀ q, q = w2.heap.size ∨ q = w3.heap.size → X.heap[q]? = wr.heap[q]?) → X.cell? ⟨w2.heap.size, 0, none⟩ = some (.slice A2 ns.length c2) ∧ X.cell? ⟨w3.heap.size, 0, none⟩ = some (.int .i64 n.kind) ∧ X.cell? ⟨w3.heap.size, 1, none⟩ = some (.int .i64 n.value) ∧ X.cell? ⟨w3.heap.size, 2, none⟩ = some (.slice A1 n.kids.length c1) from fun X hX =>
      ⟨(World.cell?_of_block (a := ⟨w2.heap.size, 0, none⟩) (hX _ (.inl rfl))).trans d0, (World.cell?_of_block (a := ⟨w3.heap.size, 0, none⟩) (hX _ (.inr rfl))).trans n0, (World.cell?_of_block (a := ⟨w3.heap.size, 1, none⟩) (hX _ (.inr rfl))).trans n1, (World.cell?_of_block (a := ⟨w3.heap.size, 2, none⟩) (hX _ (.inr rfl))).trans n2⟩)
    have hx1 : w2.heap.size ≠ w3.heap.size := by omega
    clear d0 n0 n1 n2 lC lN hba Hrow HKI0 HLG0 HLR0 Hb2
    refine wp_region_held_drew (S := fun w' => w'.cell? ⟨w3.heap.size, 0, none⟩ = some (.int .i64 n.kind) ∧ w'.cell? ⟨w3.heap.size, 1, none⟩ = some (.int .i64 n.value) ∧ w'.cell? ⟨w3.heap.size, 2, none⟩ = some (.slice A1 n.kids.length c1)) (by kernel_rfl) hS0.2 (fun hHeld => ?_)
    refine wpAnyH_take (i := 0) (oi := { dst := some 23, op := _, type := _, pos := _, after := _, guard := _ }) (v := ?_) rfl (by kernel_rfl) (by kernel_rfl) (by kernel_rfl) (fun _ _ _ h => h) (Or.inl ⟨by rfl, ?_⟩) (by assumption) ?_
    rotate_left
    · (intro w hSw; (try dsimp only at hSw); obtain ⟨u0, u1, u2⟩ := hSw; go_simp; try with_reducible rfl)
    try simp only [Act.put, List.setIfInBounds_toArray, List.set_cons_zero, List.set_cons_succ]
    refine wpAnyH_take (i := 2) (oi := { dst := some 25, op := _, type := _, pos := _, after := _, guard := _ }) (v := ?_) rfl (by kernel_rfl) (by kernel_rfl) (by kernel_rfl) (fun _ _ _ h => h) (Or.inl ⟨by rfl, ?_⟩) (by assumption) ?_
    rotate_left
    · (intro w hSw; (try dsimp only at hSw); obtain ⟨u0, u1, u2⟩ := hSw; go_simp; try with_reducible rfl)
    try simp only [Act.put, List.setIfInBounds_toArray, List.set_cons_zero, List.set_cons_succ]
    refine wpAnyH_take (i := 3) (oi := { dst := some 26, op := _, type := _, pos := _, after := _, guard := _ }) (v := ?_) rfl (by kernel_rfl) (by kernel_rfl) (by kernel_rfl) (fun _ _ _ h => h) (Or.inl ⟨by rfl, ?_⟩) (by assumption) ?_
    rotate_left
    · (intro w hSw; (try dsimp only at hSw); obtain ⟨u0, u1, u2⟩ := hSw; go_simp; try with_reducible rfl)
    try simp only [Act.put, List.setIfInBounds_toArray, List.set_cons_zero, List.set_cons_succ]
    refine wpAnyH_take (i := 4) (oi := { dst := some 27, op := _, type := _, pos := _, after := _, guard := _ }) (v := ?_) rfl (by kernel_rfl) (by kernel_rfl) (by kernel_rfl) (fun _ _ _ h => h) (Or.inl ⟨by rfl, ?_⟩) (by assumption) ?_
    rotate_left
    · (intro w hSw; (try dsimp only at hSw); obtain ⟨u0, u1, u2⟩ := hSw; go_simp; try with_reducible rfl)
    try simp only [Act.put, List.setIfInBounds_toArray, List.set_cons_zero, List.set_cons_succ]
    refine wpAnyH_take (i := 5) (oi := { dst := some 28, op := _, type := _, pos := _, after := _, guard := _ }) (v := ?_) rfl (by kernel_rfl) (by kernel_rfl) (by kernel_rfl) (fun _ _ _ h => h) (Or.inl ⟨by rfl, ?_⟩) (by assumption) ?_
    rotate_left
    · (intro w hSw; (try dsimp only at hSw); obtain ⟨u0, u1, u2⟩ := hSw; go_simp; try with_reducible rfl)
    try simp only [Act.put, List.setIfInBounds_toArray, List.set_cons_zero, List.set_cons_succ]
    refine wpAnyH_take (i := 6) (oi := { dst := some 29, op := _, type := _, pos := _, after := _, guard := _ }) (v := ?_) rfl (by kernel_rfl) (by kernel_rfl) (by kernel_rfl) (fun _ _ _ h => h) (Or.inl ⟨by rfl, ?_⟩) (by assumption) ?_
    rotate_left
    · (intro w hSw; (try dsimp only at hSw); obtain ⟨u0, u1, u2⟩ := hSw; go_simp; try with_reducible rfl)
    try simp only [Act.put, List.setIfInBounds_toArray, List.set_cons_zero, List.set_cons_succ]
    refine wpAnyH_take (i := 7) (oi := { dst := some 30, op := _, type := _, pos := _, after := _, guard := _ }) (v := ?_) rfl (by kernel_rfl) (by kernel_rfl) (by kernel_rfl) (fun _ _ _ h => h) (Or.inl ⟨by rfl, ?_⟩) (by assumption) ?_
    rotate_left
    · (intro w hSw; (try dsimp only at hSw); obtain ⟨u0, u1, u2⟩ := hSw; go_simp; try with_reducible rfl)
    try simp only [Act.put, List.setIfInBounds_toArray, List.set_cons_zero, List.set_cons_succ]
    refine wpAnyH_ready (rs := [1, 8]) (by kernel_rfl) (by simp) ?_
    refine AllReadyH.cons (o := { dst := some 24, op := _, type := _, pos := _, after := _, guard := _ }) rfl (fun K hK => ?_) ?_
    · skip
      have r1 := (HSt.out _ (fun q hq => Below.block (Below.refl wr.heap.size wr).drew q (by rcases hq with rfl | rfl <;> omega))).1
      go_simp
      clear r1
      refine hK.out _ _ hHeld (fun hH => ?_)
      clear hK K hHeld
      have hHeld := hH
      clear hH
      try simp only [Act.put, List.setIfInBounds_toArray, List.set_cons_zero, List.set_cons_succ]
      refine wpAnyH_ready (rs := [8]) (by kernel_rfl) (by simp) ?_
      refine AllReadyH.cons (o := { dst := some 31, op := _, type := _, pos := _, after := _, guard := _ }) rfl (fun K hK => ?_) ?_
      · skip
        go_simp
        go_at_call 56
        refine (copyInts_any A1 n.kids c1 _ (HKI.out.later (Below.refl _ _).drew (Nat.le_refl _)) hnil (by omega)).mono ?_
        rintro e w5 ⟨Ak, ck, rfl, hoc, hb5⟩
        have hbw : Below wr.heap.size wr w5 := (Below.refl _ _).drew.trans (hb5.mono (by simp))
        have hown5 : OwnI w5 wr.heap.size Ak ck n.kids := by simpa using hoc
        have hs5 := hbw.size
        have hba : Below w5.heap.size w5 (w5.alloc (.cells #[.int .i64 n.kind, .int .i64 n.value, .slice Ak n.kids.length ck] 43)) := (Below.refl _ _).alloc (Nat.le_refl _) _
        have HL6 := hide (Lies.new w5 #[.int .i64 n.kind, .int .i64 n.value, .slice Ak n.kids.length ck] 43)
        have HD6 := hide ((HD.out.below hbw).below hba)
        have HO6 := hide ((hown5.below hba).lowB (base' := w1.heap.size) hw1)
        have HOb := hide hown5.blocks
        have HBX := hide (hbw.trans (hba.mono hs5))
        have HBW := hide hbw
        clear hoc hb5 hown5 hba hbw
        refine hK.out _ _ ((HSt.out _ (fun q hq => Below.block HBW.out q (by rcases hq with rfl | rfl <;> omega)))).2 (fun hH => ?_)
        clear hK K hHeld
        have hHeld := hH
        clear hH
        try simp only [Act.put, List.setIfInBounds_toArray, List.set_cons_zero, List.set_cons_succ]
        refine wpAnyH_take (i := 9) (oi := { dst := some 32, op := _, type := _, pos := _, after := _, guard := _ }) (v := ?_) rfl (by kernel_rfl) (by kernel_rfl) (by kernel_rfl) (fun _ _ _ h => h) (Or.inl ⟨by rfl, ?_⟩) (by assumption) ?_
        rotate_left
        · (intro w hSw; (try dsimp only at hSw); obtain ⟨u0, u1, u2⟩ := hSw; go_simp; try with_reducible rfl)
        try simp only [Act.put, List.setIfInBounds_toArray, List.set_cons_zero, List.set_cons_succ]
        refine wpAnyH_ready (rs := [10]) (by kernel_rfl) (by simp) ?_
        refine AllReadyH.cons (o := { dst := some 33, op := _, type := _, pos := _, after := _, guard := _ }) rfl (fun K hK => ?_) ?_
        · skip
          go_simp
          refine hK.out _ _ ((HSt.out _ (fun q hq => Below.block HBX.out q (by rcases hq with rfl | rfl <;> omega)))).2 (fun hH => ?_)
          clear hK K hHeld
          have hHeld := hH
          clear hH
          try simp only [Act.put, List.setIfInBounds_toArray, List.set_cons_zero, List.set_cons_succ]
          refine wpAnyH_ready (rs := [11]) (by kernel_rfl) (by simp) ?_
          refine AllReadyH.cons (o := { dst := some 34, op := _, type := _, pos := _, after := _, guard := _ }) rfl (fun K hK => ?_) ?_
          · skip
            refine step_append_ndD (by rfl) (.tmp 24) (.tmp 33) (by rfl) w1.heap.size wr.heap.size w5.heap.size A2 c2 ns (by simp [Act.eval, Act.put]) HD6.out w5.heap.size n Ak ck _ (by simp [Act.eval, Act.put]) HL6.out HO6.out (by simp; omega) (by omega) (fun q hq => HOb.out q hq) hs5 ?_
            intro A5 c5 w7 hD7 hg7
            have HD7 := hide hD7
            have hs7 : w5.heap.size ≤ w7.heap.size := (by have := hg7.size; simp at this; omega)
            have hbk : ∀ q, q < w.heap.size + 2 ∨ q = w2.heap.size ∨ q = w3.heap.size → w7.heap[q]? = wr.heap[q]? := fun q hq => (hg7.block q (by simp; omega) (fun e => by have := HAb.out q e.symm; omega)).trans (HBX.out.block q (by omega))
            have hb7 : Below w1.heap.size wr w7 := below_grown (HBX.out.mono hw1) hg7 (by have := HBX.out.size; omega) (fun q hq => (HAb.out q hq).1)
            have Hbk := hide hbk
            have Hb7 := hide hb7
            have q := HSt.out _ (fun q hq => hbk q (.inr hq))
            have lC7 : Lies w7 w2.heap.size #[.slice A2 ns.length c2, .int .i64 (i : Int)] 25 := (hbk _ (.inr (.inl rfl))).trans HLC.out
            have d0 := lC7.cell 0
            have d1 := lC7.frozen 0
            simp only [List.getElem?_toArray, List.getElem?_cons_zero, List.getElem?_cons_succ] at d0
            clear hD7 hg7 lC7 hb7 hbk
            refine hK.out _ _ q.2 (fun hH => ?_)
            clear hK K hHeld
            have hHeld := hH
            clear hH
            try simp only [Act.put, List.setIfInBounds_toArray, List.set_cons_zero, List.set_cons_succ]
            refine wpAnyH_take (i := 12) (oi := { dst := some 35, op := _, type := _, pos := _, after := _, guard := _ }) (v := ?_) rfl (by kernel_rfl) (by kernel_rfl) (by kernel_rfl) (fun _ _ _ h => h) (Or.inl ⟨by rfl, ?_⟩) (by assumption) ?_
            rotate_left
            · (intro w hSw; (try dsimp only at hSw); obtain ⟨u0, u1, u2⟩ := hSw; go_simp; try with_reducible rfl)
            try simp only [Act.put, List.setIfInBounds_toArray, List.set_cons_zero, List.set_cons_succ]
            refine wpAnyH_ready (rs := [13]) (by kernel_rfl) (by simp) ?_
            refine AllReadyH.cons (o := { dst := none, op := _, type := _, pos := _, after := _, guard := _ }) rfl (fun K hK => ?_) ?_
            · skip
              go_simp
              clear q d0 d1
              refine hK.out _ _ ⟨(World.cell?_setCell_far _ _ _ _ hx1).trans hHeld.1, (World.cell?_setCell_far _ _ _ _ hx1).trans hHeld.2.1, (World.cell?_setCell_far _ _ _ _ hx1).trans hHeld.2.2⟩ (fun hH => ?_)
              clear hK K hHeld
              have hHeld := hH
              clear hH
              try simp only [Act.put, List.setIfInBounds_toArray, List.set_cons_zero, List.set_cons_succ]
              refine wpAnyH_done (by kernel_rfl) ?_ _
              have hR8 := HD7.out.farG (q := w2.heap.size) (i := 0) (v := .slice A5 (ns.length + 1) c5) ((Hbk.out _ (.inr (.inl rfl))).trans HLC.out)
              have lC8 := Lies.set (show Lies w7 w2.heap.size #[.slice A2 ns.length c2, .int .i64 (i : Int)] 25 from (Hbk.out _ (.inr (.inl rfl))).trans HLC.out) 0 (.slice A5 (ns.length + 1) c5)
              simp only [List.setIfInBounds_toArray, List.set_cons_succ, List.set_cons_zero] at lC8
              have HR9 := hide (hR8.farG (q := w2.heap.size) (i := 1) (v := .int .i64 (ns.length : Int)) lC8)
              have lC9 := lC8.set 1 (.int .i64 (ns.length : Int))
              simp only [List.setIfInBounds_toArray, List.set_cons_succ, List.set_cons_zero] at lC9
              have lG7 : Lies w7 w.heap.size #[.slice (some ⟨b, off, none⟩) ns.length c, .int .i64 (i : Int)] 25 := (Hbk.out _ (.inl (by omega))).trans HLG.out
              have lG8 : Lies (w7.setCell ⟨w2.heap.size, 0, none⟩ (.slice A5 (ns.length + 1) c5)) w.heap.size #[.slice (some ⟨b, off, none⟩) ns.length c, .int .i64 (i : Int)] 25 := (Below.heap_setCell _ _ _ _ (by show w.heap.size ≠ w2.heap.size; omega)).trans lG7
              have lR7 : Lies w7 (w.heap.size + 1) #[.slice none 0 0, .int .i64 0] 25 := (Hbk.out _ (.inl (by omega))).trans HLR.out
              have lR9 : Lies ((w7.setCell ⟨w2.heap.size, 0, none⟩ (.slice A5 (ns.length + 1) c5)).setCell ⟨w2.heap.size, 1, none⟩ (.int .i64 (ns.length : Int))) (w.heap.size + 1) #[.slice none 0 0, .int .i64 0] 25 := (Below.heap_setCell _ _ _ _ (by show w.heap.size + 1 ≠ w2.heap.size; omega)).trans ((Below.heap_setCell _ _ _ _ (by show w.heap.size + 1 ≠ w2.heap.size; omega)).trans lR7)
              have HB9 := hide (((Hb0.out.trans Hb7.out).setCell (p := ⟨w2.heap.size, 0, none⟩) (by show w1.heap.size ≤ w2.heap.size; omega) (.slice A5 (ns.length + 1) c5)).setCell (p := ⟨w2.heap.size, 1, none⟩) (by show w1.heap.size ≤ w2.heap.size; omega) (.int .i64 (ns.length : Int)))
              have l5 := (lR9.set 0 (.slice A5 (ns.length + 1) c5)).set 1 (.int .i64 (ns.length : Int))
              simp only [List.setIfInBounds_toArray, List.set_cons_succ, List.set_cons_zero] at l5
              have s0 := l5.cell 0
              have s1 := l5.cell 1
              have b0 := lR9.cell 0
              have b1 := lR9.cell 1
              have f0 := lR9.frozen 0
              have f1 := lR9.frozen 1
              have g0 := lG8.cell 0
              have d1 := lC8.cell 1
              have d2 := lC8.frozen 1
              have y0 := lC9.cell 0
              have y1 := lC9.cell 1
              simp only [List.getElem?_toArray, List.getElem?_cons_zero, List.getElem?_cons_succ] at s0 s1 b0 b1 g0 d1 y0 y1
              clear hHeld HSt HKI HM HD HD6 HO6 HOb HL6 HBX HBW Hb7 HD7 hS0 hR8 lC8 lC9 lG7 lG8 lR7 lR9 l5 Hbk
              go_wp2
              refine bodyPost_ret (v := .agg #[.slice A5 (ns.length + 1) c5, .int .i64 (ns.length : Int)]) (by simp [results, Try.results32, go_sem, s0, s1]) rfl ?_
              have hG := GivesG.put (r := (ns.length : Int)) hRl hB3 (Below.refl _ _) HB9.out (HR9.out.own (by simp; omega))
              rw [shalN_yes HV.out h12, shalR_yes HV.out h12, rootNd_at HN.out]
              simpa using hG
            exact AllReadyH.nil
          exact AllReadyH.nil
        exact AllReadyH.nil
      exact AllReadyH.nil
    refine AllReadyH.cons (o := { dst := some 31, op := _, type := _, pos := _, after := _, guard := _ }) rfl (fun K hK => ?_) ?_
    · skip
      go_simp
      go_at_call 56
      refine (copyInts_any A1 n.kids c1 _ (HKI.out.later (Below.refl _ _).drew (Nat.le_refl _)) hnil (by omega)).mono ?_
      rintro e w5 ⟨Ak, ck, rfl, hoc, hb5⟩
      have hbw : Below wr.heap.size wr w5 := (Below.refl _ _).drew.trans (hb5.mono (by simp))
      have hown5 : OwnI w5 wr.heap.size Ak ck n.kids := by simpa using hoc
      have hs5 := hbw.size
      have hba : Below w5.heap.size w5 (w5.alloc (.cells #[.int .i64 n.kind, .int .i64 n.value, .slice Ak n.kids.length ck] 43)) := (Below.refl _ _).alloc (Nat.le_refl _) _
      have HL6 := hide (Lies.new w5 #[.int .i64 n.kind, .int .i64 n.value, .slice Ak n.kids.length ck] 43)
      have HD6 := hide ((HD.out.below hbw).below hba)
      have HO6 := hide ((hown5.below hba).lowB (base' := w1.heap.size) hw1)
      have HOb := hide hown5.blocks
      have HBX := hide (hbw.trans (hba.mono hs5))
      have HBW := hide hbw
      clear hoc hb5 hown5 hba hbw
      refine hK.out _ _ ((HSt.out _ (fun q hq => Below.block HBW.out q (by rcases hq with rfl | rfl <;> omega)))).2 (fun hH => ?_)
      clear hK K hHeld
      have hHeld := hH
      clear hH
      try simp only [Act.put, List.setIfInBounds_toArray, List.set_cons_zero, List.set_cons_succ]
      refine wpAnyH_take (i := 9) (oi := { dst := some 32, op := _, type := _, pos := _, after := _, guard := _ }) (v := ?_) rfl (by kernel_rfl) (by kernel_rfl) (by kernel_rfl) (fun _ _ _ h => h) (Or.inl ⟨by rfl, ?_⟩) (by assumption) ?_
      rotate_left
      · (intro w hSw; (try dsimp only at hSw); obtain ⟨u0, u1, u2⟩ := hSw; go_simp; try with_reducible rfl)
      try simp only [Act.put, List.setIfInBounds_toArray, List.set_cons_zero, List.set_cons_succ]
      refine wpAnyH_ready (rs := [1, 10]) (by kernel_rfl) (by simp) ?_
      refine AllReadyH.cons (o := { dst := some 24, op := _, type := _, pos := _, after := _, guard := _ }) rfl (fun K hK => ?_) ?_
      · skip
        have r1 := (HSt.out _ (fun q hq => Below.block HBW.out q (by rcases hq with rfl | rfl <;> omega))).1
        go_simp
        clear r1
        refine hK.out _ _ hHeld (fun hH => ?_)
        clear hK K hHeld
        have hHeld := hH
        clear hH
        try simp only [Act.put, List.setIfInBounds_toArray, List.set_cons_zero, List.set_cons_succ]
        refine wpAnyH_ready (rs := [10]) (by kernel_rfl) (by simp) ?_
        refine AllReadyH.cons (o := { dst := some 33, op := _, type := _, pos := _, after := _, guard := _ }) rfl (fun K hK => ?_) ?_
        · skip
          go_simp
          refine hK.out _ _ ((HSt.out _ (fun q hq => Below.block HBX.out q (by rcases hq with rfl | rfl <;> omega)))).2 (fun hH => ?_)
          clear hK K hHeld
          have hHeld := hH
          clear hH
          try simp only [Act.put, List.setIfInBounds_toArray, List.set_cons_zero, List.set_cons_succ]
          refine wpAnyH_ready (rs := [11]) (by kernel_rfl) (by simp) ?_
          refine AllReadyH.cons (o := { dst := some 34, op := _, type := _, pos := _, after := _, guard := _ }) rfl (fun K hK => ?_) ?_
          · skip
            refine step_append_ndD (by rfl) (.tmp 24) (.tmp 33) (by rfl) w1.heap.size wr.heap.size w5.heap.size A2 c2 ns (by simp [Act.eval, Act.put]) HD6.out w5.heap.size n Ak ck _ (by simp [Act.eval, Act.put]) HL6.out HO6.out (by simp; omega) (by omega) (fun q hq => HOb.out q hq) hs5 ?_
            intro A5 c5 w7 hD7 hg7
            have HD7 := hide hD7
            have hs7 : w5.heap.size ≤ w7.heap.size := (by have := hg7.size; simp at this; omega)
            have hbk : ∀ q, q < w.heap.size + 2 ∨ q = w2.heap.size ∨ q = w3.heap.size → w7.heap[q]? = wr.heap[q]? := fun q hq => (hg7.block q (by simp; omega) (fun e => by have := HAb.out q e.symm; omega)).trans (HBX.out.block q (by omega))
            have hb7 : Below w1.heap.size wr w7 := below_grown (HBX.out.mono hw1) hg7 (by have := HBX.out.size; omega) (fun q hq => (HAb.out q hq).1)
            have Hbk := hide hbk
            have Hb7 := hide hb7
            have q := HSt.out _ (fun q hq => hbk q (.inr hq))
            have lC7 : Lies w7 w2.heap.size #[.slice A2 ns.length c2, .int .i64 (i : Int)] 25 := (hbk _ (.inr (.inl rfl))).trans HLC.out
            have d0 := lC7.cell 0
            have d1 := lC7.frozen 0
            simp only [List.getElem?_toArray, List.getElem?_cons_zero, List.getElem?_cons_succ] at d0
            clear hD7 hg7 lC7 hb7 hbk
            refine hK.out _ _ q.2 (fun hH => ?_)
            clear hK K hHeld
            have hHeld := hH
            clear hH
            try simp only [Act.put, List.setIfInBounds_toArray, List.set_cons_zero, List.set_cons_succ]
            refine wpAnyH_take (i := 12) (oi := { dst := some 35, op := _, type := _, pos := _, after := _, guard := _ }) (v := ?_) rfl (by kernel_rfl) (by kernel_rfl) (by kernel_rfl) (fun _ _ _ h => h) (Or.inl ⟨by rfl, ?_⟩) (by assumption) ?_
            rotate_left
            · (intro w hSw; (try dsimp only at hSw); obtain ⟨u0, u1, u2⟩ := hSw; go_simp; try with_reducible rfl)
            try simp only [Act.put, List.setIfInBounds_toArray, List.set_cons_zero, List.set_cons_succ]
            refine wpAnyH_ready (rs := [13]) (by kernel_rfl) (by simp) ?_
            refine AllReadyH.cons (o := { dst := none, op := _, type := _, pos := _, after := _, guard := _ }) rfl (fun K hK => ?_) ?_
            · skip
              go_simp
              clear q d0 d1
              refine hK.out _ _ ⟨(World.cell?_setCell_far _ _ _ _ hx1).trans hHeld.1, (World.cell?_setCell_far _ _ _ _ hx1).trans hHeld.2.1, (World.cell?_setCell_far _ _ _ _ hx1).trans hHeld.2.2⟩ (fun hH => ?_)
              clear hK K hHeld
              have hHeld := hH
              clear hH
              try simp only [Act.put, List.setIfInBounds_toArray, List.set_cons_zero, List.set_cons_succ]
              refine wpAnyH_done (by kernel_rfl) ?_ _
              have hR8 := HD7.out.farG (q := w2.heap.size) (i := 0) (v := .slice A5 (ns.length + 1) c5) ((Hbk.out _ (.inr (.inl rfl))).trans HLC.out)
              have lC8 := Lies.set (show Lies w7 w2.heap.size #[.slice A2 ns.length c2, .int .i64 (i : Int)] 25 from (Hbk.out _ (.inr (.inl rfl))).trans HLC.out) 0 (.slice A5 (ns.length + 1) c5)
              simp only [List.setIfInBounds_toArray, List.set_cons_succ, List.set_cons_zero] at lC8
              have HR9 := hide (hR8.farG (q := w2.heap.size) (i := 1) (v := .int .i64 (ns.length : Int)) lC8)
              have lC9 := lC8.set 1 (.int .i64 (ns.length : Int))
              simp only [List.setIfInBounds_toArray, List.set_cons_succ, List.set_cons_zero] at lC9
              have lG7 : Lies w7 w.heap.size #[.slice (some ⟨b, off, none⟩) ns.length c, .int .i64 (i : Int)] 25 := (Hbk.out _ (.inl (by omega))).trans HLG.out
              have lG8 : Lies (w7.setCell ⟨w2.heap.size, 0, none⟩ (.slice A5 (ns.length + 1) c5)) w.heap.size #[.slice (some ⟨b, off, none⟩) ns.length c, .int .i64 (i : Int)] 25 := (Below.heap_setCell _ _ _ _ (by show w.heap.size ≠ w2.heap.size; omega)).trans lG7
              have lR7 : Lies w7 (w.heap.size + 1) #[.slice none 0 0, .int .i64 0] 25 := (Hbk.out _ (.inl (by omega))).trans HLR.out
              have lR9 : Lies ((w7.setCell ⟨w2.heap.size, 0, none⟩ (.slice A5 (ns.length + 1) c5)).setCell ⟨w2.heap.size, 1, none⟩ (.int .i64 (ns.length : Int))) (w.heap.size + 1) #[.slice none 0 0, .int .i64 0] 25 := (Below.heap_setCell _ _ _ _ (by show w.heap.size + 1 ≠ w2.heap.size; omega)).trans ((Below.heap_setCell _ _ _ _ (by show w.heap.size + 1 ≠ w2.heap.size; omega)).trans lR7)
              have HB9 := hide (((Hb0.out.trans Hb7.out).setCell (p := ⟨w2.heap.size, 0, none⟩) (by show w1.heap.size ≤ w2.heap.size; omega) (.slice A5 (ns.length + 1) c5)).setCell (p := ⟨w2.heap.size, 1, none⟩) (by show w1.heap.size ≤ w2.heap.size; omega) (.int .i64 (ns.length : Int)))
              have l5 := (lR9.set 0 (.slice A5 (ns.length + 1) c5)).set 1 (.int .i64 (ns.length : Int))
              simp only [List.setIfInBounds_toArray, List.set_cons_succ, List.set_cons_zero] at l5
              have s0 := l5.cell 0
              have s1 := l5.cell 1
              have b0 := lR9.cell 0
              have b1 := lR9.cell 1
              have f0 := lR9.frozen 0
              have f1 := lR9.frozen 1
              have g0 := lG8.cell 0
              have d1 := lC8.cell 1
              have d2 := lC8.frozen 1
              have y0 := lC9.cell 0
              have y1 := lC9.cell 1
              simp only [List.getElem?_toArray, List.getElem?_cons_zero, List.getElem?_cons_succ] at s0 s1 b0 b1 g0 d1 y0 y1
              clear hHeld HSt HKI HM HD HD6 HO6 HOb HL6 HBX HBW Hb7 HD7 hS0 hR8 lC8 lC9 lG7 lG8 lR7 lR9 l5 Hbk
              go_wp2
              refine bodyPost_ret (v := .agg #[.slice A5 (ns.length + 1) c5, .int .i64 (ns.length : Int)]) (by simp [results, Try.results32, go_sem, s0, s1]) rfl ?_
              have hG := GivesG.put (r := (ns.length : Int)) hRl hB3 (Below.refl _ _) HB9.out (HR9.out.own (by simp; omega))
              rw [shalN_yes HV.out h12, shalR_yes HV.out h12, rootNd_at HN.out]
              simpa using hG
            exact AllReadyH.nil
          exact AllReadyH.nil
        exact AllReadyH.nil
      refine AllReadyH.cons (o := { dst := some 33, op := _, type := _, pos := _, after := _, guard := _ }) rfl (fun K hK => ?_) ?_
      · skip
        go_simp
        refine hK.out _ _ ((HSt.out _ (fun q hq => Below.block HBX.out q (by rcases hq with rfl | rfl <;> omega)))).2 (fun hH => ?_)
        clear hK K hHeld
        have hHeld := hH
        clear hH
        try simp only [Act.put, List.setIfInBounds_toArray, List.set_cons_zero, List.set_cons_succ]
        refine wpAnyH_ready (rs := [1]) (by kernel_rfl) (by simp) ?_
        refine AllReadyH.cons (o := { dst := some 24, op := _, type := _, pos := _, after := _, guard := _ }) rfl (fun K hK => ?_) ?_
        · skip
          have r1 := (HSt.out _ (fun q hq => Below.block HBX.out q (by rcases hq with rfl | rfl <;> omega))).1
          go_simp
          clear r1
          refine hK.out _ _ hHeld (fun hH => ?_)
          clear hK K hHeld
          have hHeld := hH
          clear hH
          try simp only [Act.put, List.setIfInBounds_toArray, List.set_cons_zero, List.set_cons_succ]
          refine wpAnyH_ready (rs := [11]) (by kernel_rfl) (by simp) ?_
          refine AllReadyH.cons (o := { dst := some 34, op := _, type := _, pos := _, after := _, guard := _ }) rfl (fun K hK => ?_) ?_
          · skip
            refine step_append_ndD (by rfl) (.tmp 24) (.tmp 33) (by rfl) w1.heap.size wr.heap.size w5.heap.size A2 c2 ns (by simp [Act.eval, Act.put]) HD6.out w5.heap.size n Ak ck _ (by simp [Act.eval, Act.put]) HL6.out HO6.out (by simp; omega) (by omega) (fun q hq => HOb.out q hq) hs5 ?_
            intro A5 c5 w7 hD7 hg7
            have HD7 := hide hD7
            have hs7 : w5.heap.size ≤ w7.heap.size := (by have := hg7.size; simp at this; omega)
            have hbk : ∀ q, q < w.heap.size + 2 ∨ q = w2.heap.size ∨ q = w3.heap.size → w7.heap[q]? = wr.heap[q]? := fun q hq => (hg7.block q (by simp; omega) (fun e => by have := HAb.out q e.symm; omega)).trans (HBX.out.block q (by omega))
            have hb7 : Below w1.heap.size wr w7 := below_grown (HBX.out.mono hw1) hg7 (by have := HBX.out.size; omega) (fun q hq => (HAb.out q hq).1)
            have Hbk := hide hbk
            have Hb7 := hide hb7
            have q := HSt.out _ (fun q hq => hbk q (.inr hq))
            have lC7 : Lies w7 w2.heap.size #[.slice A2 ns.length c2, .int .i64 (i : Int)] 25 := (hbk _ (.inr (.inl rfl))).trans HLC.out
            have d0 := lC7.cell 0
            have d1 := lC7.frozen 0
            simp only [List.getElem?_toArray, List.getElem?_cons_zero, List.getElem?_cons_succ] at d0
            clear hD7 hg7 lC7 hb7 hbk
            refine hK.out _ _ q.2 (fun hH => ?_)
            clear hK K hHeld
            have hHeld := hH
            clear hH
            try simp only [Act.put, List.setIfInBounds_toArray, List.set_cons_zero, List.set_cons_succ]
            refine wpAnyH_take (i := 12) (oi := { dst := some 35, op := _, type := _, pos := _, after := _, guard := _ }) (v := ?_) rfl (by kernel_rfl) (by kernel_rfl) (by kernel_rfl) (fun _ _ _ h => h) (Or.inl ⟨by rfl, ?_⟩) (by assumption) ?_
            rotate_left
            · (intro w hSw; (try dsimp only at hSw); obtain ⟨u0, u1, u2⟩ := hSw; go_simp; try with_reducible rfl)
            try simp only [Act.put, List.setIfInBounds_toArray, List.set_cons_zero, List.set_cons_succ]
            refine wpAnyH_ready (rs := [13]) (by kernel_rfl) (by simp) ?_
            refine AllReadyH.cons (o := { dst := none, op := _, type := _, pos := _, after := _, guard := _ }) rfl (fun K hK => ?_) ?_
            · skip
              go_simp
              clear q d0 d1
              refine hK.out _ _ ⟨(World.cell?_setCell_far _ _ _ _ hx1).trans hHeld.1, (World.cell?_setCell_far _ _ _ _ hx1).trans hHeld.2.1, (World.cell?_setCell_far _ _ _ _ hx1).trans hHeld.2.2⟩ (fun hH => ?_)
              clear hK K hHeld
              have hHeld := hH
              clear hH
              try simp only [Act.put, List.setIfInBounds_toArray, List.set_cons_zero, List.set_cons_succ]
              refine wpAnyH_done (by kernel_rfl) ?_ _
              have hR8 := HD7.out.farG (q := w2.heap.size) (i := 0) (v := .slice A5 (ns.length + 1) c5) ((Hbk.out _ (.inr (.inl rfl))).trans HLC.out)
              have lC8 := Lies.set (show Lies w7 w2.heap.size #[.slice A2 ns.length c2, .int .i64 (i : Int)] 25 from (Hbk.out _ (.inr (.inl rfl))).trans HLC.out) 0 (.slice A5 (ns.length + 1) c5)
              simp only [List.setIfInBounds_toArray, List.set_cons_succ, List.set_cons_zero] at lC8
              have HR9 := hide (hR8.farG (q := w2.heap.size) (i := 1) (v := .int .i64 (ns.length : Int)) lC8)
              have lC9 := lC8.set 1 (.int .i64 (ns.length : Int))
              simp only [List.setIfInBounds_toArray, List.set_cons_succ, List.set_cons_zero] at lC9
              have lG7 : Lies w7 w.heap.size #[.slice (some ⟨b, off, none⟩) ns.length c, .int .i64 (i : Int)] 25 := (Hbk.out _ (.inl (by omega))).trans HLG.out
              have lG8 : Lies (w7.setCell ⟨w2.heap.size, 0, none⟩ (.slice A5 (ns.length + 1) c5)) w.heap.size #[.slice (some ⟨b, off, none⟩) ns.length c, .int .i64 (i : Int)] 25 := (Below.heap_setCell _ _ _ _ (by show w.heap.size ≠ w2.heap.size; omega)).trans lG7
              have lR7 : Lies w7 (w.heap.size + 1) #[.slice none 0 0, .int .i64 0] 25 := (Hbk.out _ (.inl (by omega))).trans HLR.out
              have lR9 : Lies ((w7.setCell ⟨w2.heap.size, 0, none⟩ (.slice A5 (ns.length + 1) c5)).setCell ⟨w2.heap.size, 1, none⟩ (.int .i64 (ns.length : Int))) (w.heap.size + 1) #[.slice none 0 0, .int .i64 0] 25 := (Below.heap_setCell _ _ _ _ (by show w.heap.size + 1 ≠ w2.heap.size; omega)).trans ((Below.heap_setCell _ _ _ _ (by show w.heap.size + 1 ≠ w2.heap.size; omega)).trans lR7)
              have HB9 := hide (((Hb0.out.trans Hb7.out).setCell (p := ⟨w2.heap.size, 0, none⟩) (by show w1.heap.size ≤ w2.heap.size; omega) (.slice A5 (ns.length + 1) c5)).setCell (p := ⟨w2.heap.size, 1, none⟩) (by show w1.heap.size ≤ w2.heap.size; omega) (.int .i64 (ns.length : Int)))
              have l5 := (lR9.set 0 (.slice A5 (ns.length + 1) c5)).set 1 (.int .i64 (ns.length : Int))
              simp only [List.setIfInBounds_toArray, List.set_cons_succ, List.set_cons_zero] at l5
              have s0 := l5.cell 0
              have s1 := l5.cell 1
              have b0 := lR9.cell 0
              have b1 := lR9.cell 1
              have f0 := lR9.frozen 0
              have f1 := lR9.frozen 1
              have g0 := lG8.cell 0
              have d1 := lC8.cell 1
              have d2 := lC8.frozen 1
              have y0 := lC9.cell 0
              have y1 := lC9.cell 1
              simp only [List.getElem?_toArray, List.getElem?_cons_zero, List.getElem?_cons_succ] at s0 s1 b0 b1 g0 d1 y0 y1
              clear hHeld HSt HKI HM HD HD6 HO6 HOb HL6 HBX HBW Hb7 HD7 hS0 hR8 lC8 lC9 lG7 lG8 lR7 lR9 l5 Hbk
              go_wp2
              refine bodyPost_ret (v := .agg #[.slice A5 (ns.length + 1) c5, .int .i64 (ns.length : Int)]) (by simp [results, Try.results32, go_sem, s0, s1]) rfl ?_
              have hG := GivesG.put (r := (ns.length : Int)) hRl hB3 (Below.refl _ _) HB9.out (HR9.out.own (by simp; omega))
              rw [shalN_yes HV.out h12, shalR_yes HV.out h12, rootNd_at HN.out]
              simpa using hG
            exact AllReadyH.nil
          exact AllReadyH.nil
        exact AllReadyH.nil
      exact AllReadyH.nil
    exact AllReadyH.nil
  · have HY := hide hy
    have l5 := (lR1.set 0 (.slice none 0 0)).set 1 (.int .i64 0)
    simp only [List.setIfInBounds_toArray, List.set_cons_succ, List.set_cons_zero] at l5
    have s0 := l5.cell 0
    have s1 := l5.cell 1
    have b0 := lR1.cell 0
    have b1 := lR1.cell 1
    have f0 := lR1.frozen 0
    have f1 := lR1.frozen 1
    simp only [List.getElem?_toArray, List.getElem?_cons_zero, List.getElem?_cons_succ] at s0 s1 b0 b1
    have HB := hide ((hB3.setCell (p := ⟨w.heap.size + 1, 0, none⟩) (by show w.heap.size ≤ w.heap.size + 1; omega) (.slice none 0 0)).setCell (p := ⟨w.heap.size + 1, 1, none⟩) (by show w.heap.size ≤ w.heap.size + 1; omega) (.int .i64 0))
    have hcase : tf (ValidG ns r) = false ∨ (tf (ValidG ns r) = true ∧ ns.length = 12) := by
      by_cases hv : ValidG ns r
      · exact .inr ⟨tf_true hv, Classical.byContradiction fun h => hy ⟨hv, h⟩⟩
      · exact .inl (tf_false hv)
    clear hy l5 lR1 lG1 hr3 hB3
    rcases hcase with hc | ⟨hc, h12⟩
    · rw [hc]
      clear hc
      go_wp2
      refine bodyPost_ret (v := .agg #[.slice none 0 0, .int .i64 0]) (by simp [results, Try.results32, go_sem, s0, s1]) rfl ?_
      rw [shalN_no HY.out, shalR_no HY.out]
      exact GivesG.zero _ _ HB.out
    · rw [hc]
      have hd : decide ((ns.length : Int) = 12) = true := by simp; omega
      clear hc
      go_wp2
      refine bodyPost_ret (v := .agg #[.slice none 0 0, .int .i64 0]) (by simp [results, Try.results32, go_sem, s0, s1]) rfl ?_
      rw [shalN_no HY.out, shalR_no HY.out]
      exact GivesG.zero _ _ HB.out

end Go.Proofs.Ythgklkpfmjgeoaa
