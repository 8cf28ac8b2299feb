/-
  The model's together: the nodes of two graphs, those of the second behind those of the first. Made by wip/gen/gentog.py.
-/
import Derived.Test.YthgklkpfmjgeoaaCgS
import Derived.Test.YthgklkpfmjgeoaaPjAl
import Derived.Test.YthgklkpfmjgeoaaPjAe
import Derived.Deep.QuietTactic
import Derived.BigQuiet
namespace Go.Proofs.Ythgklkpfmjgeoaa
open Go.RowKit Go.Maps
set_option linter.unusedVariables false
set_option linter.unusedSimpArgs false

/-- the answer: a row of the call's own that reads as the nodes of both graphs, and the second one's root among them -/
def GivesT (w : World) (ns : List Nd) (v : Int) (e : Ending) (w' : World) : Prop :=
  ∃ A c, e = .returned (.tuple #[.slice A ns.length c, .int .i64 v]) ∧ RowN w' w.heap.size A c ns ∧ Below w.heap.size w w'

theorem RowN.lowT {w : World} {base base' : Nat} {A : Option Addr} {c : Nat} {ns : List Nd} (h : RowN w base A c ns) (hb : base' ≤ base) : RowN w base' A c ns := by
  obtain ⟨cs, h1, h2⟩ := h.row
  refine ⟨⟨cs, ⟨h1.1, ?_⟩, fun j n hj => ?_⟩⟩
  · rcases h1.2 with h3 | ⟨g, cap, cur, hv, hg, r⟩
    · exact .inl h3
    · exact .inr ⟨g, cap, cur, hv, by omega, r⟩
  · obtain ⟨A1, c1, a1, a2, a3, a4⟩ := h2 j n hj
    exact ⟨A1, c1, a1, a2, a3, a4.lowB hb⟩

theorem to_len {ns ms : List Nd} {k : Nat} (hk : k ≤ ms.length) : (ns ++ (ms.take k).map (shiftNd ns.length)).length = ns.length + k := by
  simp
  omega

set_option maxRecDepth 100000 in
set_option maxHeartbeats 4000000 in
theorem together_any (A B : Option Addr) (ns ms : List Nd) (c cb : Nat) (r s : Int) (w : World) (ha : NdsAt w w.heap.size A ns) (hb : NdsAt w w.heap.size B ms) (hl : ns.length ≤ 100) (hm : ms.length ≤ 100)
    (hka : ∀ n ∈ ns, n.kids.length ≤ 1000) (hkb : ∀ n ∈ ms, n.kids.length ≤ 1000 ∧ ∀ k ∈ n.kids, 0 ≤ k ∧ k ≤ 1000000) (hs0 : 0 ≤ s) (hs1 : s ≤ 1000000) :
    Calls Try.prog 16 #[.agg #[.slice A ns.length c, .int .i64 r], .agg #[.slice B ms.length cb, .int .i64 s]] w (GivesT w (joinNs ns ms) ((ns.length : Int) + s)) := by
  have hB1 : Below w.heap.size w ((w.alloc (.cells #[.slice A ns.length c, .int .i64 r] 25)).alloc (.cells #[.slice B ms.length cb, .int .i64 s] 25)) := ((Below.refl _ _).alloc (Nat.le_refl _) _).alloc (by simp) _
  have lA := (Lies.new w #[.slice A ns.length c, .int .i64 r] 25).alloc (.cells #[.slice B ms.length cb, .int .i64 s] 25)
  have lB := Lies.new (w.alloc (.cells #[.slice A ns.length c, .int .i64 r] 25)) #[.slice B ms.length cb, .int .i64 s] 25
  simp only [World.size_alloc] at lB
  have HKA := hide hka
  have HKB := hide hkb
  have HA := hide ha
  have HBn := hide hb
  clear ha hb hka hkb
  go_enter Try.func16, Try.ntmps16
  go_upto_region 1 with fail
  generalize (w.alloc (.cells #[.slice A ns.length c, .int .i64 r] 25)).alloc (.cells #[.slice B ms.length cb, .int .i64 s] 25) = W at hB1 lA lB ⊢
  have e0 := lA.cell 0
  have e1 := lA.cell 1
  simp only [List.getElem?_toArray, List.getElem?_cons_zero, List.getElem?_cons_succ] at e0 e1
  have hW1 : w.heap.size + 1 < W.heap.size := lB.lt
  have HA2 := hide (HA.out.later hB1 (Nat.le_refl _))
  have HB2 := hide hB1
  have HLA := hide lA
  have HLB := hide lB
  clear lA lB hB1
  go_wp2_with fail
  refine (copyGraph_any A ns c r W HA2.out (by omega) HKA.out).mono ?_
  rintro e w2 ⟨Ar, cr, rfl, hrow, hb2⟩
  have e0 := (HLA.out.below hb2 HLA.out.lt).cell 0
  simp only [List.getElem?_toArray, List.getElem?_cons_zero, List.getElem?_cons_succ] at e0
  have HR2 := hide hrow.rowN
  have Hb2 := hide hb2
  have hfd : ∀ w : World, (Instr.field 25 (.agg #[.slice Ar ns.length cr, .int .i64 r]) 0).run Try.prog w = .ok (.slice Ar ns.length cr) w := fun _ => by kernel_rfl
  clear hrow hb2 e1
  go_wp2_with fail
  clear e0 hfd
  go_loopg [6, 8, 9, 10] ms.length (fun gk sv iv _ _ wr => ∃ (i : Nat) (A2 : Option Addr) (c2 : Nat), i ≤ ms.length ∧ gk = ms.length - i ∧ sv = .slice A2 (ns.length + i) c2 ∧ iv = .int .i64 (i : Int) ∧ RowN wr W.heap.size A2 c2 (ns ++ (ms.take i).map (shiftNd ns.length)) ∧ Below W.heap.size W wr)
  case atStart => exact ⟨0, _, _, Nat.zero_le _, rfl, rfl, rfl, by simpa using HR2.out, Hb2.out⟩
  case round =>
    clear HR2 Hb2
    obtain ⟨wq, hwq⟩ : ∃ x, x = wr := ⟨_, rfl⟩
    subst hwq
    obtain ⟨i, A2, c2, hi, rfl, rfl, rfl, hrow, hbw⟩ := hrel
    have Hrow := hide hrow
    have Hbw := hide hbw
    have hWr := hbw.size
    have e0 := (HLB.out.below hbw HLB.out.lt).cell 0
    have e1 := (HLB.out.below hbw HLB.out.lt).cell 1
    simp only [List.getElem?_toArray, List.getElem?_cons_zero, List.getElem?_cons_succ] at e0 e1
    clear hrow hbw
    by_cases hlt : i < ms.length
    · obtain ⟨b, off, n, rfl, hbl, hn, hmm, hnd⟩ := (HBn.out.below (HB2.out.trans (Hbw.out.mono HB2.out.size))).at_ hlt
      obtain ⟨A1, c1, k2, hki, hnil⟩ := hnd.kids
      have k0 := hnd.kind
      have k1 := hnd.value
      have HN := hide hn
      have HM := hide (HKB.out n hmm)
      have HKI := hide hki
      have hkn : n.kids.length ≤ 1000 := HM.out.1
      have hi3 : (0 : Int) ≤ (i : Int) := by omega
      have hi4 : (i : Int) < (ms.length : Int) := by omega
      have hdl : decide ((i : Int) < (ms.length : Int)) = true := by simp; omega
      have HK2 := hide k2
      have HSa := hide (show ∀ X : World, Below wq.heap.size wq X → X.cell? ⟨w.heap.size + 1, 0, none⟩ = some (.slice (some ⟨b, off, none⟩) ms.length cb) ∧ X.cell? ⟨b, off + i * 3, none⟩ = some (.int .i64 n.kind) ∧ X.cell? ⟨b, off + i * 3 + 1, none⟩ = some (.int .i64 n.value) from fun X hX =>
        ⟨(hX.cell (p := ⟨w.heap.size + 1, 0, none⟩) (by show w.heap.size + 1 < wq.heap.size; omega)).trans e0, (hX.cell (p := ⟨b, off + i * 3, none⟩) (by show b < wq.heap.size; omega)).trans k0, (hX.cell (p := ⟨b, off + i * 3 + 1, none⟩) (by show b < wq.heap.size; omega)).trans k1⟩)
      clear hn hmm hnd hki k2 e1
      go_upto_region 6 with fail
      refine wp_region_held_drew (S := fun w' => w'.cell? ⟨w.heap.size + 1, 0, none⟩ = some (.slice (some ⟨b, off, none⟩) ms.length cb) ∧ w'.cell? ⟨b, off + i * 3, none⟩ = some (.int .i64 n.kind) ∧ w'.cell? ⟨b, off + i * 3 + 1, none⟩ = some (.int .i64 n.value)) (by kernel_rfl) ⟨e0, k0, k1⟩ (fun hHeld => ?_)
      refine wpAnyH_take (i := 0) (oi := { dst := some 24, op := _, type := _, pos := _, after := _, guard := _ }) (v := ?_) rfl (by kernel_rfl) (by kernel_rfl) (by kernel_rfl) (fun _ _ _ h => h) (Or.inl ⟨by rfl, ?_⟩) (by assumption) ?_
      rotate_left
      · (intro w hSw; (try dsimp only at hSw); obtain ⟨u0, u2, u3⟩ := hSw; go_simp; try with_reducible rfl)
      try simp only [Act.put, List.setIfInBounds_toArray, List.set_cons_zero, List.set_cons_succ]
      refine wpAnyH_take (i := 1) (oi := { dst := some 25, op := _, type := _, pos := _, after := _, guard := _ }) (v := ?_) rfl (by kernel_rfl) (by kernel_rfl) (by kernel_rfl) (fun _ _ _ h => h) (Or.inl ⟨by rfl, ?_⟩) (by assumption) ?_
      rotate_left
      · (intro w hSw; (try dsimp only at hSw); obtain ⟨u0, u2, u3⟩ := hSw; go_simp; try with_reducible rfl)
      try simp only [Act.put, List.setIfInBounds_toArray, List.set_cons_zero, List.set_cons_succ]
      refine wpAnyH_take (i := 2) (oi := { dst := some 26, op := _, type := _, pos := _, after := _, guard := _ }) (v := ?_) rfl (by kernel_rfl) (by kernel_rfl) (by kernel_rfl) (fun _ _ _ h => h) (Or.inl ⟨by rfl, ?_⟩) (by assumption) ?_
      rotate_left
      · (intro w hSw; (try dsimp only at hSw); obtain ⟨u0, u2, u3⟩ := hSw; go_simp; try with_reducible rfl)
      try simp only [Act.put, List.setIfInBounds_toArray, List.set_cons_zero, List.set_cons_succ]
      refine wpAnyH_take (i := 3) (oi := { dst := some 27, op := _, type := _, pos := _, after := _, guard := _ }) (v := ?_) rfl (by kernel_rfl) (by kernel_rfl) (by kernel_rfl) (fun _ _ _ h => h) (Or.inl ⟨by rfl, ?_⟩) (by assumption) ?_
      rotate_left
      · (intro w hSw; (try dsimp only at hSw); obtain ⟨u0, u2, u3⟩ := hSw; go_simp; try with_reducible rfl)
      try simp only [Act.put, List.setIfInBounds_toArray, List.set_cons_zero, List.set_cons_succ]
      refine wpAnyH_take (i := 4) (oi := { dst := some 28, op := _, type := _, pos := _, after := _, guard := _ }) (v := ?_) rfl (by kernel_rfl) (by kernel_rfl) (by kernel_rfl) (fun _ _ _ h => h) (Or.inl ⟨by rfl, ?_⟩) (by assumption) ?_
      rotate_left
      · (intro w hSw; (try dsimp only at hSw); obtain ⟨u0, u2, u3⟩ := hSw; go_simp; try with_reducible rfl)
      try simp only [Act.put, List.setIfInBounds_toArray, List.set_cons_zero, List.set_cons_succ]
      refine wpAnyH_take (i := 5) (oi := { dst := some 29, op := _, type := _, pos := _, after := _, guard := _ }) (v := ?_) rfl (by kernel_rfl) (by kernel_rfl) (by kernel_rfl) (fun _ _ _ h => h) (Or.inl ⟨by rfl, ?_⟩) (by assumption) ?_
      rotate_left
      · (intro w hSw; (try dsimp only at hSw); obtain ⟨u0, u2, u3⟩ := hSw; go_simp; try with_reducible rfl)
      try simp only [Act.put, List.setIfInBounds_toArray, List.set_cons_zero, List.set_cons_succ]
      refine wpAnyH_take (i := 6) (oi := { dst := some 30, op := _, type := _, pos := _, after := _, guard := _ }) (v := ?_) rfl (by kernel_rfl) (by kernel_rfl) (by kernel_rfl) (fun _ _ _ h => h) (Or.inl ⟨by rfl, ?_⟩) (by assumption) ?_
      rotate_left
      · (intro w hSw; (try dsimp only at hSw); obtain ⟨u0, u2, u3⟩ := hSw; go_simp; try with_reducible rfl)
      try simp only [Act.put, List.setIfInBounds_toArray, List.set_cons_zero, List.set_cons_succ]
      refine wpAnyH_take (i := 7) (oi := { dst := some 31, op := _, type := _, pos := _, after := _, guard := _ }) (v := ?_) rfl (by kernel_rfl) (by kernel_rfl) (by kernel_rfl) (fun _ _ _ h => h) (Or.inl ⟨by rfl, ?_⟩) (by assumption) ?_
      rotate_left
      · (intro w hSw; (try dsimp only at hSw); obtain ⟨u0, u2, u3⟩ := hSw; go_simp; try with_reducible rfl)
      try simp only [Act.put, List.setIfInBounds_toArray, List.set_cons_zero, List.set_cons_succ]
      refine wpAnyH_take (i := 8) (oi := { dst := some 32, op := _, type := _, pos := _, after := _, guard := _ }) (v := ?_) rfl (by kernel_rfl) (by kernel_rfl) (by kernel_rfl) (fun _ _ _ h => h) (Or.inl ⟨by rfl, ?_⟩) (by assumption) ?_
      rotate_left
      · (intro w hSw; (try dsimp only at hSw); obtain ⟨u0, u2, u3⟩ := hSw; go_simp; try with_reducible rfl)
      try simp only [Act.put, List.setIfInBounds_toArray, List.set_cons_zero, List.set_cons_succ]
      refine wpAnyH_take (i := 9) (oi := { dst := some 33, op := _, type := _, pos := _, after := _, guard := _ }) (v := ?_) rfl (by kernel_rfl) (by kernel_rfl) (by kernel_rfl) (fun _ _ _ h => h) (Or.inl ⟨by rfl, ?_⟩) (by assumption) ?_
      rotate_left
      · (intro w hSw; (try dsimp only at hSw); obtain ⟨u0, u2, u3⟩ := hSw; go_simp; try with_reducible rfl)
      try simp only [Act.put, List.setIfInBounds_toArray, List.set_cons_zero, List.set_cons_succ]
      refine wpAnyH_take (i := 10) (oi := { dst := some 34, op := _, type := _, pos := _, after := _, guard := _ }) (v := ?_) rfl (by kernel_rfl) (by kernel_rfl) (by kernel_rfl) (fun _ _ _ h => h) (Or.inl ⟨by rfl, ?_⟩) (by assumption) ?_
      rotate_left
      · (intro w hSw; (try dsimp only at hSw); obtain ⟨u0, u2, u3⟩ := hSw; go_simp; try with_reducible rfl)
      try simp only [Act.put, List.setIfInBounds_toArray, List.set_cons_zero, List.set_cons_succ]
      refine wpAnyH_take (i := 11) (oi := { dst := some 35, op := _, type := _, pos := _, after := _, guard := _ }) (v := ?_) rfl (by kernel_rfl) (by kernel_rfl) (by kernel_rfl) (fun _ _ _ h => h) (Or.inl ⟨by rfl, ?_⟩) (by assumption) ?_
      rotate_left
      · (intro w hSw; (try dsimp only at hSw); obtain ⟨u0, u2, u3⟩ := hSw; go_simp; try with_reducible rfl)
      try simp only [Act.put, List.setIfInBounds_toArray, List.set_cons_zero, List.set_cons_succ]
      refine wpAnyH_take (i := 12) (oi := { dst := some 36, op := _, type := _, pos := _, after := _, guard := _ }) (v := ?_) rfl (by kernel_rfl) (by kernel_rfl) (by kernel_rfl) (fun _ _ _ h => h) (Or.inl ⟨by rfl, ?_⟩) (by assumption) ?_
      rotate_left
      · (intro w hSw; (try dsimp only at hSw); obtain ⟨u0, u2, u3⟩ := hSw; go_simp; try with_reducible rfl)
      try simp only [Act.put, List.setIfInBounds_toArray, List.set_cons_zero, List.set_cons_succ]
      refine wpAnyH_ready (rs := [13]) (by kernel_rfl) (by simp) ?_
      refine AllReadyH.cons (o := { dst := some 9, op := _, type := _, pos := _, after := _, guard := _ }) rfl (fun K hK => ?_) AllReadyH.nil
      go_simp
      refine hK.out _ _ (HSa.out _ ((Below.refl _ _).drew.alloc (by simp) _)) (fun hH => ?_)
      clear hK K hHeld
      have hHeld := hH
      clear hH
      try simp only [Act.put, List.setIfInBounds_toArray, List.set_cons_zero, List.set_cons_succ]
      refine wpAnyH_ready (rs := [14]) (by kernel_rfl) (by simp) ?_
      refine AllReadyH.cons (o := { dst := none, op := _, type := _, pos := _, after := _, guard := _ }) rfl (fun K hK => ?_) AllReadyH.nil
      have l4 := Lies.new wq.drew #[.int .i64 0, .int .i64 0, .slice none 0 0] 43
      have p0 := l4.cell 0
      have p1 := l4.cell 1
      have p2 := l4.cell 2
      have f0 := l4.frozen 0
      have f1 := l4.frozen 1
      have f2 := l4.frozen 2
      simp only [List.getElem?_toArray, List.getElem?_cons_zero, List.getElem?_cons_succ, World.size_drew] at p0 p1 p2 f0 f1 f2
      have l5 : Lies ((wq.alloc (.cells #[.int .i64 n.kind, .int .i64 n.value, .slice none 0 0] 43)).drew) wq.heap.size #[.int .i64 n.kind, .int .i64 n.value, .slice none 0 0] 43 := by exact (Lies.new wq #[.int .i64 n.kind, .int .i64 n.value, .slice none 0 0] 43)
      go_simp
      have hbs : Below wq.heap.size wq ((wq.alloc (.cells #[.int .i64 n.kind, .int .i64 n.value, .slice none 0 0] 43)).drew) := ((Below.refl _ _).alloc (Nat.le_refl _) _).drew
      refine hK.out _ _ (HSa.out _ hbs) (fun hH => ?_)
      clear hK K hHeld
      have hHeld := hH
      clear hH
      try simp only [Act.put, List.setIfInBounds_toArray, List.set_cons_zero, List.set_cons_succ]
      refine wpAnyH_done (by kernel_rfl) ?_ _
      have Hl5 := hide l5
      have Hbs := hide hbs
      clear hHeld l4 l5 p0 p1 p2 f0 f1 f2 hbs k0 k1 e0
      generalize (wq.alloc (.cells #[.int .i64 n.kind, .int .i64 n.value, .slice none 0 0] 43)).drew = W3 at Hl5 Hbs ⊢
      have hW3 : wq.heap.size < W3.heap.size := Hl5.out.lt
      have hbw2 : b < wq.heap.size := by omega
      go_wp2_with fail
      go_loopg [10] n.kids.length (fun gk kv wr => ∃ (k : Nat) (Ak : Option Addr) (ck : Nat) (ks : List Int), k ≤ n.kids.length ∧ gk = n.kids.length - k ∧ kv = .int .i64 (k : Int) ∧ Hid (ks = (n.kids.take k).map (fun k => (ns.length : Int) + k)) ∧ Lies wr wq.heap.size #[.int .i64 n.kind, .int .i64 n.value, .slice Ak ks.length ck] 43 ∧ OwnI wr (wq.heap.size + 1) Ak ck ks ∧ Below wq.heap.size wq wr ∧ wq.heap.size + 1 ≤ wr.heap.size)
      case atStart => exact ⟨0, none, 0, [], Nat.zero_le _, rfl, rfl, hide rfl, Hl5.out, OwnI.empty _ _, Hbs.out, by omega⟩
      case round =>
        clear Hl5 Hbs hW3
        obtain ⟨k, Ak, ck, ks, hk, rfl, rfl, HKs, hlg, hok, hbx2, hg2'⟩ := hrel
        have HLg := hide hlg
        have HOk := hide hok
        have Hbx2 := hide hbx2
        have hg2 : wq.heap.size ≤ wr.heap.size := by omega
        have hksl : ks.length ≤ 1000 := by rw [HKs.out]; simp; omega
        have e0 := (HSa.out _ hbx2).1
        have HK3 := hide ((hbx2.cell (p := ⟨b, off + i * 3 + 2, none⟩) hbw2).trans HK2.out)
        have k2 := HK3.out
        clear hlg hok hbx2
        by_cases hlk : k < n.kids.length
        · obtain ⟨b1, off1, x, rfl, hb1, hx, hxm, hxc⟩ := (HKI.out.below (Hbx2.out.mono (Nat.le_trans HB2.out.size hWr))).at_ hlk
          have hx0 := HM.out.2 x hxm
          have hz64 : In64 ((ns.length : Int) + x) := by unfold In64; omega
          have hwz : IntKind.i64.wrap ((ns.length : Int) + x) = (ns.length : Int) + x := by rw [IntKind.wrap_i64]; omega
          have hk3 : (0 : Int) ≤ (k : Int) := by omega
          have hk4 : (k : Int) < (n.kids.length : Int) := by omega
          have hdk : decide ((k : Int) < (n.kids.length : Int)) = true := by simp; omega
          have HXk := hide hx
          have hb1w : b1 < wq.heap.size := by have := HB2.out.size; omega
          have HSb := hide (show ∀ X : World, Below wq.heap.size wr X → X.cell? ⟨w.heap.size + 1, 0, none⟩ = some (.slice (some ⟨b, off, none⟩) ms.length cb) ∧ X.cell? ⟨b, off + i * 3 + 2, none⟩ = some (.slice (some ⟨b1, off1, none⟩) n.kids.length c1) ∧ X.cell? ⟨b1, off1 + k, none⟩ = some (.int .i64 x) from fun X hX =>
            ⟨(hX.cell (p := ⟨w.heap.size + 1, 0, none⟩) (by show w.heap.size + 1 < wq.heap.size; omega)).trans e0, (hX.cell (p := ⟨b, off + i * 3 + 2, none⟩) (by show b < wq.heap.size; omega)).trans k2, (hX.cell (p := ⟨b1, off1 + k, none⟩) (by show b1 < wq.heap.size; omega)).trans hxc⟩)
          have HSl := hide (show ∀ X : World, (∀ q, q < wr.heap.size → X.heap[q]? = wr.heap[q]?) → X.cell? ⟨wq.heap.size, 2, none⟩ = some (.slice Ak ks.length ck) from fun X hX => by
            have h2 := HLg.out.cell 2
            simp only [List.getElem?_toArray, List.getElem?_cons_zero, List.getElem?_cons_succ] at h2
            exact (World.cell?_of_block (a := ⟨wq.heap.size, 2, none⟩) (hX wq.heap.size (by omega))).trans h2)
          clear hx hxm
          go_upto_region 10 with fail
          clear e0 k2 hxc
          refine wp_region_held_drew (S := fun w' => w'.cell? ⟨w.heap.size + 1, 0, none⟩ = some (.slice (some ⟨b, off, none⟩) ms.length cb) ∧ w'.cell? ⟨b, off + i * 3 + 2, none⟩ = some (.slice (some ⟨b1, off1, none⟩) n.kids.length c1) ∧ w'.cell? ⟨b1, off1 + k, none⟩ = some (.int .i64 x)) (by kernel_rfl) (HSb.out _ (Below.refl _ _).drew) (fun hHeld => ?_)
          refine wpAnyH_take (i := 0) (oi := { dst := some 48, op := _, type := _, pos := _, after := _, guard := _ }) (v := ?_) rfl (by kernel_rfl) (by kernel_rfl) (by kernel_rfl) (fun _ _ _ h => h) (Or.inl ⟨by rfl, ?_⟩) (by assumption) ?_
          rotate_left
          · (intro w hSw; (try dsimp only at hSw); obtain ⟨u0, u2, u3⟩ := hSw; go_simp; try with_reducible rfl)
          try simp only [Act.put, List.setIfInBounds_toArray, List.set_cons_zero, List.set_cons_succ]
          refine wpAnyH_take (i := 2) (oi := { dst := some 50, op := _, type := _, pos := _, after := _, guard := _ }) (v := ?_) rfl (by kernel_rfl) (by kernel_rfl) (by kernel_rfl) (fun _ _ _ h => h) (Or.inl ⟨by rfl, ?_⟩) (by assumption) ?_
          rotate_left
          · (intro w hSw; (try dsimp only at hSw); obtain ⟨u0, u2, u3⟩ := hSw; go_simp; try with_reducible rfl)
          try simp only [Act.put, List.setIfInBounds_toArray, List.set_cons_zero, List.set_cons_succ]
          refine wpAnyH_take (i := 3) (oi := { dst := some 51, op := _, type := _, pos := _, after := _, guard := _ }) (v := ?_) rfl (by kernel_rfl) (by kernel_rfl) (by kernel_rfl) (fun _ _ _ h => h) (Or.inl ⟨by rfl, ?_⟩) (by assumption) ?_
          rotate_left
          · (intro w hSw; (try dsimp only at hSw); obtain ⟨u0, u2, u3⟩ := hSw; go_simp; try with_reducible rfl)
          try simp only [Act.put, List.setIfInBounds_toArray, List.set_cons_zero, List.set_cons_succ]
          refine wpAnyH_take (i := 4) (oi := { dst := some 52, op := _, type := _, pos := _, after := _, guard := _ }) (v := ?_) rfl (by kernel_rfl) (by kernel_rfl) (by kernel_rfl) (fun _ _ _ h => h) (Or.inl ⟨by rfl, ?_⟩) (by assumption) ?_
          rotate_left
          · (intro w hSw; (try dsimp only at hSw); obtain ⟨u0, u2, u3⟩ := hSw; go_simp; try with_reducible rfl)
          try simp only [Act.put, List.setIfInBounds_toArray, List.set_cons_zero, List.set_cons_succ]
          refine wpAnyH_take (i := 5) (oi := { dst := some 53, op := _, type := _, pos := _, after := _, guard := _ }) (v := ?_) rfl (by kernel_rfl) (by kernel_rfl) (by kernel_rfl) (fun _ _ _ h => h) (Or.inl ⟨by rfl, ?_⟩) (by assumption) ?_
          rotate_left
          · (intro w hSw; (try dsimp only at hSw); obtain ⟨u0, u2, u3⟩ := hSw; go_simp; try with_reducible rfl)
          try simp only [Act.put, List.setIfInBounds_toArray, List.set_cons_zero, List.set_cons_succ]
          refine wpAnyH_take (i := 6) (oi := { dst := some 54, op := _, type := _, pos := _, after := _, guard := _ }) (v := ?_) rfl (by kernel_rfl) (by kernel_rfl) (by kernel_rfl) (fun _ _ _ h => h) (Or.inl ⟨by rfl, ?_⟩) (by assumption) ?_
          rotate_left
          · (intro w hSw; (try dsimp only at hSw); obtain ⟨u0, u2, u3⟩ := hSw; go_simp; try with_reducible rfl)
          try simp only [Act.put, List.setIfInBounds_toArray, List.set_cons_zero, List.set_cons_succ]
          refine wpAnyH_take (i := 7) (oi := { dst := some 55, op := _, type := _, pos := _, after := _, guard := _ }) (v := ?_) rfl (by kernel_rfl) (by kernel_rfl) (by kernel_rfl) (fun _ _ _ h => h) (Or.inl ⟨by rfl, ?_⟩) (by assumption) ?_
          rotate_left
          · (intro w hSw; (try dsimp only at hSw); obtain ⟨u0, u2, u3⟩ := hSw; go_simp; try with_reducible rfl)
          try simp only [Act.put, List.setIfInBounds_toArray, List.set_cons_zero, List.set_cons_succ]
          refine wpAnyH_take (i := 8) (oi := { dst := some 56, op := _, type := _, pos := _, after := _, guard := _ }) (v := ?_) rfl (by kernel_rfl) (by kernel_rfl) (by kernel_rfl) (fun _ _ _ h => h) (Or.inl ⟨by rfl, ?_⟩) (by assumption) ?_
          rotate_left
          · (intro w hSw; (try dsimp only at hSw); obtain ⟨u0, u2, u3⟩ := hSw; go_simp; try with_reducible rfl)
          try simp only [Act.put, List.setIfInBounds_toArray, List.set_cons_zero, List.set_cons_succ]
          refine wpAnyH_take (i := 9) (oi := { dst := some 57, op := _, type := _, pos := _, after := _, guard := _ }) (v := ?_) rfl (by kernel_rfl) (by kernel_rfl) (by kernel_rfl) (fun _ _ _ h => h) (Or.inl ⟨by rfl, ?_⟩) (by assumption) ?_
          rotate_left
          · (intro w hSw; (try dsimp only at hSw); obtain ⟨u0, u2, u3⟩ := hSw; go_simp; try with_reducible rfl)
          try simp only [Act.put, List.setIfInBounds_toArray, List.set_cons_zero, List.set_cons_succ]
          refine wpAnyH_take (i := 10) (oi := { dst := some 58, op := _, type := _, pos := _, after := _, guard := _ }) (v := ?_) rfl (by kernel_rfl) (by kernel_rfl) (by kernel_rfl) (fun _ _ _ h => h) (Or.inl ⟨by rfl, ?_⟩) (by assumption) ?_
          rotate_left
          · (intro w hSw; (try dsimp only at hSw); obtain ⟨u0, u2, u3⟩ := hSw; go_simp; try with_reducible rfl)
          try simp only [Act.put, List.setIfInBounds_toArray, List.set_cons_zero, List.set_cons_succ]
          refine wpAnyH_take (i := 11) (oi := { dst := some 59, op := _, type := _, pos := _, after := _, guard := _ }) (v := ?_) rfl (by kernel_rfl) (by kernel_rfl) (by kernel_rfl) (fun _ _ _ h => h) (Or.inl ⟨by rfl, ?_⟩) (by assumption) ?_
          rotate_left
          · (intro w hSw; (try dsimp only at hSw); obtain ⟨u0, u2, u3⟩ := hSw; go_simp; try with_reducible rfl)
          try simp only [Act.put, List.setIfInBounds_toArray, List.set_cons_zero, List.set_cons_succ]
          refine wpAnyH_take (i := 12) (oi := { dst := some 60, op := _, type := _, pos := _, after := _, guard := _ }) (v := ?_) rfl (by kernel_rfl) (by kernel_rfl) (by kernel_rfl) (fun _ _ _ h => h) (Or.inl ⟨by rfl, ?_⟩) (by assumption) ?_
          rotate_left
          · (intro w hSw; (try dsimp only at hSw); obtain ⟨u0, u2, u3⟩ := hSw; go_simp; try with_reducible rfl)
          try simp only [Act.put, List.setIfInBounds_toArray, List.set_cons_zero, List.set_cons_succ]
          refine wpAnyH_ready (rs := [1, 13]) (by kernel_rfl) (by simp) ?_
          refine AllReadyH.cons (o := { dst := some 49, op := _, type := _, pos := _, after := _, guard := _ }) rfl (fun K hK => ?_) ?_
          · skip
            have r1 := (HSl.out _ (fun q hq => ((Below.refl _ _).drew : Below wr.heap.size wr _).block q hq))
            go_simp
            clear r1
            refine hK.out _ _ hHeld (fun hH => ?_)
            clear hK K hHeld
            have hHeld := hH
            clear hH
            try simp only [Act.put, List.setIfInBounds_toArray, List.set_cons_zero, List.set_cons_succ]
            refine wpAnyH_ready (rs := [13]) (by kernel_rfl) (by simp) ?_
            refine AllReadyH.cons (o := { dst := some 61, op := _, type := _, pos := _, after := _, guard := _ }) rfl (fun K hK => ?_) ?_
            · skip
              go_simp
              refine hK.out _ _ (HSb.out _ ((((Below.refl _ _).drew).alloc (by simp) _).mono hg2)) (fun hH => ?_)
              clear hK K hHeld
              have hHeld := hH
              clear hH
              try simp only [Act.put, List.setIfInBounds_toArray, List.set_cons_zero, List.set_cons_succ]
              refine wpAnyH_ready (rs := [14]) (by kernel_rfl) (by simp) ?_
              refine AllReadyH.cons (o := { dst := some 62, op := _, type := _, pos := _, after := _, guard := _ }) rfl (fun K hK => ?_) ?_
              · skip
                refine step_append_ints (by rfl) (.tmp 49) (.tmp 61) (by rfl) (wq.heap.size + 1) Ak ck ks (by simp [Act.eval, Act.put]) (HOk.out.drew.alloc _) ⟨wr.heap.size, 0, none⟩ 1 [(ns.length : Int) + x] (by simp) (by simp [Act.eval, Act.put]) (by simpa using (IntsAt.one wr ((ns.length : Int) + x) hz64).below (Below.refl _ _).drew) (by have := hksl; simp; omega) (by simp; omega) ?_
                intro zs A5 c5 w7 hz hown7 hg7 hat7
                have hbx : Below (wq.heap.size + 1) wr w7 := below_grown (((Below.refl wr.heap.size wr).drew.alloc (by simp) _).mono (by omega)) hg7 (by simp; omega) (fun q hq => (HOk.out.blocks q hq).1)
                have HO7 := hide hown7
                have HZ7 := hide hz
                have lg7 := HLg.out.below hbx (by omega)
                have p2 := lg7.cell 2
                have f2 := lg7.frozen 2
                simp only [List.getElem?_toArray, List.getElem?_cons_zero, List.getElem?_cons_succ] at p2
                have HB7 := hide hbx
                have HL7 := hide lg7
                clear hz hown7 hg7 hat7 hbx lg7
                refine hK.out _ _ (HSb.out _ (HB7.out.mono (by omega))) (fun hH => ?_)
                clear hK K hHeld
                have hHeld := hH
                clear hH
                try simp only [Act.put, List.setIfInBounds_toArray, List.set_cons_zero, List.set_cons_succ]
                refine wpAnyH_take (i := 15) (oi := { dst := some 63, op := _, type := _, pos := _, after := _, guard := _ }) (v := ?_) rfl (by kernel_rfl) (by kernel_rfl) (by kernel_rfl) (fun _ _ _ h => h) (Or.inl ⟨by rfl, ?_⟩) (by assumption) ?_
                rotate_left
                · (intro w hSw; (try dsimp only at hSw); obtain ⟨u0, u2, u3⟩ := hSw; go_simp; try with_reducible rfl)
                try simp only [Act.put, List.setIfInBounds_toArray, List.set_cons_zero, List.set_cons_succ]
                refine wpAnyH_ready (rs := [16]) (by kernel_rfl) (by simp) ?_
                refine AllReadyH.cons (o := { dst := none, op := _, type := _, pos := _, after := _, guard := _ }) rfl (fun K hK => ?_) ?_
                · skip
                  go_simp
                  clear p2 f2
                  refine hK.out _ _ (HSb.out _ ((HB7.out.mono (Nat.le_succ wq.heap.size)).setCell (p := ⟨wq.heap.size, 2, none⟩) (Nat.le_refl _) _)) (fun hH => ?_)
                  clear hK K hHeld
                  have hHeld := hH
                  clear hH
                  try simp only [Act.put, List.setIfInBounds_toArray, List.set_cons_zero, List.set_cons_succ]
                  refine wpAnyH_done (by kernel_rfl) ?_ _
                  have ls := HL7.out.set 2 (.slice A5 zs.length c5)
                  simp only [List.setIfInBounds_toArray, List.set_cons_succ, List.set_cons_zero] at ls
                  have HLs := hide ls
                  have HOs := hide (HO7.out.of_blk (w' := w7.setCell ⟨wq.heap.size, 2, none⟩ (.slice A5 zs.length c5)) (fun q hq => Below.heap_setCell _ _ _ _ (by have := (HO7.out.blocks q hq).1; show q ≠ wq.heap.size; omega)))
                  have HBs := hide ((Hbx2.out.trans (HB7.out.mono (by omega))).setCell (p := ⟨wq.heap.size, 2, none⟩) (Nat.le_refl _) (.slice A5 zs.length c5))
                  have hs7 : wq.heap.size + 1 ≤ w7.heap.size := by have := HB7.out.size; omega
                  have HZs : Hid (zs = (n.kids.take (k + 1)).map (fun k => (ns.length : Int) + k)) := hide (by rw [HZ7.out, HKs.out, List.take_add_one, HXk.out]; simp)
                  clear hHeld HB7 HL7 HO7 HZ7 ls HSb HSl HOk HLg HKs HXk Hbx2
                  go_wp2
                  go_roundg (n.kids.length - (k + 1))
                  case measure => omega
                  case rel => exact ⟨k + 1, A5, c5, zs, by omega, rfl, by go_num, HZs, HLs.out, HOs.out, HBs.out, by simp; omega⟩
                exact AllReadyH.nil
              exact AllReadyH.nil
            exact AllReadyH.nil
          refine AllReadyH.cons (o := { dst := some 61, op := _, type := _, pos := _, after := _, guard := _ }) rfl (fun K hK => ?_) ?_
          · skip
            go_simp
            refine hK.out _ _ (HSb.out _ ((((Below.refl _ _).drew).alloc (by simp) _).mono hg2)) (fun hH => ?_)
            clear hK K hHeld
            have hHeld := hH
            clear hH
            try simp only [Act.put, List.setIfInBounds_toArray, List.set_cons_zero, List.set_cons_succ]
            refine wpAnyH_ready (rs := [1]) (by kernel_rfl) (by simp) ?_
            refine AllReadyH.cons (o := { dst := some 49, op := _, type := _, pos := _, after := _, guard := _ }) rfl (fun K hK => ?_) ?_
            · skip
              have r1 := (HSl.out (wr.drew.alloc (.cells #[.int .i64 ((ns.length : Int) + x)] 3)) (fun q hq => (((Below.refl _ _).drew).alloc (by simp) _ : Below wr.heap.size wr _).block q hq))
              have r2 := (HSl.out ((wr.alloc (.cells #[.int .i64 ((ns.length : Int) + x)] 3)).drew) (fun q hq => (((Below.refl _ _).alloc (Nat.le_refl _) _).drew : Below wr.heap.size wr _).block q hq))
              go_simp
              clear r1 r2
              refine hK.out _ _ hHeld (fun hH => ?_)
              clear hK K hHeld
              have hHeld := hH
              clear hH
              try simp only [Act.put, List.setIfInBounds_toArray, List.set_cons_zero, List.set_cons_succ]
              refine wpAnyH_ready (rs := [14]) (by kernel_rfl) (by simp) ?_
              refine AllReadyH.cons (o := { dst := some 62, op := _, type := _, pos := _, after := _, guard := _ }) rfl (fun K hK => ?_) ?_
              · skip
                refine step_append_ints (by rfl) (.tmp 49) (.tmp 61) (by rfl) (wq.heap.size + 1) Ak ck ks (by simp [Act.eval, Act.put]) (HOk.out.drew.alloc _) ⟨wr.heap.size, 0, none⟩ 1 [(ns.length : Int) + x] (by simp) (by simp [Act.eval, Act.put]) (by simpa using (IntsAt.one wr ((ns.length : Int) + x) hz64).below (Below.refl _ _).drew) (by have := hksl; simp; omega) (by simp; omega) ?_
                intro zs A5 c5 w7 hz hown7 hg7 hat7
                have hbx : Below (wq.heap.size + 1) wr w7 := below_grown (((Below.refl wr.heap.size wr).drew.alloc (by simp) _).mono (by omega)) hg7 (by simp; omega) (fun q hq => (HOk.out.blocks q hq).1)
                have HO7 := hide hown7
                have HZ7 := hide hz
                have lg7 := HLg.out.below hbx (by omega)
                have p2 := lg7.cell 2
                have f2 := lg7.frozen 2
                simp only [List.getElem?_toArray, List.getElem?_cons_zero, List.getElem?_cons_succ] at p2
                have HB7 := hide hbx
                have HL7 := hide lg7
                clear hz hown7 hg7 hat7 hbx lg7
                refine hK.out _ _ (HSb.out _ (HB7.out.mono (by omega))) (fun hH => ?_)
                clear hK K hHeld
                have hHeld := hH
                clear hH
                try simp only [Act.put, List.setIfInBounds_toArray, List.set_cons_zero, List.set_cons_succ]
                refine wpAnyH_take (i := 15) (oi := { dst := some 63, op := _, type := _, pos := _, after := _, guard := _ }) (v := ?_) rfl (by kernel_rfl) (by kernel_rfl) (by kernel_rfl) (fun _ _ _ h => h) (Or.inl ⟨by rfl, ?_⟩) (by assumption) ?_
                rotate_left
                · (intro w hSw; (try dsimp only at hSw); obtain ⟨u0, u2, u3⟩ := hSw; go_simp; try with_reducible rfl)
                try simp only [Act.put, List.setIfInBounds_toArray, List.set_cons_zero, List.set_cons_succ]
                refine wpAnyH_ready (rs := [16]) (by kernel_rfl) (by simp) ?_
                refine AllReadyH.cons (o := { dst := none, op := _, type := _, pos := _, after := _, guard := _ }) rfl (fun K hK => ?_) ?_
                · skip
                  go_simp
                  clear p2 f2
                  refine hK.out _ _ (HSb.out _ ((HB7.out.mono (Nat.le_succ wq.heap.size)).setCell (p := ⟨wq.heap.size, 2, none⟩) (Nat.le_refl _) _)) (fun hH => ?_)
                  clear hK K hHeld
                  have hHeld := hH
                  clear hH
                  try simp only [Act.put, List.setIfInBounds_toArray, List.set_cons_zero, List.set_cons_succ]
                  refine wpAnyH_done (by kernel_rfl) ?_ _
                  have ls := HL7.out.set 2 (.slice A5 zs.length c5)
                  simp only [List.setIfInBounds_toArray, List.set_cons_succ, List.set_cons_zero] at ls
                  have HLs := hide ls
                  have HOs := hide (HO7.out.of_blk (w' := w7.setCell ⟨wq.heap.size, 2, none⟩ (.slice A5 zs.length c5)) (fun q hq => Below.heap_setCell _ _ _ _ (by have := (HO7.out.blocks q hq).1; show q ≠ wq.heap.size; omega)))
                  have HBs := hide ((Hbx2.out.trans (HB7.out.mono (by omega))).setCell (p := ⟨wq.heap.size, 2, none⟩) (Nat.le_refl _) (.slice A5 zs.length c5))
                  have hs7 : wq.heap.size + 1 ≤ w7.heap.size := by have := HB7.out.size; omega
                  have HZs : Hid (zs = (n.kids.take (k + 1)).map (fun k => (ns.length : Int) + k)) := hide (by rw [HZ7.out, HKs.out, List.take_add_one, HXk.out]; simp)
                  clear hHeld HB7 HL7 HO7 HZ7 ls HSb HSl HOk HLg HKs HXk Hbx2
                  go_wp2
                  go_roundg (n.kids.length - (k + 1))
                  case measure => omega
                  case rel => exact ⟨k + 1, A5, c5, zs, by omega, rfl, by go_num, HZs, HLs.out, HOs.out, HBs.out, by simp; omega⟩
                exact AllReadyH.nil
              exact AllReadyH.nil
            exact AllReadyH.nil
          exact AllReadyH.nil
        · obtain rfl : k = n.kids.length := by omega
          have hdk : decide ((n.kids.length : Int) < (n.kids.length : Int)) = false := by simp
          have HKs2 : Hid (ks = (shiftNd ns.length n).kids) := hide (by rw [HKs.out, List.take_length]; rfl)
          have hsl : ks.length = n.kids.length := by rw [HKs.out]; simp
          have q0 := HLg.out.cell 0
          have q1 := HLg.out.cell 1
          have q2 := HLg.out.cell 2
          simp only [List.getElem?_toArray, List.getElem?_cons_zero, List.getElem?_cons_succ] at q0 q1 q2
          have Hsl := hide hsl
          clear hsl HKs hlk
          go_upto_region 11 with fail
          clear e0 k2
          have hkl := @to_len ns ms i hi
          have hba : Below wr.heap.size wr (wr.alloc (.cells #[.int .i64 n.kind, .int .i64 n.value, .slice Ak ks.length ck] 43)) := (Below.refl _ _).alloc (Nat.le_refl _) _
          have HL6 := Lies.new wr #[.int .i64 n.kind, .int .i64 n.value, .slice Ak ks.length ck] 43
          have HL7 := hide (show (wr.alloc (.cells #[.int .i64 n.kind, .int .i64 n.value, .slice Ak ks.length ck] 43)).heap[wr.heap.size]? = some (.cells #[.int .i64 (shiftNd ns.length n).kind, .int .i64 (shiftNd ns.length n).value, .slice Ak (shiftNd ns.length n).kids.length ck] 43 (0, 0)) from by rw [← HKs2.out]; exact HL6)
          have HO6 := hide (show OwnI (wr.alloc (.cells #[.int .i64 n.kind, .int .i64 n.value, .slice Ak ks.length ck] 43)) W.heap.size Ak ck (shiftNd ns.length n).kids from by rw [← HKs2.out]; exact (HOk.out.below hba).lowB (by omega))
          have HD6 := hide ((Hrow.out.below Hbx2.out).below (w' := wr.alloc (.cells #[.int .i64 n.kind, .int .i64 n.value, .slice Ak ks.length ck] 43)) hba)
          have HBX := hide ((Hbw.out.trans (Hbx2.out.mono hWr)).trans (hba.mono (by omega)))
          have hbz : W.heap.size ≤ (wr.alloc (.cells #[.int .i64 n.kind, .int .i64 n.value, .slice Ak ks.length ck] 43)).heap.size := HBX.out.size
          have hlz : (ns ++ (ms.take i).map (shiftNd ns.length)).length ≤ 1000 := by rw [hkl]; omega
          clear hba HL6
          go_wp2_with (at_builtin; refine append_ndK rfl (.tmp 64) (.tmp 66) rfl W.heap.size A2 c2 (ns ++ (ms.take i).map (shiftNd ns.length)) (by first | (rw [hkl]; rfl) | (rw [hkl]) | (simp [Act.eval, Act.put, hkl])) HD6.out wr.heap.size (shiftNd ns.length n) Ak ck 43 rfl HL7.out HO6.out hbz hlz ?_; intro A5 c5 w5 hD5 hg5; have HD5 := hide hD5; have Hb5 := hide (below_grown HBX.out hg5 hbz (fun q hq => (HD6.out.blocks q hq).1)); clear hD5 hg5)
          have HE := hide (show RowN w5 W.heap.size A5 c5 (ns ++ (ms.take (i + 1)).map (shiftNd ns.length)) from by rw [List.take_add_one, HN.out]; simpa using HD5.out)
          go_roundg (ms.length - (i + 1))
          case measure => omega
          case rel => exact ⟨i + 1, A5, c5, by omega, rfl, by first | rfl | (rw [hkl, Nat.add_assoc]) | (simp; omega), by go_num, HE.out, Hb5.out⟩
    · obtain rfl : i = ms.length := by omega
      have hdl : decide ((ms.length : Int) < (ms.length : Int)) = false := by simp
      have hrow := Hrow.out
      rw [List.take_length] at hrow
      have HE := hide (show RowN wq w.heap.size A2 c2 (joinNs ns ms) from RowN.lowT hrow HB2.out.size)
      have HF := hide (HB2.out.trans (Hbw.out.mono HB2.out.size))
      have hws : IntKind.i64.wrap ((ns.length : Int) + s) = (ns.length : Int) + s := by rw [IntKind.wrap_i64]; omega
      clear hrow hlt Hrow
      go_upto_region 12 with fail
      go_quiet (fail)
      go_wp2
      refine bodyPost_ret (v := .tuple #[.slice A2 (ns.length + ms.length) c2, .int .i64 ((ns.length : Int) + s)]) (by simp [results, Try.results16, go_sem]) rfl ?_
      rw [← joinNs_len]
      exact ⟨A2, c2, rfl, HE.out.below (below_drewN (Below.refl _ _) _), below_drewN HF.out _⟩

end Go.Proofs.Ythgklkpfmjgeoaa
