import Derived.Test.YtaolnnjcpnhghaeBomb
import Derived.Test.YtaolnnjcpnhghaeRowD
import Derived.Test.YtaolnnjcpnhghaeUpTo
import Derived.Test.YtaolnnjcpnhghaeSmN
namespace Go.Proofs.Ytaolnnjcpnhghae
open Go.RowKit
set_option linter.unusedVariables false
def bombOf (l : Int) : List Nd := if 0 ≤ l ∧ l ≤ 11 then bombNs l.toNat else []
def bombR (l : Int) : Int := if 0 ≤ l ∧ l ≤ 11 then l else 0
theorem bombNs_small : ∀ k, k ≤ 11 → SmallN (bombNs k) := fun k hk => ⟨by rw [bombNs_len]; omega, by
  intro n hn
  clear hk
  induction k with
  | zero => simp [bombNs] at hn; subst hn; simp
  | succ k ih =>
    rcases List.mem_append.1 hn with h | h
    · exact ih h
    · simp at h; subst h; simp⟩
theorem bombOf_small (l : Int) : SmallN (bombOf l) := by
  unfold bombOf
  split
  · exact bombNs_small _ (by omega)
  · exact ⟨by simp, by simp⟩
theorem bombOf_wf (l : Int) : WfN (bombOf l) := by
  unfold bombOf
  split
  · exact bombNs_wf _ (by omega)
  · intro n hn; simp at hn
theorem RowD.more {w : World} {base bnd bnd' : Nat} {A : Option Addr} {c : Nat} {ns : List Nd} (h : RowD w base bnd A c ns) (hb : bnd ≤ bnd') : RowD w base bnd' A c ns := by
  obtain ⟨cs, h1, h2, h3, h4⟩ := h.row
  exact ⟨⟨cs, h1, h2, h3, fun i A1 n1 c1 hi hc b hb' => Nat.lt_of_lt_of_le (h4 i A1 n1 c1 hi hc b hb') hb⟩⟩
def ReadsB (w : World) (ms : List Nd) (r : Int) (e : Ending) (w' : World) : Prop :=
  ∃ A c, e = .returned (.agg #[.slice A ms.length c, .int .i64 r]) ∧ NdsAt w' w'.heap.size A ms ∧ Below w.heap.size w w'
def GivesB (w : World) (ms : List Nd) (r : Int) (e : Ending) (w' : World) : Prop :=
  ∃ A c, e = .returned (.agg #[.slice A ms.length c, .int .i64 r]) ∧ OwnNs w' (w.heap.size + 1) w'.heap.size A c ms ∧ Below w.heap.size w w'
structure BombI (w wr : World) (j : Nat) (An : Option Addr) (cn : Nat) : Prop where
  bel : Below w.heap.size w wr
  l2 : Lies wr w.heap.size #[.slice none 0 0, .int .i64 0] 24
  row : RowD wr (w.heap.size + 1) wr.heap.size An cn (bombNs j)
theorem BombI.step {w wr w9 : World} {j : Nat} {An A' : Option Addr} {cn c' : Nat} {ob ob2 : Obj} (h : BombI w wr j An cn) (hg : ((wr.alloc ob).alloc ob2).grownBy w9 (blockOf An)) (hrow : RowD w9 (w.heap.size + 1) (wr.heap.size + 1) A' c' (bombNs j ++ [⟨2, 0, [(j : Int), (j : Int)]⟩])) :
    BombI w w9 (j + 1) A' c' := by
  have hlt := h.l2.lt
  have hA := h.row.rowN.blocks
  have hs := hg.size
  simp at hs
  have hb : Below w.heap.size w ((wr.alloc ob).alloc ob2) := (h.bel.alloc (by omega) ob).alloc (by simp; omega) ob2
  exact ⟨below_grown hb hg (by simp; omega) (fun b hb' => by have := (hA b hb').1; omega), (hg.block w.heap.size (by simp; omega) (fun e => by have := (hA _ e.symm).1; omega)).trans ((h.l2.alloc ob).alloc ob2), hrow.more (by omega)⟩
theorem BombI.fin {w wr : World} {k : Nat} {An : Option Addr} {cn : Nat} (h : BombI w wr k An cn) (r : Int) :
    GivesB w (bombNs k) r (.returned (.agg #[.slice An (bombNs k).length cn, .int .i64 r])) ((wr.setCell ⟨w.heap.size, 0, none⟩ (.slice An (bombNs k).length cn)).setCell ⟨w.heap.size, 1, none⟩ (.int .i64 r)) := by
  have hrow : RowD ((wr.setCell ⟨w.heap.size, 0, none⟩ (.slice An (bombNs k).length cn)).setCell ⟨w.heap.size, 1, none⟩ (.int .i64 r)) (w.heap.size + 1) wr.heap.size An cn (bombNs k) := h.row.ofBlk fun b hb _ => by
    rw [Below.heap_setCell _ _ _ _ (by show b ≠ w.heap.size; omega), Below.heap_setCell _ _ _ _ (by show b ≠ w.heap.size; omega)]
  exact ⟨An, cn, rfl, hrow.own (by simp), (h.bel.setCell (p := ⟨w.heap.size, 0, none⟩) (Nat.le_refl _) _).setCell (p := ⟨w.heap.size, 1, none⟩) (Nat.le_refl _) _⟩
set_option maxRecDepth 100000 in
set_option maxHeartbeats 1000000 in
theorem implBomb_yes (k : Nat) (hk : k ≤ 11) (w : World) :
    Calls Try.prog 5 #[.int .i64 (k : Int)] w (GivesB w (bombNs k) (k : Int)) := by
  have hS0 : BombI w ((w.alloc (.cells #[.slice none 0 0, .int .i64 0] 24)).alloc (.cells #[.int .i64 0, .int .i64 1, .slice none 0 0] 32)) 0 (some ⟨w.heap.size + 1, 0, none⟩) 1 := by
    have l2 := Lies.new (w.alloc (.cells #[.slice none 0 0, .int .i64 0] 24)) #[.int .i64 0, .int .i64 1, .slice none 0 0] 32
    simp only [World.size_alloc] at l2
    exact ⟨((Below.refl _ _).alloc (Nat.le_refl _) _).alloc (by simp) _, (Lies.new w #[.slice none 0 0, .int .i64 0] 24).alloc _, RowD.one l2 (Nat.le_refl _)⟩
  have HS0 := hide hS0
  clear hS0
  go_enter Try.func5, Try.ntmps5
  go_wp2_with fail
  refine (isUpTo_yes (k : Int) 11 _ (by omega) (by omega)).mono ?_
  rintro e w' ⟨rfl, rfl⟩
  go_wp2_with fail
  generalize (w.alloc (.cells #[.slice none 0 0, .int .i64 0] 24)).alloc (.cells #[.int .i64 0, .int .i64 1, .slice none 0 0] 32) = W at HS0 ⊢
  go_loopg [3, 12] k (fun gk nv iv wr => ∃ (j : Nat) (An : Option Addr) (cn : Nat), j ≤ k ∧ gk = k - j ∧ iv = .int .i64 (j : Int) ∧ nv = .slice An (bombNs j).length cn ∧ BombI w wr j An cn)
  case atStart => exact ⟨0, _, 1, Nat.zero_le _, rfl, rfl, rfl, HS0.out⟩
  case round =>
    clear HS0
    obtain ⟨j, An, cn, hj, rfl, rfl, rfl, hS⟩ := hrel
    have HS := hide hS
    by_cases hlt : j < k
    · have hlt2 : (j : Int) < (k : Int) := by omega
      have hj0 : (0 : Int) ≤ (j : Int) := by omega
      have hlen := bombNs_len j
      have hll : (bombNs j).length ≤ 1000 := by omega
      have hwz := hS.bel.size
      have hwl := hS.l2.lt
      have l2 := Lies.new wr #[.int .i64 (j : Int), .int .i64 (j : Int)] 3
      have HO : Hid (OwnI ((wr.alloc (.cells #[.int .i64 (j : Int), .int .i64 (j : Int)] 3)).alloc (.cells #[.int .i64 2, .int .i64 0, .slice (some ⟨wr.heap.size, 0, none⟩) 2 2] 32)) (w.heap.size + 1) (some ⟨wr.heap.size, 0, none⟩) 2 [(j : Int), (j : Int)]) := hide (OwnI.two (j : Int) (l2.alloc _) (by omega))
      have HR : Hid (RowD ((wr.alloc (.cells #[.int .i64 (j : Int), .int .i64 (j : Int)] 3)).alloc (.cells #[.int .i64 2, .int .i64 0, .slice (some ⟨wr.heap.size, 0, none⟩) 2 2] 32)) (w.heap.size + 1) wr.heap.size An cn (bombNs j)) := hide (hS.row.below (((Below.refl _ _).alloc (Nat.le_refl _) _).alloc (by simp) _))
      clear hS l2 hlen
      generalize hPd : bombNs j = P at HR hll ⊢
      have HPd := hide hPd
      clear hPd
      go_wp2_with (at_builtin; refine append_ndD rfl (.tmp 15) (.tmp 20) rfl (w.heap.size + 1) wr.heap.size (wr.heap.size + 1) An cn P rfl HR.out (wr.heap.size + 1) ⟨2, 0, [(j : Int), (j : Int)]⟩ (some ⟨wr.heap.size, 0, none⟩) 2 32 rfl (by have h := Lies.new (wr.alloc (.cells #[.int .i64 (j : Int), .int .i64 (j : Int)] 3)) #[.int .i64 2, .int .i64 0, .slice (some ⟨wr.heap.size, 0, none⟩) 2 2] 32; simp only [World.size_alloc] at h; exact h) HO.out (by simp; omega) hll (fun q hq => (by simp [blockOf] at hq; subst hq; exact ⟨Nat.le_refl _, Nat.lt_succ_self _⟩)) (Nat.le_succ _) ?_; intro A' c' w9 hrow9 hg9)
      have hN2 := HS.out.step hg9 (by rw [HPd.out]; exact hrow9)
      have hlen2 : (bombNs (j + 1)).length = P.length + 1 := by rw [← HPd.out, bombNs_len, bombNs_len]
      have HN2 := hide hN2
      have HL2 := hide hlen2
      clear hN2 hrow9 hg9 hlen2
      go_roundg (k - (j + 1))
      case measure => omega
      case rel => exact ⟨j + 1, A', c', by omega, rfl, by go_num, by rw [HL2.out], HN2.out⟩
    · obtain rfl : j = k := by omega
      have b0 := hS.l2.cell 0
      have b1 := hS.l2.cell 1
      have f0 := hS.l2.frozen 0
      have f1 := hS.l2.frozen 1
      have l5 := (hS.l2.set 0 (.slice An (bombNs j).length cn)).set 1 (.int .i64 (j : Int))
      simp only [List.setIfInBounds_toArray, List.set_cons_succ, List.set_cons_zero] at l5
      have s0 := l5.cell 0
      have s1 := l5.cell 1
      simp only [List.getElem?_toArray, List.getElem?_cons_zero, List.getElem?_cons_succ] at s0 s1 b0 b1
      have HF := hide (hS.fin (j : Int))
      clear l5 hS hlt
      generalize hPd : bombNs j = P at s0 s1 HF ⊢
      have HPd := hide hPd
      clear hPd
      go_wp2
      refine bodyPost_ret (v := .agg #[.slice An P.length cn, .int .i64 (j : Int)]) (by simp [results, Try.results5, go_sem, s0, s1]) rfl ?_
      rw [HPd.out]
      exact HF.out
theorem zeroG {w : World} : Below w.heap.size w (((w.alloc (.cells #[.slice none 0 0, .int .i64 0] 24)).setCell ⟨w.heap.size, 0, none⟩ (.slice none 0 0)).setCell ⟨w.heap.size, 1, none⟩ (.int .i64 0)) :=
  (((Below.refl _ _).alloc (Nat.le_refl _) _).setCell (p := ⟨w.heap.size, 0, none⟩) (Nat.le_refl _) _).setCell (p := ⟨w.heap.size, 1, none⟩) (Nat.le_refl _) _
set_option maxHeartbeats 1000000 in
theorem implBomb_no (l : Int) (hl : ¬ (0 ≤ l ∧ l ≤ 11)) (w : World) :
    Calls Try.prog 5 #[.int .i64 l] w (GivesB w [] 0) := by
  have l2 := Lies.new w #[.slice none 0 0, .int .i64 0] 24
  have l5 := (l2.set 0 (.slice none 0 0)).set 1 (.int .i64 0)
  simp only [List.setIfInBounds_toArray, List.set_cons_succ, List.set_cons_zero] at l5
  have s0 := l5.cell 0
  have s1 := l5.cell 1
  have b0 := l2.cell 0
  have b1 := l2.cell 1
  have f0 := l2.frozen 0
  have f1 := l2.frozen 1
  simp only [List.getElem?_toArray, List.getElem?_cons_zero, List.getElem?_cons_succ] at s0 s1 b0 b1
  have HB := hide (@zeroG w)
  clear l2 l5
  go_enter Try.func5, Try.ntmps5
  go_wp2_with fail
  refine (isUpTo_no l 11 _ (by omega)).mono ?_
  rintro e w' ⟨rfl, rfl⟩
  generalize w.alloc (.cells #[.slice none 0 0, .int .i64 0] 24) = W at s0 s1 b0 b1 f0 f1 HB ⊢
  go_wp2
  refine bodyPost_ret (v := .agg #[.slice none 0 0, .int .i64 0]) (by simp [results, Try.results5, go_sem, s0, s1]) rfl ?_
  exact ⟨none, 0, rfl, .inl ⟨rfl, rfl, rfl⟩, HB.out⟩
set_option maxHeartbeats 1000000 in
theorem specBomb_no (l : Int) (hl : ¬ (0 ≤ l ∧ l ≤ 11)) (w : World) :
    Calls Try.prog 4 #[.int .i64 l] w (ReadsB w [] 0) := by
  have l2 := Lies.new w #[.slice none 0 0, .int .i64 0] 24
  have l5 := (l2.set 0 (.slice none 0 0)).set 1 (.int .i64 0)
  simp only [List.setIfInBounds_toArray, List.set_cons_succ, List.set_cons_zero] at l5
  have s0 := l5.cell 0
  have s1 := l5.cell 1
  have b0 := l2.cell 0
  have b1 := l2.cell 1
  have f0 := l2.frozen 0
  have f1 := l2.frozen 1
  simp only [List.getElem?_toArray, List.getElem?_cons_zero, List.getElem?_cons_succ] at s0 s1 b0 b1
  have HB := hide (@zeroG w)
  clear l2 l5
  go_enter Try.func4, Try.ntmps4
  go_wp2_with fail
  refine (inRange_no l 0 11 _ (by omega)).mono ?_
  rintro e w' ⟨rfl, rfl⟩
  generalize w.alloc (.cells #[.slice none 0 0, .int .i64 0] 24) = W at s0 s1 b0 b1 f0 f1 HB ⊢
  go_wp2
  refine bodyPost_ret (v := .agg #[.slice none 0 0, .int .i64 0]) (by simp [results, Try.results4, go_sem, s0, s1]) rfl ?_
  exact ⟨none, 0, rfl, ⟨fun hx => absurd rfl hx, by simp⟩, HB.out⟩
theorem implBomb_any (l : Int) (w : World) : Calls Try.prog 5 #[.int .i64 l] w (GivesB w (bombOf l) (bombR l)) := by
  by_cases hl : 0 ≤ l ∧ l ≤ 11
  · unfold bombOf bombR
    rw [if_pos hl, if_pos hl]
    obtain ⟨k, rfl⟩ := Int.eq_ofNat_of_zero_le hl.1
    exact implBomb_yes k (by omega) w
  · unfold bombOf bombR
    rw [if_neg hl, if_neg hl]
    exact implBomb_no l hl w
theorem specBomb_any (l : Int) (w : World) : Calls Try.prog 4 #[.int .i64 l] w (ReadsB w (bombOf l) (bombR l)) := by
  by_cases hl : 0 ≤ l ∧ l ≤ 11
  · unfold bombOf bombR
    rw [if_pos hl, if_pos hl]
    obtain ⟨k, rfl⟩ := Int.eq_ofNat_of_zero_le hl.1
    refine (bomb_any k (by omega) w).mono ?_
    rintro e w' ⟨A, c, rfl, hrow, hb⟩
    exact ⟨A, c, rfl, hrow.nds (bombNs_wf k (by omega)) (by rw [bombNs_len]; omega), hb⟩
  · unfold bombOf bombR
    rw [if_neg hl, if_neg hl]
    exact specBomb_no l hl w
end Go.Proofs.Ytaolnnjcpnhghae
