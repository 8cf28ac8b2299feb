import Derived.Test.YtaolnnjcpnhghaeRowN
import Derived.Test.YtaolnnjcpnhghaeInR
import Derived.Deep.LoopGhost
namespace Go.Proofs.Ytaolnnjcpnhghae
open Go.RowKit
set_option linter.unusedVariables false
def bombNs : Nat → List Nd
  | 0 => [⟨0, 1, []⟩]
  | k + 1 => bombNs k ++ [⟨2, 0, [(k : Int), (k : Int)]⟩]
theorem bombNs_len : ∀ k, (bombNs k).length = k + 1
  | 0 => rfl
  | k + 1 => by rw [bombNs, List.length_append, bombNs_len k]; rfl
theorem bombNs_wf : ∀ k, k ≤ 1000 → WfN (bombNs k)
  | 0, _ => by
    intro n hn
    simp [bombNs] at hn
    subst hn
    exact ⟨⟨by simp, by simp⟩, ⟨by simp, by simp⟩, fun x hx => by simp at hx, by simp⟩
  | k + 1, hk => by
    intro n hn
    rcases List.mem_append.1 hn with h | h
    · exact bombNs_wf k (by omega) n h
    · simp at h
      subst h
      refine ⟨⟨by simp, by simp⟩, ⟨by simp, by simp⟩, fun x hx => ?_, by simp⟩
      simp at hx
      subst hx
      constructor <;> omega
theorem RowN.neG {w : World} {base q : Nat} {A : Option Addr} {c : Nat} {ns : List Nd} {cs : Array Value} (h : RowN w base A c ns) (hq : Lies w q cs 24) : some q ≠ blockOf A := by
  intro e
  obtain ⟨xs, h1, _⟩ := h.row
  rcases h1.2 with ⟨h2, _⟩ | ⟨g, cap, cur, hv, _, hh, _⟩
  · injection h2 with h2 _ _
    subst h2
    cases e
  · injection hv with hv _ _
    subst hv
    simp [blockOf] at e
    subst e
    have := hq.symm.trans hh
    injection this with this
    injection this with _ e _
    exact absurd e (by decide)
theorem OwnI.neG {w : World} {base q : Nat} {A : Option Addr} {c : Nat} {xs : List Int} {cs : Array Value} (h : OwnI w base A c xs) (hq : Lies w q cs 24) : some q ≠ blockOf A := by
  intro e
  rcases h.own.2 with ⟨h2, _⟩ | ⟨g, cap, cur, hv, _, hh, _⟩
  · injection h2 with h2 _ _
    subst h2
    cases e
  · injection hv with hv _ _
    subst hv
    simp [blockOf] at e
    subst e
    have := hq.symm.trans hh
    injection this with this
    injection this with _ e _
    exact absurd e (by decide)
theorem RowN.setG {w : World} {base q i : Nat} {A : Option Addr} {c : Nat} {ns : List Nd} {cs : Array Value} (h : RowN w base A c ns) (hq : Lies w q cs 24) (v : Value) : RowN (w.setCell ⟨q, i, none⟩ v) base A c ns := by
  have hb : ∀ b, b ≠ q → (w.setCell ⟨q, i, none⟩ v).heap[b]? = w.heap[b]? := fun b hb => Below.heap_setCell _ _ _ _ hb
  have hA := h.neG hq
  obtain ⟨xs, h1, h2⟩ := h.row
  refine ⟨⟨xs, ⟨h1.1, ?_⟩, fun j n hj => ?_⟩⟩
  · rcases h1.2 with h3 | ⟨g, cap, cur, hv, hg, hh, r⟩
    · exact .inl h3
    · refine .inr ⟨g, cap, cur, hv, hg, (hb g (fun e => hA ?_)).trans hh, r⟩
      injection hv with hv _ _
      rw [hv, ← e]
      rfl
  · obtain ⟨A1, c1, a1, a2, a3, a4⟩ := h2 j n hj
    exact ⟨A1, c1, a1, a2, a3, a4.of_blk (fun b hb' => hb b (fun e => a4.neG hq (by rw [hb', e])))⟩
theorem RowN.one {w : World} {base g : Nat} (h : Lies w g #[.int .i64 0, .int .i64 1, .slice none 0 0] 32) (hb : base ≤ g) : RowN w base (some ⟨g, 0, none⟩) 1 [⟨0, 1, []⟩] := by
  refine ⟨⟨[.int .i64 0, .int .i64 1, .slice none 0 0], ⟨by simp, .inr ⟨g, 1, _, rfl, hb, h, by simp, by unfold maxLen; omega, by simp, by simp⟩⟩, fun j n hj => ?_⟩⟩
  match j, hj with
  | 0, hj =>
    simp at hj
    subst hj
    exact ⟨none, 0, rfl, rfl, rfl, OwnI.empty _ _⟩
  | j + 1, hj => simp at hj
theorem OwnI.two {w : World} {base g : Nat} (i : Int) (h : Lies w g #[.int .i64 i, .int .i64 i] 3) (hb : base ≤ g) : OwnI w base (some ⟨g, 0, none⟩) 2 [i, i] :=
  ⟨⟨by simp, .inr ⟨g, 2, _, rfl, hb, h, by simp, by unfold maxLen; omega, by simp, by simp⟩⟩⟩
structure BombS (w wr : World) (k j : Nat) (An : Option Addr) (cn : Nat) : Prop where
  bel : Below w.heap.size w wr
  l2 : Lies wr w.heap.size #[.slice none 0 0, .int .i64 0] 24
  l3 : Lies wr (w.heap.size + 1 + 1) #[.slice An (bombNs j).length cn, .int .i64 (k : Int)] 24
  row : RowN wr (w.heap.size + 1) An cn (bombNs j)
def GivesBomb (w : World) (k : Nat) (e : Ending) (w' : World) : Prop :=
  ∃ A c, e = .returned (.agg #[.slice A (bombNs k).length c, .int .i64 (k : Int)]) ∧ RowN w' (w.heap.size + 1) A c (bombNs k) ∧ Below w.heap.size w w'
theorem BombS.step {w wr w9 : World} {k j : Nat} {An A' : Option Addr} {cn c' : Nat} {ob ob2 : Obj} (h : BombS w wr k j An cn) (hg : ((wr.alloc ob).alloc ob2).grownBy w9 (blockOf An)) (hrow : RowN w9 (w.heap.size + 1) A' c' (bombNs j ++ [⟨2, 0, [(j : Int), (j : Int)]⟩])) :
    BombS w (w9.setCell ⟨w.heap.size + 1 + 1, 0, none⟩ (.slice A' ((bombNs j).length + 1) c')) k (j + 1) A' c' := by
  have hlt := h.l3.lt
  have hA := h.row.blocks
  have hl2 : Lies w9 w.heap.size _ _ := (hg.block w.heap.size (by simp; omega) (fun e => by have := (hA _ e.symm).1; omega)).trans ((h.l2.alloc ob).alloc ob2)
  have hl3 : Lies w9 (w.heap.size + 1 + 1) _ _ := (hg.block (w.heap.size + 1 + 1) (by simp; omega) (h.row.neG h.l3)).trans ((h.l3.alloc ob).alloc ob2)
  have hb : Below w.heap.size w ((wr.alloc ob).alloc ob2) := (h.bel.alloc (by omega) ob).alloc (by simp; omega) ob2
  have l3' := hl3.set 0 (.slice A' ((bombNs j).length + 1) c')
  simp only [List.setIfInBounds_toArray, List.set_cons_zero] at l3'
  have hlen : (bombNs (j + 1)).length = (bombNs j).length + 1 := by rw [bombNs_len, bombNs_len]
  refine ⟨(below_grown hb hg (by simp; omega) (fun b hb' => by have := (hA b hb').1; omega)).setCell (p := ⟨w.heap.size + 1 + 1, 0, none⟩) (by show w.heap.size ≤ w.heap.size + 1 + 1; omega) _, (Below.heap_setCell _ _ _ _ (by show w.heap.size ≠ w.heap.size + 1 + 1; omega)).trans hl2, ?_, hrow.setG hl3 _⟩
  rw [hlen]
  exact l3'
theorem BombS.fin {w wr : World} {k : Nat} {An : Option Addr} {cn : Nat} (h : BombS w wr k k An cn) :
    GivesBomb w k (.returned (.agg #[.slice An (bombNs k).length cn, .int .i64 (k : Int)])) ((wr.setCell ⟨w.heap.size, 0, none⟩ (.slice An (bombNs k).length cn)).setCell ⟨w.heap.size, 1, none⟩ (.int .i64 (k : Int))) := by
  have l2 := h.l2.set 0 (.slice An (bombNs k).length cn)
  exact ⟨An, cn, rfl, (h.row.setG h.l2 _).setG l2 _, (h.bel.setCell (p := ⟨w.heap.size, 0, none⟩) (Nat.le_refl _) _).setCell (p := ⟨w.heap.size, 1, none⟩) (Nat.le_refl _) _⟩
set_option maxHeartbeats 1000000 in
theorem bomb_any (k : Nat) (hk : k ≤ 11) (w : World) :
    Calls Try.prog 4 #[.int .i64 (k : Int)] w (GivesBomb w k) := by
  have hb1 : Below w.heap.size w (w.alloc (.cells #[.slice none 0 0, .int .i64 0] 24)) := (Below.refl _ _).alloc (Nat.le_refl _) _
  have l1 := Lies.new w #[.slice none 0 0, .int .i64 0] 24
  go_enter Try.func4, Try.ntmps4
  go_wp2_with fail
  refine (inRange_yes (k : Int) 0 11 _ (by omega) (by omega)).mono ?_
  rintro e w' ⟨rfl, rfl⟩
  have hS0 : BombS w (((w.alloc (.cells #[.slice none 0 0, .int .i64 0] 24)).alloc (.cells #[.int .i64 0, .int .i64 1, .slice none 0 0] 32)).alloc (.cells #[.slice (some ⟨w.heap.size + 1, 0, none⟩) 1 1, .int .i64 (k : Int)] 24)) k 0 (some ⟨w.heap.size + 1, 0, none⟩) 1 := by
    have l2 := Lies.new (w.alloc (.cells #[.slice none 0 0, .int .i64 0] 24)) #[.int .i64 0, .int .i64 1, .slice none 0 0] 32
    have l3 := Lies.new ((w.alloc (.cells #[.slice none 0 0, .int .i64 0] 24)).alloc (.cells #[.int .i64 0, .int .i64 1, .slice none 0 0] 32)) #[.slice (some ⟨w.heap.size + 1, 0, none⟩) 1 1, .int .i64 (k : Int)] 24
    simp only [World.size_alloc] at l2 l3
    exact ⟨(hb1.alloc (by simp) _).alloc (by simp; omega) _, (l1.alloc _).alloc _, l3, RowN.one (l2.alloc _) (Nat.le_refl _)⟩
  have HS0 := hide hS0
  clear hS0 hb1 l1
  go_wp2_with fail
  generalize ((w.alloc (.cells #[.slice none 0 0, .int .i64 0] 24)).alloc (.cells #[.int .i64 0, .int .i64 1, .slice none 0 0] 32)).alloc (.cells #[.slice (some ⟨w.heap.size + 1, 0, none⟩) 1 1, .int .i64 (k : Int)] 24) = W at HS0 ⊢
  go_loopg [4] k (fun gk iv wr => ∃ (j : Nat) (An : Option Addr) (cn : Nat), j ≤ k ∧ gk = k - j ∧ iv = .int .i64 (j : Int) ∧ BombS w wr k j An cn)
  case atStart => exact ⟨0, _, 1, Nat.zero_le _, rfl, rfl, HS0.out⟩
  case round =>
    clear HS0
    obtain ⟨j, An, cn, hj, rfl, rfl, hS⟩ := hrel
    have HS := hide hS
    by_cases hlt : j < k
    · have e0 := hS.l3.cell 0
      have f0 := hS.l3.frozen 0
      have hlt3 := hS.l3.lt
      simp at e0
      have hne := hide (hS.row.neG hS.l3)
      have hlen := bombNs_len j
      have hll : (bombNs j).length ≤ 1000 := by omega
      have l2 := Lies.new wr #[.int .i64 (j : Int), .int .i64 (j : Int)] 3
      have HO : Hid (OwnI ((wr.alloc (.cells #[.int .i64 (j : Int), .int .i64 (j : Int)] 3)).alloc (.cells #[.int .i64 2, .int .i64 0, .slice (some ⟨wr.heap.size, 0, none⟩) 2 2] 32)) (w.heap.size + 1) (some ⟨wr.heap.size, 0, none⟩) 2 [(j : Int), (j : Int)]) := hide (OwnI.two (j : Int) (l2.alloc _) (by omega))
      have HR : Hid (RowN ((wr.alloc (.cells #[.int .i64 (j : Int), .int .i64 (j : Int)] 3)).alloc (.cells #[.int .i64 2, .int .i64 0, .slice (some ⟨wr.heap.size, 0, none⟩) 2 2] 32)) (w.heap.size + 1) An cn (bombNs j)) := hide (hS.row.below (((Below.refl _ _).alloc (Nat.le_refl _) _).alloc (by simp) _))
      have HL : Hid (Lies ((wr.alloc (.cells #[.int .i64 (j : Int), .int .i64 (j : Int)] 3)).alloc (.cells #[.int .i64 2, .int .i64 0, .slice (some ⟨wr.heap.size, 0, none⟩) 2 2] 32)) (w.heap.size + 1 + 1) #[.slice An (bombNs j).length cn, .int .i64 (k : Int)] 24) := hide ((hS.l3.alloc _).alloc _)
      have HLen := hide hlen
      clear hS l2 f0 hlen
      generalize hPd : bombNs j = P at e0 HR HL hll HLen ⊢
      have HPd := hide hPd
      clear hPd
      go_wp2_with (at_builtin; refine append_ndK rfl (.tmp 19) (.tmp 24) rfl (w.heap.size + 1) An cn P rfl HR.out (wr.heap.size + 1) ⟨2, 0, [(j : Int), (j : Int)]⟩ (some ⟨wr.heap.size, 0, none⟩) 2 32 rfl (by have h := Lies.new (wr.alloc (.cells #[.int .i64 (j : Int), .int .i64 (j : Int)] 3)) #[.int .i64 2, .int .i64 0, .slice (some ⟨wr.heap.size, 0, none⟩) 2 2] 32; simp only [World.size_alloc] at h; exact h) HO.out (by simp; omega) hll ?_; intro A' c' w9 hrow9 hg9; have t2 : w9.cell? ⟨w.heap.size + 1 + 1, 0, none⟩ = some (.slice An P.length cn) := (hg9.cell_far _ (by simp; omega) hne.out).trans (HL.out.cell 0); have t3 : w9.frozen? ⟨w.heap.size + 1 + 1, 0, none⟩ = false := (hg9.frozen_far _ (by simp; omega) hne.out).trans (HL.out.frozen 0))
      have hN2 := HS.out.step hg9 (by rw [HPd.out]; exact hrow9)
      rw [HPd.out] at hN2
      have HN2 := hide hN2
      clear hN2 t2 t3 hrow9 hg9 e0
      go_wp2
      go_roundg (k - (j + 1))
      case measure => omega
      case rel => exact ⟨j + 1, A', c', by omega, rfl, by go_num, HN2.out⟩
    · obtain rfl : j = k := by omega
      have e0 := hS.l3.cell 0
      have e1 := hS.l3.cell 1
      have b0 := hS.l2.cell 0
      have b1 := hS.l2.cell 1
      have f0 := hS.l2.frozen 0
      have f1 := hS.l2.frozen 1
      have l5 := (hS.l2.set 0 (.slice An (bombNs j).length cn)).set 1 (.int .i64 (j : Int))
      simp only [List.setIfInBounds_toArray, List.set_cons_succ, List.set_cons_zero] at l5
      have s0 := l5.cell 0
      have s1 := l5.cell 1
      simp only [List.getElem?_toArray, List.getElem?_cons_zero, List.getElem?_cons_succ] at s0 s1 e0 e1 b0 b1
      have HF := hide hS.fin
      clear l5 hS hlt
      generalize bombNs j = P at e0 s0 s1 HF ⊢
      go_wp2
      refine bodyPost_ret (v := .agg #[.slice An P.length cn, .int .i64 (j : Int)]) (by simp [results, Try.results4, go_sem, s0, s1]) rfl ?_
      exact HF.out
end Go.Proofs.Ytaolnnjcpnhghae
