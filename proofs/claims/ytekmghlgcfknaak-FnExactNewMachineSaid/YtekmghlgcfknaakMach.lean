/-
  Machines: what it means that the call owns one, and the laws' eqMachine, markMachine, heldMachine.
-/
import Derived.Test.YtekmghlgcfknaakMarkN
import Derived.Test.YtekmghlgcfknaakEqN
namespace Go.Proofs.Ytekmghlgcfknaak
open Go.RowKit
set_option linter.unusedVariables false

/-- the value of a machine -/
def machV (A : Option Addr) (n c : Nat) (S : Option Addr) (s cs : Nat) (M : Option Addr) (m cm : Nat) (d : Bool) : Value := .agg #[.slice A n c, .slice S s cs, .slice M m cm, .bool d]

/-- the call owns the nodes, the stack and the memo of a machine, in blocks of their own from L on and below H -/
structure OwnMach (w : World) (L H : Nat) (A : Option Addr) (c : Nat) (ns : List Nd) (S : Option Addr) (cs : Nat) (ss : List Int) (M : Option Addr) (cm : Nat) (ms : List Int) : Prop where
  nodes : ∃ lo hi, L ≤ lo ∧ lo ≤ hi ∧ hi ≤ H ∧ OwnNs w lo hi A c ns ∧ (∀ b, blockOf S = some b → b < lo ∨ hi ≤ b) ∧ (∀ b, blockOf M = some b → b < lo ∨ hi ≤ b)
  stack : OwnI w L S cs ss
  memo : OwnI w L M cm ms
  sH : ∀ b, blockOf S = some b → b < H
  mH : ∀ b, blockOf M = some b → b < H ∧ blockOf S ≠ some b

theorem OwnMach.kept {w w' : World} {L H : Nat} {A : Option Addr} {c : Nat} {ns : List Nd} {S : Option Addr} {cs : Nat} {ss : List Int} {M : Option Addr} {cm : Nat} {ms : List Int} (h : OwnMach w L H A c ns S cs ss M cm ms) (hb : ∀ b, L ≤ b → b < H → w'.heap[b]? = w.heap[b]?) : OwnMach w' L H A c ns S cs ss M cm ms := by
  obtain ⟨lo, hi, h1, h2, h3, h4, h5, h6⟩ := h.nodes
  exact ⟨⟨lo, hi, h1, h2, h3, h4.kept (fun b hl hh => hb b (by omega) (by omega)), h5, h6⟩, h.stack.of_blk (fun b hb' => hb b (h.stack.blocks b hb').1 (h.sH b hb')), h.memo.of_blk (fun b hb' => hb b (h.memo.blocks b hb').1 (h.mH b hb').1), h.sH, h.mH⟩

theorem OwnMach.below {w w' : World} {L H B : Nat} {A : Option Addr} {c : Nat} {ns : List Nd} {S : Option Addr} {cs : Nat} {ss : List Int} {M : Option Addr} {cm : Nat} {ms : List Int} (h : OwnMach w L H A c ns S cs ss M cm ms) (hb : Below B w w') (hB : H ≤ B) : OwnMach w' L H A c ns S cs ss M cm ms :=
  h.kept (fun b _ h2 => hb.block b (by omega))

set_option maxHeartbeats 1000000 in
theorem eqMachine_same (A B : Option Addr) (ns : List Nd) (c c' : Nat) (S T : Option Addr) (ss : List Int) (cs ct : Nat) (M N : Option Addr) (ms : List Int) (cm cn : Nat) (d : Bool) (w : World)
    (h1 : NdsAt w w.heap.size A ns) (h2 : NdsAt w w.heap.size B ns) (h3 : IntsAt w w.heap.size S ss) (h4 : IntsAt w w.heap.size T ss) (h5 : IntsAt w w.heap.size M ms) (h6 : IntsAt w w.heap.size N ms) :
    Calls Try.prog 6 #[machV A ns.length c S ss.length cs M ms.length cm d, machV B ns.length c' T ss.length ct N ms.length cn d] w fun e w' => e = .returned (.bool true) ∧ Below w.heap.size w w' := by
  unfold machV
  have hB : Below w.heap.size w ((w.alloc (.cells #[.slice A ns.length c, .slice S ss.length cs, .slice M ms.length cm, .bool d] 25)).alloc (.cells #[.slice B ns.length c', .slice T ss.length ct, .slice N ms.length cn, .bool d] 25)) := ((Below.refl _ _).alloc (Nat.le_refl _) _).alloc (by simp) _
  have l1 := (Lies.new w #[.slice A ns.length c, .slice S ss.length cs, .slice M ms.length cm, .bool d] 25).alloc (.cells #[.slice B ns.length c', .slice T ss.length ct, .slice N ms.length cn, .bool d] 25)
  have l2 := Lies.new (w.alloc (.cells #[.slice A ns.length c, .slice S ss.length cs, .slice M ms.length cm, .bool d] 25)) #[.slice B ns.length c', .slice T ss.length ct, .slice N ms.length cn, .bool d] 25
  simp only [World.size_alloc] at l2
  go_enter Try.func6, Try.ntmps6
  go_wp2_with fail
  generalize (w.alloc (.cells #[.slice A ns.length c, .slice S ss.length cs, .slice M ms.length cm, .bool d] 25)).alloc (.cells #[.slice B ns.length c', .slice T ss.length ct, .slice N ms.length cn, .bool d] 25) = w1 at hB l1 l2 ⊢
  refine (eqNodeS_any A B ns ns c c' w1 (h1.later hB (Nat.le_refl _)) (h2.later hB (Nat.le_refl _))).mono ?_
  rintro e w2 ⟨rfl, hb2⟩
  have hs1 : decide (ns = ns) = true := by simp
  rw [hs1]
  have k1 := l1.below hb2 l1.lt
  have k2 := l2.below hb2 l2.lt
  have hB2 := hB.trans (hb2.mono hB.size)
  clear l1 l2 hB hb2 hs1
  have a1 := k1.cell 1
  have b1 := k2.cell 1
  simp at a1 b1
  go_wp2_with fail
  refine (eqIntS_any S T ss ss cs ct w2 (h3.later hB2 (Nat.le_refl _)) (h4.later hB2 (Nat.le_refl _))).mono ?_
  rintro e w3 ⟨rfl, hb3⟩
  have hs1 : decide (ss = ss) = true := by simp
  rw [hs1]
  have l1 := k1.below hb3 k1.lt
  have l2 := k2.below hb3 k2.lt
  have hB3 := hB2.trans (hb3.mono hB2.size)
  clear k1 k2 hB2 hb3 hs1 a1 b1
  have a2 := l1.cell 2
  have b2 := l2.cell 2
  simp at a2 b2
  go_wp2_with fail
  refine (eqIntS_any M N ms ms cm cn w3 (h5.later hB3 (Nat.le_refl _)) (h6.later hB3 (Nat.le_refl _))).mono ?_
  rintro e w4 ⟨rfl, hb4⟩
  have hs1 : decide (ms = ms) = true := by simp
  rw [hs1]
  have k1 := l1.below hb4 l1.lt
  have k2 := l2.below hb4 l2.lt
  have hB4 := hB3.trans (hb4.mono hB3.size)
  clear l1 l2 hB3 hb4 hs1 a2 b2
  have a3 := k1.cell 3
  have b3 := k2.cell 3
  simp at a3 b3
  have hdd : (d != d) = false := by simp
  clear k1 k2
  go_wp2
  go_ret
  exact ⟨rfl, hB4⟩

/-- the number behind the marks of a machine -/
def machEnd (k : Int) (ns : List Nd) (ss ms : List Int) : Int := marksEnd k ns + (ss.length : Int) + (ms.length : Int)

theorem marksEnd_few {ns : List Nd} (hs : SmallN ns) (k : Int) : marksEnd k ns ≤ k + 2002 * 400 := by
  have := hs.end_ k ns.length
  rw [List.take_length] at this
  have := hs.len
  omega

set_option maxHeartbeats 1000000 in
theorem markMachine_any (L H : Nat) (A : Option Addr) (c : Nat) (ns : List Nd) (S : Option Addr) (cs : Nat) (ss : List Int) (M : Option Addr) (cm : Nat) (ms : List Int) (d : Bool) (w : World) (h : OwnMach w L H A c ns S cs ss M cm ms) (hn : SmallN ns) (hs : ss.length ≤ 1000) (hm : ms.length ≤ 1000) (hH : H ≤ w.heap.size) :
    Calls Try.prog 7 #[machV A ns.length c S ss.length cs M ms.length cm d, .int .i64 1] w fun e w' => e = .returned (.int .i64 (machEnd 1 ns ss ms)) ∧
      OwnMach w' L H A c (marksN 1 ns) S cs (marks (marksEnd 1 ns) ss.length) M cm (marks (marksEnd 1 ns + (ss.length : Int)) ms.length) ∧ (L ≤ w.heap.size → ∀ b, b < w.heap.size → b < L ∨ H ≤ b → w'.heap[b]? = w.heap[b]?) ∧ w'.os = w.os ∧ w'.tape = w.tape ∧ w'.output = w.output ∧ w.heap.size ≤ w'.heap.size := by
  unfold machV
  have hB : Below w.heap.size w (w.alloc (.cells #[.slice A ns.length c, .slice S ss.length cs, .slice M ms.length cm, .bool d] 25)) := (Below.refl _ _).alloc (Nat.le_refl _) _
  have l1 := Lies.new w #[.slice A ns.length c, .slice S ss.length cs, .slice M ms.length cm, .bool d] 25
  have h1 := h.below hB hH
  clear h
  have he0 := marksEnd_grows 1 ns
  have he1 := marksEnd_few hn 1
  go_enter Try.func7, Try.ntmps7
  go_wp2_with fail
  generalize w.alloc (.cells #[.slice A ns.length c, .slice S ss.length cs, .slice M ms.length cm, .bool d] 25) = w1 at hB l1 h1 ⊢
  have hl1 := l1.lt
  obtain ⟨⟨lo, hi, n1, n2, n3, n4, n5, n6⟩, hst, hme, hsH, hmH⟩ := h1
  refine (markNodeS_own lo hi A c ns 1 w1 n4 hn (by omega) (by omega)).mono ?_
  rintro e w2 ⟨rfl, hN2, ho2⟩
  have hst2 := hst.only ho2 n5
  have hme2 := hme.only ho2 n6
  have HO2 := hide (show Only L H w1 w2 from ho2.mono (by omega) (by omega))
  have HN2 := hide hN2
  have l2 : Lies w2 w.heap.size _ _ := (ho2.block w.heap.size (by omega)).trans l1
  have Hke : Hid (machEnd 1 ns ss ms = marksEnd 1 ns + (ss.length : Int) + (ms.length : Int)) := rfl
  generalize hkd : marksEnd 1 ns = k1 at he0 he1 Hke ⊢
  have HK := hide hkd
  clear hkd
  have a1 := l2.cell 1
  simp at a1
  clear n4 hst hme ho2 hN2 l1
  go_wp2_with fail
  refine (markIntS_own L S cs ss k1 w2 hst2 (by omega) (by omega) (by omega)).mono ?_
  rintro e w3 ⟨rfl, hS3, hO⟩
  have ho3 : ∀ b, blockOf S ≠ some b → w3.heap[b]? = w2.heap[b]? := fun b hb => by
    cases hS : blockOf S with
    | none => exact (hO b b (fun q hq => by rw [hS] at hq; cases hq)).block b (by omega)
    | some q => exact (hO q (q + 1) (fun q' hq' => by rw [hS] at hq'; injection hq' with hq'; omega)).block b (by have : b ≠ q := fun e => hb (by rw [hS, e]); omega)
  have hoS := hO L H (fun b hb => ⟨(hst2.blocks b hb).1, hsH b hb⟩)
  have HO3 := hide (HO2.out.trans hoS)
  have HN3 := hide (HN2.out.kept (fun b hl hh => ho3 b (fun e => by rcases n5 b e with h | h <;> omega)))
  have hme3 := hme2.of_blk (fun b hb => ho3 b (hmH b hb).2)
  have l3 : Lies w3 w.heap.size _ _ := (ho3 w.heap.size (fun e => by have := hsH _ e; omega)).trans l2
  have HS3 := hide hS3
  clear hst2 hme2 hO hoS l2 a1 HO2 HN2 hS3
  have a2 := l3.cell 2
  simp at a2
  go_wp2_with fail
  refine (markIntS_own L M cm ms (k1 + (ss.length : Int)) w3 hme3 (by omega) (by omega) (by omega)).mono ?_
  rintro e w4 ⟨rfl, hM4, hO⟩
  have ho4 : ∀ b, blockOf M ≠ some b → w4.heap[b]? = w3.heap[b]? := fun b hb => by
    cases hS : blockOf M with
    | none => exact (hO b b (fun q hq => by rw [hS] at hq; cases hq)).block b (by omega)
    | some q => exact (hO q (q + 1) (fun q' hq' => by rw [hS] at hq'; injection hq' with hq'; omega)).block b (by have : b ≠ q := fun e => hb (by rw [hS, e]); omega)
  have hoM := hO L H (fun b hb => ⟨(hme3.blocks b hb).1, (hmH b hb).1⟩)
  have HO4 := hide (HO3.out.trans hoM)
  have HN4 := HN3.out.kept (fun b hl hh => ho4 b (fun e => by rcases n6 b e with h | h <;> omega))
  have HS4 := HS3.out.of_blk (fun b hb => ho4 b (fun e => (hmH b e).2 hb))
  have HF : Hid (OwnMach w4 L H A c (marksN 1 ns) S cs (marks k1 ss.length) M cm (marks (k1 + (ss.length : Int)) ms.length)) := hide
    ⟨⟨lo, hi, n1, n2, n3, HN4, n5, n6⟩, HS4, hM4, hsH, hmH⟩
  clear HN3 HS3 HO3 hO hoM l3 a2 hme3 HN4 HS4 hM4
  go_wp2
  go_ret
  refine ⟨ret_int Hke.out.symm, by rw [HK.out]; exact HF.out, fun _ b hb hor => (HO4.out.block b hor).trans (hB.block b hb), HO4.out.os.trans hB.os, HO4.out.tape.trans hB.tape, HO4.out.output.trans hB.output, by rw [HO4.out.size]; exact hB.size⟩

set_option maxHeartbeats 1000000 in
theorem heldMachine_any (A : Option Addr) (c : Nat) (ns : List Nd) (S : Option Addr) (cs : Nat) (ss : List Int) (M : Option Addr) (cm : Nat) (ms : List Int) (d : Bool) (w : World) (hn : SmallN ns) (hs : ss.length ≤ 1000) (hm : ms.length ≤ 1000)
    (h1 : NdsAt w w.heap.size A (marksN 1 ns)) (h2 : IntsAt w w.heap.size S (marks (marksEnd 1 ns) ss.length)) (h3 : IntsAt w w.heap.size M (marks (marksEnd 1 ns + (ss.length : Int)) ms.length)) :
    Calls Try.prog 8 #[machV A ns.length c S ss.length cs M ms.length cm d, .int .i64 1] w fun e w' => e = .returned (.int .i64 (machEnd 1 ns ss ms)) ∧ Below w.heap.size w w' := by
  unfold machV
  have hB : Below w.heap.size w (w.alloc (.cells #[.slice A ns.length c, .slice S ss.length cs, .slice M ms.length cm, .bool d] 25)) := (Below.refl _ _).alloc (Nat.le_refl _) _
  have l1 := Lies.new w #[.slice A ns.length c, .slice S ss.length cs, .slice M ms.length cm, .bool d] 25
  have k1 := h1.later hB (Nat.le_refl _)
  have k2 := h2.later hB (Nat.le_refl _)
  have k3 := h3.later hB (Nat.le_refl _)
  clear h1 h2 h3
  have he0 := marksEnd_grows 1 ns
  have he1 := marksEnd_few hn 1
  go_enter Try.func8, Try.ntmps8
  go_wp2_with fail
  generalize w.alloc (.cells #[.slice A ns.length c, .slice S ss.length cs, .slice M ms.length cm, .bool d] 25) = w1 at hB l1 k1 k2 k3 ⊢
  refine (heldNodeS_any A ns c 1 w1 k1 hn (by omega) (by omega)).mono ?_
  rintro e w' ⟨rfl, rfl⟩
  have Hke : Hid (machEnd 1 ns ss ms = marksEnd 1 ns + (ss.length : Int) + (ms.length : Int)) := rfl
  generalize marksEnd 1 ns = ke at he0 he1 Hke k2 k3 ⊢
  have d1 : decide (ke < 0) = false := by simp; omega
  have d2 : decide (ke + (ss.length : Int) < 0) = false := by simp; omega
  have d3 : decide (ke + (ss.length : Int) + (ms.length : Int) < 0) = false := by simp; omega
  have a1 := l1.cell 1
  have a2 := l1.cell 2
  simp at a1 a2
  clear l1 k1
  go_wp2_with fail
  refine (heldIntS_any S ss.length cs ke w1 k2 (by omega) (by omega) (by omega)).mono ?_
  rintro e w' ⟨rfl, rfl⟩
  go_wp2_with fail
  refine (heldIntS_any M ms.length cm (ke + (ss.length : Int)) w1 k3 (by omega) (by omega) (by omega)).mono ?_
  rintro e w' ⟨rfl, rfl⟩
  clear k2 k3
  go_wp2
  go_ret
  exact ⟨ret_int Hke.out.symm, hB⟩

end Go.Proofs.Ytekmghlgcfknaak
