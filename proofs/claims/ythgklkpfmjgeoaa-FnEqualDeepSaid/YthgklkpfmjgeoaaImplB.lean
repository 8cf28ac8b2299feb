/-
  The program's fitsKind: what it returns.
-/
import Derived.Test.YthgklkpfmjgeoaaPjAq
import Derived.Test.YthgklkpfmjgeoaaSpecC
namespace Go.Proofs.Ythgklkpfmjgeoaa
open Go.RowKit Go.Maps
set_option linter.unusedVariables false


set_option maxHeartbeats 400000 in
theorem fk_0_yes (A : Option Addr) (ns : List Nd) (c : Nat) (A' : Option Addr) (n : Nd) (c' : Nat) (w : World) (hr : NdsAt w w.heap.size A ns) (hk : IntsAt w w.heap.size A' n.kids) (h6 : n.kids.length ≤ 6) (hin : InG ns n.kids) (hkind : n.kind = 0) (hv0 : 0 ≤ n.value) (hv1 : n.value ≤ 999) (hl : n.kids.length = 0) :
    Calls Try.prog 20 #[.slice A ns.length c, .agg #[.int .i64 n.kind, .int .i64 n.value, .slice A' n.kids.length c']] w fun e w' =>
      e = .returned (.bool true) ∧ Below w.heap.size w w' := by
  have hnl := hr.len
  have hB : Below w.heap.size w (w.alloc (.cells #[.int .i64 n.kind, .int .i64 n.value, .slice A' n.kids.length c'] 43)) := (Below.refl _ _).alloc (Nat.le_refl _) _
  clear hr hk
  have k0 : (n.kind == 0) = true := by rw [hkind]; rfl
  have tl : ((n.kids.length : Int) == 0) = true := by rw [beq_iff_eq]; omega
  clear hkind hl
  go_enter Try.func20, Try.ntmps20
  go_wp2_with fail
  refine (isUpTo_yes n.value 999 _ hv0 hv1).mono ?_
  rintro e w' ⟨rfl, rfl⟩
  go_wp2
  go_ret
  exact ⟨rfl, hB⟩

set_option maxHeartbeats 400000 in
theorem fk_0_len (A : Option Addr) (ns : List Nd) (c : Nat) (A' : Option Addr) (n : Nd) (c' : Nat) (w : World) (hr : NdsAt w w.heap.size A ns) (hk : IntsAt w w.heap.size A' n.kids) (h6 : n.kids.length ≤ 6) (hin : InG ns n.kids) (hkind : n.kind = 0) (hv0 : 0 ≤ n.value) (hv1 : n.value ≤ 999) (hl : n.kids.length ≠ 0) :
    Calls Try.prog 20 #[.slice A ns.length c, .agg #[.int .i64 n.kind, .int .i64 n.value, .slice A' n.kids.length c']] w fun e w' =>
      e = .returned (.bool false) ∧ Below w.heap.size w w' := by
  have hnl := hr.len
  have hB : Below w.heap.size w (w.alloc (.cells #[.int .i64 n.kind, .int .i64 n.value, .slice A' n.kids.length c'] 43)) := (Below.refl _ _).alloc (Nat.le_refl _) _
  clear hr hk
  have k0 : (n.kind == 0) = true := by rw [hkind]; rfl
  have tl : ((n.kids.length : Int) == 0) = false := by rw [beq_eq_false_iff_ne]; omega
  clear hkind hl
  go_enter Try.func20, Try.ntmps20
  go_wp2_with fail
  refine (isUpTo_yes n.value 999 _ hv0 hv1).mono ?_
  rintro e w' ⟨rfl, rfl⟩
  go_wp2
  go_ret
  exact ⟨rfl, hB⟩

set_option maxHeartbeats 400000 in
theorem fk_0_no (A : Option Addr) (ns : List Nd) (c : Nat) (A' : Option Addr) (n : Nd) (c' : Nat) (w : World) (hr : NdsAt w w.heap.size A ns) (hk : IntsAt w w.heap.size A' n.kids) (h6 : n.kids.length ≤ 6) (hin : InG ns n.kids) (hkind : n.kind = 0) (hv : n.value < 0 ∨ 999 < n.value) :
    Calls Try.prog 20 #[.slice A ns.length c, .agg #[.int .i64 n.kind, .int .i64 n.value, .slice A' n.kids.length c']] w fun e w' =>
      e = .returned (.bool false) ∧ Below w.heap.size w w' := by
  have hnl := hr.len
  have hB : Below w.heap.size w (w.alloc (.cells #[.int .i64 n.kind, .int .i64 n.value, .slice A' n.kids.length c'] 43)) := (Below.refl _ _).alloc (Nat.le_refl _) _
  clear hr hk
  have k0 : (n.kind == 0) = true := by rw [hkind]; rfl
  clear hkind
  go_enter Try.func20, Try.ntmps20
  go_wp2_with fail
  refine (isUpTo_no n.value 999 _ hv).mono ?_
  rintro e w' ⟨rfl, rfl⟩
  go_wp2
  go_ret
  exact ⟨rfl, hB⟩

set_option maxHeartbeats 400000 in
theorem fk_1_yes (A : Option Addr) (ns : List Nd) (c : Nat) (A' : Option Addr) (n : Nd) (c' : Nat) (w : World) (hr : NdsAt w w.heap.size A ns) (hk : IntsAt w w.heap.size A' n.kids) (h6 : n.kids.length ≤ 6) (hin : InG ns n.kids) (hkind : n.kind = 1) (hv0 : 0 ≤ n.value) (hv1 : n.value ≤ 9) (hl : n.kids.length = 0) :
    Calls Try.prog 20 #[.slice A ns.length c, .agg #[.int .i64 n.kind, .int .i64 n.value, .slice A' n.kids.length c']] w fun e w' =>
      e = .returned (.bool true) ∧ Below w.heap.size w w' := by
  have hnl := hr.len
  have hB : Below w.heap.size w (w.alloc (.cells #[.int .i64 n.kind, .int .i64 n.value, .slice A' n.kids.length c'] 43)) := (Below.refl _ _).alloc (Nat.le_refl _) _
  clear hr hk
  have k0 : (n.kind == 0) = false := by rw [hkind]; rfl
  have k1 : (n.kind == 1) = true := by rw [hkind]; rfl
  have tl : ((n.kids.length : Int) == 0) = true := by rw [beq_iff_eq]; omega
  clear hkind hl
  go_enter Try.func20, Try.ntmps20
  go_wp2_with fail
  refine (isUpTo_yes n.value 9 _ hv0 hv1).mono ?_
  rintro e w' ⟨rfl, rfl⟩
  go_wp2
  go_ret
  exact ⟨rfl, hB⟩

set_option maxHeartbeats 400000 in
theorem fk_1_len (A : Option Addr) (ns : List Nd) (c : Nat) (A' : Option Addr) (n : Nd) (c' : Nat) (w : World) (hr : NdsAt w w.heap.size A ns) (hk : IntsAt w w.heap.size A' n.kids) (h6 : n.kids.length ≤ 6) (hin : InG ns n.kids) (hkind : n.kind = 1) (hv0 : 0 ≤ n.value) (hv1 : n.value ≤ 9) (hl : n.kids.length ≠ 0) :
    Calls Try.prog 20 #[.slice A ns.length c, .agg #[.int .i64 n.kind, .int .i64 n.value, .slice A' n.kids.length c']] w fun e w' =>
      e = .returned (.bool false) ∧ Below w.heap.size w w' := by
  have hnl := hr.len
  have hB : Below w.heap.size w (w.alloc (.cells #[.int .i64 n.kind, .int .i64 n.value, .slice A' n.kids.length c'] 43)) := (Below.refl _ _).alloc (Nat.le_refl _) _
  clear hr hk
  have k0 : (n.kind == 0) = false := by rw [hkind]; rfl
  have k1 : (n.kind == 1) = true := by rw [hkind]; rfl
  have tl : ((n.kids.length : Int) == 0) = false := by rw [beq_eq_false_iff_ne]; omega
  clear hkind hl
  go_enter Try.func20, Try.ntmps20
  go_wp2_with fail
  refine (isUpTo_yes n.value 9 _ hv0 hv1).mono ?_
  rintro e w' ⟨rfl, rfl⟩
  go_wp2
  go_ret
  exact ⟨rfl, hB⟩

set_option maxHeartbeats 400000 in
theorem fk_1_no (A : Option Addr) (ns : List Nd) (c : Nat) (A' : Option Addr) (n : Nd) (c' : Nat) (w : World) (hr : NdsAt w w.heap.size A ns) (hk : IntsAt w w.heap.size A' n.kids) (h6 : n.kids.length ≤ 6) (hin : InG ns n.kids) (hkind : n.kind = 1) (hv : n.value < 0 ∨ 9 < n.value) :
    Calls Try.prog 20 #[.slice A ns.length c, .agg #[.int .i64 n.kind, .int .i64 n.value, .slice A' n.kids.length c']] w fun e w' =>
      e = .returned (.bool false) ∧ Below w.heap.size w w' := by
  have hnl := hr.len
  have hB : Below w.heap.size w (w.alloc (.cells #[.int .i64 n.kind, .int .i64 n.value, .slice A' n.kids.length c'] 43)) := (Below.refl _ _).alloc (Nat.le_refl _) _
  clear hr hk
  have k0 : (n.kind == 0) = false := by rw [hkind]; rfl
  have k1 : (n.kind == 1) = true := by rw [hkind]; rfl
  clear hkind
  go_enter Try.func20, Try.ntmps20
  go_wp2_with fail
  refine (isUpTo_no n.value 9 _ hv).mono ?_
  rintro e w' ⟨rfl, rfl⟩
  go_wp2
  go_ret
  exact ⟨rfl, hB⟩

set_option maxHeartbeats 400000 in
theorem fk_2_true (A : Option Addr) (ns : List Nd) (c : Nat) (A' : Option Addr) (n : Nd) (c' : Nat) (w : World) (hr : NdsAt w w.heap.size A ns) (hk : IntsAt w w.heap.size A' n.kids) (h6 : n.kids.length ≤ 6) (hin : InG ns n.kids) (hkind : n.kind = 2) (hv : n.value = 0) :
    Calls Try.prog 20 #[.slice A ns.length c, .agg #[.int .i64 n.kind, .int .i64 n.value, .slice A' n.kids.length c']] w fun e w' =>
      e = .returned (.bool true) ∧ Below w.heap.size w w' := by
  have hnl := hr.len
  have hB : Below w.heap.size w (w.alloc (.cells #[.int .i64 n.kind, .int .i64 n.value, .slice A' n.kids.length c'] 43)) := (Below.refl _ _).alloc (Nat.le_refl _) _
  clear hr hk
  have k0 : (n.kind == 0) = false := by rw [hkind]; rfl
  have k1 : (n.kind == 1) = false := by rw [hkind]; rfl
  have k2 : (n.kind == 2) = true := by rw [hkind]; rfl
  have tv : (n.value == 0) = true := by rw [beq_iff_eq]; exact hv
  clear hkind hv
  go_enter Try.func20, Try.ntmps20
  go_wp2
  go_ret
  exact ⟨rfl, hB⟩

set_option maxHeartbeats 400000 in
theorem fk_2_false (A : Option Addr) (ns : List Nd) (c : Nat) (A' : Option Addr) (n : Nd) (c' : Nat) (w : World) (hr : NdsAt w w.heap.size A ns) (hk : IntsAt w w.heap.size A' n.kids) (h6 : n.kids.length ≤ 6) (hin : InG ns n.kids) (hkind : n.kind = 2) (hv : n.value ≠ 0) :
    Calls Try.prog 20 #[.slice A ns.length c, .agg #[.int .i64 n.kind, .int .i64 n.value, .slice A' n.kids.length c']] w fun e w' =>
      e = .returned (.bool false) ∧ Below w.heap.size w w' := by
  have hnl := hr.len
  have hB : Below w.heap.size w (w.alloc (.cells #[.int .i64 n.kind, .int .i64 n.value, .slice A' n.kids.length c'] 43)) := (Below.refl _ _).alloc (Nat.le_refl _) _
  clear hr hk
  have k0 : (n.kind == 0) = false := by rw [hkind]; rfl
  have k1 : (n.kind == 1) = false := by rw [hkind]; rfl
  have k2 : (n.kind == 2) = true := by rw [hkind]; rfl
  have tv : (n.value == 0) = false := by rw [beq_eq_false_iff_ne]; exact hv
  clear hkind hv
  go_enter Try.func20, Try.ntmps20
  go_wp2
  go_ret
  exact ⟨rfl, hB⟩

set_option maxHeartbeats 400000 in
theorem fk_3_true (A : Option Addr) (ns : List Nd) (c : Nat) (A' : Option Addr) (n : Nd) (c' : Nat) (w : World) (hr : NdsAt w w.heap.size A ns) (hk : IntsAt w w.heap.size A' n.kids) (h6 : n.kids.length ≤ 6) (hin : InG ns n.kids) (hkind : n.kind = 3) (hv : n.value = 0) :
    Calls Try.prog 20 #[.slice A ns.length c, .agg #[.int .i64 n.kind, .int .i64 n.value, .slice A' n.kids.length c']] w fun e w' =>
      e = .returned (.bool true) ∧ Below w.heap.size w w' := by
  have hnl := hr.len
  have hB : Below w.heap.size w (w.alloc (.cells #[.int .i64 n.kind, .int .i64 n.value, .slice A' n.kids.length c'] 43)) := (Below.refl _ _).alloc (Nat.le_refl _) _
  clear hr hk
  have k0 : (n.kind == 0) = false := by rw [hkind]; rfl
  have k1 : (n.kind == 1) = false := by rw [hkind]; rfl
  have k2 : (n.kind == 2) = false := by rw [hkind]; rfl
  have k3 : (n.kind == 3) = true := by rw [hkind]; rfl
  have tv : (n.value == 0) = true := by rw [beq_iff_eq]; exact hv
  clear hkind hv
  go_enter Try.func20, Try.ntmps20
  go_wp2
  go_ret
  exact ⟨rfl, hB⟩

set_option maxHeartbeats 400000 in
theorem fk_3_false (A : Option Addr) (ns : List Nd) (c : Nat) (A' : Option Addr) (n : Nd) (c' : Nat) (w : World) (hr : NdsAt w w.heap.size A ns) (hk : IntsAt w w.heap.size A' n.kids) (h6 : n.kids.length ≤ 6) (hin : InG ns n.kids) (hkind : n.kind = 3) (hv : n.value ≠ 0) :
    Calls Try.prog 20 #[.slice A ns.length c, .agg #[.int .i64 n.kind, .int .i64 n.value, .slice A' n.kids.length c']] w fun e w' =>
      e = .returned (.bool false) ∧ Below w.heap.size w w' := by
  have hnl := hr.len
  have hB : Below w.heap.size w (w.alloc (.cells #[.int .i64 n.kind, .int .i64 n.value, .slice A' n.kids.length c'] 43)) := (Below.refl _ _).alloc (Nat.le_refl _) _
  clear hr hk
  have k0 : (n.kind == 0) = false := by rw [hkind]; rfl
  have k1 : (n.kind == 1) = false := by rw [hkind]; rfl
  have k2 : (n.kind == 2) = false := by rw [hkind]; rfl
  have k3 : (n.kind == 3) = true := by rw [hkind]; rfl
  have tv : (n.value == 0) = false := by rw [beq_eq_false_iff_ne]; exact hv
  clear hkind hv
  go_enter Try.func20, Try.ntmps20
  go_wp2
  go_ret
  exact ⟨rfl, hB⟩

set_option maxHeartbeats 400000 in
theorem fk_4_val (A : Option Addr) (ns : List Nd) (c : Nat) (A' : Option Addr) (n : Nd) (c' : Nat) (w : World) (hr : NdsAt w w.heap.size A ns) (hk : IntsAt w w.heap.size A' n.kids) (h6 : n.kids.length ≤ 6) (hin : InG ns n.kids) (hkind : n.kind = 4) (hv : n.value ≠ 0) :
    Calls Try.prog 20 #[.slice A ns.length c, .agg #[.int .i64 n.kind, .int .i64 n.value, .slice A' n.kids.length c']] w fun e w' =>
      e = .returned (.bool false) ∧ Below w.heap.size w w' := by
  have hnl := hr.len
  have hB : Below w.heap.size w (w.alloc (.cells #[.int .i64 n.kind, .int .i64 n.value, .slice A' n.kids.length c'] 43)) := (Below.refl _ _).alloc (Nat.le_refl _) _
  clear hr hk
  have k0 : (n.kind == 0) = false := by rw [hkind]; rfl
  have k1 : (n.kind == 1) = false := by rw [hkind]; rfl
  have k2 : (n.kind == 2) = false := by rw [hkind]; rfl
  have k3 : (n.kind == 3) = false := by rw [hkind]; rfl
  have k4 : (n.kind == 4) = true := by rw [hkind]; rfl
  have tv : (n.value == 0) = false := by rw [beq_eq_false_iff_ne]; exact hv
  clear hkind hv
  go_enter Try.func20, Try.ntmps20
  go_wp2
  go_ret
  exact ⟨rfl, hB⟩

set_option maxHeartbeats 1000000 in
theorem fk_4_odd (A : Option Addr) (ns : List Nd) (c : Nat) (A' : Option Addr) (n : Nd) (c' : Nat) (w : World) (hr : NdsAt w w.heap.size A ns) (hk : IntsAt w w.heap.size A' n.kids) (h6 : n.kids.length ≤ 6) (hin : InG ns n.kids) (hkind : n.kind = 4) (hv : n.value = 0) (hp : ¬ PairsOk ns n.kids) :
    Calls Try.prog 20 #[.slice A ns.length c, .agg #[.int .i64 n.kind, .int .i64 n.value, .slice A' n.kids.length c']] w fun e w' =>
      e = .returned (.bool false) ∧ Below w.heap.size w w' := by
  have hnl := hr.len
  have hB : Below w.heap.size w (w.alloc (.cells #[.int .i64 n.kind, .int .i64 n.value, .slice A' n.kids.length c'] 43)) := (Below.refl _ _).alloc (Nat.le_refl _) _
  have hk2 := hk.later hB (Nat.le_refl _)
  have hr2 := hr.later hB (Nat.le_refl _)
  clear hr hk
  have k0 : (n.kind == 0) = false := by rw [hkind]; rfl
  have k1 : (n.kind == 1) = false := by rw [hkind]; rfl
  have k2 : (n.kind == 2) = false := by rw [hkind]; rfl
  have k3 : (n.kind == 3) = false := by rw [hkind]; rfl
  have k4 : (n.kind == 4) = true := by rw [hkind]; rfl
  have tv : (n.value == 0) = true := by rw [beq_iff_eq]; exact hv
  clear hkind hv
  go_enter Try.func20, Try.ntmps20
  go_wp2_with fail
  refine (arePairs_any A ns c A' n.kids c' _ hr2 hk2 hin (by omega)).mono ?_
  rintro e w' ⟨rfl, rfl⟩
  rw [tf_false hp]
  clear hp
  go_wp2
  go_ret
  exact ⟨rfl, hB⟩

set_option maxHeartbeats 1000000 in
theorem fk_4_dict (A : Option Addr) (ns : List Nd) (c : Nat) (A' : Option Addr) (n : Nd) (c' : Nat) (w : World) (hr : NdsAt w w.heap.size A ns) (hk : IntsAt w w.heap.size A' n.kids) (h6 : n.kids.length ≤ 6) (hin : InG ns n.kids) (hkind : n.kind = 4) (hv : n.value = 0) (hp : PairsOk ns n.kids) :
    Calls Try.prog 20 #[.slice A ns.length c, .agg #[.int .i64 n.kind, .int .i64 n.value, .slice A' n.kids.length c']] w fun e w' =>
      e = .returned (.bool (tf (DictOk ns n.kids))) ∧ Below w.heap.size w w' := by
  have hnl := hr.len
  have hB : Below w.heap.size w (w.alloc (.cells #[.int .i64 n.kind, .int .i64 n.value, .slice A' n.kids.length c'] 43)) := (Below.refl _ _).alloc (Nat.le_refl _) _
  have hk2 := hk.later hB (Nat.le_refl _)
  have hr2 := hr.later hB (Nat.le_refl _)
  clear hr hk
  have k0 : (n.kind == 0) = false := by rw [hkind]; rfl
  have k1 : (n.kind == 1) = false := by rw [hkind]; rfl
  have k2 : (n.kind == 2) = false := by rw [hkind]; rfl
  have k3 : (n.kind == 3) = false := by rw [hkind]; rfl
  have k4 : (n.kind == 4) = true := by rw [hkind]; rfl
  have tv : (n.value == 0) = true := by rw [beq_iff_eq]; exact hv
  clear hkind hv
  go_enter Try.func20, Try.ntmps20
  go_wp2_with fail
  refine (arePairs_any A ns c A' n.kids c' _ hr2 hk2 hin (by omega)).mono ?_
  rintro e w' ⟨rfl, rfl⟩
  rw [tf_true hp]
  have Hp := hide hp
  clear hp
  go_wp2_with fail
  refine (hasDifferentKeys_any A ns c A' n c' _ hr2 hk2 hin (by omega) Hp.out).mono ?_
  rintro e w' ⟨rfl, hb⟩
  generalize hx : tf (DictOk ns n.kids) = x
  have Hx := hide hx
  clear hx
  go_wp2
  go_ret
  exact ⟨ret_bool Hx.out.symm, hB.trans (hb.mono hB.size)⟩

set_option maxHeartbeats 400000 in
theorem fk_5_yes (A : Option Addr) (ns : List Nd) (c : Nat) (A' : Option Addr) (n : Nd) (c' : Nat) (w : World) (hr : NdsAt w w.heap.size A ns) (hk : IntsAt w w.heap.size A' n.kids) (h6 : n.kids.length ≤ 6) (hin : InG ns n.kids) (hkind : n.kind = 5) (hv0 : 0 ≤ n.value) (hv1 : n.value ≤ 9) (hl : n.kids.length ≤ 1) :
    Calls Try.prog 20 #[.slice A ns.length c, .agg #[.int .i64 n.kind, .int .i64 n.value, .slice A' n.kids.length c']] w fun e w' =>
      e = .returned (.bool true) ∧ Below w.heap.size w w' := by
  have hnl := hr.len
  have hB : Below w.heap.size w (w.alloc (.cells #[.int .i64 n.kind, .int .i64 n.value, .slice A' n.kids.length c'] 43)) := (Below.refl _ _).alloc (Nat.le_refl _) _
  clear hr hk
  have k0 : (n.kind == 0) = false := by rw [hkind]; rfl
  have k1 : (n.kind == 1) = false := by rw [hkind]; rfl
  have k2 : (n.kind == 2) = false := by rw [hkind]; rfl
  have k3 : (n.kind == 3) = false := by rw [hkind]; rfl
  have k4 : (n.kind == 4) = false := by rw [hkind]; rfl
  have k5 : (n.kind == 5) = true := by rw [hkind]; rfl
  have tl : decide ((n.kids.length : Int) ≤ 1) = true := by simp; omega
  clear hkind hl
  go_enter Try.func20, Try.ntmps20
  go_wp2_with fail
  refine (isUpTo_yes n.value 9 _ hv0 hv1).mono ?_
  rintro e w' ⟨rfl, rfl⟩
  go_wp2
  go_ret
  exact ⟨rfl, hB⟩

set_option maxHeartbeats 400000 in
theorem fk_5_len (A : Option Addr) (ns : List Nd) (c : Nat) (A' : Option Addr) (n : Nd) (c' : Nat) (w : World) (hr : NdsAt w w.heap.size A ns) (hk : IntsAt w w.heap.size A' n.kids) (h6 : n.kids.length ≤ 6) (hin : InG ns n.kids) (hkind : n.kind = 5) (hv0 : 0 ≤ n.value) (hv1 : n.value ≤ 9) (hl : 1 < n.kids.length) :
    Calls Try.prog 20 #[.slice A ns.length c, .agg #[.int .i64 n.kind, .int .i64 n.value, .slice A' n.kids.length c']] w fun e w' =>
      e = .returned (.bool false) ∧ Below w.heap.size w w' := by
  have hnl := hr.len
  have hB : Below w.heap.size w (w.alloc (.cells #[.int .i64 n.kind, .int .i64 n.value, .slice A' n.kids.length c'] 43)) := (Below.refl _ _).alloc (Nat.le_refl _) _
  clear hr hk
  have k0 : (n.kind == 0) = false := by rw [hkind]; rfl
  have k1 : (n.kind == 1) = false := by rw [hkind]; rfl
  have k2 : (n.kind == 2) = false := by rw [hkind]; rfl
  have k3 : (n.kind == 3) = false := by rw [hkind]; rfl
  have k4 : (n.kind == 4) = false := by rw [hkind]; rfl
  have k5 : (n.kind == 5) = true := by rw [hkind]; rfl
  have tl : decide ((n.kids.length : Int) ≤ 1) = false := by simp; omega
  clear hkind hl
  go_enter Try.func20, Try.ntmps20
  go_wp2_with fail
  refine (isUpTo_yes n.value 9 _ hv0 hv1).mono ?_
  rintro e w' ⟨rfl, rfl⟩
  go_wp2
  go_ret
  exact ⟨rfl, hB⟩

set_option maxHeartbeats 400000 in
theorem fk_5_no (A : Option Addr) (ns : List Nd) (c : Nat) (A' : Option Addr) (n : Nd) (c' : Nat) (w : World) (hr : NdsAt w w.heap.size A ns) (hk : IntsAt w w.heap.size A' n.kids) (h6 : n.kids.length ≤ 6) (hin : InG ns n.kids) (hkind : n.kind = 5) (hv : n.value < 0 ∨ 9 < n.value) :
    Calls Try.prog 20 #[.slice A ns.length c, .agg #[.int .i64 n.kind, .int .i64 n.value, .slice A' n.kids.length c']] w fun e w' =>
      e = .returned (.bool false) ∧ Below w.heap.size w w' := by
  have hnl := hr.len
  have hB : Below w.heap.size w (w.alloc (.cells #[.int .i64 n.kind, .int .i64 n.value, .slice A' n.kids.length c'] 43)) := (Below.refl _ _).alloc (Nat.le_refl _) _
  clear hr hk
  have k0 : (n.kind == 0) = false := by rw [hkind]; rfl
  have k1 : (n.kind == 1) = false := by rw [hkind]; rfl
  have k2 : (n.kind == 2) = false := by rw [hkind]; rfl
  have k3 : (n.kind == 3) = false := by rw [hkind]; rfl
  have k4 : (n.kind == 4) = false := by rw [hkind]; rfl
  have k5 : (n.kind == 5) = true := by rw [hkind]; rfl
  clear hkind
  go_enter Try.func20, Try.ntmps20
  go_wp2_with fail
  refine (isUpTo_no n.value 9 _ hv).mono ?_
  rintro e w' ⟨rfl, rfl⟩
  go_wp2
  go_ret
  exact ⟨rfl, hB⟩

set_option maxHeartbeats 400000 in
theorem fk_other (A : Option Addr) (ns : List Nd) (c : Nat) (A' : Option Addr) (n : Nd) (c' : Nat) (w : World) (hr : NdsAt w w.heap.size A ns) (hk : IntsAt w w.heap.size A' n.kids) (h6 : n.kids.length ≤ 6) (hin : InG ns n.kids) (hkind : n.kind < 0 ∨ 5 < n.kind) :
    Calls Try.prog 20 #[.slice A ns.length c, .agg #[.int .i64 n.kind, .int .i64 n.value, .slice A' n.kids.length c']] w fun e w' =>
      e = .returned (.bool false) ∧ Below w.heap.size w w' := by
  have hnl := hr.len
  have hB : Below w.heap.size w (w.alloc (.cells #[.int .i64 n.kind, .int .i64 n.value, .slice A' n.kids.length c'] 43)) := (Below.refl _ _).alloc (Nat.le_refl _) _
  clear hr hk
  have k0 : (n.kind == 0) = false := by rw [beq_eq_false_iff_ne]; omega
  have k1 : (n.kind == 1) = false := by rw [beq_eq_false_iff_ne]; omega
  have k2 : (n.kind == 2) = false := by rw [beq_eq_false_iff_ne]; omega
  have k3 : (n.kind == 3) = false := by rw [beq_eq_false_iff_ne]; omega
  have k4 : (n.kind == 4) = false := by rw [beq_eq_false_iff_ne]; omega
  have k5 : (n.kind == 5) = false := by rw [beq_eq_false_iff_ne]; omega
  clear hkind
  go_enter Try.func20, Try.ntmps20
  go_wp2
  go_ret
  exact ⟨rfl, hB⟩

theorem fitsKind_any (A : Option Addr) (ns : List Nd) (c : Nat) (A' : Option Addr) (n : Nd) (c' : Nat) (w : World) (hr : NdsAt w w.heap.size A ns) (hk : IntsAt w w.heap.size A' n.kids) (h6 : n.kids.length ≤ 6) (hin : InG ns n.kids) :
    Calls Try.prog 20 #[.slice A ns.length c, .agg #[.int .i64 n.kind, .int .i64 n.value, .slice A' n.kids.length c']] w fun e w' =>
      e = .returned (.bool (tf (KindOk ns n))) ∧ Below w.heap.size w w' := by
  have no : ¬ KindOk ns n → Calls Try.prog 20 #[.slice A ns.length c, .agg #[.int .i64 n.kind, .int .i64 n.value, .slice A' n.kids.length c']] w (fun e w' => e = .returned (.bool false) ∧ Below w.heap.size w w') →
      Calls Try.prog 20 #[.slice A ns.length c, .agg #[.int .i64 n.kind, .int .i64 n.value, .slice A' n.kids.length c']] w (fun e w' => e = .returned (.bool (tf (KindOk ns n))) ∧ Below w.heap.size w w') := by
    intro h hc
    rw [tf_false h]
    exact hc
  have yes : KindOk ns n → Calls Try.prog 20 #[.slice A ns.length c, .agg #[.int .i64 n.kind, .int .i64 n.value, .slice A' n.kids.length c']] w (fun e w' => e = .returned (.bool true) ∧ Below w.heap.size w w') →
      Calls Try.prog 20 #[.slice A ns.length c, .agg #[.int .i64 n.kind, .int .i64 n.value, .slice A' n.kids.length c']] w (fun e w' => e = .returned (.bool (tf (KindOk ns n))) ∧ Below w.heap.size w w') := by
    intro h hc
    rw [tf_true h]
    exact hc
  by_cases hkk : 0 ≤ n.kind ∧ n.kind ≤ 5
  · have hcases : n.kind = 0 ∨ n.kind = 1 ∨ n.kind = 2 ∨ n.kind = 3 ∨ n.kind = 4 ∨ n.kind = 5 := by omega
    rcases hcases with hkd | hkd | hkd | hkd | hkd | hkd
    · by_cases hv : 0 ≤ n.value ∧ n.value ≤ 999
      · by_cases hl : n.kids.length = 0
        · exact yes (.inl ⟨hkd, hv.1, hv.2, hl⟩) (fk_0_yes A ns c A' n c' w hr hk h6 hin hkd hv.1 hv.2 hl)
        · exact no (fun h => by unfold KindOk at h; omega) (fk_0_len A ns c A' n c' w hr hk h6 hin hkd hv.1 hv.2 hl)
      · exact no (fun h => by unfold KindOk at h; omega) (fk_0_no A ns c A' n c' w hr hk h6 hin hkd (by omega))
    · by_cases hv : 0 ≤ n.value ∧ n.value ≤ 9
      · by_cases hl : n.kids.length = 0
        · exact yes (.inr (.inl ⟨hkd, hv.1, hv.2, hl⟩)) (fk_1_yes A ns c A' n c' w hr hk h6 hin hkd hv.1 hv.2 hl)
        · exact no (fun h => by unfold KindOk at h; omega) (fk_1_len A ns c A' n c' w hr hk h6 hin hkd hv.1 hv.2 hl)
      · exact no (fun h => by unfold KindOk at h; omega) (fk_1_no A ns c A' n c' w hr hk h6 hin hkd (by omega))
    · by_cases hv : n.value = 0
      · exact yes (.inr (.inr (.inl ⟨hkd, hv⟩))) (fk_2_true A ns c A' n c' w hr hk h6 hin hkd hv)
      · exact no (fun h => by unfold KindOk at h; omega) (fk_2_false A ns c A' n c' w hr hk h6 hin hkd hv)
    · by_cases hv : n.value = 0
      · exact yes (.inr (.inr (.inr (.inl ⟨hkd, hv⟩)))) (fk_3_true A ns c A' n c' w hr hk h6 hin hkd hv)
      · exact no (fun h => by unfold KindOk at h; omega) (fk_3_false A ns c A' n c' w hr hk h6 hin hkd hv)
    · by_cases hv : n.value = 0
      · by_cases hp : PairsOk ns n.kids
        · have := fk_4_dict A ns c A' n c' w hr hk h6 hin hkd hv hp
          rw [tf_congr (show DictOk ns n.kids ↔ KindOk ns n from ⟨fun h => .inr (.inr (.inr (.inr (.inl ⟨hkd, hv, h⟩)))), fun h => by
            rcases h with h | h | h | h | h | h
            · omega
            · omega
            · omega
            · omega
            · exact h.2.2
            · omega⟩)] at this
          exact this
        · exact no (fun h => by
            rcases h with h | h | h | h | h | h
            · omega
            · omega
            · omega
            · omega
            · exact hp ⟨h.2.2.even, h.2.2.key⟩
            · omega) (fk_4_odd A ns c A' n c' w hr hk h6 hin hkd hv hp)
      · exact no (fun h => by unfold KindOk at h; omega) (fk_4_val A ns c A' n c' w hr hk h6 hin hkd hv)
    · by_cases hv : 0 ≤ n.value ∧ n.value ≤ 9
      · by_cases hl : n.kids.length ≤ 1
        · exact yes (.inr (.inr (.inr (.inr (.inr ⟨hkd, hv.1, hv.2, hl⟩))))) (fk_5_yes A ns c A' n c' w hr hk h6 hin hkd hv.1 hv.2 hl)
        · exact no (fun h => by unfold KindOk at h; omega) (fk_5_len A ns c A' n c' w hr hk h6 hin hkd hv.1 hv.2 (by omega))
      · exact no (fun h => by unfold KindOk at h; omega) (fk_5_no A ns c A' n c' w hr hk h6 hin hkd (by omega))
  · exact no (fun h => by unfold KindOk at h; omega) (fk_other A ns c A' n c' w hr hk h6 hin (by omega))

end Go.Proofs.Ythgklkpfmjgeoaa
