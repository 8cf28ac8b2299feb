import Derived.Test.YtbihgafkmmcjlaaDoorPjAi
namespace Go.Proofs.YtbihgafkmmcjlaaDoor
open Go.RowKit
set_option linter.unusedVariables false
def KindOk (ns : List Nd) (n : Nd) : Prop :=
  (n.kind = 0 ∧ 0 ≤ n.value ∧ n.value ≤ 999 ∧ n.kids.length = 0) ∨ (n.kind = 1 ∧ 0 ≤ n.value ∧ n.value ≤ 9 ∧ n.kids.length = 0) ∨ (n.kind = 2 ∧ n.value = 0) ∨ (n.kind = 3 ∧ n.value = 0) ∨
    (n.kind = 4 ∧ n.value = 0 ∧ DictOk ns n.kids) ∨ (n.kind = 5 ∧ 0 ≤ n.value ∧ n.value ≤ 9 ∧ n.kids.length ≤ 1)
structure NodeOk (ns : List Nd) (n : Nd) : Prop where
  few : n.kids.length ≤ 6
  inn : InG ns n.kids
  kind : KindOk ns n
theorem allIn_iff (ns : List Nd) (kids : List Int) : AllIn kids 0 ((ns.length : Int) - 1) ↔ InG ns kids :=
  ⟨fun h x hx => by have := h x hx; omega, fun h x hx => by have := h x hx; omega⟩
set_option maxHeartbeats 400000 in
theorem vn_long (A : Option Addr) (ns : List Nd) (c : Nat) (r : Int) (A' : Option Addr) (n : Nd) (c' : Nat) (w : World) (hr : NdsAt w w.heap.size A ns) (hk : IntsAt w w.heap.size A' n.kids) (h6 : 6 < n.kids.length) :
    Calls Tryd.prog 67 #[.agg #[.slice A ns.length c, .int .i64 r], .agg #[.int .i64 n.kind, .int .i64 n.value, .slice A' n.kids.length c']] w fun e w' =>
      e = .returned (.bool false) ∧ Below w.heap.size w w' := by
  have hnl := hr.len
  have hB : Below w.heap.size w ((w.alloc (.cells #[.slice A ns.length c, .int .i64 r] 49)).alloc (.cells #[.int .i64 n.kind, .int .i64 n.value, .slice A' n.kids.length c'] 73)) :=
    ((Below.refl _ _).alloc (Nat.le_refl _) _).alloc (by simp) _
  have t : (6 : Int) < (n.kids.length : Int) := by omega
  clear hr hk h6
  go_enter Tryd.func67, Tryd.ntmps67
  go_wp2
  go_ret
  exact ⟨rfl, hB⟩
set_option maxHeartbeats 400000 in
theorem vn_out (A : Option Addr) (ns : List Nd) (c : Nat) (r : Int) (A' : Option Addr) (n : Nd) (c' : Nat) (w : World) (hr : NdsAt w w.heap.size A ns) (hk : IntsAt w w.heap.size A' n.kids) (h6 : n.kids.length ≤ 6) (hno : ¬ InG ns n.kids) :
    Calls Tryd.prog 67 #[.agg #[.slice A ns.length c, .int .i64 r], .agg #[.int .i64 n.kind, .int .i64 n.value, .slice A' n.kids.length c']] w fun e w' =>
      e = .returned (.bool false) ∧ Below w.heap.size w w' := by
  have hnl := hr.len
  have hB : Below w.heap.size w ((w.alloc (.cells #[.slice A ns.length c, .int .i64 r] 49)).alloc (.cells #[.int .i64 n.kind, .int .i64 n.value, .slice A' n.kids.length c'] 73)) :=
    ((Below.refl _ _).alloc (Nat.le_refl _) _).alloc (by simp) _
  have hk2 := hk.later hB (Nat.le_refl _)
  have hr2 := hr.later hB (Nat.le_refl _)
  have t6 : (n.kids.length : Int) ≤ 6 := by omega
  have ta := tf_false (fun h => hno ((allIn_iff ns n.kids).1 h))
  clear hr hk
  clear hno
  go_enter Tryd.func67, Tryd.ntmps67
  go_wp2_with fail
  refine (allIn_any A' n.kids c' 0 ((ns.length : Int) - 1) _ hk2).mono ?_
  rintro e w' ⟨rfl, rfl⟩
  rw [ta]
  go_wp2
  go_ret
  exact ⟨rfl, hB⟩
set_option maxHeartbeats 400000 in
theorem vn_0_yes (A : Option Addr) (ns : List Nd) (c : Nat) (r : Int) (A' : Option Addr) (n : Nd) (c' : Nat) (w : World) (hr : NdsAt w w.heap.size A ns) (hk : IntsAt w w.heap.size A' n.kids) (h6 : n.kids.length ≤ 6) (hin : InG ns n.kids) (hkind : n.kind = 0) (hv0 : 0 ≤ n.value) (hv1 : n.value ≤ 999) (hl : n.kids.length = 0) :
    Calls Tryd.prog 67 #[.agg #[.slice A ns.length c, .int .i64 r], .agg #[.int .i64 n.kind, .int .i64 n.value, .slice A' n.kids.length c']] w fun e w' =>
      e = .returned (.bool true) ∧ Below w.heap.size w w' := by
  have hnl := hr.len
  have hB : Below w.heap.size w ((w.alloc (.cells #[.slice A ns.length c, .int .i64 r] 49)).alloc (.cells #[.int .i64 n.kind, .int .i64 n.value, .slice A' n.kids.length c'] 73)) :=
    ((Below.refl _ _).alloc (Nat.le_refl _) _).alloc (by simp) _
  have hk2 := hk.later hB (Nat.le_refl _)
  have hr2 := hr.later hB (Nat.le_refl _)
  have t6 : (n.kids.length : Int) ≤ 6 := by omega
  have ta := tf_true ((allIn_iff ns n.kids).2 hin)
  clear hr hk
  have k0 : (n.kind == 0) = true := by rw [hkind]; rfl
  have tl : ((n.kids.length : Int) == 0) = true := by rw [beq_iff_eq]; omega
  clear hkind hl
  go_enter Tryd.func67, Tryd.ntmps67
  go_wp2_with fail
  refine (allIn_any A' n.kids c' 0 ((ns.length : Int) - 1) _ hk2).mono ?_
  rintro e w' ⟨rfl, rfl⟩
  rw [ta]
  go_wp2_with fail
  refine (inRange_yes n.value 0 999 _ hv0 hv1).mono ?_
  rintro e w' ⟨rfl, rfl⟩
  go_wp2
  go_ret
  exact ⟨rfl, hB⟩
set_option maxHeartbeats 400000 in
theorem vn_0_len (A : Option Addr) (ns : List Nd) (c : Nat) (r : Int) (A' : Option Addr) (n : Nd) (c' : Nat) (w : World) (hr : NdsAt w w.heap.size A ns) (hk : IntsAt w w.heap.size A' n.kids) (h6 : n.kids.length ≤ 6) (hin : InG ns n.kids) (hkind : n.kind = 0) (hv0 : 0 ≤ n.value) (hv1 : n.value ≤ 999) (hl : n.kids.length ≠ 0) :
    Calls Tryd.prog 67 #[.agg #[.slice A ns.length c, .int .i64 r], .agg #[.int .i64 n.kind, .int .i64 n.value, .slice A' n.kids.length c']] w fun e w' =>
      e = .returned (.bool false) ∧ Below w.heap.size w w' := by
  have hnl := hr.len
  have hB : Below w.heap.size w ((w.alloc (.cells #[.slice A ns.length c, .int .i64 r] 49)).alloc (.cells #[.int .i64 n.kind, .int .i64 n.value, .slice A' n.kids.length c'] 73)) :=
    ((Below.refl _ _).alloc (Nat.le_refl _) _).alloc (by simp) _
  have hk2 := hk.later hB (Nat.le_refl _)
  have hr2 := hr.later hB (Nat.le_refl _)
  have t6 : (n.kids.length : Int) ≤ 6 := by omega
  have ta := tf_true ((allIn_iff ns n.kids).2 hin)
  clear hr hk
  have k0 : (n.kind == 0) = true := by rw [hkind]; rfl
  have tl : ((n.kids.length : Int) == 0) = false := by rw [beq_eq_false_iff_ne]; omega
  clear hkind hl
  go_enter Tryd.func67, Tryd.ntmps67
  go_wp2_with fail
  refine (allIn_any A' n.kids c' 0 ((ns.length : Int) - 1) _ hk2).mono ?_
  rintro e w' ⟨rfl, rfl⟩
  rw [ta]
  go_wp2_with fail
  refine (inRange_yes n.value 0 999 _ hv0 hv1).mono ?_
  rintro e w' ⟨rfl, rfl⟩
  go_wp2
  go_ret
  exact ⟨rfl, hB⟩
set_option maxHeartbeats 400000 in
theorem vn_0_no (A : Option Addr) (ns : List Nd) (c : Nat) (r : Int) (A' : Option Addr) (n : Nd) (c' : Nat) (w : World) (hr : NdsAt w w.heap.size A ns) (hk : IntsAt w w.heap.size A' n.kids) (h6 : n.kids.length ≤ 6) (hin : InG ns n.kids) (hkind : n.kind = 0) (hv : n.value < 0 ∨ 999 < n.value) :
    Calls Tryd.prog 67 #[.agg #[.slice A ns.length c, .int .i64 r], .agg #[.int .i64 n.kind, .int .i64 n.value, .slice A' n.kids.length c']] w fun e w' =>
      e = .returned (.bool false) ∧ Below w.heap.size w w' := by
  have hnl := hr.len
  have hB : Below w.heap.size w ((w.alloc (.cells #[.slice A ns.length c, .int .i64 r] 49)).alloc (.cells #[.int .i64 n.kind, .int .i64 n.value, .slice A' n.kids.length c'] 73)) :=
    ((Below.refl _ _).alloc (Nat.le_refl _) _).alloc (by simp) _
  have hk2 := hk.later hB (Nat.le_refl _)
  have hr2 := hr.later hB (Nat.le_refl _)
  have t6 : (n.kids.length : Int) ≤ 6 := by omega
  have ta := tf_true ((allIn_iff ns n.kids).2 hin)
  clear hr hk
  have k0 : (n.kind == 0) = true := by rw [hkind]; rfl
  clear hkind
  go_enter Tryd.func67, Tryd.ntmps67
  go_wp2_with fail
  refine (allIn_any A' n.kids c' 0 ((ns.length : Int) - 1) _ hk2).mono ?_
  rintro e w' ⟨rfl, rfl⟩
  rw [ta]
  go_wp2_with fail
  refine (inRange_no n.value 0 999 _ hv).mono ?_
  rintro e w' ⟨rfl, rfl⟩
  go_wp2
  go_ret
  exact ⟨rfl, hB⟩
set_option maxHeartbeats 400000 in
theorem vn_1_yes (A : Option Addr) (ns : List Nd) (c : Nat) (r : Int) (A' : Option Addr) (n : Nd) (c' : Nat) (w : World) (hr : NdsAt w w.heap.size A ns) (hk : IntsAt w w.heap.size A' n.kids) (h6 : n.kids.length ≤ 6) (hin : InG ns n.kids) (hkind : n.kind = 1) (hv0 : 0 ≤ n.value) (hv1 : n.value ≤ 9) (hl : n.kids.length = 0) :
    Calls Tryd.prog 67 #[.agg #[.slice A ns.length c, .int .i64 r], .agg #[.int .i64 n.kind, .int .i64 n.value, .slice A' n.kids.length c']] w fun e w' =>
      e = .returned (.bool true) ∧ Below w.heap.size w w' := by
  have hnl := hr.len
  have hB : Below w.heap.size w ((w.alloc (.cells #[.slice A ns.length c, .int .i64 r] 49)).alloc (.cells #[.int .i64 n.kind, .int .i64 n.value, .slice A' n.kids.length c'] 73)) :=
    ((Below.refl _ _).alloc (Nat.le_refl _) _).alloc (by simp) _
  have hk2 := hk.later hB (Nat.le_refl _)
  have hr2 := hr.later hB (Nat.le_refl _)
  have t6 : (n.kids.length : Int) ≤ 6 := by omega
  have ta := tf_true ((allIn_iff ns n.kids).2 hin)
  clear hr hk
  have k0 : (n.kind == 0) = false := by rw [hkind]; rfl
  have k1 : (n.kind == 1) = true := by rw [hkind]; rfl
  have tl : ((n.kids.length : Int) == 0) = true := by rw [beq_iff_eq]; omega
  clear hkind hl
  go_enter Tryd.func67, Tryd.ntmps67
  go_wp2_with fail
  refine (allIn_any A' n.kids c' 0 ((ns.length : Int) - 1) _ hk2).mono ?_
  rintro e w' ⟨rfl, rfl⟩
  rw [ta]
  go_wp2_with fail
  refine (inRange_yes n.value 0 9 _ hv0 hv1).mono ?_
  rintro e w' ⟨rfl, rfl⟩
  go_wp2
  go_ret
  exact ⟨rfl, hB⟩
set_option maxHeartbeats 400000 in
theorem vn_1_len (A : Option Addr) (ns : List Nd) (c : Nat) (r : Int) (A' : Option Addr) (n : Nd) (c' : Nat) (w : World) (hr : NdsAt w w.heap.size A ns) (hk : IntsAt w w.heap.size A' n.kids) (h6 : n.kids.length ≤ 6) (hin : InG ns n.kids) (hkind : n.kind = 1) (hv0 : 0 ≤ n.value) (hv1 : n.value ≤ 9) (hl : n.kids.length ≠ 0) :
    Calls Tryd.prog 67 #[.agg #[.slice A ns.length c, .int .i64 r], .agg #[.int .i64 n.kind, .int .i64 n.value, .slice A' n.kids.length c']] w fun e w' =>
      e = .returned (.bool false) ∧ Below w.heap.size w w' := by
  have hnl := hr.len
  have hB : Below w.heap.size w ((w.alloc (.cells #[.slice A ns.length c, .int .i64 r] 49)).alloc (.cells #[.int .i64 n.kind, .int .i64 n.value, .slice A' n.kids.length c'] 73)) :=
    ((Below.refl _ _).alloc (Nat.le_refl _) _).alloc (by simp) _
  have hk2 := hk.later hB (Nat.le_refl _)
  have hr2 := hr.later hB (Nat.le_refl _)
  have t6 : (n.kids.length : Int) ≤ 6 := by omega
  have ta := tf_true ((allIn_iff ns n.kids).2 hin)
  clear hr hk
  have k0 : (n.kind == 0) = false := by rw [hkind]; rfl
  have k1 : (n.kind == 1) = true := by rw [hkind]; rfl
  have tl : ((n.kids.length : Int) == 0) = false := by rw [beq_eq_false_iff_ne]; omega
  clear hkind hl
  go_enter Tryd.func67, Tryd.ntmps67
  go_wp2_with fail
  refine (allIn_any A' n.kids c' 0 ((ns.length : Int) - 1) _ hk2).mono ?_
  rintro e w' ⟨rfl, rfl⟩
  rw [ta]
  go_wp2_with fail
  refine (inRange_yes n.value 0 9 _ hv0 hv1).mono ?_
  rintro e w' ⟨rfl, rfl⟩
  go_wp2
  go_ret
  exact ⟨rfl, hB⟩
set_option maxHeartbeats 400000 in
theorem vn_1_no (A : Option Addr) (ns : List Nd) (c : Nat) (r : Int) (A' : Option Addr) (n : Nd) (c' : Nat) (w : World) (hr : NdsAt w w.heap.size A ns) (hk : IntsAt w w.heap.size A' n.kids) (h6 : n.kids.length ≤ 6) (hin : InG ns n.kids) (hkind : n.kind = 1) (hv : n.value < 0 ∨ 9 < n.value) :
    Calls Tryd.prog 67 #[.agg #[.slice A ns.length c, .int .i64 r], .agg #[.int .i64 n.kind, .int .i64 n.value, .slice A' n.kids.length c']] w fun e w' =>
      e = .returned (.bool false) ∧ Below w.heap.size w w' := by
  have hnl := hr.len
  have hB : Below w.heap.size w ((w.alloc (.cells #[.slice A ns.length c, .int .i64 r] 49)).alloc (.cells #[.int .i64 n.kind, .int .i64 n.value, .slice A' n.kids.length c'] 73)) :=
    ((Below.refl _ _).alloc (Nat.le_refl _) _).alloc (by simp) _
  have hk2 := hk.later hB (Nat.le_refl _)
  have hr2 := hr.later hB (Nat.le_refl _)
  have t6 : (n.kids.length : Int) ≤ 6 := by omega
  have ta := tf_true ((allIn_iff ns n.kids).2 hin)
  clear hr hk
  have k0 : (n.kind == 0) = false := by rw [hkind]; rfl
  have k1 : (n.kind == 1) = true := by rw [hkind]; rfl
  clear hkind
  go_enter Tryd.func67, Tryd.ntmps67
  go_wp2_with fail
  refine (allIn_any A' n.kids c' 0 ((ns.length : Int) - 1) _ hk2).mono ?_
  rintro e w' ⟨rfl, rfl⟩
  rw [ta]
  go_wp2_with fail
  refine (inRange_no n.value 0 9 _ hv).mono ?_
  rintro e w' ⟨rfl, rfl⟩
  go_wp2
  go_ret
  exact ⟨rfl, hB⟩
set_option maxHeartbeats 400000 in
theorem vn_2_true (A : Option Addr) (ns : List Nd) (c : Nat) (r : Int) (A' : Option Addr) (n : Nd) (c' : Nat) (w : World) (hr : NdsAt w w.heap.size A ns) (hk : IntsAt w w.heap.size A' n.kids) (h6 : n.kids.length ≤ 6) (hin : InG ns n.kids) (hkind : n.kind = 2) (hv : n.value = 0) :
    Calls Tryd.prog 67 #[.agg #[.slice A ns.length c, .int .i64 r], .agg #[.int .i64 n.kind, .int .i64 n.value, .slice A' n.kids.length c']] w fun e w' =>
      e = .returned (.bool true) ∧ Below w.heap.size w w' := by
  have hnl := hr.len
  have hB : Below w.heap.size w ((w.alloc (.cells #[.slice A ns.length c, .int .i64 r] 49)).alloc (.cells #[.int .i64 n.kind, .int .i64 n.value, .slice A' n.kids.length c'] 73)) :=
    ((Below.refl _ _).alloc (Nat.le_refl _) _).alloc (by simp) _
  have hk2 := hk.later hB (Nat.le_refl _)
  have hr2 := hr.later hB (Nat.le_refl _)
  have t6 : (n.kids.length : Int) ≤ 6 := by omega
  have ta := tf_true ((allIn_iff ns n.kids).2 hin)
  clear hr hk
  have k0 : (n.kind == 0) = false := by rw [hkind]; rfl
  have k1 : (n.kind == 1) = false := by rw [hkind]; rfl
  have k2 : (n.kind == 2) = true := by rw [hkind]; rfl
  have tv : (n.value == 0) = true := by rw [beq_iff_eq]; exact hv
  clear hkind hv
  go_enter Tryd.func67, Tryd.ntmps67
  go_wp2_with fail
  refine (allIn_any A' n.kids c' 0 ((ns.length : Int) - 1) _ hk2).mono ?_
  rintro e w' ⟨rfl, rfl⟩
  rw [ta]
  go_wp2
  go_ret
  exact ⟨rfl, hB⟩
set_option maxHeartbeats 400000 in
theorem vn_2_false (A : Option Addr) (ns : List Nd) (c : Nat) (r : Int) (A' : Option Addr) (n : Nd) (c' : Nat) (w : World) (hr : NdsAt w w.heap.size A ns) (hk : IntsAt w w.heap.size A' n.kids) (h6 : n.kids.length ≤ 6) (hin : InG ns n.kids) (hkind : n.kind = 2) (hv : n.value ≠ 0) :
    Calls Tryd.prog 67 #[.agg #[.slice A ns.length c, .int .i64 r], .agg #[.int .i64 n.kind, .int .i64 n.value, .slice A' n.kids.length c']] w fun e w' =>
      e = .returned (.bool false) ∧ Below w.heap.size w w' := by
  have hnl := hr.len
  have hB : Below w.heap.size w ((w.alloc (.cells #[.slice A ns.length c, .int .i64 r] 49)).alloc (.cells #[.int .i64 n.kind, .int .i64 n.value, .slice A' n.kids.length c'] 73)) :=
    ((Below.refl _ _).alloc (Nat.le_refl _) _).alloc (by simp) _
  have hk2 := hk.later hB (Nat.le_refl _)
  have hr2 := hr.later hB (Nat.le_refl _)
  have t6 : (n.kids.length : Int) ≤ 6 := by omega
  have ta := tf_true ((allIn_iff ns n.kids).2 hin)
  clear hr hk
  have k0 : (n.kind == 0) = false := by rw [hkind]; rfl
  have k1 : (n.kind == 1) = false := by rw [hkind]; rfl
  have k2 : (n.kind == 2) = true := by rw [hkind]; rfl
  have tv : (n.value == 0) = false := by rw [beq_eq_false_iff_ne]; exact hv
  clear hkind hv
  go_enter Tryd.func67, Tryd.ntmps67
  go_wp2_with fail
  refine (allIn_any A' n.kids c' 0 ((ns.length : Int) - 1) _ hk2).mono ?_
  rintro e w' ⟨rfl, rfl⟩
  rw [ta]
  go_wp2
  go_ret
  exact ⟨rfl, hB⟩
set_option maxHeartbeats 400000 in
theorem vn_3_true (A : Option Addr) (ns : List Nd) (c : Nat) (r : Int) (A' : Option Addr) (n : Nd) (c' : Nat) (w : World) (hr : NdsAt w w.heap.size A ns) (hk : IntsAt w w.heap.size A' n.kids) (h6 : n.kids.length ≤ 6) (hin : InG ns n.kids) (hkind : n.kind = 3) (hv : n.value = 0) :
    Calls Tryd.prog 67 #[.agg #[.slice A ns.length c, .int .i64 r], .agg #[.int .i64 n.kind, .int .i64 n.value, .slice A' n.kids.length c']] w fun e w' =>
      e = .returned (.bool true) ∧ Below w.heap.size w w' := by
  have hnl := hr.len
  have hB : Below w.heap.size w ((w.alloc (.cells #[.slice A ns.length c, .int .i64 r] 49)).alloc (.cells #[.int .i64 n.kind, .int .i64 n.value, .slice A' n.kids.length c'] 73)) :=
    ((Below.refl _ _).alloc (Nat.le_refl _) _).alloc (by simp) _
  have hk2 := hk.later hB (Nat.le_refl _)
  have hr2 := hr.later hB (Nat.le_refl _)
  have t6 : (n.kids.length : Int) ≤ 6 := by omega
  have ta := tf_true ((allIn_iff ns n.kids).2 hin)
  clear hr hk
  have k0 : (n.kind == 0) = false := by rw [hkind]; rfl
  have k1 : (n.kind == 1) = false := by rw [hkind]; rfl
  have k2 : (n.kind == 2) = false := by rw [hkind]; rfl
  have k3 : (n.kind == 3) = true := by rw [hkind]; rfl
  have tv : (n.value == 0) = true := by rw [beq_iff_eq]; exact hv
  clear hkind hv
  go_enter Tryd.func67, Tryd.ntmps67
  go_wp2_with fail
  refine (allIn_any A' n.kids c' 0 ((ns.length : Int) - 1) _ hk2).mono ?_
  rintro e w' ⟨rfl, rfl⟩
  rw [ta]
  go_wp2
  go_ret
  exact ⟨rfl, hB⟩
set_option maxHeartbeats 400000 in
theorem vn_3_false (A : Option Addr) (ns : List Nd) (c : Nat) (r : Int) (A' : Option Addr) (n : Nd) (c' : Nat) (w : World) (hr : NdsAt w w.heap.size A ns) (hk : IntsAt w w.heap.size A' n.kids) (h6 : n.kids.length ≤ 6) (hin : InG ns n.kids) (hkind : n.kind = 3) (hv : n.value ≠ 0) :
    Calls Tryd.prog 67 #[.agg #[.slice A ns.length c, .int .i64 r], .agg #[.int .i64 n.kind, .int .i64 n.value, .slice A' n.kids.length c']] w fun e w' =>
      e = .returned (.bool false) ∧ Below w.heap.size w w' := by
  have hnl := hr.len
  have hB : Below w.heap.size w ((w.alloc (.cells #[.slice A ns.length c, .int .i64 r] 49)).alloc (.cells #[.int .i64 n.kind, .int .i64 n.value, .slice A' n.kids.length c'] 73)) :=
    ((Below.refl _ _).alloc (Nat.le_refl _) _).alloc (by simp) _
  have hk2 := hk.later hB (Nat.le_refl _)
  have hr2 := hr.later hB (Nat.le_refl _)
  have t6 : (n.kids.length : Int) ≤ 6 := by omega
  have ta := tf_true ((allIn_iff ns n.kids).2 hin)
  clear hr hk
  have k0 : (n.kind == 0) = false := by rw [hkind]; rfl
  have k1 : (n.kind == 1) = false := by rw [hkind]; rfl
  have k2 : (n.kind == 2) = false := by rw [hkind]; rfl
  have k3 : (n.kind == 3) = true := by rw [hkind]; rfl
  have tv : (n.value == 0) = false := by rw [beq_eq_false_iff_ne]; exact hv
  clear hkind hv
  go_enter Tryd.func67, Tryd.ntmps67
  go_wp2_with fail
  refine (allIn_any A' n.kids c' 0 ((ns.length : Int) - 1) _ hk2).mono ?_
  rintro e w' ⟨rfl, rfl⟩
  rw [ta]
  go_wp2
  go_ret
  exact ⟨rfl, hB⟩
set_option maxHeartbeats 400000 in
theorem vn_4_val (A : Option Addr) (ns : List Nd) (c : Nat) (r : Int) (A' : Option Addr) (n : Nd) (c' : Nat) (w : World) (hr : NdsAt w w.heap.size A ns) (hk : IntsAt w w.heap.size A' n.kids) (h6 : n.kids.length ≤ 6) (hin : InG ns n.kids) (hkind : n.kind = 4) (hv : n.value ≠ 0) :
    Calls Tryd.prog 67 #[.agg #[.slice A ns.length c, .int .i64 r], .agg #[.int .i64 n.kind, .int .i64 n.value, .slice A' n.kids.length c']] w fun e w' =>
      e = .returned (.bool false) ∧ Below w.heap.size w w' := by
  have hnl := hr.len
  have hB : Below w.heap.size w ((w.alloc (.cells #[.slice A ns.length c, .int .i64 r] 49)).alloc (.cells #[.int .i64 n.kind, .int .i64 n.value, .slice A' n.kids.length c'] 73)) :=
    ((Below.refl _ _).alloc (Nat.le_refl _) _).alloc (by simp) _
  have hk2 := hk.later hB (Nat.le_refl _)
  have hr2 := hr.later hB (Nat.le_refl _)
  have t6 : (n.kids.length : Int) ≤ 6 := by omega
  have ta := tf_true ((allIn_iff ns n.kids).2 hin)
  clear hr hk
  have k0 : (n.kind == 0) = false := by rw [hkind]; rfl
  have k1 : (n.kind == 1) = false := by rw [hkind]; rfl
  have k2 : (n.kind == 2) = false := by rw [hkind]; rfl
  have k3 : (n.kind == 3) = false := by rw [hkind]; rfl
  have k4 : (n.kind == 4) = true := by rw [hkind]; rfl
  have tv : (n.value == 0) = false := by rw [beq_eq_false_iff_ne]; exact hv
  clear hkind hv
  go_enter Tryd.func67, Tryd.ntmps67
  go_wp2_with fail
  refine (allIn_any A' n.kids c' 0 ((ns.length : Int) - 1) _ hk2).mono ?_
  rintro e w' ⟨rfl, rfl⟩
  rw [ta]
  go_wp2
  go_ret
  exact ⟨rfl, hB⟩
set_option maxHeartbeats 1000000 in
theorem vn_4_dict (A : Option Addr) (ns : List Nd) (c : Nat) (r : Int) (A' : Option Addr) (n : Nd) (c' : Nat) (w : World) (hr : NdsAt w w.heap.size A ns) (hk : IntsAt w w.heap.size A' n.kids) (h6 : n.kids.length ≤ 6) (hin : InG ns n.kids) (hkind : n.kind = 4) (hv : n.value = 0) :
    Calls Tryd.prog 67 #[.agg #[.slice A ns.length c, .int .i64 r], .agg #[.int .i64 n.kind, .int .i64 n.value, .slice A' n.kids.length c']] w fun e w' =>
      e = .returned (.bool (tf (DictOk ns n.kids))) ∧ Below w.heap.size w w' := by
  have hnl := hr.len
  have hB : Below w.heap.size w ((w.alloc (.cells #[.slice A ns.length c, .int .i64 r] 49)).alloc (.cells #[.int .i64 n.kind, .int .i64 n.value, .slice A' n.kids.length c'] 73)) :=
    ((Below.refl _ _).alloc (Nat.le_refl _) _).alloc (by simp) _
  have hk2 := hk.later hB (Nat.le_refl _)
  have hr2 := hr.later hB (Nat.le_refl _)
  have t6 : (n.kids.length : Int) ≤ 6 := by omega
  have ta := tf_true ((allIn_iff ns n.kids).2 hin)
  clear hr hk
  have k0 : (n.kind == 0) = false := by rw [hkind]; rfl
  have k1 : (n.kind == 1) = false := by rw [hkind]; rfl
  have k2 : (n.kind == 2) = false := by rw [hkind]; rfl
  have k3 : (n.kind == 3) = false := by rw [hkind]; rfl
  have k4 : (n.kind == 4) = true := by rw [hkind]; rfl
  have tv : (n.value == 0) = true := by rw [beq_iff_eq]; exact hv
  clear hkind hv
  go_enter Tryd.func67, Tryd.ntmps67
  go_wp2_with fail
  refine (allIn_any A' n.kids c' 0 ((ns.length : Int) - 1) _ hk2).mono ?_
  rintro e w' ⟨rfl, rfl⟩
  rw [ta]
  go_wp2_with fail
  refine (validDict_any A ns c r A' n c' _ hr2 hk2 hin (by omega)).mono ?_
  rintro e w' ⟨rfl, hb⟩
  generalize hx : tf (DictOk ns n.kids) = x
  have Hx := hide hx
  clear hx
  go_wp2
  go_ret
  exact ⟨ret_bool Hx.out.symm, hB.trans (hb.mono hB.size)⟩
set_option maxHeartbeats 400000 in
theorem vn_5_yes (A : Option Addr) (ns : List Nd) (c : Nat) (r : Int) (A' : Option Addr) (n : Nd) (c' : Nat) (w : World) (hr : NdsAt w w.heap.size A ns) (hk : IntsAt w w.heap.size A' n.kids) (h6 : n.kids.length ≤ 6) (hin : InG ns n.kids) (hkind : n.kind = 5) (hv0 : 0 ≤ n.value) (hv1 : n.value ≤ 9) (hl : n.kids.length ≤ 1) :
    Calls Tryd.prog 67 #[.agg #[.slice A ns.length c, .int .i64 r], .agg #[.int .i64 n.kind, .int .i64 n.value, .slice A' n.kids.length c']] w fun e w' =>
      e = .returned (.bool true) ∧ Below w.heap.size w w' := by
  have hnl := hr.len
  have hB : Below w.heap.size w ((w.alloc (.cells #[.slice A ns.length c, .int .i64 r] 49)).alloc (.cells #[.int .i64 n.kind, .int .i64 n.value, .slice A' n.kids.length c'] 73)) :=
    ((Below.refl _ _).alloc (Nat.le_refl _) _).alloc (by simp) _
  have hk2 := hk.later hB (Nat.le_refl _)
  have hr2 := hr.later hB (Nat.le_refl _)
  have t6 : (n.kids.length : Int) ≤ 6 := by omega
  have ta := tf_true ((allIn_iff ns n.kids).2 hin)
  clear hr hk
  have k0 : (n.kind == 0) = false := by rw [hkind]; rfl
  have k1 : (n.kind == 1) = false := by rw [hkind]; rfl
  have k2 : (n.kind == 2) = false := by rw [hkind]; rfl
  have k3 : (n.kind == 3) = false := by rw [hkind]; rfl
  have k4 : (n.kind == 4) = false := by rw [hkind]; rfl
  have k5 : (n.kind == 5) = true := by rw [hkind]; rfl
  have tl : decide ((n.kids.length : Int) ≤ 1) = true := by simp; omega
  clear hkind hl
  go_enter Tryd.func67, Tryd.ntmps67
  go_wp2_with fail
  refine (allIn_any A' n.kids c' 0 ((ns.length : Int) - 1) _ hk2).mono ?_
  rintro e w' ⟨rfl, rfl⟩
  rw [ta]
  go_wp2_with fail
  refine (inRange_yes n.value 0 9 _ hv0 hv1).mono ?_
  rintro e w' ⟨rfl, rfl⟩
  go_wp2
  go_ret
  exact ⟨rfl, hB⟩
set_option maxHeartbeats 400000 in
theorem vn_5_len (A : Option Addr) (ns : List Nd) (c : Nat) (r : Int) (A' : Option Addr) (n : Nd) (c' : Nat) (w : World) (hr : NdsAt w w.heap.size A ns) (hk : IntsAt w w.heap.size A' n.kids) (h6 : n.kids.length ≤ 6) (hin : InG ns n.kids) (hkind : n.kind = 5) (hv0 : 0 ≤ n.value) (hv1 : n.value ≤ 9) (hl : 1 < n.kids.length) :
    Calls Tryd.prog 67 #[.agg #[.slice A ns.length c, .int .i64 r], .agg #[.int .i64 n.kind, .int .i64 n.value, .slice A' n.kids.length c']] w fun e w' =>
      e = .returned (.bool false) ∧ Below w.heap.size w w' := by
  have hnl := hr.len
  have hB : Below w.heap.size w ((w.alloc (.cells #[.slice A ns.length c, .int .i64 r] 49)).alloc (.cells #[.int .i64 n.kind, .int .i64 n.value, .slice A' n.kids.length c'] 73)) :=
    ((Below.refl _ _).alloc (Nat.le_refl _) _).alloc (by simp) _
  have hk2 := hk.later hB (Nat.le_refl _)
  have hr2 := hr.later hB (Nat.le_refl _)
  have t6 : (n.kids.length : Int) ≤ 6 := by omega
  have ta := tf_true ((allIn_iff ns n.kids).2 hin)
  clear hr hk
  have k0 : (n.kind == 0) = false := by rw [hkind]; rfl
  have k1 : (n.kind == 1) = false := by rw [hkind]; rfl
  have k2 : (n.kind == 2) = false := by rw [hkind]; rfl
  have k3 : (n.kind == 3) = false := by rw [hkind]; rfl
  have k4 : (n.kind == 4) = false := by rw [hkind]; rfl
  have k5 : (n.kind == 5) = true := by rw [hkind]; rfl
  have tl : decide ((n.kids.length : Int) ≤ 1) = false := by simp; omega
  clear hkind hl
  go_enter Tryd.func67, Tryd.ntmps67
  go_wp2_with fail
  refine (allIn_any A' n.kids c' 0 ((ns.length : Int) - 1) _ hk2).mono ?_
  rintro e w' ⟨rfl, rfl⟩
  rw [ta]
  go_wp2_with fail
  refine (inRange_yes n.value 0 9 _ hv0 hv1).mono ?_
  rintro e w' ⟨rfl, rfl⟩
  go_wp2
  go_ret
  exact ⟨rfl, hB⟩
set_option maxHeartbeats 400000 in
theorem vn_5_no (A : Option Addr) (ns : List Nd) (c : Nat) (r : Int) (A' : Option Addr) (n : Nd) (c' : Nat) (w : World) (hr : NdsAt w w.heap.size A ns) (hk : IntsAt w w.heap.size A' n.kids) (h6 : n.kids.length ≤ 6) (hin : InG ns n.kids) (hkind : n.kind = 5) (hv : n.value < 0 ∨ 9 < n.value) :
    Calls Tryd.prog 67 #[.agg #[.slice A ns.length c, .int .i64 r], .agg #[.int .i64 n.kind, .int .i64 n.value, .slice A' n.kids.length c']] w fun e w' =>
      e = .returned (.bool false) ∧ Below w.heap.size w w' := by
  have hnl := hr.len
  have hB : Below w.heap.size w ((w.alloc (.cells #[.slice A ns.length c, .int .i64 r] 49)).alloc (.cells #[.int .i64 n.kind, .int .i64 n.value, .slice A' n.kids.length c'] 73)) :=
    ((Below.refl _ _).alloc (Nat.le_refl _) _).alloc (by simp) _
  have hk2 := hk.later hB (Nat.le_refl _)
  have hr2 := hr.later hB (Nat.le_refl _)
  have t6 : (n.kids.length : Int) ≤ 6 := by omega
  have ta := tf_true ((allIn_iff ns n.kids).2 hin)
  clear hr hk
  have k0 : (n.kind == 0) = false := by rw [hkind]; rfl
  have k1 : (n.kind == 1) = false := by rw [hkind]; rfl
  have k2 : (n.kind == 2) = false := by rw [hkind]; rfl
  have k3 : (n.kind == 3) = false := by rw [hkind]; rfl
  have k4 : (n.kind == 4) = false := by rw [hkind]; rfl
  have k5 : (n.kind == 5) = true := by rw [hkind]; rfl
  clear hkind
  go_enter Tryd.func67, Tryd.ntmps67
  go_wp2_with fail
  refine (allIn_any A' n.kids c' 0 ((ns.length : Int) - 1) _ hk2).mono ?_
  rintro e w' ⟨rfl, rfl⟩
  rw [ta]
  go_wp2_with fail
  refine (inRange_no n.value 0 9 _ hv).mono ?_
  rintro e w' ⟨rfl, rfl⟩
  go_wp2
  go_ret
  exact ⟨rfl, hB⟩
set_option maxHeartbeats 400000 in
theorem vn_other (A : Option Addr) (ns : List Nd) (c : Nat) (r : Int) (A' : Option Addr) (n : Nd) (c' : Nat) (w : World) (hr : NdsAt w w.heap.size A ns) (hk : IntsAt w w.heap.size A' n.kids) (h6 : n.kids.length ≤ 6) (hin : InG ns n.kids) (hkind : n.kind < 0 ∨ 5 < n.kind) :
    Calls Tryd.prog 67 #[.agg #[.slice A ns.length c, .int .i64 r], .agg #[.int .i64 n.kind, .int .i64 n.value, .slice A' n.kids.length c']] w fun e w' =>
      e = .returned (.bool false) ∧ Below w.heap.size w w' := by
  have hnl := hr.len
  have hB : Below w.heap.size w ((w.alloc (.cells #[.slice A ns.length c, .int .i64 r] 49)).alloc (.cells #[.int .i64 n.kind, .int .i64 n.value, .slice A' n.kids.length c'] 73)) :=
    ((Below.refl _ _).alloc (Nat.le_refl _) _).alloc (by simp) _
  have hk2 := hk.later hB (Nat.le_refl _)
  have hr2 := hr.later hB (Nat.le_refl _)
  have t6 : (n.kids.length : Int) ≤ 6 := by omega
  have ta := tf_true ((allIn_iff ns n.kids).2 hin)
  clear hr hk
  have k0 : (n.kind == 0) = false := by rw [beq_eq_false_iff_ne]; omega
  have k1 : (n.kind == 1) = false := by rw [beq_eq_false_iff_ne]; omega
  have k2 : (n.kind == 2) = false := by rw [beq_eq_false_iff_ne]; omega
  have k3 : (n.kind == 3) = false := by rw [beq_eq_false_iff_ne]; omega
  have k4 : (n.kind == 4) = false := by rw [beq_eq_false_iff_ne]; omega
  have k5 : (n.kind == 5) = false := by rw [beq_eq_false_iff_ne]; omega
  clear hkind
  go_enter Tryd.func67, Tryd.ntmps67
  go_wp2_with fail
  refine (allIn_any A' n.kids c' 0 ((ns.length : Int) - 1) _ hk2).mono ?_
  rintro e w' ⟨rfl, rfl⟩
  rw [ta]
  go_wp2
  go_ret
  exact ⟨rfl, hB⟩
theorem validNode_any (A : Option Addr) (ns : List Nd) (c : Nat) (r : Int) (A' : Option Addr) (n : Nd) (c' : Nat) (w : World) (hr : NdsAt w w.heap.size A ns) (hk : IntsAt w w.heap.size A' n.kids) :
    Calls Tryd.prog 67 #[.agg #[.slice A ns.length c, .int .i64 r], .agg #[.int .i64 n.kind, .int .i64 n.value, .slice A' n.kids.length c']] w fun e w' =>
      e = .returned (.bool (tf (NodeOk ns n))) ∧ Below w.heap.size w w' := by
  have no : ¬ NodeOk ns n → Calls Tryd.prog 67 #[.agg #[.slice A ns.length c, .int .i64 r], .agg #[.int .i64 n.kind, .int .i64 n.value, .slice A' n.kids.length c']] w (fun e w' => e = .returned (.bool false) ∧ Below w.heap.size w w') →
      Calls Tryd.prog 67 #[.agg #[.slice A ns.length c, .int .i64 r], .agg #[.int .i64 n.kind, .int .i64 n.value, .slice A' n.kids.length c']] w (fun e w' => e = .returned (.bool (tf (NodeOk ns n))) ∧ Below w.heap.size w w') := by
    intro h hc
    rw [tf_false h]
    exact hc
  have yes : NodeOk ns n → Calls Tryd.prog 67 #[.agg #[.slice A ns.length c, .int .i64 r], .agg #[.int .i64 n.kind, .int .i64 n.value, .slice A' n.kids.length c']] w (fun e w' => e = .returned (.bool true) ∧ Below w.heap.size w w') →
      Calls Tryd.prog 67 #[.agg #[.slice A ns.length c, .int .i64 r], .agg #[.int .i64 n.kind, .int .i64 n.value, .slice A' n.kids.length c']] w (fun e w' => e = .returned (.bool (tf (NodeOk ns n))) ∧ Below w.heap.size w w') := by
    intro h hc
    rw [tf_true h]
    exact hc
  by_cases h6 : n.kids.length ≤ 6
  · by_cases hin : InG ns n.kids
    · by_cases hkk : 0 ≤ n.kind ∧ n.kind ≤ 5
      · have hcases : n.kind = 0 ∨ n.kind = 1 ∨ n.kind = 2 ∨ n.kind = 3 ∨ n.kind = 4 ∨ n.kind = 5 := by omega
        rcases hcases with hkd | hkd | hkd | hkd | hkd | hkd
        · by_cases hv : 0 ≤ n.value ∧ n.value ≤ 999
          · by_cases hl : n.kids.length = 0
            · exact yes ⟨h6, hin, .inl ⟨hkd, hv.1, hv.2, hl⟩⟩ (vn_0_yes A ns c r A' n c' w hr hk h6 hin hkd hv.1 hv.2 hl)
            · exact no (fun h => by have := h.kind; unfold KindOk at this; omega) (vn_0_len A ns c r A' n c' w hr hk h6 hin hkd hv.1 hv.2 hl)
          · exact no (fun h => by have := h.kind; unfold KindOk at this; omega) (vn_0_no A ns c r A' n c' w hr hk h6 hin hkd (by omega))
        · by_cases hv : 0 ≤ n.value ∧ n.value ≤ 9
          · by_cases hl : n.kids.length = 0
            · exact yes ⟨h6, hin, .inr (.inl ⟨hkd, hv.1, hv.2, hl⟩)⟩ (vn_1_yes A ns c r A' n c' w hr hk h6 hin hkd hv.1 hv.2 hl)
            · exact no (fun h => by have := h.kind; unfold KindOk at this; omega) (vn_1_len A ns c r A' n c' w hr hk h6 hin hkd hv.1 hv.2 hl)
          · exact no (fun h => by have := h.kind; unfold KindOk at this; omega) (vn_1_no A ns c r A' n c' w hr hk h6 hin hkd (by omega))
        · by_cases hv : n.value = 0
          · exact yes ⟨h6, hin, .inr (.inr (.inl ⟨hkd, hv⟩))⟩ (vn_2_true A ns c r A' n c' w hr hk h6 hin hkd hv)
          · exact no (fun h => by have := h.kind; unfold KindOk at this; omega) (vn_2_false A ns c r A' n c' w hr hk h6 hin hkd hv)
        · by_cases hv : n.value = 0
          · exact yes ⟨h6, hin, .inr (.inr (.inr (.inl ⟨hkd, hv⟩)))⟩ (vn_3_true A ns c r A' n c' w hr hk h6 hin hkd hv)
          · exact no (fun h => by have := h.kind; unfold KindOk at this; omega) (vn_3_false A ns c r A' n c' w hr hk h6 hin hkd hv)
        · by_cases hv : n.value = 0
          · have := vn_4_dict A ns c r A' n c' w hr hk h6 hin hkd hv
            rw [tf_congr (show DictOk ns n.kids ↔ NodeOk ns n from ⟨fun h => ⟨h6, hin, .inr (.inr (.inr (.inr (.inl ⟨hkd, hv, h⟩))))⟩, fun h => by
              rcases h.kind with h | h | h | h | h | h
              · omega
              · omega
              · omega
              · omega
              · exact h.2.2
              · omega⟩)] at this
            exact this
          · exact no (fun h => by have := h.kind; unfold KindOk at this; omega) (vn_4_val A ns c r A' n c' w hr hk h6 hin hkd hv)
        · by_cases hv : 0 ≤ n.value ∧ n.value ≤ 9
          · by_cases hl : n.kids.length ≤ 1
            · exact yes ⟨h6, hin, .inr (.inr (.inr (.inr (.inr ⟨hkd, hv.1, hv.2, hl⟩))))⟩ (vn_5_yes A ns c r A' n c' w hr hk h6 hin hkd hv.1 hv.2 hl)
            · exact no (fun h => by have := h.kind; unfold KindOk at this; omega) (vn_5_len A ns c r A' n c' w hr hk h6 hin hkd hv.1 hv.2 (by omega))
          · exact no (fun h => by have := h.kind; unfold KindOk at this; omega) (vn_5_no A ns c r A' n c' w hr hk h6 hin hkd (by omega))
      · exact no (fun h => by have := h.kind; unfold KindOk at this; omega) (vn_other A ns c r A' n c' w hr hk h6 hin (by omega))
    · exact no (fun h => hin h.inn) (vn_out A ns c r A' n c' w hr hk h6 hin)
  · exact no (fun h => h6 h.few) (vn_long A ns c r A' n c' w hr hk (by omega))
end Go.Proofs.YtbihgafkmmcjlaaDoor
