/-
  The size counters szIntS, szNode, szNodeS, szGraph only read: each returns some number and leaves all old memory as it was.
-/
import Derived.Test.YtdgmohebnkcohabPjAf
namespace Go.Proofs.Ytdgmohebnkcohab
open Go.RowKit

set_option maxHeartbeats 400000 in
theorem szIntS_any (A : Option Addr) (n c : Nat) (left : Int) (w : World) (h0 : 0 ≤ left) (h1 : left ≤ 1048576) (hn : n ≤ 9223372036854775807) :
    Calls Try.prog 43 #[.slice A n c, .int .i64 left] w fun e w' => e = .returned (.int .i64 (szI n left)) ∧ w = w' := by
  by_cases h : left - n < 0
  · have hs : Hid (szI n left = -1) := by unfold szI; rw [if_pos h]; rfl
    go_enter Try.func43, Try.ntmps43
    go_wp2
    go_ret
    exact ⟨ret_int hs.out.symm, rfl⟩
  · have hs : Hid (szI n left = left - n) := by unfold szI; rw [if_neg h]; rfl
    go_enter Try.func43, Try.ntmps43
    go_wp2
    go_ret
    exact ⟨ret_int hs.out.symm, rfl⟩

set_option maxHeartbeats 400000 in
theorem szNode_any (A : Option Addr) (n c : Nat) (left k v : Int) (w : World) (h0 : 0 ≤ left) (h1 : left ≤ 1048576) (hn : n ≤ 9223372036854775807) :
    Calls Try.prog 22 #[.agg #[.int .i64 k, .int .i64 v, .slice A n c], .int .i64 left] w fun e w' => e = .returned (.int .i64 (szI n left)) ∧ Below w.heap.size w w' := by
  by_cases h : left - n < 0
  · have hs : Hid (szI n left = -1) := by unfold szI; rw [if_pos h]; rfl
    go_enter Try.func22, Try.ntmps22
    go_wp2_with fail
    refine (szIntS_any A n c left _ h0 h1 hn).mono ?_
    rintro e w' ⟨rfl, rfl⟩
    rw [hs.out]
    go_wp2
    go_ret
    exact ⟨ret_int hs.out.symm, (Below.refl _ _).alloc (Nat.le_refl _) _⟩
  · have hs : Hid (szI n left = left - n) := by unfold szI; rw [if_neg h]; rfl
    go_enter Try.func22, Try.ntmps22
    go_wp2_with fail
    refine (szIntS_any A n c left _ h0 h1 hn).mono ?_
    rintro e w' ⟨rfl, rfl⟩
    rw [hs.out]
    go_wp2
    go_ret
    exact ⟨ret_int hs.out.symm, (Below.refl _ _).alloc (Nat.le_refl _) _⟩

/-- what szNodeS counts over the nodes that are left -/
def szRun : List Nd → Int → Int
  | [], left => left
  | n :: ns, left => if szI n.kids.length left < 0 then -1 else szRun ns (szI n.kids.length left)

def szNs (ns : List Nd) (left : Int) : Int := if left - ns.length < 0 then -1 else szRun ns (left - ns.length)

theorem szRun_neg {n : Nd} {ns : List Nd} {left : Int} (h : szI n.kids.length left < 0) : szRun (n :: ns) left = -1 := by
  rw [szRun, if_pos h]
theorem szRun_pos {n : Nd} {ns : List Nd} {left : Int} (h : 0 ≤ szI n.kids.length left) : szRun (n :: ns) left = szRun ns (szI n.kids.length left) := by
  rw [szRun, if_neg (by omega)]

set_option maxHeartbeats 1000000 in
theorem szNodeS_any (A : Option Addr) (ns : List Nd) (c : Nat) (left : Int) (w : World) (h0 : 0 ≤ left) (h1 : left ≤ 1048576) (hr : NdsAt w w.heap.size A ns) :
    Calls Try.prog 11 #[.slice A ns.length c, .int .i64 left] w fun e w' => e = .returned (.int .i64 (szNs ns left)) ∧ Below w.heap.size w w' := by
  have hn := hr.len
  by_cases h : left - ns.length < 0
  · have hs : Hid (szNs ns left = -1) := by unfold szNs; rw [if_pos h]; rfl
    go_enter Try.func11, Try.ntmps11
    go_wp2
    go_ret
    exact ⟨ret_int hs.out.symm, Below.refl _ _⟩
  · have hs : Hid (szNs ns left = szRun ns (left - ns.length)) := by unfold szNs; rw [if_neg h]; rfl
    go_enter Try.func11, Try.ntmps11
    go_wp2_with fail
    go_loopw [1, 5] (fun l i wr => ∃ (k : Nat) (cur : Int), k ≤ ns.length ∧ i = .int .i64 k ∧ l = .int .i64 cur ∧ 0 ≤ cur ∧ cur ≤ 1048576 ∧ szRun ns (left - ns.length) = szRun (ns.drop k) cur ∧ Below w.heap.size w wr)
      (fun _ i _ => ns.length - (intOf i).toNat)
    case atStart => exact ⟨0, _, Nat.zero_le _, rfl, rfl, by omega, by omega, rfl, Below.refl _ _⟩
    case round =>
      obtain ⟨k, cur, hkl, rfl, rfl, hc0, hc1, hE0, hb⟩ := hrel
      have hE := hide hE0
      clear hE0
      by_cases hlt : k < ns.length
      · obtain ⟨b, off, n, rfl, hbl, hat, _, hN⟩ := (hr.below hb).at_ hlt
        obtain ⟨hc_k, hc_v, ⟨A', c', hc_s, hI, _⟩, _, _⟩ := hN
        have hkn := hI.len
        have Hat := hide hat
        clear hat
        go_wp2_with fail
        refine (szNode_any A' n.kids.length c' cur n.kind n.value _ hc0 hc1 hkn).mono ?_
        rintro e w' ⟨rfl, hb'⟩
        have hle := szI_le n.kids.length cur hc1 hc0
        by_cases hneg : szI n.kids.length cur < 0
        · have hm1 : szI n.kids.length cur = -1 := by omega
          rw [hm1]
          have hF : szNs ns left = -1 := by rw [hs.out, hE.out, drop_at Hat.out, szRun_neg hneg]
          have HF := hide hF
          clear hF hm1 hneg hle
          go_wp2
          go_ret
          exact ⟨ret_int HF.out.symm, hb.trans (hb'.mono hb.size)⟩
        · generalize hcur : szI n.kids.length cur = cur' at hneg hle ⊢
          have hF : szRun (ns.drop k) cur = szRun (ns.drop (k + 1)) cur' := by rw [drop_at Hat.out, szRun_pos (by omega), hcur]
          have HF := hide hF
          clear hF hcur
          go_wp2
          go_roundw
          case rel => exact ⟨k + 1, cur', by omega, by go_num, rfl, by omega, by omega, by rw [hE.out, HF.out], hb.trans (hb'.mono hb.size)⟩
          case measure => simp [intOf]; omega
      · obtain rfl : k = ns.length := by omega
        have hF : szNs ns left = cur := by rw [hs.out, hE.out, List.drop_length, szRun]
        have HF := hide hF
        clear hF hlt
        go_wp2
        go_ret
        exact ⟨ret_int HF.out.symm, hb⟩

theorem szRun_range : ∀ (ns : List Nd) (left : Int), 0 ≤ left → left ≤ 1048576 → -1 ≤ szRun ns left ∧ szRun ns left ≤ left
  | [], left, h0, h1 => by rw [szRun]; omega
  | n :: ns, left, h0, h1 => by
    have h := szI_le n.kids.length left h1 h0
    by_cases hneg : szI n.kids.length left < 0
    · rw [szRun_neg hneg]; omega
    · rw [szRun_pos (by omega)]
      have := szRun_range ns (szI n.kids.length left) (by omega) (by omega)
      omega

theorem szNs_range (ns : List Nd) (left : Int) (h0 : 0 ≤ left) (h1 : left ≤ 1048576) : -1 ≤ szNs ns left ∧ szNs ns left ≤ 1048576 := by
  unfold szNs
  split
  · omega
  · have := szRun_range ns (left - ns.length) (by omega) (by omega)
    omega

theorem szRun_kids : ∀ (ns : List Nd) (left : Int), 0 ≤ left → left ≤ 1048576 → 0 ≤ szRun ns left → ∀ n ∈ ns, (n.kids.length : Int) ≤ left
  | [], _, _, _, _ => by intro n hn; cases hn
  | m :: ns, left, h0, h1, h => by
    have hle := szI_le m.kids.length left h1 h0
    by_cases hneg : szI m.kids.length left < 0
    · rw [szRun_neg hneg] at h; omega
    · rw [szRun_pos (by omega)] at h
      have hm : szI m.kids.length left = left - m.kids.length := by
        unfold szI at hneg ⊢
        split <;> rename_i hx
        · rw [if_pos hx] at hneg; omega
        · rfl
      intro n hn
      rcases List.mem_cons.1 hn with rfl | hn
      · omega
      · have := szRun_kids ns (szI m.kids.length left) (by omega) (by omega) h n hn
        omega

/-- what the size counters let pass is small -/
structure Small (ns : List Nd) : Prop where
  len : ns.length ≤ 1048576
  kids : ∀ n ∈ ns, n.kids.length ≤ 1048576

theorem small_of_sz {ns : List Nd} {left : Int} (h0 : 0 ≤ left) (h1 : left ≤ 1048576) (h : 0 ≤ szNs ns left) : Small ns := by
  unfold szNs at h
  by_cases hx : left - ns.length < 0
  · rw [if_pos hx] at h; omega
  · rw [if_neg hx] at h
    exact ⟨by omega, fun n hn => by have := szRun_kids ns _ (by omega) (by omega) h n hn; omega⟩

set_option maxHeartbeats 400000 in
theorem szGraph_any (A : Option Addr) (ns : List Nd) (c : Nat) (r left : Int) (w : World) (h0 : 0 ≤ left) (h1 : left ≤ 1048576) (hr : NdsAt w w.heap.size A ns) :
    Calls Try.prog 4 #[.agg #[.slice A ns.length c, .int .i64 r], .int .i64 left] w fun e w' => e = .returned (.int .i64 (szNs ns left)) ∧ Below w.heap.size w w' := by
  have hrg := szNs_range ns left h0 h1
  have hr' := hr.later ((Below.refl _ _).alloc (Nat.le_refl _) (.cells #[.slice A ns.length c, .int .i64 r] 24)) (Nat.le_refl _)
  clear hr
  by_cases h : szNs ns left < 0
  · have hs : szNs ns left = -1 := by omega
    have Hs := hide hs
    clear hs
    go_enter Try.func4, Try.ntmps4
    go_wp2_with fail
    refine (szNodeS_any A ns c left _ h0 h1 hr').mono ?_
    rintro e w' ⟨rfl, hb⟩
    rw [Hs.out]
    go_wp2
    go_ret
    exact ⟨ret_int Hs.out.symm, ((Below.refl _ _).alloc (Nat.le_refl _) _).trans (hb.mono (by simp))⟩
  · go_enter Try.func4, Try.ntmps4
    go_wp2_with fail
    refine (szNodeS_any A ns c left _ h0 h1 hr').mono ?_
    rintro e w' ⟨rfl, hb⟩
    generalize hx : szNs ns left = x at hrg h ⊢
    have Hx := hide hx
    clear hx
    go_wp2
    go_ret
    exact ⟨ret_int Hx.out.symm, ((Below.refl _ _).alloc (Nat.le_refl _) _).trans (hb.mono (by simp))⟩

end Go.Proofs.Ytdgmohebnkcohab
