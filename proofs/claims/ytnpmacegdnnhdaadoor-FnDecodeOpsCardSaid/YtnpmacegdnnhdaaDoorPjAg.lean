/-
  Lemmas, several texts in one: NewR, Dfs, SpecE, OwnO, OwnOO, Emit, ShpUa, DcS.
-/
import Derived.Test.YtnpmacegdnnhdaaDoorPjAe
import Derived.Test.YtnpmacegdnnhdaaDoorSpecC
import Derived.Test.YtnpmacegdnnhdaaDoorPjAb
import Derived.Test.YtnpmacegdnnhdaaDoorOwn
import Derived.Test.YtnpmacegdnnhdaaDoorPjAf
import Derived.Deep.RegionLaw
import Derived.Deep.AppendLies
import Derived.Maps.AppendAt
import Derived.Laws.AppendOwnNone
import Derived.Test.YtnpmacegdnnhdaaDoorShpT
import Derived.Test.YtnpmacegdnnhdaaDoorPjAd
import Derived.Deep.QuietTactic
import Derived.Deep.RegionHeld
import Derived.Deep.Cut
import Derived.BigQuiet
namespace Go.Proofs.YtnpmacegdnnhdaaDoor
open Go.RowKit
set_option linter.unusedVariables false
theorem BytesAt.less {w : World} {B : Nat} {A : Option Addr} {n m : Nat} (h : BytesAt w B A n) (hm : m ≤ n) : BytesAt w B A m := fun k hk => h k (by omega)
theorem BytesAt.more {w : World} {B B' : Nat} {A : Option Addr} {n : Nat} (h : BytesAt w B A n) (hB : B ≤ B') : BytesAt w B' A n := fun k hk => by
  obtain ⟨b, off, x, h1, h2, h3⟩ := h k hk
  exact ⟨b, off, x, h1, by omega, h3⟩
set_option maxHeartbeats 1000000 in
theorem newReader_any (A : Option Addr) (n c : Nat) (w : World) (h : BytesAt w w.heap.size A n) (hc : n ≤ c) (hn : n ≤ 9223372036854775807) :
    Calls Tryd.prog 12 #[.slice A n c] w fun e w' => e = .returned (.pointer (some ⟨w.heap.size, 0, none⟩)) ∧ (∃ n' c', Rd w' w.heap.size A n' c' 0) ∧ Below w.heap.size w w' := by
  by_cases h2 : n ≤ 2000
  · have d : decide ((2000 : Int) < (n : Int)) = false := by simp; omega
    have hB : Below w.heap.size w (w.alloc (.cells #[.slice A n c, .int .i64 0] 51)) := (Below.refl _ _).alloc (Nat.le_refl _) _
    have HR : Hid (Rd (w.alloc (.cells #[.slice A n c, .int .i64 0] 51)) w.heap.size A n c 0) := hide ⟨Lies.new w _ _, h.later hB, h2⟩
    clear h
    go_enter Tryd.func12, Tryd.ntmps12
    go_wp2
    go_ret
    exact ⟨rfl, ⟨n, c, HR.out⟩, hB⟩
  · have d : decide ((2000 : Int) < (n : Int)) = true := by simp; omega
    obtain ⟨b, off, _, rfl, _⟩ := h 0 (by omega)
    have hcap : ¬ ((c : Int) < 2000) := by omega
    have hB : Below w.heap.size w (w.alloc (.cells #[.slice (some ⟨b, off, none⟩) 2000 c, .int .i64 0] 51)) := (Below.refl _ _).alloc (Nat.le_refl _) _
    have HR : Hid (Rd (w.alloc (.cells #[.slice (some ⟨b, off, none⟩) 2000 c, .int .i64 0] 51)) w.heap.size (some ⟨b, off, none⟩) 2000 c 0) := hide ⟨Lies.new w _ _, (h.less (by omega)).later hB, Nat.le_refl _⟩
    clear h
    go_enter Tryd.func12, Tryd.ntmps12
    go_wp2
    go_ret
    exact ⟨rfl, ⟨2000, c, HR.out⟩, hB⟩
end Go.Proofs.YtnpmacegdnnhdaaDoor

namespace Go.Proofs.YtnpmacegdnnhdaaDoor
def dfs (ns : List Nd) (ent : Int → Bool) : Nat → Int → List Int → List Int
  | 0, _, L => L
  | f + 1, x, L => if ent x = false ∨ x ∈ L then L else (kidsOf ns x).foldl (fun M k => dfs ns ent f k M) (L ++ [x])
def dfsL (ns : List Nd) (ent : Int → Bool) (f : Nat) (xs : List Int) (L : List Int) : List Int := xs.foldl (fun M k => dfs ns ent f k M) L
theorem dfs_stop {ns : List Nd} {ent : Int → Bool} {f : Nat} {x : Int} {L : List Int} (h : ent x = false ∨ x ∈ L) : dfs ns ent (f + 1) x L = L := by
  rw [dfs, if_pos h]
theorem dfs_go {ns : List Nd} {ent : Int → Bool} {f : Nat} {x : Int} {L : List Int} (h1 : ent x = true) (h2 : x ∉ L) : dfs ns ent (f + 1) x L = dfsL ns ent f (kidsOf ns x) (L ++ [x]) := by
  rw [dfs, if_neg (by simp [h1, h2])]
  rfl
theorem dfsL_cons (ns : List Nd) (ent : Int → Bool) (f : Nat) (x : Int) (xs L : List Int) : dfsL ns ent f (x :: xs) L = dfsL ns ent f xs (dfs ns ent f x L) := rfl
def KidsIn (ns : List Nd) : Prop := ∀ n ∈ ns, ∀ x ∈ n.kids, 0 ≤ x ∧ x < ns.length
theorem KidsIn.of {ns : List Nd} (h : KidsIn ns) (x : Int) : ∀ k ∈ kidsOf ns x, 0 ≤ k ∧ k < ns.length := by
  intro k hk
  unfold kidsOf at hk
  cases hn : ns[x.toNat]? with
  | none => rw [hn] at hk; simp at hk
  | some n =>
    rw [hn] at hk
    exact h n (List.mem_of_getElem? hn) k (by simpa using hk)
structure Met (ns : List Nd) (L : List Int) : Prop where
  nodup : L.Nodup
  range : ∀ x ∈ L, 0 ≤ x ∧ x < ns.length
theorem Met.nil (ns : List Nd) : Met ns [] := ⟨List.nodup_nil, fun x hx => by cases hx⟩
theorem Met.len {ns : List Nd} {L : List Int} (h : Met ns L) : L.length ≤ ns.length := nodup_le _ _ h.nodup h.range
theorem Met.snoc {ns : List Nd} {L : List Int} {x : Int} (h : Met ns L) (hx : 0 ≤ x ∧ x < ns.length) (hno : x ∉ L) : Met ns (L ++ [x]) := by
  refine ⟨?_, fun y hy => ?_⟩
  · rw [List.nodup_append]
    exact ⟨h.nodup, by simp, fun a ha b hb => by simp at hb; subst hb; intro e; subst e; exact hno ha⟩
  · rcases List.mem_append.1 hy with hy | hy
    · exact h.range y hy
    · simp at hy; subst hy; exact hx
structure Walked (ns : List Nd) (ent : Int → Bool) (xs : List Int) (L R : List Int) : Prop where
  met : Met ns R
  sub : ∀ y ∈ L, y ∈ R
  len : L.length ≤ R.length
  starts : ∀ x ∈ xs, ent x = true → x ∈ R
  closed : ∀ y ∈ R, y ∉ L → ∀ k ∈ kidsOf ns y, ent k = true → k ∈ R
  from_ : ∀ y ∈ R, y ∈ L ∨ (ent y = true ∧ (y ∈ xs ∨ ∃ z ∈ R, z ∉ L ∧ y ∈ kidsOf ns z))
theorem walkedL (ns : List Nd) (ent : Int → Bool) (f : Nat)
    (ih : ∀ (x : Int) (L : List Int), Met ns L → 0 ≤ x → x < ns.length → ns.length < f + L.length → Walked ns ent [x] L (dfs ns ent f x L)) :
    ∀ (xs : List Int) (L : List Int), Met ns L → (∀ x ∈ xs, 0 ≤ x ∧ x < ns.length) → ns.length < f + L.length → Walked ns ent xs L (dfsL ns ent f xs L)
  | [], L, hL, _, _ => ⟨hL, fun y hy => hy, Nat.le_refl _, fun x hx => (by cases hx), fun y hy hno => absurd hy hno, fun y hy => .inl hy⟩
  | x :: xs, L, hL, hx, hf => by
    have h1 := ih x L hL (hx x (by simp)).1 (hx x (by simp)).2 hf
    have h2 := walkedL ns ent f ih xs (dfs ns ent f x L) h1.met (fun y hy => hx y (by simp [hy])) (by have := h1.len; omega)
    rw [dfsL_cons]
    refine ⟨h2.met, fun y hy => h2.sub y (h1.sub y hy), Nat.le_trans h1.len h2.len, fun y hy he => ?_, fun y hy hno k hk he => ?_, fun y hy => ?_⟩
    · rcases List.mem_cons.1 hy with rfl | hy
      · exact h2.sub _ (h1.starts _ (by simp) he)
      · exact h2.starts y hy he
    · by_cases hm : y ∈ dfs ns ent f x L
      · exact h2.sub _ (h1.closed y hm hno k hk he)
      · exact h2.closed y hy hm k hk he
    · rcases h2.from_ y hy with h | ⟨he, h | ⟨z, hz, hzn, hk⟩⟩
      · rcases h1.from_ y h with h | ⟨he, h | ⟨z, hz, hzn, hk⟩⟩
        · exact .inl h
        · exact .inr ⟨he, .inl (by simp at h; simp [h])⟩
        · exact .inr ⟨he, .inr ⟨z, h2.sub z hz, hzn, hk⟩⟩
      · exact .inr ⟨he, .inl (by simp [h])⟩
      · exact .inr ⟨he, .inr ⟨z, hz, fun h => hzn (h1.sub z h), hk⟩⟩
theorem walked (ns : List Nd) (ent : Int → Bool) (hk : KidsIn ns) : ∀ (f : Nat) (x : Int) (L : List Int), Met ns L → 0 ≤ x → x < ns.length → ns.length < f + L.length → Walked ns ent [x] L (dfs ns ent f x L)
  | 0, x, L, hL, _, _, hf => by have := hL.len; omega
  | f + 1, x, L, hL, h0, h1, hf => by
    by_cases hs : ent x = false ∨ x ∈ L
    · rw [dfs_stop hs]
      exact ⟨hL, fun y hy => hy, Nat.le_refl _, fun y hy he => by
        simp at hy
        subst hy
        rcases hs with h | h
        · rw [h] at he; cases he
        · exact h, fun y hy hno => absurd hy hno, fun y hy => .inl hy⟩
    · have he : ent x = true := by
        cases h : ent x
        · exact absurd (.inl h) hs
        · rfl
      have hno : x ∉ L := fun h => hs (.inr h)
      rw [dfs_go he hno]
      have h := walkedL ns ent f (walked ns ent hk f) (kidsOf ns x) (L ++ [x]) (hL.snoc ⟨h0, h1⟩ hno) (hk.of x) (by simp; omega)
      refine ⟨h.met, fun y hy => h.sub y (List.mem_append_left _ hy), by have := h.len; simp at this; omega, fun y hy _ => ?_, fun y hy hyn k hkk hek => ?_, fun y hy => ?_⟩
      · simp at hy
        subst hy
        exact h.sub y (by simp)
      · by_cases hyx : y = x
        · subst hyx
          exact h.starts k hkk hek
        · exact h.closed y hy (by simp [hyn, hyx]) k hkk hek
      · by_cases hyL : y ∈ L
        · exact .inl hyL
        · refine .inr ?_
          by_cases hyx : y = x
          · subst hyx
            exact ⟨he, .inl (by simp)⟩
          · rcases h.from_ y hy with hm | ⟨hey, hm | ⟨z, hz, hzn, hm⟩⟩
            · exact absurd hm (by simp [hyL, hyx])
            · exact ⟨hey, .inr ⟨x, h.sub x (by simp), hno, hm⟩⟩
            · exact ⟨hey, .inr ⟨z, hz, fun hzL => hzn (List.mem_append_left _ hzL), hm⟩⟩
def isTup (ns : List Nd) (x : Int) : Bool := kindOf ns x == 2
end Go.Proofs.YtnpmacegdnnhdaaDoor

namespace Go.Proofs.YtnpmacegdnnhdaaDoor
open Go.RowKit
set_option linter.unusedVariables false
structure ValidG (ns : List Nd) (r : Int) : Prop where
  one : 1 ≤ ns.length
  few : ns.length ≤ 12
  root0 : 0 ≤ r
  root : r < ns.length
  nodes : ∀ n ∈ ns, NodeOk ns n
  tuples : ∀ (i : Nat) (n : Nd), ns[i]? = some n → n.kind = 2 → ¬ TReach ns i i
theorem NodeOk.kidsOk {ns : List Nd} (h12 : ns.length ≤ 12) (h : ∀ n ∈ ns, NodeOk ns n) : KidsOk ns :=
  ⟨h12, fun n hn => ⟨(h n hn).few, (h n hn).inn⟩⟩
set_option maxRecDepth 100000 in
set_option maxHeartbeats 4000000 in
theorem validGraph_in (A : Option Addr) (ns : List Nd) (c : Nat) (r : Int) (w : World) (hr : NdsAt w w.heap.size A ns) (h1 : 1 ≤ ns.length) (h12 : ns.length ≤ 12) (hr0 : 0 ≤ r) (hrl : r < ns.length) :
    Calls Tryd.prog 58 #[.agg #[.slice A ns.length c, .int .i64 r]] w fun e w' => e = .returned (.bool (tf (ValidG ns r))) ∧ Below w.heap.size w w' := by
  have hB : Below w.heap.size w (w.alloc (.cells #[.slice A ns.length c, .int .i64 r] 59)) := (Below.refl _ _).alloc (Nat.le_refl _) _
  have l1 := Lies.new w #[.slice A ns.length c, .int .i64 r] 59
  have hr2 := hr.later hB (Nat.le_refl _)
  clear hr
  have a1 : (1 : Int) ≤ (ns.length : Int) := by omega
  have a2 : (ns.length : Int) ≤ 12 := by omega
  have a3 : r ≤ (ns.length : Int) - 1 := by omega
  go_enter Tryd.func58, Tryd.ntmps58
  go_wp2_with fail
  refine (inRange_yes ns.length 1 12 _ a1 a2).mono ?_
  rintro e w' ⟨rfl, rfl⟩
  go_wp2_with fail
  refine (inRange_yes r 0 ((ns.length : Int) - 1) _ hr0 a3).mono ?_
  rintro e w' ⟨rfl, rfl⟩
  go_wp2_with fail
  generalize w.alloc (.cells #[.slice A ns.length c, .int .i64 r] 59) = W at hB l1 hr2 ⊢
  have hW1 := l1.lt
  go_loopw [3] (fun i wr => ∃ k : Nat, k ≤ ns.length ∧ i = .int .i64 k ∧ Below W.heap.size W wr ∧ (∀ j n, j < k → ns[j]? = some n → NodeOk ns n)) (fun i _ => ns.length - (intOf i).toNat)
  case atStart => exact ⟨0, Nat.zero_le _, rfl, Below.refl _ _, fun j n hj => absurd hj (by omega)⟩
  case round =>
    obtain ⟨k, hkl, rfl, hb, hok0⟩ := hrel
    have hok := hide hok0
    clear hok0
    have e0 := (l1.below hb hW1).cell 0
    have e1 := (l1.below hb hW1).cell 1
    simp at e0 e1
    by_cases hlt : k < ns.length
    · obtain ⟨b, off, n, rfl, hbl, hat, hmem, hN⟩ := (hr2.below hb).at_ hlt
      obtain ⟨hn_k, hn_v, ⟨A1, c1, hn_s, hI1', _⟩, _, _⟩ := hN
      have hk1 : (0 : Int) ≤ (k : Int) := by omega
      have hk3 : (k : Int) < (ns.length : Int) := by omega
      have hbd : Below W.heap.size W wr.drew := hb.drew
      have hI1 : IntsAt wr.drew wr.drew.heap.size A1 n.kids := hI1'.later (Below.refl _ _).drew hb.size
      have hrd : NdsAt wr.drew wr.drew.heap.size (some ⟨b, off, none⟩) ns := hr2.later hb.drew (Nat.le_refl _)
      have Hat := hide hat
      clear hI1' hat
      go_wp2_with fail
      go_still_tail 6, (by kernel_rfl)
      change wpList _ _ _ _ _ wr.drew
      generalize wr.drew = w2 at hbd hI1 hrd ⊢
      clear hb hn_k hn_v hn_s e0 e1
      go_wp2_with fail
      refine (validNode_any _ ns c r A1 n c1 w2 hrd hI1).mono ?_
      rintro e w' ⟨rfl, hb3⟩
      have hb4 := hbd.trans (hb3.mono hbd.size)
      clear hbd hb3 hI1 hrd
      by_cases hnk : NodeOk ns n
      · rw [tf_true hnk]
        go_wp2
        go_roundw
        case rel => exact ⟨k + 1, by omega, by go_num, hb4, fun j m hj hm => by
            by_cases e : j = k
            · subst e
              obtain rfl := Option.some.inj (Hat.out.symm.trans hm)
              exact hnk
            · exact hok.out j m (by omega) hm⟩
        case measure => simp [intOf]; omega
      · rw [tf_false hnk]
        have HF := hide (show tf (ValidG ns r) = false from tf_false fun h => hnk (h.nodes n hmem))
        clear hnk hmem
        go_wp2
        go_ret
        exact ⟨ret_bool HF.out.symm, hB.trans (hb4.mono hB.size)⟩
    · obtain rfl : k = ns.length := by omega
      have hall : ∀ n ∈ ns, NodeOk ns n := fun n hn => by
        obtain ⟨j, hj, rfl⟩ := List.getElem_of_mem hn
        exact hok.out j _ hj (List.getElem?_eq_getElem hj)
      have Hall := hide hall
      clear hall hok hlt
      go_wp2_with fail
      obtain ⟨wo, rfl⟩ : ∃ wo : World, wo = wr := ⟨_, rfl⟩
      go_loopw [4] (fun i wr => ∃ k : Nat, k ≤ ns.length ∧ i = .int .i64 k ∧ Below W.heap.size W wr ∧ (∀ (j : Nat) (n : Nd), j < k → ns[j]? = some n → n.kind = 2 → ¬ TReach ns j j)) (fun i _ => ns.length - (intOf i).toNat)
      case atStart => exact ⟨0, Nat.zero_le _, rfl, hb, fun j n hj => absurd hj (by omega)⟩
      case round =>
        clear e0 e1 hb
        obtain ⟨k, hkl, rfl, hb, hok0⟩ := hrel
        have hok := hide hok0
        clear hok0
        have e0 := (l1.below hb hW1).cell 0
        have e1 := (l1.below hb hW1).cell 1
        simp at e0 e1
        by_cases hlt : k < ns.length
        · obtain ⟨b, off, n, rfl, hbl, hat, hmem, hN⟩ := (hr2.below hb).at_ hlt
          obtain ⟨hn_k, hn_v, ⟨A1, c1, hn_s, hI1', _⟩, _, _⟩ := hN
          have hrd : NdsAt wr wr.heap.size (some ⟨b, off, none⟩) ns := hr2.later hb (Nat.le_refl _)
          have Hat := hide hat
          clear hI1' hat hmem
          by_cases h2 : n.kind = 2
          · have t2 : (n.kind == 2) = true := by rw [beq_iff_eq]; exact h2
            have H2 := hide h2
            clear h2
            go_wp2_with fail
            refine (tupleReach_any _ ns c r k wr hrd (NodeOk.kidsOk h12 Hall.out) hlt).mono ?_
            rintro e w' ⟨A2, c2, out, rfl, hown, hb3, hiff, hrange, _⟩
            have hb4 := hb.trans (hb3.mono hb.size)
            have hio := hown.ints (in64_of_range h12 hrange) (by have := hrange; omega)
            clear hb3 hown hrd
            go_wp2_with fail
            refine (placeIn_any A2 out c2 k w' hio).mono ?_
            rintro e w2 ⟨rfl, rfl⟩
            by_cases hin : (k : Int) ∈ out
            · have hp := place_lt hin
              have HF := hide (show tf (ValidG ns r) = false from tf_false fun h => h.tuples k n Hat.out H2.out ((hiff k).1 hin))
              have hd : decide (0 ≤ place out k) = true := by simp; omega
              generalize place out k = pl at hp hd ⊢
              clear hin hiff hrange
              go_wp2
              go_ret
              exact ⟨ret_bool HF.out.symm, hB.trans (hb4.mono hB.size)⟩
            · rw [place_neg hin]
              have hno : ¬ TReach ns k k := fun h => hin ((hiff k).2 h)
              have Hno := hide hno
              clear hin hiff hrange hno
              go_wp2
              go_roundw
              case rel => exact ⟨k + 1, by omega, by go_num, hb4, fun j m hj hm hm2 => by
                  by_cases e : j = k
                  · subst e; exact Hno.out
                  · exact hok.out j m (by omega) hm hm2⟩
              case measure => simp [intOf]; omega
          · have t2 : (n.kind == 2) = false := by rw [beq_eq_false_iff_ne]; exact h2
            have H2 := hide h2
            clear h2
            go_wp2
            go_roundw
            case rel => exact ⟨k + 1, by omega, by go_num, hb, fun j m hj hm hm2 => by
                by_cases e : j = k
                · subst e
                  obtain rfl := Option.some.inj (Hat.out.symm.trans hm)
                  exact absurd hm2 H2.out
                · exact hok.out j m (by omega) hm hm2⟩
            case measure => simp [intOf]; omega
        · obtain rfl : k = ns.length := by omega
          have HF := hide (show tf (ValidG ns r) = true from tf_true ⟨h1, h12, hr0, hrl, Hall.out, fun i n hn h2 => hok.out i n (List.getElem?_eq_some_iff.1 hn).1 hn h2⟩)
          clear hlt
          go_wp2
          go_ret
          exact ⟨ret_bool HF.out.symm, hB.trans (hb.mono hB.size)⟩
set_option maxHeartbeats 1000000 in
theorem validGraph_len (A : Option Addr) (ns : List Nd) (c : Nat) (r : Int) (w : World) (hr : NdsAt w w.heap.size A ns) (h : ns.length < 1 ∨ 12 < ns.length) :
    Calls Tryd.prog 58 #[.agg #[.slice A ns.length c, .int .i64 r]] w fun e w' => e = .returned (.bool (tf (ValidG ns r))) ∧ Below w.heap.size w w' := by
  have hB : Below w.heap.size w (w.alloc (.cells #[.slice A ns.length c, .int .i64 r] 59)) := (Below.refl _ _).alloc (Nat.le_refl _) _
  have HF := hide (show tf (ValidG ns r) = false from tf_false fun hv => by have := hv.one; have := hv.few; omega)
  have hl := hr.len
  have h' : (ns.length : Int) < 1 ∨ 12 < (ns.length : Int) := by omega
  clear hr h
  go_enter Tryd.func58, Tryd.ntmps58
  go_wp2_with fail
  refine (inRange_no ns.length 1 12 _ h').mono ?_
  rintro e w' ⟨rfl, rfl⟩
  clear h'
  go_wp2
  go_ret
  exact ⟨ret_bool HF.out.symm, hB⟩
set_option maxHeartbeats 1000000 in
theorem validGraph_root (A : Option Addr) (ns : List Nd) (c : Nat) (r : Int) (w : World) (h1 : 1 ≤ ns.length) (h12 : ns.length ≤ 12) (h : r < 0 ∨ (ns.length : Int) ≤ r) :
    Calls Tryd.prog 58 #[.agg #[.slice A ns.length c, .int .i64 r]] w fun e w' => e = .returned (.bool (tf (ValidG ns r))) ∧ Below w.heap.size w w' := by
  have hB : Below w.heap.size w (w.alloc (.cells #[.slice A ns.length c, .int .i64 r] 59)) := (Below.refl _ _).alloc (Nat.le_refl _) _
  have HF := hide (show tf (ValidG ns r) = false from tf_false fun hv => by have := hv.root0; have := hv.root; omega)
  have a1 : (1 : Int) ≤ (ns.length : Int) := by omega
  have a2 : (ns.length : Int) ≤ 12 := by omega
  have h' : r < 0 ∨ (ns.length : Int) - 1 < r := by omega
  clear h
  go_enter Tryd.func58, Tryd.ntmps58
  go_wp2_with fail
  refine (inRange_yes ns.length 1 12 _ a1 a2).mono ?_
  rintro e w' ⟨rfl, rfl⟩
  go_wp2_with fail
  refine (inRange_no r 0 ((ns.length : Int) - 1) _ h').mono ?_
  rintro e w' ⟨rfl, rfl⟩
  clear h'
  go_wp2
  go_ret
  exact ⟨ret_bool HF.out.symm, hB⟩
theorem specValidGraph_any (A : Option Addr) (ns : List Nd) (c : Nat) (r : Int) (w : World) (hr : NdsAt w w.heap.size A ns) :
    Calls Tryd.prog 58 #[.agg #[.slice A ns.length c, .int .i64 r]] w fun e w' => e = .returned (.bool (tf (ValidG ns r))) ∧ Below w.heap.size w w' := by
  by_cases h : 1 ≤ ns.length ∧ ns.length ≤ 12
  · by_cases h2 : 0 ≤ r ∧ r < ns.length
    · exact validGraph_in A ns c r w hr h.1 h.2 h2.1 h2.2
    · exact validGraph_root A ns c r w h.1 h.2 (by omega)
  · exact validGraph_len A ns c r w hr (by omega)
end Go.Proofs.YtnpmacegdnnhdaaDoor

namespace Go.Proofs.YtnpmacegdnnhdaaDoor
open Go.RowKit
set_option linter.unusedVariables false
def opVals (os : List Od) : List Value := os.flatMap fun o => [.int .i64 o.code, .int .i64 o.arg]
theorem opVals_cons (o : Od) (os : List Od) : opVals (o :: os) = .int .i64 o.code :: .int .i64 o.arg :: opVals os := by simp [opVals]
theorem opVals_snoc (os : List Od) (o : Od) : opVals (os ++ [o]) = opVals os ++ [.int .i64 o.code, .int .i64 o.arg] := by simp [opVals]
theorem opVals_len (os : List Od) : (opVals os).length = os.length * 2 := by
  induction os with
  | nil => rfl
  | cons o os ih => rw [opVals_cons]; simp [ih]; omega
theorem opVals_code {os : List Od} {k : Nat} {o : Od} (h : os[k]? = some o) : (opVals os)[k * 2]? = some (.int .i64 o.code) := by
  induction os generalizing k with
  | nil => simp at h
  | cons p os ih =>
    rw [opVals_cons]
    cases k with
    | zero => simp at h; subst h; rfl
    | succ k =>
      rw [show (k + 1) * 2 = k * 2 + 1 + 1 by omega, List.getElem?_cons_succ, List.getElem?_cons_succ]
      exact ih (by simpa using h)
theorem opVals_arg {os : List Od} {k : Nat} {o : Od} (h : os[k]? = some o) : (opVals os)[k * 2 + 1]? = some (.int .i64 o.arg) := by
  induction os generalizing k with
  | nil => simp at h
  | cons p os ih =>
    rw [opVals_cons]
    cases k with
    | zero => simp at h; subst h; rfl
    | succ k =>
      rw [show (k + 1) * 2 + 1 = k * 2 + 1 + 1 + 1 by omega, List.getElem?_cons_succ, List.getElem?_cons_succ]
      exact ih (by simpa using h)
structure OwnO (w : World) (base : Nat) (A : Option Addr) (c : Nat) (os : List Od) : Prop where
  own : w.ownsRow base 40 2 (.slice A os.length c) os.length (opVals os)
theorem OwnO.empty (w : World) (base : Nat) : OwnO w base none 0 [] := ⟨World.ownsRow_nil _ _ _ _⟩
theorem OwnO.bare (w : World) : OwnO (w.alloc (.cells #[] 40)) w.heap.size (some ⟨w.heap.size, 0, none⟩) 0 [] :=
  ⟨World.ownsRow_lit w #[] 0 (Nat.le_refl _) (by unfold maxLen; omega) rfl⟩
theorem OwnO.form {w : World} {base : Nat} {A : Option Addr} {c : Nat} {os : List Od} (h : OwnO w base A c os) :
    (A = none ∧ c = 0 ∧ os = []) ∨ ∃ g, A = some ⟨g, 0, none⟩ ∧ base ≤ g ∧ g < w.heap.size := by
  rcases h.own.2 with ⟨h1, h2⟩ | ⟨g, cap, cur, hv, hg, hh, _⟩
  · injection h1 with h1 _ h3
    exact .inl ⟨h1, h3, List.eq_nil_of_length_eq_zero h2⟩
  · injection hv with hv
    exact .inr ⟨g, hv, hg, lt_of_block hh⟩
theorem OwnO.ops {w : World} {base : Nat} {A : Option Addr} {c : Nat} {os : List Od} (h : OwnO w base A c os) (hwf : ∀ o ∈ os, In64 o.code ∧ In64 o.arg) (hl : os.length ≤ 9223372036854775807) : OpsAt w w.heap.size A os := by
  refine ⟨fun hx => ?_, hwf, hl⟩
  rcases h.form with ⟨_, _, h2⟩ | ⟨g, rfl, _, hlt⟩
  · exact absurd h2 hx
  · refine ⟨g, 0, rfl, hlt, fun j o hj => ?_⟩
    have hjl : j < os.length := (List.getElem?_eq_some_iff.1 hj).1
    rw [Nat.zero_add, h.own.cellAt (j * 2) (by omega), h.own.cellAt (j * 2 + 1) (by omega)]
    exact ⟨opVals_code hj, opVals_arg hj⟩
theorem OwnO.blocks {w : World} {base : Nat} {A : Option Addr} {c : Nat} {os : List Od} (h : OwnO w base A c os) : ∀ k, blockOf A = some k → base ≤ k ∧ k < w.heap.size := by
  intro k hk
  rcases h.form with ⟨rfl, _, _⟩ | ⟨g, rfl, h1, h2⟩
  · cases hk
  · simp [blockOf] at hk
    omega
theorem OwnO.alloc {w : World} {base : Nat} {A : Option Addr} {c : Nat} {os : List Od} (h : OwnO w base A c os) (o : Obj) : OwnO (w.alloc o) base A c os := ⟨h.own.alloc o⟩
theorem OwnO.drew {w : World} {base : Nat} {A : Option Addr} {c : Nat} {os : List Od} (h : OwnO w base A c os) : OwnO w.drew base A c os := ⟨h.own⟩
theorem OwnO.kept {w w' : World} {base : Nat} {A : Option Addr} {c : Nat} {os : List Od} {row : Option Nat} (h : OwnO w base A c os) (hg : w.grownBy w' row) (hne : blockOf A = none ∨ blockOf A ≠ row) : OwnO w' base A c os :=
  ⟨h.own.kept hg (by rw [ownBlock_slice]; exact hne)⟩
theorem OwnO.below {w w' : World} {base : Nat} {A : Option Addr} {c : Nat} {os : List Od} (h : OwnO w base A c os) (hb : Below w.heap.size w w') : OwnO w' base A c os :=
  h.kept (grownBy_of_below hb) (by cases hA : blockOf A <;> simp)
theorem OwnO.mono {w : World} {base base' : Nat} {A : Option Addr} {c : Nat} {os : List Od} (h : OwnO w base A c os) (hb : base' ≤ base) : OwnO w base' A c os := by
  refine ⟨h.own.1, ?_⟩
  rcases h.own.2 with h2 | ⟨g, cap, cur, hv, hg, r⟩
  · exact .inl h2
  · exact .inr ⟨g, cap, cur, hv, Nat.le_trans hb hg, r⟩
theorem OwnO.only {w w' : World} {base lo hi : Nat} {A : Option Addr} {c : Nat} {os : List Od} (h : OwnO w base A c os) (ho : Only lo hi w w') (hA : ∀ g, blockOf A = some g → g < lo ∨ hi ≤ g) : OwnO w' base A c os := by
  refine ⟨h.own.1, ?_⟩
  rcases h.own.2 with h2 | ⟨g, cap, cur, hv, hg, hh, r⟩
  · exact .inl h2
  · refine .inr ⟨g, cap, cur, hv, hg, ?_, r⟩
    rw [ho.block g]
    · exact hh
    · apply hA g
      injection hv with hv
      rw [hv]
      rfl
theorem OwnO.of_block {w w' : World} {base : Nat} {A : Option Addr} {c : Nat} {os : List Od} (h : OwnO w base A c os) (hA : ∀ g, blockOf A = some g → w'.heap[g]? = w.heap[g]?) : OwnO w' base A c os := by
  refine ⟨h.own.1, ?_⟩
  rcases h.own.2 with h2 | ⟨g, cap, cur, hv, hg, hh, r⟩
  · exact .inl h2
  · refine .inr ⟨g, cap, cur, hv, hg, ?_, r⟩
    rw [hA g (by injection hv with hv; rw [hv]; rfl)]
    exact hh
theorem OwnI.of_block {w w' : World} {base : Nat} {A : Option Addr} {c : Nat} {xs : List Int} (h : OwnI w base A c xs) (hA : ∀ g, blockOf A = some g → w'.heap[g]? = w.heap[g]?) : OwnI w' base A c xs := by
  refine ⟨h.own.1, ?_⟩
  rcases h.own.2 with h2 | ⟨g, cap, cur, hv, hg, hh, r⟩
  · exact .inl h2
  · refine .inr ⟨g, cap, cur, hv, hg, ?_, r⟩
    rw [hA g (by injection hv with hv; rw [hv]; rfl)]
    exact hh
theorem OwnI.set {w : World} {base g : Nat} {c : Nat} {xs : List Int} (h : OwnI w base (some ⟨g, 0, none⟩) c xs) (j : Nat) (x : Int) :
    OwnI (w.setCell ⟨g, j, none⟩ (.int .i64 x)) base (some ⟨g, 0, none⟩) c (xs.set j x) := by
  have := (h.own.stored j (.int .i64 x)).1
  refine ⟨?_⟩
  rw [List.length_set, List.map_set]
  exact this
theorem OwnI.cellAt {w : World} {base g : Nat} {c : Nat} {xs : List Int} (h : OwnI w base (some ⟨g, 0, none⟩) c xs) {j : Nat} {x : Int} (hj : xs[j]? = some x) : w.cell? ⟨g, j, none⟩ = some (.int .i64 x) := by
  rw [h.own.cellAt j (by have := (List.getElem?_eq_some_iff.1 hj).1; omega), List.getElem?_map, hj]
  rfl
theorem OwnO.row {w : World} {base g : Nat} {c : Nat} {os : List Od} (h : OwnO w base (some ⟨g, 0, none⟩) c os) :
    ∃ (cap : Nat) (f : Nat → Value), w.rowIs g 40 (cap * 2) f ∧ os.length ≤ cap ∧ cap ≤ maxLen ∧ c = cap ∧ base ≤ g := by
  rcases h.own.2 with ⟨h1, _⟩ | ⟨g', cap, cur, hv, hg, hh, hn, hm, hs, _⟩
  · injection h1 with h1
    cases h1
  · injection hv with hv _ hc
    obtain rfl : g = g' := by simpa using hv
    refine ⟨cap, fun i => (cur[i]?).getD undef, ⟨cur, hh, by simpa using hs, fun i hi => ?_⟩, hn, hm, hc, hg⟩
    have : i < cur.size := by rw [hs]; omega
    show _ = some ((cur[i]?).getD undef)
    rw [Array.getElem?_eq_getElem this]; rfl
theorem OwnO.of_row {w : World} {base g cap : Nat} {f : Nat → Value} {os : List Od} (h : w.rowIs g 40 (cap * 2) f) (hl : os.length ≤ cap) (hm : cap ≤ maxLen) (hb : base ≤ g) (hf : ∀ i, i < os.length * 2 → (opVals os)[i]? = some (f i)) :
    OwnO w base (some ⟨g, 0, none⟩) cap os := by
  obtain ⟨cur, hh, hs, hc⟩ := h
  refine ⟨⟨opVals_len os, .inr ⟨g, cap, cur, rfl, hb, hh, hl, hm, by simpa using hs, ?_⟩⟩⟩
  apply List.ext_getElem?
  intro i
  rw [List.getElem?_take]
  by_cases hi : i < os.length * 2
  · rw [if_pos hi, Array.getElem?_toList, hc i (by omega), hf i hi]
  · rw [if_neg hi, List.getElem?_eq_none (by rw [opVals_len]; omega)]
theorem vals_one (o : Od) : ∀ u ∈ [Value.int .i64 o.code, Value.int .i64 o.arg], u.oneCell' = true := by
  intro u hu
  simp at hu
  rcases hu with rfl | rfl <;> rfl
theorem append_op {w : World} {ops : Array Oper} {rest : List Oper} {o : Oper} {a : Act} {Q : Exit → Act → World → Prop} (hgd : o.guard = none) (s x : Operand)
    (ho : o.op = .call { callee := .builtin .append, args := #[s, x], argTypes := #[25, 25] })
    (base : Nat) (A : Option Addr) (c : Nat) (os : List Od) (hs : a.eval s = .slice A os.length c) (hown : OwnO w base A c os)
    (b : Nat) (d : Od) (t : TypeId) (hx : a.eval x = .slice (some ⟨b, 0, none⟩) 1 1) (hr : Lies w b #[.int .i64 d.code, .int .i64 d.arg] t)
    (hsum : os.length + 1 ≤ 16777216) (hbase : base ≤ w.heap.size)
    (h : ∀ (zs : List Od) (A' : Option Addr) (c' : Nat) (w' : World), Hid (zs = os ++ [d]) → OwnO w' base A' c' zs → w.grownBy w' (blockOf A) → (blockOf A' = blockOf A ∨ blockOf A' = some w.heap.size) →
      wpList Tryd.prog ops Q rest (a.put o.dst (.slice A' zs.length c')) w') : wpList Tryd.prog ops Q (o :: rest) a w := by
  obtain ⟨i0, hi, hz0, hz1, hz2⟩ := info_parts infoOp
  refine wpList_append_own_at w hgd s x 25 ho base 40 i0 _ 2 16 Tryd.underlying25 hi hz0 hz1 hz2 rfl (by omega) _ _ _ hs hown.own ⟨b, 0, none⟩ 1 1 [.int .i64 d.code, .int .i64 d.arg] hx (by simp) (World.news_of_block hr) (vals_one d)
    (by unfold maxLen; omega) (by omega) hbase ?_
  intro v' w' h2 h3 _ h5
  have hlen : os.length + 1 = (os ++ [d]).length := by simp
  rw [ownBlock_slice] at h3 h5
  rw [← opVals_snoc, hlen] at h2
  rcases h2.2 with ⟨_, h6⟩ | ⟨g, cap, cur, rfl, _⟩
  · simp at h6
  · exact h (os ++ [d]) _ _ w' (by simp [Hid]) ⟨h2⟩ h3 (by simpa [ownBlock_slice] using h5)
def GivesOps (w : World) (os : List Od) (e : Ending) (w' : World) : Prop := ∃ A c, e = .returned (.slice A os.length c) ∧ OwnO w' w.heap.size A c os ∧ Below w.heap.size w w'
end Go.Proofs.YtnpmacegdnnhdaaDoor

namespace Go.Proofs.YtnpmacegdnnhdaaDoor
open Go.RowKit
set_option linter.unusedVariables false
theorem opVals_one (os : List Od) : ∀ u ∈ opVals os, u.oneCell' = true := by
  intro u hu
  obtain ⟨o, _, hu⟩ := List.mem_flatMap.1 hu
  simp at hu
  rcases hu with rfl | rfl <;> rfl
theorem opVals_append (os ps : List Od) : opVals (os ++ ps) = opVals os ++ opVals ps := by simp [opVals]
theorem OpsAt.vals {w : World} {B b off : Nat} {os : List Od} (h : OpsAt w B (some ⟨b, off, none⟩) os) : ∀ j u, (opVals os)[j]? = some u → w.cell? ⟨b, off + j, none⟩ = some u := by
  intro j u hu
  have hj : j < os.length * 2 := by have := (List.getElem?_eq_some_iff.1 hu).1; rwa [opVals_len] at this
  have hk : j / 2 < os.length := by omega
  obtain ⟨b', off', o, e, _, ho, _, hc0, hc1⟩ := h.at_ hk
  injection e with e
  injection e with e1 e2
  subst e1 e2
  rcases Nat.mod_two_eq_zero_or_one j with hm | hm
  · have ej : j = j / 2 * 2 := by omega
    have := opVals_code ho
    rw [← ej] at this hc0
    rw [this] at hu
    injection hu with hu
    rw [← hu]
    exact hc0
  · have ej : j = j / 2 * 2 + 1 := by omega
    have := opVals_arg ho
    rw [← ej] at this
    rw [Nat.add_assoc, ← ej] at hc1
    rw [this] at hu
    injection hu with hu
    rw [← hu]
    exact hc1
theorem append_ops {w : World} {ops : Array Oper} {rest : List Oper} {o : Oper} {a : Act} {Q : Exit → Act → World → Prop} (hgd : o.guard = none) (s x : Operand)
    (ho : o.op = .call { callee := .builtin .append, args := #[s, x], argTypes := #[25, 25] })
    (base : Nat) (A : Option Addr) (c : Nat) (xs : List Od) (hs : a.eval s = .slice A xs.length c) (hown : OwnO w base A c xs)
    (B : Nat) (A2 : Option Addr) (c2 : Nat) (ys : List Od) (hx : a.eval x = .slice A2 ys.length c2) (hnil : A2 = none → c2 = 0) (hr : OpsAt w B A2 ys)
    (hsum : xs.length + ys.length ≤ 8388608) (hbase : base ≤ w.heap.size)
    (h : ∀ (zs : List Od) (A' : Option Addr) (c' : Nat) (w' : World), Hid (zs = xs ++ ys) → OwnO w' base A' c' zs → w.grownBy w' (blockOf A) → (blockOf A' = blockOf A ∨ blockOf A' = some w.heap.size) →
      wpList Tryd.prog ops Q rest (a.put o.dst (.slice A' zs.length c')) w') : wpList Tryd.prog ops Q (o :: rest) a w := by
  obtain ⟨i0, hi, hz0, hz1, hz2⟩ := info_parts infoOp
  have hempty : A2 = none → ys = [] := by
    intro e
    cases ys with
    | nil => rfl
    | cons y ys =>
      obtain ⟨b, off, e2, _⟩ := hr.row (by simp)
      rw [e] at e2; cases e2
  rcases A2 with _ | ad
  · obtain rfl := hnil rfl
    obtain rfl := hempty rfl
    exact wpList_append_own_none hgd s x 25 ho base 40 i0 2 Tryd.underlying25 hi _ _ _ hs hown.own hx
      (h xs A c w (by simp [Hid]) hown (World.grownBy.refl w _) (.inl rfl))
  · have hcells : ∀ j u, (opVals ys)[j]? = some u → w.cell? (ad.add j) = some u := by
      intro j u hu
      have hy : ys ≠ [] := by intro e; subst e; simp [opVals] at hu
      obtain ⟨b, off, e2, _⟩ := hr.row hy
      obtain rfl : ad = ⟨b, off, none⟩ := Option.some.inj e2
      have hadd : (⟨b, off, none⟩ : Addr).add j = ⟨b, off + j, none⟩ := by
        unfold Addr.add
        split
        · rename_i h0; subst h0; rfl
        · rfl
      rw [hadd]
      exact hr.vals j u hu
    refine wpList_append_own_at w hgd s x 25 ho base 40 i0 _ 2 16 Tryd.underlying25 hi hz0 hz1 hz2 rfl (by omega) _ _ _ hs hown.own ad ys.length c2 (opVals ys) hx (by rw [opVals_len]) hcells (opVals_one ys)
      (by unfold maxLen; omega) (by omega) hbase ?_
    intro v' w' h2 h3 _ h5
    have hlen : xs.length + ys.length = (xs ++ ys).length := by simp
    rw [ownBlock_slice] at h3 h5
    rw [← opVals_append, hlen] at h2
    rcases h2.2 with ⟨rfl, h6⟩ | ⟨g, cap, cur, rfl, _⟩
    · have hzs : xs ++ ys = [] := List.eq_nil_of_length_eq_zero h6
      have := h (xs ++ ys) none 0 w' (by simp [Hid]) ⟨by rw [h6] at h2 ⊢; exact h2⟩ h3 (by simpa [blockOf, Value.ownBlock] using h5)
      rw [h6] at this
      exact this
    · exact h (xs ++ ys) _ _ w' (by simp [Hid]) ⟨h2⟩ h3 (by simpa [ownBlock_slice] using h5)
theorem OpsAt.upto {w : World} {B : Nat} {A : Option Addr} {os : List Od} (h : OpsAt w B A os) (n : Nat) : OpsAt w B A (os.take n) := by
  refine ⟨fun hx => ?_, fun x hx => h.wf x (List.mem_of_mem_take hx), Nat.le_trans (by simp; omega) h.len⟩
  obtain ⟨b, off, e, hlt, hc⟩ := h.row (by intro e; subst e; simp at hx)
  refine ⟨b, off, e, hlt, fun j x hj => hc j x ?_⟩
  rw [List.getElem?_take] at hj
  split at hj
  · exact hj
  · cases hj
end Go.Proofs.YtnpmacegdnnhdaaDoor

namespace Go.Proofs.YtnpmacegdnnhdaaDoor
open Go.RowKit
set_option linter.unusedVariables false
theorem OpsAt.one {w : World} {b : Nat} {o : Od} {t : TypeId} (h : Lies w b #[.int .i64 o.code, .int .i64 o.arg] t) (h64 : In64 o.code ∧ In64 o.arg) : OpsAt w w.heap.size (some ⟨b, 0, none⟩) [o] := by
  have c0 := h.cell 0
  have c1 := h.cell 1
  simp only [List.getElem?_toArray, List.getElem?_cons_zero, List.getElem?_cons_succ] at c0 c1
  refine ⟨fun _ => ⟨b, 0, rfl, h.lt, fun j x hj => ?_⟩, fun x hx => ?_, by simp⟩
  · match j, hj with
    | 0, hj =>
      simp at hj
      subst hj
      exact ⟨c0, c1⟩
  · rw [List.mem_singleton.1 hx]
    exact h64
set_option maxHeartbeats 1000000 in
theorem emit_any (A : Option Addr) (os : List Od) (c : Nat) (B : Option Addr) (ps : List Od) (d : Nat) (w : World) (h : OpsAt w w.heap.size A os) (hn : A = none → c = 0) (h2 : OpsAt w w.heap.size B ps) (hn2 : B = none → d = 0) (hl : os.length + ps.length ≤ 8000000) :
    Calls Tryd.prog 44 #[.slice A os.length c, .slice B ps.length d] w (GivesOps w (os ++ ps)) := by
  have Hn := hide hn
  have Hn2 := hide hn2
  have HE := hide (OwnO.bare w)
  have HB := hide ((Below.refl w.heap.size w).alloc (Nat.le_refl _) (.cells #[] 40))
  clear hn hn2
  go_enter Tryd.func44, Tryd.ntmps44
  go_wp2_with (at_builtin; first
    | (refine append_ops rfl (.tmp 5) (.tmp 6) rfl w.heap.size _ 0 [] rfl HE.out w.heap.size A c os rfl Hn.out (h.below HB.out) (by simp; omega) HB.out.size ?_; intro zs A5 c5 w6 e5 own5 hg5 _; have HB6 := hide (below_grown HB.out hg5 HB.out.size (fun q hq => (HE.out.blocks q hq).1)); have HO6 := hide own5; have hz6 : zs.length = os.length := (by rw [e5.out, List.nil_append]); have hz7 : zs.length ≤ os.length := (by omega); clear own5 hg5 hz6)
    | (refine append_ops rfl (.tmp 7) (.tmp 8) rfl w.heap.size A5 c5 zs rfl HO6.out w.heap.size B d ps rfl Hn2.out (h2.below HB6.out) (by omega) HB6.out.size ?_; intro ys A7 c7 w8 e7 own7 hg7 _; have HB8 := hide (below_grown HB6.out hg7 HB6.out.size (fun q hq => (HO6.out.blocks q hq).1)); have HO8 := hide own7; clear own7 hg7))
  go_ret
  have e8 : ys = os ++ ps := by rw [e7.out, e5.out, List.nil_append]
  subst e8
  exact ⟨A7, c7, rfl, HO8.out, HB8.out⟩
end Go.Proofs.YtnpmacegdnnhdaaDoor

namespace Go.Proofs.YtnpmacegdnnhdaaDoor
open Go.RowKit
set_option linter.unusedVariables false
set_option linter.unusedSimpArgs false
set_option maxRecDepth 100000 in
set_option maxHeartbeats 4000000 in
theorem stepShapes_done (p : ShPtr) (s : Shp) (cd ar : Int) (hd : s.done = true) (base : Nat) (w : World) (h : ShOwn w base p s) (hbase : base ≤ w.heap.size) (hs : s.Small) :
    Calls Tryd.prog 38 #[shVal p s, .agg #[.int .i64 cd, .int .i64 ar]] w (TriesSh w p base (stepShp s ⟨cd, ar⟩)) := by
  obtain ⟨K, c1, F, c2, S, c3, M, c4⟩ := p
  have hS := ShSt.enter3 h hbase (.cells #[.int .i64 cd, .int .i64 ar] 40)
  have lo : Lies (((w.alloc (.cells (shCells ⟨K, c1, F, c2, S, c3, M, c4⟩ s) 69)).alloc (.cells #[.int .i64 cd, .int .i64 ar] 40)).alloc (.cells zero5 69)) (w.heap.size + 1) #[.int .i64 cd, .int .i64 ar] 40 := by
    have := (Lies.new (w.alloc (.cells (shCells ⟨K, c1, F, c2, S, c3, M, c4⟩ s) 69)) #[.int .i64 cd, .int .i64 ar] 40).alloc (.cells zero5 69)
    simpa using this
  have hst := hs.t
  have hkl := hs.k
  have Hs := hide hs
  have Hd := hide hd
  have hoffo := h.off (q := w.heap.size + 1) (.inr (by omega))
  clear h hs hd
  unfold shVal
  unfold shCells zero5 at *
  dsimp only at hS lo ⊢
  go_enter Tryd.func38, Tryd.ntmps38
  go_upto_region 1 with fail
  generalize ((w.alloc (.cells #[.slice K s.kinds.length c1, .slice F s.full.length c2, .slice S s.stack.length c3, .slice M s.memo.length c4, .bool s.done] 69)).alloc (.cells #[.int .i64 cd, .int .i64 ar] 40)).alloc (.cells #[.slice none 0 0, .slice none 0 0, .slice none 0 0, .slice none 0 0, .bool false] 69) = W at hS lo ⊢
  obtain ⟨e0, e1, e2, e3, e4⟩ := hS.bx.cells
  dsimp only at e0 e1 e2 e3 e4
  have d0 := lo.cell 0
  have d1 := lo.cell 1
  simp only [List.getElem?_toArray, List.getElem?_cons_zero, List.getElem?_cons_succ] at d0 d1
  have hd := Hd.out
  rw [hd] at e4
  have HN := hide (show stepShp s ⟨cd, ar⟩ = none from stepShp_none (by unfold stepFree; rw [if_pos hd]))
  obtain ⟨_, hs5, _, hbel, hfr⟩ := hS.ret
  obtain ⟨r0, r1, r2, r3, r4, f0, f1, f2, f3, f4, s0, s1, s2, s3, s4⟩ := hs5
  have HR := hide (And.intro hbel hfr)
  clear hbel hfr hS d0 d1 lo
  dsimp only at r0 r1 r2 r3 r4 s0 s1 s2 s3 s4
  rw [hd] at s0 s1 s2 s3 s4 HR
  go_wp2
  refine bodyPost_ret (v := .tuple #[shVal ⟨K, c1, F, c2, S, c3, M, c4⟩ s, .bool false]) (by simp [shVal, shCells, hd, results, Tryd.results38, go_sem, s0, s1, s2, s3, s4]) rfl ?_
  exact ⟨_, _, _, rfl, HR.out.1, HR.out.2, fun t ht => by (rw [HN.out] at ht; cases ht), fun _ => rfl⟩
end Go.Proofs.YtnpmacegdnnhdaaDoor

namespace Go.Proofs.YtnpmacegdnnhdaaDoor
open Go.RowKit
set_option linter.unusedVariables false
def GivesOpsV (w : World) (os : List Od) (v : Value) (e : Ending) (w' : World) : Prop := ∃ A c, e = .returned (.tuple #[.slice A os.length c, v]) ∧ OwnO w' w.heap.size A c os ∧ Below w.heap.size w w'
structure DcS (w wr : World) (R : List Od) (N : Nat) (xs : List Int) (k i : Nat) (Ao : Option Addr) (co : Nat) (acc : List Od) : Prop where
  bel : Below w.heap.size w wr
  own : OwnO wr w.heap.size Ao co acc
  eq : acc ++ (decs (300 - k) (xs.drop i)).1 = R
  at_ : i + (decs (300 - k) (xs.drop i)).2 = N
  len : acc.length = k
  few : k ≤ 300
  le : i ≤ xs.length
theorem DcS.step {w wr w2 : World} {R : List Od} {N : Nat} {xs : List Int} {k i n : Nat} {o : Od} {Ao A2 : Option Addr} {co c2 : Nat} {acc zs2 : List Od} (h : DcS w wr R N xs k i Ao co acc) (hb : ∀ x ∈ xs, 0 ≤ x ∧ x ≤ 255)
    (hk : k < 300) (hx : firstO (xs.drop i) = some (o, n)) (hb2 : Below w.heap.size w w2) (e2 : zs2 = acc ++ [o]) (own2 : OwnO w2 w.heap.size A2 c2 zs2) : DcS w w2 R N xs (k + 1) (i + n) A2 c2 zs2 := by
  have hf := firstO_some (fun x hx => hb x (List.mem_of_mem_drop hx)) hx
  have hlen := hf.2.2.2.2.2
  simp only [List.length_drop] at hlen
  have e : 300 - k = (300 - (k + 1)) + 1 := by omega
  have h1 := h.eq
  have h2 := h.at_
  rw [e, decs_step hx] at h1 h2
  simp only [List.drop_drop] at h1 h2
  refine ⟨hb2, own2, ?_, by omega, ?_, by omega, by have := h.le; omega⟩
  · rw [e2, ← h1]; simp
  · rw [e2, ← h.len]; simp
theorem DcS.stop {w wr : World} {R : List Od} {N : Nat} {xs : List Int} {k i : Nat} {Ao : Option Addr} {co : Nat} {acc : List Od} (h : DcS w wr R N xs k i Ao co acc) (hx : k = 300 ∨ firstO (xs.drop i) = none) : acc = R ∧ i = N := by
  have h1 := h.eq
  have h2 := h.at_
  have hd : decs (300 - k) (xs.drop i) = ([], 0) := by
    rcases hx with rfl | hx
    · rfl
    · exact decs_stop hx
  rw [hd] at h1 h2
  simp at h1 h2
  exact ⟨h1, h2⟩
theorem firstO_pos {xs : List Int} {p : Od × Nat} (hb : ∀ x ∈ xs, 0 ≤ x ∧ x ≤ 255) (h : fstO xs = p) (hp : p.2 ≠ 0) : firstO xs = some p := by
  cases hx : firstO xs with
  | none => rw [fstO_none hx] at h; subst h; exact absurd rfl hp
  | some q => rw [fstO_some hx] at h; rw [h]
theorem firstO_zero {xs : List Int} {p : Od × Nat} (hb : ∀ x ∈ xs, 0 ≤ x ∧ x ≤ 255) (h : fstO xs = p) (hp : p.2 = 0) : firstO xs = none := by
  cases hx : firstO xs with
  | none => rfl
  | some q =>
    rw [fstO_some hx] at h
    subst h
    have := (firstO_some hb (o := q.1) (n := q.2) hx).2.2.2.1
    omega
end Go.Proofs.YtnpmacegdnnhdaaDoor
