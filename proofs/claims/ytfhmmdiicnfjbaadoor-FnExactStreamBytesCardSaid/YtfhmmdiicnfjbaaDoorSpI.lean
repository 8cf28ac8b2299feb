/-
  The program's SplitStops: what it returns.
-/
import Derived.Test.YtfhmmdiicnfjbaaDoorSpS
import Derived.Test.YtfhmmdiicnfjbaaDoorImplO
import Derived.Test.YtfhmmdiicnfjbaaDoorClnO
import Derived.Test.YtfhmmdiicnfjbaaDoorPjAf
namespace Go.Proofs.YtfhmmdiicnfjbaaDoor
open Go.RowKit
set_option linter.unusedVariables false

/-- the parts that are put, where the next one begins at s -/
structure SpI (w wr : World) (Ao : Option Addr) (co : Nat) (ps : List (Option Addr × Nat)) (out : List (List Od)) : Prop where
  bel : Below w.heap.size w wr
  own : OwnOS wr w.heap.size Ao co ps out

theorem SpI.put {w wr w4 w5 : World} {Ao Ap A5 : Option Addr} {co cp c5 : Nat} {ps : List (Option Addr × Nat)} {out : List (List Od)} {part : List Od} {lit : Obj} (h : SpI w wr Ao co ps out) (hb : Below wr.heap.size wr w4) (own : OwnOS w5 w.heap.size A5 c5 (ps ++ [(Ap, cp)]) (out ++ [part])) (hg : (w4.alloc lit).grownBy w5 (blockOf Ao)) : SpI w w5 A5 c5 (ps ++ [(Ap, cp)]) (out ++ [part]) :=
  ⟨below_grown ((h.bel.trans (hb.mono h.bel.size)).alloc (Nat.le_trans h.bel.size hb.size) lit) hg (by have := h.bel.size; have := hb.size; simp; omega) (fun q hq => (h.own.blocks q hq).1), own⟩

theorem take_drop_snoc {α : Type} {l : List α} {s k : Nat} {x : α} (h : l[k]? = some x) (hs : s ≤ k) : (l.take k).drop s ++ [x] = (l.take (k + 1)).drop s := by
  rw [List.take_add_one, h, List.drop_append_of_le_length (by have := (List.getElem?_eq_some_iff.1 h).1; simp; omega)]
  rfl

theorem split_cut {os : List Od} {s k : Nat} {o : Od} (hx : os[k]? = some o) (hs : s ≤ k) (hcut : o.code = 19 ∨ k + 1 = os.length) :
    splitAux ((os.take k).drop s) (os.drop k) = (os.take (k + 1)).drop s :: splitAux ((os.take (k + 1)).drop (k + 1)) (os.drop (k + 1)) := by
  have e1 : (os.take (k + 1)).drop (k + 1) = [] := by simp
  have hT := take_drop_snoc hx hs
  rw [drop_at hx, e1]
  by_cases h19 : o.code = 19
  · rw [splitAux_stop h19, hT]
  · have e2 : os.drop (k + 1) = [] := by rw [List.drop_eq_nil_iff]; omega
    rw [splitAux_go h19, e2, splitAux_nil, splitAux_end (by simp), hT]

set_option maxRecDepth 100000 in
set_option maxHeartbeats 2000000 in
theorem implSplitStops_any (A : Option Addr) (os : List Od) (c : Nat) (w : World) (h : OpsAt w w.heap.size A os) (hc : os.length ≤ c) (hF : FormsAt w w.heap.size) :
    Calls Tryd.prog 19 #[.slice A os.length c] w (GivesOS w (splitOf os)) := by
  by_cases hok : OpsOk os
  · rw [splitOf_ok hok]
    have ht := hide (tf_true hok)
    have hl := hok.1
    clear hok
    go_enter Tryd.func19, Tryd.ntmps19
    go_wp2_with fail
    refine (implValidOps_any A os c w h hF).mono ?_
    rintro e w1 ⟨rfl, hb1⟩
    rw [ht.out]
    have h1 := h.later hb1 (Nat.le_refl _)
    have HB1 := hide hb1
    have hsz1 := hb1.size
    clear hb1 h hF
    go_wp2_with fail
    go_loopw [3, 4, 13] (fun ov sv iv wr => ∃ (k s : Nat) (Ao : Option Addr) (co : Nat) (ps : List (Option Addr × Nat)) (out : List (List Od)), k ≤ os.length ∧ s ≤ k ∧ (k = os.length → s = k) ∧ iv = .int .i64 (k : Int) ∧ sv = .int .i64 (s : Int) ∧ ov = .slice Ao out.length co ∧ SpI w1 wr Ao co ps out ∧ out ++ splitAux ((os.take k).drop s) (os.drop k) = splitStops os ∧ out.length ≤ k) (fun _ _ iv _ => os.length - (intOf iv).toNat)
    case atStart => exact ⟨0, 0, none, 0, [], [], Nat.zero_le _, Nat.le_refl _, fun _ => rfl, rfl, rfl, rfl, ⟨Below.refl _ _, OwnOS.empty _ _⟩, rfl, Nat.le_refl _⟩
    case round =>
      obtain ⟨k, s, Ao, co, ps, out, hk, hsk, hend, rfl, rfl, rfl, hS, hE, hol⟩ := hrel
      have HS := hide hS
      have hsz := hS.bel.size
      have Hend := hide hend
      clear hend
      by_cases hlt : k < os.length
      · obtain ⟨b, off, o, rfl, hbl, hx, hmem, hc0, hc1⟩ := (h1.below hS.bel).at_ hlt
        have hx0 := hx
        have HX := hide (drop_at hx)
        have HT := hide (take_drop_snoc hx hsk)
        have HE := hide hE
        clear hx hmem hS hE
        have hk1 : (0 : Int) ≤ (k : Int) := by omega
        have hk2 : (k : Int) < (os.length : Int) := by omega
        have hs1 : (0 : Int) ≤ (s : Int) := by omega
        have hB0 := (Below.refl wr.heap.size wr).alloc (Nat.le_refl _) (.cells #[.int .i64 o.code, .int .i64 o.arg] 40)
        have HB0 := hide hB0
        have L0 := hide (Lies.new wr #[.int .i64 o.code, .int .i64 o.arg] 40)
        have HP0 := hide (((h1.begin (k + 1)).behind s).below (HS.out.bel.trans (hB0.mono hsz)))
        clear hB0
        by_cases hcut : o.code = 19 ∨ k + 1 = os.length
        · have HE2 : Hid ((out ++ [(os.take (k + 1)).drop s]) ++ splitAux ((os.take (k + 1)).drop (k + 1)) (os.drop (k + 1)) = splitStops os) := hide (by
            rw [← HE.out, split_cut hx0 hsk hcut, List.append_assoc]; rfl)
          have hpl : ((os.take (k + 1)).drop s).length = k + 1 - s := by simp; omega
          have HPl := hide hpl
          have hkc : ((k : Int) + 1) ≤ (c : Int) := by omega
          have hskI : (s : Int) ≤ (k : Int) + 1 := by omega
          obtain ⟨part, hpart⟩ : ∃ p, p = (os.take (k + 1)).drop s := ⟨_, rfl⟩
          rw [← hpart] at HP0 HE2 HPl hpl
          have hple : part.length ≤ 300 := by omega
          clear hpart hx0 hpl
          by_cases h19 : o.code = 19
          · have hd : (o.code == 19) = true := by simp [h19]
            clear h19 hcut
            go_wp2_with fail
            have HC := cloneO_any (some ⟨b, off + s * 2, none⟩) part (c - s) (wr.alloc (.cells #[.int .i64 o.code, .int .i64 o.arg] 40)) (HP0.out.more (by simp; omega)) (fun e => by cases e) (by omega)
            rw [HPl.out] at HC
            refine HC.mono ?_
            clear HC
            rintro e w4 ⟨A4, c4, rfl, ho4, hb4⟩
            have HB4 := hide (HB0.out.trans (hb4.mono HB0.out.size))
            have HO4 := hide (HS.out.own.below HB4.out)
            have HN := hide (Lies.new w4 #[.slice A4 part.length c4] 26)
            have Hap : Hid (∀ (i : Nat) (p : Option Addr × Nat), ps[i]? = some p → ∀ b, blockOf p.1 = some b → blockOf A4 ≠ some b) := hide fun i p hi b hb e => by
              have h1 := (HS.out.own.kidB hi b hb).2
              have h2 := (ho4.blocks b e).1
              simp at h2
              omega
            have Hown := hide (ho4.mono (show w1.heap.size ≤ (wr.alloc (.cells #[.int .i64 o.code, .int .i64 o.arg] 40)).heap.size by simp; omega))
            have hsz4 : w1.heap.size ≤ w4.heap.size := Nat.le_trans hsz HB4.out.size
            clear ho4 hb4
            go_wp2_with (at_builtin; refine append_os rfl (.tmp 29) (.tmp 35) rfl w1.heap.size Ao co ps out rfl (HO4.out.below ((Below.refl _ _).alloc (Nat.le_refl _) _)) w4.heap.size A4 c4 part 26 rfl HN.out (Hown.out.alloc _) (by simp; omega) (by omega) Hap.out ?_; intro A7 c7 w7 own7 hg7; have HS7 := hide (HS.out.put HB4.out own7 hg7); clear own7 hg7 HN)
            have hll : (out ++ [part]).length = out.length + 1 := by simp
            go_roundw
            case rel => exact ⟨k + 1, k + 1, A7, c7, _, out ++ [part], by omega, by omega, fun _ => rfl, by go_num, by go_num, by rw [hll], HS7.out, HE2.out, by omega⟩
            case measure => simp [intOf]; omega
          · have he : k + 1 = os.length := by omega
            have hd : (o.code == 19) = false := by simp [h19]
            have hd2 : (((k : Int) + 1) == (os.length : Int)) = true := by rw [beq_iff_eq]; omega
            clear he
            clear h19 hcut
            go_wp2_with fail
            have HC := cloneO_any (some ⟨b, off + s * 2, none⟩) part (c - s) (wr.alloc (.cells #[.int .i64 o.code, .int .i64 o.arg] 40)) (HP0.out.more (by simp; omega)) (fun e => by cases e) (by omega)
            rw [HPl.out] at HC
            refine HC.mono ?_
            clear HC
            rintro e w4 ⟨A4, c4, rfl, ho4, hb4⟩
            have HB4 := hide (HB0.out.trans (hb4.mono HB0.out.size))
            have HO4 := hide (HS.out.own.below HB4.out)
            have HN := hide (Lies.new w4 #[.slice A4 part.length c4] 26)
            have Hap : Hid (∀ (i : Nat) (p : Option Addr × Nat), ps[i]? = some p → ∀ b, blockOf p.1 = some b → blockOf A4 ≠ some b) := hide fun i p hi b hb e => by
              have h1 := (HS.out.own.kidB hi b hb).2
              have h2 := (ho4.blocks b e).1
              simp at h2
              omega
            have Hown := hide (ho4.mono (show w1.heap.size ≤ (wr.alloc (.cells #[.int .i64 o.code, .int .i64 o.arg] 40)).heap.size by simp; omega))
            have hsz4 : w1.heap.size ≤ w4.heap.size := Nat.le_trans hsz HB4.out.size
            clear ho4 hb4
            go_wp2_with (at_builtin; refine append_os rfl (.tmp 29) (.tmp 35) rfl w1.heap.size Ao co ps out rfl (HO4.out.below ((Below.refl _ _).alloc (Nat.le_refl _) _)) w4.heap.size A4 c4 part 26 rfl HN.out (Hown.out.alloc _) (by simp; omega) (by omega) Hap.out ?_; intro A7 c7 w7 own7 hg7; have HS7 := hide (HS.out.put HB4.out own7 hg7); clear own7 hg7 HN)
            have hll : (out ++ [part]).length = out.length + 1 := by simp
            go_roundw
            case rel => exact ⟨k + 1, k + 1, A7, c7, _, out ++ [part], by omega, by omega, fun _ => rfl, by go_num, by go_num, by rw [hll], HS7.out, HE2.out, by omega⟩
            case measure => simp [intOf]; omega
        · have h19 : o.code ≠ 19 := fun e => hcut (.inl e)
          have hne : k + 1 ≠ os.length := fun e => hcut (.inr e)
          have hd : (o.code == 19) = false := by simp [h19]
          have hd2 : (((k : Int) + 1) == (os.length : Int)) = false := by rw [beq_eq_false_iff_ne]; omega
          have HE2 : Hid (out ++ splitAux ((os.take (k + 1)).drop s) (os.drop (k + 1)) = splitStops os) := hide (by
            rw [← HE.out, HX.out, splitAux_go h19, HT.out])
          clear h19 hcut hx0
          go_wp2
          go_roundw
          case rel => exact ⟨k + 1, s, Ao, co, ps, out, by omega, by omega, fun e => absurd e hne, by go_num, rfl, rfl, ⟨HS.out.bel.trans (HB0.out.mono hsz), HS.out.own.below HB0.out⟩, HE2.out, by omega⟩
          case measure => simp [intOf]; omega
      · obtain rfl : k = os.length := by omega
        obtain rfl := Hend.out rfl
        rw [List.drop_length, List.take_length, List.drop_length, splitAux_nil, List.append_nil] at hE
        subst hE
        go_wp2
        go_ret
        exact ⟨Ao, co, ps, rfl, hS.own.mono hsz1, HB1.out.trans (hS.bel.mono hsz1)⟩
  · rw [splitOf_no hok]
    have ht := hide (tf_false hok)
    clear hok
    go_enter Tryd.func19, Tryd.ntmps19
    go_wp2_with fail
    refine (implValidOps_any A os c w h hF).mono ?_
    rintro e w1 ⟨rfl, hb1⟩
    rw [ht.out]
    go_wp2
    go_ret
    exact ⟨none, 0, [], rfl, OwnOS.empty _ _, hb1⟩

end Go.Proofs.YtfhmmdiicnfjbaaDoor
