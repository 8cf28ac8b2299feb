import Derived.Test.YtbihgafkmmcjlaaDoorRunS
import Derived.Test.YtbihgafkmmcjlaaDoorPjAm
import Derived.Test.YtbihgafkmmcjlaaDoorPjAh
namespace Go.Proofs.YtbihgafkmmcjlaaDoor
open Go.RowKit
set_option linter.unusedVariables false
structure EdS (w4 wr : World) (Ao : Option Addr) (co : Nat) (acc : List Od) : Prop where
  bel : Below w4.heap.size w4 wr
  own : OwnO wr w4.heap.size Ao co acc
theorem EdS.step {w4 wr w7 : World} {Ao A2 : Option Addr} {co c2 : Nat} {acc zs : List Od} (h : EdS w4 wr Ao co acc) (lit : Obj) (hg : (wr.alloc lit).grownBy w7 (blockOf Ao)) (own : OwnO w7 w4.heap.size A2 c2 zs) : EdS w4 w7 A2 c2 zs :=
  ⟨below_grown (h.bel.alloc h.bel.size lit) hg (by have := h.bel.size; simp; omega) (fun q hq => (h.own.blocks q hq).1), own⟩
def GivesEnd (w : World) (r : Option (List Od)) (e : Ending) (w' : World) : Prop := ∃ A c, e = .returned (.tuple #[.slice A (r.getD []).length c, .bool r.isSome]) ∧ OwnO w' w.heap.size A c (r.getD []) ∧ Below w.heap.size w w'
theorem GivesEnd.some {w w' : World} {e : Ending} {l : List Od} {A : Option Addr} {c : Nat} (he : e = .returned (.tuple #[.slice A l.length c, .bool true])) (ho : OwnO w' w.heap.size A c l) (hb : Below w.heap.size w w') : GivesEnd w (.some l) e w' := ⟨A, c, he, ho, hb⟩
theorem GivesEnd.none {w w' : World} {e : Ending} (he : e = .returned (.tuple #[.slice none 0 0, .bool false])) (hb : Below w.heap.size w w') : GivesEnd w .none e w' := ⟨_, 0, he, OwnO.empty _ _, hb⟩
theorem endOf_bad {os : List Od} (h : ¬ OpsOk os) : endOf os = none := by unfold endOf; rw [if_neg h]
theorem endOf_done {os : List Od} {s : Shp} {n : Nat} (h : OpsOk os) (hr : runShp Shp.new os = (s, n)) (hd : s.done = true) : endOf os = some [] := by unfold endOf; rw [if_pos h, hr]; simp [hd]
theorem endOf_yes {os : List Od} {s : Shp} {n : Nat} (h : OpsOk os) (hr : runShp Shp.new os = (s, n)) (hd : ¬ s.done = true) (h1 : OpsOk (os.take n ++ tailOps s.stack)) (h2 : (runShp Shp.new (os.take n ++ tailOps s.stack)).2 = (os.take n ++ tailOps s.stack).length) : endOf os = some (tailOps s.stack) := by
  unfold endOf; rw [if_pos h, hr]; simp only [if_neg hd]; rw [if_pos ⟨h1, h2⟩]
theorem endOf_not {os : List Od} {s : Shp} {n : Nat} (h : OpsOk os) (hr : runShp Shp.new os = (s, n)) (hd : ¬ s.done = true) (h1 : ¬ (OpsOk (os.take n ++ tailOps s.stack) ∧ (runShp Shp.new (os.take n ++ tailOps s.stack)).2 = (os.take n ++ tailOps s.stack).length)) : endOf os = none := by
  unfold endOf; rw [if_pos h, hr]; simp only [if_neg hd]; rw [if_neg h1]
set_option maxRecDepth 100000 in
set_option maxHeartbeats 16000000 in
theorem specEndOps_any (A : Option Addr) (os : List Od) (c : Nat) (w : World) (h : OpsAt w w.heap.size A os) (hnil : A = none → c = 0) (hc : os.length ≤ c) :
    Calls Tryd.prog 6 #[.slice A os.length c] w (GivesEnd w (endOf os)) := by
  have Hnil := hide hnil
  clear hnil
  by_cases hok : OpsOk os
  · have ht := hide (tf_true hok)
    have Hok := hide hok
    have hl := hok.1
    have hn0 := runNew_le hok.2
    obtain ⟨sF, hsF⟩ : ∃ s, s = (runShp Shp.new os).1 := ⟨_, rfl⟩
    obtain ⟨n, hnd⟩ : ∃ n, n = (runShp Shp.new os).2 := ⟨_, rfl⟩
    have Hr := hide (show runShp Shp.new os = (sF, n) by rw [hsF, hnd])
    rw [← hsF, ← hnd] at hn0
    have HsO := hide hn0.1
    have Hsm := hide (hn0.2.1.small hn0.1)
    have hst := hn0.2.1.2
    have hn := hn0.2.2
    have HT : Hid ((os.take n).length = n) := hide (by simp; omega)
    have hnc : (n : Int) ≤ (c : Int) := by omega
    clear hok hnd hsF hn0
    go_enter Tryd.func6, Tryd.ntmps6
    go_wp2_with fail
    refine (specValidOps_any A os c w h).mono ?_
    rintro e w1 ⟨rfl, hb1⟩
    rw [ht.out]
    have h1 := h.later hb1 (Nat.le_refl _)
    go_wp2_with fail
    have HC := runShapes_any A os c w1 h1 Hok.out.2
    rw [Hr.out] at HC
    refine HC.mono ?_
    clear HC
    rintro e w2 ⟨p, rfl, ho2, hb2⟩
    have HB2 := hide (hb1.trans (hb2.mono hb1.size))
    have HSt2 := hide (ho2.at_ Hsm.out)
    clear hb1 hb2 h1 ho2
    simp only [shVal, shCells]
    have HB3 := hide (HB2.out.alloc HB2.out.size (.cells #[.slice p.K sF.kinds.length p.c1, .slice p.F sF.full.length p.c2, .slice p.S sF.stack.length p.c3, .slice p.M sF.memo.length p.c4, .bool sF.done] 38))
    have Lb := hide (Lies.new w2 #[.slice p.K sF.kinds.length p.c1, .slice p.F sF.full.length p.c2, .slice p.S sF.stack.length p.c3, .slice p.M sF.memo.length p.c4, .bool sF.done] 38)
    have HSt := hide (HSt2.out.later ((Below.refl w2.heap.size w2).alloc (Nat.le_refl _) (.cells #[.slice p.K sF.kinds.length p.c1, .slice p.F sF.full.length p.c2, .slice p.S sF.stack.length p.c3, .slice p.M sF.memo.length p.c4, .bool sF.done] 38)) (Nat.le_refl _)).t
    clear HSt2
    go_upto_region 4 with fail
    generalize w2.alloc (.cells #[.slice p.K sF.kinds.length p.c1, .slice p.F sF.full.length p.c2, .slice p.S sF.stack.length p.c3, .slice p.M sF.memo.length p.c4, .bool sF.done] 38) = w4 at HB3 Lb HSt ⊢
    generalize w2.heap.size = gb at Lb ⊢
    clear HB2
    have hgb := Lb.out.lt
    have HS5 := hide (show EdS w4 (w4.alloc (.cells #[] 42)) (some ⟨w4.heap.size, 0, none⟩) 0 [] from ⟨(Below.refl _ _).alloc (Nat.le_refl _) _, OwnO.bare w4⟩)
    go_upto_region 5 with fail
    have hz5 : w4.heap.size ≤ (w4.alloc (.cells #[] 42)).heap.size := by simp
    generalize w4.alloc (.cells #[] 42) = w5 at HS5 hz5 ⊢
    have lb5 := Lb.out.below HS5.out.bel hgb
    have x2 := lb5.cell 2
    have x4 := lb5.cell 4
    simp only [jD, jE, jF] at x2 x4
    have Lb5 := hide lb5
    clear lb5
    by_cases hd : sF.done = true
    · have HE := hide (endOf_done Hok.out Hr.out hd)
      rw [hd] at x4
      go_wp2
      go_ret2
      rw [HE.out]
      exact GivesEnd.some (l := []) rfl (HS5.out.own.mono HB3.out.size) (HB3.out.trans (HS5.out.bel.mono HB3.out.size))
    · have hdf : sF.done = false := by simpa using hd
      have Hd := hide hd
      rw [hdf] at x4
      clear hd hdf
      obtain ⟨K, c1, F, c2, S, c3, M, c4⟩ := p
      dsimp only at HSt x2 x4 Lb Lb5
      go_wp2_with fail
      have HSt5 := hide (HSt.out.later HS5.out.bel (Nat.le_refl _))
      go_loop [7, 8] (fun mv iv => ∃ k : Nat, k ≤ sF.stack.length ∧ iv = .int .i64 (k : Int) ∧ mv = .int .i64 (negs sF.stack k : Int)) (fun _ iv => sF.stack.length - (intOf iv).toNat)
      case atStart => exact ⟨0, Nat.zero_le _, rfl, rfl⟩
      case round =>
        obtain ⟨k, hk, rfl, rfl⟩ := hrel
        have hng := negs_le sF.stack k
        by_cases hlt : k < sF.stack.length
        · obtain ⟨b, off, x, rfl, hbl, hx, _, hcx⟩ := HSt5.out.at_ hlt
          have hgx : sF.stack.getD k 0 = x := by rw [List.getD_eq_getElem?_getD, hx]; rfl
          have hk1 : (0 : Int) ≤ (k : Int) := by omega
          have hk2 : (k : Int) < (sF.stack.length : Int) := by omega
          by_cases hneg : x < 0
          · have HNg : Hid (negs sF.stack (k + 1) = negs sF.stack k + 1) := hide (by show negs sF.stack k + _ = _; rw [hgx, if_pos hneg])
            clear hx hgx
            generalize negs sF.stack k = m at hng HNg
            have dx : decide (x < 0) = true := by simpa using hneg
            go_wp2
            go_round
            case rel => exact ⟨k + 1, by omega, by go_num, by rw [HNg.out]; go_num⟩
            case measure => simp [intOf]; omega
          · have HNg : Hid (negs sF.stack (k + 1) = negs sF.stack k) := hide (by show negs sF.stack k + _ = _; rw [hgx, if_neg hneg]; rfl)
            clear hx hgx
            generalize negs sF.stack k = m at hng HNg
            have dx : decide (x < 0) = false := by simpa using hneg
            go_wp2
            go_round
            case rel => exact ⟨k + 1, by omega, by go_num, by rw [HNg.out]⟩
            case measure => simp [intOf]; omega
        · obtain rfl : k = sF.stack.length := by omega
          clear hlt
          obtain ⟨m, hm⟩ : ∃ m, m = negs sF.stack sF.stack.length := ⟨_, rfl⟩
          rw [← hm] at hng ⊢
          have Hm := hide hm
          clear hm
          go_wp2_with fail
          go_loopg [6, 9] m (fun gk ov iv wr => ∃ (j : Nat) (Ao : Option Addr) (co : Nat) (acc : List Od), j ≤ m ∧ gk = m - j ∧ iv = .int .i64 (j : Int) ∧ ov = .slice Ao acc.length co ∧ EdS w4 wr Ao co acc ∧ acc = List.replicate j ⟨3, 0⟩)
          case atStart => exact ⟨0, _, 0, [], Nat.zero_le _, rfl, rfl, rfl, HS5.out, rfl⟩
          case round =>
            clear x2 x4
            obtain ⟨j, Ao, co, acc, hj, rfl, rfl, rfl, hS, hacc⟩ := hrel
            have HSx := hide hS
            have Hacc := hide hacc
            have hal : acc.length = j := by rw [hacc]; simp
            have hal' : acc.length ≤ 300 := by omega
            have hsz := hS.bel.size
            clear hS hacc
            by_cases hjm : j < m
            · have HNw := hide (Lies.new wr #[.int .i64 3, .int .i64 0] 42)
              clear hal
              go_wp2_with (at_builtin; refine append_op rfl (.tmp 47) (.tmp 49) rfl w4.heap.size Ao co acc rfl (HSx.out.own.alloc _) wr.heap.size ⟨3, 0⟩ 42 rfl HNw.out (by omega) (by simp; omega) ?_; intro zs A3 c3' w7 hz hown7 hg7 hat7; have HO7 := hide hown7; have HG7 := hide hg7; clear hown7 hg7 hat7)
              go_roundg (m - (j + 1))
              case measure => omega
              case rel => exact ⟨j + 1, A3, c3', zs, by omega, rfl, by go_num, rfl, HSx.out.step _ HG7.out HO7.out, by rw [hz.out, Hacc.out, List.replicate_succ']⟩
            · have hjm2 : m = j := by omega
              subst hjm2
              clear hjm hal
              have lbw := Lb.out.below HSx.out.bel hgb
              have x2 := lbw.cell 2
              simp only [jD, jE, jF] at x2
              have HStw := hide (HSt.out.later HSx.out.bel (Nat.le_refl _))
              clear lbw
              go_wp2_with fail
              go_loop [10] (fun rv => ∃ k : Nat, k ≤ sF.stack.length ∧ rv = .int .i64 (k : Int) ∧ k ≤ free sF.stack) (fun rv => sF.stack.length - (intOf rv).toNat)
              case atStart => exact ⟨0, Nat.zero_le _, rfl, Nat.zero_le _⟩
              case round =>
                obtain ⟨k, hk, rfl, hfr⟩ := hrel
                have Hfr := hide hfr
                clear hfr
                by_cases hgo : k < sF.stack.length ∧ 0 ≤ sF.stack.getD k 0
                · obtain ⟨hlt, hnn⟩ := hgo
                  obtain ⟨b, off, x, rfl, hbl, hx, _, hcx⟩ := HStw.out.at_ hlt
                  have hgx : sF.stack.getD k 0 = x := by rw [List.getD_eq_getElem?_getD, hx]; rfl
                  have Hf2 : Hid (k + 1 ≤ free sF.stack) := hide (by
                    rcases Nat.lt_or_ge k (free sF.stack) with h1 | h1
                    · omega
                    · have h2 := Hfr.out
                      have e : free sF.stack = k := by omega
                      have := free_stop (l := sF.stack) (by omega)
                      rw [e] at this
                      omega)
                  rw [hgx] at hnn
                  have dx : decide (0 ≤ x) = true := by simpa using hnn
                  have hk1 : (0 : Int) ≤ (k : Int) := by omega
                  have hk2 : (k : Int) < (sF.stack.length : Int) := by omega
                  clear hx hgx
                  go_wp2
                  go_round
                  case rel => exact ⟨k + 1, by omega, by go_num, Hf2.out⟩
                  case measure => simp [intOf]; omega
                · have hfe : k = free sF.stack := by
                    have h1 := Hfr.out
                    have h2 := free_le sF.stack
                    by_cases hlt : k < sF.stack.length
                    · rcases Nat.lt_or_ge k (free sF.stack) with h3 | h3
                      · exact absurd ⟨hlt, free_at h3⟩ hgo
                      · omega
                    · omega
                  have Hfe := hide hfe
                  clear hfe
                  have hgo2 : k = sF.stack.length ∨ ∃ b off x, k < sF.stack.length ∧ S = some ⟨b, off, none⟩ ∧ x < 0 ∧ wr.cell? ⟨b, off + k, none⟩ = some (.int .i64 x) := by
                    by_cases hlt : k < sF.stack.length
                    · obtain ⟨b, off, x, e, hbl, hx, _, hcx⟩ := HStw.out.at_ hlt
                      have hgx : sF.stack.getD k 0 = x := by rw [List.getD_eq_getElem?_getD, hx]; rfl
                      exact .inr ⟨b, off, x, hlt, e, by rw [hgx] at hgo; omega, hcx⟩
                    · exact .inl (by omega)
                  clear hgo
                  by_cases hm0 : 0 < m
                  · rcases hgo2 with hkl | ⟨b, off, x, hlt, rfl, hneg, hcx⟩
                    · subst hkl
                      go_wp2_with fail
                      go_loopg [6, 11] 399 (fun gk ov iv wx => ∃ (i : Nat) (Ao : Option Addr) (co : Nat) (acc : List Od), 1 ≤ i ∧ i ≤ 1 + (sF.stack.length + 1) ∧ gk = 400 - i ∧ iv = .int .i64 (i : Int) ∧ ov = .slice Ao acc.length co ∧ EdS w4 wx Ao co acc ∧ acc = List.replicate m ⟨3, 0⟩ ++ List.replicate (i - 1) ⟨6, 0⟩ ∧ i - 1 ≤ (sF.stack.length + 1) - 1)
                      case atStart => exact ⟨1, Ao, co, acc, Nat.le_refl _, by omega, rfl, rfl, rfl, HSx.out, by rw [Hacc.out]; simp, by omega⟩
                      case round =>
                        clear x2 HSx Hacc hal' hsz
                        obtain ⟨i, Ao, co, acc, hi1, hi2, rfl, rfl, rfl, hS, hacc, hi3⟩ := hrel
                        have HSx := hide hS
                        have Hacc := hide hacc
                        have hal : acc.length = m + (i - 1) := by rw [hacc]; simp
                        have hal' : acc.length ≤ 700 := by omega
                        have hsz := hS.bel.size
                        clear hS hacc hal
                        by_cases hir : i < sF.stack.length + 1
                        · have HNw := hide (Lies.new wr #[.int .i64 6, .int .i64 0] 42)
                          go_wp2_with (at_builtin; refine append_op rfl (.tmp 75) (.tmp 77) rfl w4.heap.size Ao co acc rfl (HSx.out.own.alloc _) wr.heap.size ⟨6, 0⟩ 42 rfl HNw.out (by omega) (by simp; omega) ?_; intro zs A3 c3' w7 hz hown7 hg7 hat7; have HO7 := hide hown7; have HG7 := hide hg7; clear hown7 hg7 hat7)
                          go_roundg (400 - (i + 1))
                          case measure => omega
                          case rel => exact ⟨i + 1, A3, c3', zs, by omega, by omega, rfl, by go_num, rfl, HSx.out.step _ HG7.out HO7.out, by rw [hz.out, Hacc.out, show i + 1 - 1 = (i - 1) + 1 by omega, List.replicate_succ', List.append_assoc], by omega⟩
                        · have hi4 : i - 1 = (sF.stack.length + 1) - 1 := by omega
                          have Hi4 := hide hi4
                          clear hi4
                          generalize wr = wy at HSx ⊢
                          have HNw := hide (Lies.new wy #[.int .i64 19, .int .i64 0] 42)
                          go_upto_region 29 with (at_builtin; refine append_op rfl (.tmp 85) (.tmp 87) rfl w4.heap.size Ao co acc rfl (HSx.out.own.alloc _) wy.heap.size ⟨19, 0⟩ 42 rfl HNw.out (by omega) (by have := HSx.out.bel.size; simp; omega) ?_; intro zs A3 c3' wx hz hown7 hg7 hat7; have HSn := hide (HSx.out.step _ hg7 hown7); clear hown7 hg7 hat7)
                          have Htl : Hid (zs = tailOps sF.stack) := hide (by
                            rw [hz.out, Hacc.out, Hi4.out]
                            exact (tail_a Hm.out Hfe.out hm0).symm)
                          clear HSx
                          have HSx := HSn
                          clear HSn
                          have HOs := hide HSx.out.own
                          have Hin64 := hide (fun o (ho : o ∈ zs) => od_64 (tailOps_mem sF.stack o (by rw [← Htl.out]; exact ho)))
                          have hfew := tailOps_len sF.stack
                          rw [← Htl.out] at hfew
                          have HEm := hide ((OwnO.bare wx).mono HSx.out.bel.size)
                          have HBe := hide (HSx.out.bel.alloc HSx.out.bel.size (.cells #[] 42))
                          have HOe := hide (HSx.out.own.alloc (.cells #[] 42))
                          have Hd1 : Hid (∀ g, blockOf A3 = some g → g < wx.heap.size) := hide (fun g hg => (HSx.out.own.blocks g hg).2)
                          have HSrc := hide ((h.upto n).below (HB3.out.trans (HBe.out.mono HB3.out.size)))
                          have hwz : w4.heap.size ≤ wx.heap.size := HSx.out.bel.size
                          have hacc : zs.length ≤ 1000 := by omega
                          go_upto_region 30 with (at_builtin; first
                            | (refine append_ops rfl (.tmp 89) (.tmp 92) rfl w4.heap.size _ 0 [] rfl HEm.out w.heap.size A c (os.take n) (congrArg (fun k => Value.slice A k c) HT.out.symm) Hnil.out HSrc.out (by simp; omega) HBe.out.size ?_; intro zs5 A5 c5 w6 e5 own5 hg5 hat5; have HB6 := hide (below_grown HBe.out hg5 HBe.out.size (fun q hq => (HEm.out.blocks q hq).1)); have HO6 := hide own5; have hz6 : zs5.length ≤ 300 := (by rw [e5.out, List.nil_append, HT.out]; omega); have HA5 : Hid (∀ g, blockOf A5 = some g → wx.heap.size ≤ g) := hide (fun g hg => (by rcases hat5 with h5 | h5 <;> rw [hg] at h5 <;> injection h5 with h5 <;> subst h5 <;> simp)); have HOo6 := hide (HOe.out.kept hg5 (by by_cases h0 : blockOf A3 = none; exact .inl h0; exact .inr (fun e => absurd (Hd1.out wx.heap.size e) (Nat.lt_irrefl _)))); clear own5 hg5 hat5)
                            | (refine append_ops rfl (.tmp 93) (.tmp 94) rfl w4.heap.size A5 c5 zs5 rfl HO6.out w6.heap.size A3 c3' zs rfl (fun e => (by rcases HOs.out.form with ⟨_, h2, _⟩ | ⟨g, h2, _⟩; exact h2; rw [h2] at e; cases e)) (HOo6.out.ops Hin64.out (by omega)) (by omega) HB6.out.size ?_; intro ys A7 c7 w8 e7 own7 hg7 hat7; have HB8 := hide (below_grown HB6.out hg7 HB6.out.size (fun q hq => (HO6.out.blocks q hq).1)); have HO8 := hide own7; have HOo8 := hide (HOo6.out.kept hg7 (by by_cases h0 : blockOf A3 = none; exact .inl h0; exact .inr (fun e => by have h9 : ∃ g, blockOf A3 = some g := Option.ne_none_iff_exists'.1 h0; obtain ⟨g, hg⟩ := h9; have := Hd1.out g hg; have := HA5.out g (e ▸ hg); omega))); clear own7 hg7 hat7))
                          have hys : ys = os.take n ++ tailOps sF.stack := by rw [e7.out, e5.out, List.nil_append, Htl.out]
                          have HYs := hide hys
                          have hyok : ∀ o ∈ ys, OdOk o := by
                            intro o ho
                            rw [hys] at ho
                            rcases List.mem_append.1 ho with ho | ho
                            · exact Hok.out.2 o (List.mem_of_mem_take ho)
                            · exact tailOps_mem _ o ho
                          have hyl : ys.length ≤ 1300 := by rw [hys, List.length_append, HT.out, ← Htl.out]; omega
                          have HYok := hide hyok
                          have HY64 := hide (fun o (ho : o ∈ ys) => od_64 (hyok o ho))
                          have hrk := (runNew_le hyok).2.2
                          obtain ⟨s8, k8, hr8⟩ : ∃ s8 k8, runShp Shp.new ys = (s8, k8) := ⟨_, _, rfl⟩
                          rw [hr8] at hrk
                          have Hr8 := hide hr8
                          clear hys hyok hr8
                          dsimp only at hrk
                          have hOp8 := HO8.out.ops HY64.out (by omega)
                          go_wp2_with fail
                          have HC := runShapes_any A7 ys c7 w8 hOp8 HYok.out
                          rw [Hr8.out] at HC
                          refine HC.mono ?_
                          clear HC
                          rintro e w9 ⟨p9, rfl, _, hb9⟩
                          simp only [shVal, shCells]
                          have HOo9 := hide ((HOo8.out.below hb9).alloc (.cells #[.slice p9.K s8.kinds.length p9.c1, .slice p9.F s8.full.length p9.c2, .slice p9.S s8.stack.length p9.c3, .slice p9.M s8.memo.length p9.c4, .bool s8.done] 38))
                          have hO9 := (hOp8.later hb9 (Nat.le_refl _)).later ((Below.refl w9.heap.size w9).alloc (Nat.le_refl _) (.cells #[.slice p9.K s8.kinds.length p9.c1, .slice p9.F s8.full.length p9.c2, .slice p9.S s8.stack.length p9.c3, .slice p9.M s8.memo.length p9.c4, .bool s8.done] 38)) (Nat.le_refl _)
                          have hB9 := (HB8.out.trans (hb9.mono HB8.out.size)).alloc (Nat.le_trans HB8.out.size hb9.size) (.cells #[.slice p9.K s8.kinds.length p9.c1, .slice p9.F s8.full.length p9.c2, .slice p9.S s8.stack.length p9.c3, .slice p9.M s8.memo.length p9.c4, .bool s8.done] 38)
                          have HB9 := hide hB9
                          clear hOp8 hb9 hB9
                          go_upto_region 31 with fail
                          generalize w9.alloc (.cells #[.slice p9.K s8.kinds.length p9.c1, .slice p9.F s8.full.length p9.c2, .slice p9.S s8.stack.length p9.c3, .slice p9.M s8.memo.length p9.c4, .bool s8.done] 38) = wa at HOo9 hO9 HB9 ⊢
                          go_wp2_with fail
                          refine (specValidOps_any A7 ys c7 wa hO9).mono ?_
                          rintro e wb ⟨rfl, hbb⟩
                          have HBb := hide (HB3.out.trans ((HB9.out.trans (hbb.mono HB9.out.size)).mono HB3.out.size))
                          have HOb := hide ((HOo9.out.below hbb).mono HB3.out.size)
                          clear hbb hO9
                          by_cases hyv : OpsOk ys
                          · have hty := hide (tf_true hyv)
                            have HYv := hide hyv
                            rw [hty.out]
                            clear hyv
                            by_cases hkk : k8 < ys.length
                            · have HE := hide (endOf_not Hok.out Hr.out Hd.out (fun hh => by have h2 := hh.2; rw [← HYs.out, Hr8.out] at h2; dsimp only at h2; omega))
                              go_wp2
                              go_ret2
                              rw [HE.out]
                              exact GivesEnd.none rfl HBb.out
                            · have HE := hide (endOf_yes Hok.out Hr.out Hd.out (by rw [← HYs.out]; exact HYv.out) (by rw [← HYs.out, Hr8.out]; dsimp only; omega))
                              have e9 := hide Htl.out
                              go_wp2
                              go_ret2
                              rw [HE.out, ← e9.out]
                              exact GivesEnd.some rfl HOb.out HBb.out
                          · have hty := hide (tf_false hyv)
                            have HE := hide (endOf_not Hok.out Hr.out Hd.out (fun hh => hyv (by rw [HYs.out]; exact hh.1)))
                            rw [hty.out]
                            clear hyv
                            go_wp2
                            go_ret2
                            rw [HE.out]
                            exact GivesEnd.none rfl HBb.out
                    · have dx : decide (0 ≤ x) = false := by simp; omega
                      have hk1 : (0 : Int) ≤ (k : Int) := by omega
                      have hk2 : (k : Int) < (sF.stack.length : Int) := by omega
                      go_wp2_with fail
                      clear dx hcx hneg
                      go_loopg [6, 11] 399 (fun gk ov iv wx => ∃ (i : Nat) (Ao : Option Addr) (co : Nat) (acc : List Od), 1 ≤ i ∧ i ≤ 1 + (k + 1) ∧ gk = 400 - i ∧ iv = .int .i64 (i : Int) ∧ ov = .slice Ao acc.length co ∧ EdS w4 wx Ao co acc ∧ acc = List.replicate m ⟨3, 0⟩ ++ List.replicate (i - 1) ⟨6, 0⟩ ∧ i - 1 ≤ (k + 1) - 1)
                      case atStart => exact ⟨1, Ao, co, acc, Nat.le_refl _, by omega, rfl, rfl, rfl, HSx.out, by rw [Hacc.out]; simp, by omega⟩
                      case round =>
                        clear x2 HSx Hacc hal' hsz
                        obtain ⟨i, Ao, co, acc, hi1, hi2, rfl, rfl, rfl, hS, hacc, hi3⟩ := hrel
                        have HSx := hide hS
                        have Hacc := hide hacc
                        have hal : acc.length = m + (i - 1) := by rw [hacc]; simp
                        have hal' : acc.length ≤ 700 := by omega
                        have hsz := hS.bel.size
                        clear hS hacc hal
                        by_cases hir : i < k + 1
                        · have HNw := hide (Lies.new wr #[.int .i64 6, .int .i64 0] 42)
                          go_wp2_with (at_builtin; refine append_op rfl (.tmp 75) (.tmp 77) rfl w4.heap.size Ao co acc rfl (HSx.out.own.alloc _) wr.heap.size ⟨6, 0⟩ 42 rfl HNw.out (by omega) (by simp; omega) ?_; intro zs A3 c3' w7 hz hown7 hg7 hat7; have HO7 := hide hown7; have HG7 := hide hg7; clear hown7 hg7 hat7)
                          go_roundg (400 - (i + 1))
                          case measure => omega
                          case rel => exact ⟨i + 1, A3, c3', zs, by omega, by omega, rfl, by go_num, rfl, HSx.out.step _ HG7.out HO7.out, by rw [hz.out, Hacc.out, show i + 1 - 1 = (i - 1) + 1 by omega, List.replicate_succ', List.append_assoc], by omega⟩
                        · have hi4 : i - 1 = (k + 1) - 1 := by omega
                          have Hi4 := hide hi4
                          clear hi4
                          generalize wr = wy at HSx ⊢
                          have HNw := hide (Lies.new wy #[.int .i64 19, .int .i64 0] 42)
                          go_upto_region 29 with (at_builtin; refine append_op rfl (.tmp 85) (.tmp 87) rfl w4.heap.size Ao co acc rfl (HSx.out.own.alloc _) wy.heap.size ⟨19, 0⟩ 42 rfl HNw.out (by omega) (by have := HSx.out.bel.size; simp; omega) ?_; intro zs A3 c3' wx hz hown7 hg7 hat7; have HSn := hide (HSx.out.step _ hg7 hown7); clear hown7 hg7 hat7)
                          have Htl : Hid (zs = tailOps sF.stack) := hide (by
                            rw [hz.out, Hacc.out, Hi4.out]
                            exact (tail_a Hm.out Hfe.out hm0).symm)
                          clear HSx
                          have HSx := HSn
                          clear HSn
                          have HOs := hide HSx.out.own
                          have Hin64 := hide (fun o (ho : o ∈ zs) => od_64 (tailOps_mem sF.stack o (by rw [← Htl.out]; exact ho)))
                          have hfew := tailOps_len sF.stack
                          rw [← Htl.out] at hfew
                          have HEm := hide ((OwnO.bare wx).mono HSx.out.bel.size)
                          have HBe := hide (HSx.out.bel.alloc HSx.out.bel.size (.cells #[] 42))
                          have HOe := hide (HSx.out.own.alloc (.cells #[] 42))
                          have Hd1 : Hid (∀ g, blockOf A3 = some g → g < wx.heap.size) := hide (fun g hg => (HSx.out.own.blocks g hg).2)
                          have HSrc := hide ((h.upto n).below (HB3.out.trans (HBe.out.mono HB3.out.size)))
                          have hwz : w4.heap.size ≤ wx.heap.size := HSx.out.bel.size
                          have hacc : zs.length ≤ 1000 := by omega
                          go_upto_region 30 with (at_builtin; first
                            | (refine append_ops rfl (.tmp 89) (.tmp 92) rfl w4.heap.size _ 0 [] rfl HEm.out w.heap.size A c (os.take n) (congrArg (fun k => Value.slice A k c) HT.out.symm) Hnil.out HSrc.out (by simp; omega) HBe.out.size ?_; intro zs5 A5 c5 w6 e5 own5 hg5 hat5; have HB6 := hide (below_grown HBe.out hg5 HBe.out.size (fun q hq => (HEm.out.blocks q hq).1)); have HO6 := hide own5; have hz6 : zs5.length ≤ 300 := (by rw [e5.out, List.nil_append, HT.out]; omega); have HA5 : Hid (∀ g, blockOf A5 = some g → wx.heap.size ≤ g) := hide (fun g hg => (by rcases hat5 with h5 | h5 <;> rw [hg] at h5 <;> injection h5 with h5 <;> subst h5 <;> simp)); have HOo6 := hide (HOe.out.kept hg5 (by by_cases h0 : blockOf A3 = none; exact .inl h0; exact .inr (fun e => absurd (Hd1.out wx.heap.size e) (Nat.lt_irrefl _)))); clear own5 hg5 hat5)
                            | (refine append_ops rfl (.tmp 93) (.tmp 94) rfl w4.heap.size A5 c5 zs5 rfl HO6.out w6.heap.size A3 c3' zs rfl (fun e => (by rcases HOs.out.form with ⟨_, h2, _⟩ | ⟨g, h2, _⟩; exact h2; rw [h2] at e; cases e)) (HOo6.out.ops Hin64.out (by omega)) (by omega) HB6.out.size ?_; intro ys A7 c7 w8 e7 own7 hg7 hat7; have HB8 := hide (below_grown HB6.out hg7 HB6.out.size (fun q hq => (HO6.out.blocks q hq).1)); have HO8 := hide own7; have HOo8 := hide (HOo6.out.kept hg7 (by by_cases h0 : blockOf A3 = none; exact .inl h0; exact .inr (fun e => by have h9 : ∃ g, blockOf A3 = some g := Option.ne_none_iff_exists'.1 h0; obtain ⟨g, hg⟩ := h9; have := Hd1.out g hg; have := HA5.out g (e ▸ hg); omega))); clear own7 hg7 hat7))
                          have hys : ys = os.take n ++ tailOps sF.stack := by rw [e7.out, e5.out, List.nil_append, Htl.out]
                          have HYs := hide hys
                          have hyok : ∀ o ∈ ys, OdOk o := by
                            intro o ho
                            rw [hys] at ho
                            rcases List.mem_append.1 ho with ho | ho
                            · exact Hok.out.2 o (List.mem_of_mem_take ho)
                            · exact tailOps_mem _ o ho
                          have hyl : ys.length ≤ 1300 := by rw [hys, List.length_append, HT.out, ← Htl.out]; omega
                          have HYok := hide hyok
                          have HY64 := hide (fun o (ho : o ∈ ys) => od_64 (hyok o ho))
                          have hrk := (runNew_le hyok).2.2
                          obtain ⟨s8, k8, hr8⟩ : ∃ s8 k8, runShp Shp.new ys = (s8, k8) := ⟨_, _, rfl⟩
                          rw [hr8] at hrk
                          have Hr8 := hide hr8
                          clear hys hyok hr8
                          dsimp only at hrk
                          have hOp8 := HO8.out.ops HY64.out (by omega)
                          go_wp2_with fail
                          have HC := runShapes_any A7 ys c7 w8 hOp8 HYok.out
                          rw [Hr8.out] at HC
                          refine HC.mono ?_
                          clear HC
                          rintro e w9 ⟨p9, rfl, _, hb9⟩
                          simp only [shVal, shCells]
                          have HOo9 := hide ((HOo8.out.below hb9).alloc (.cells #[.slice p9.K s8.kinds.length p9.c1, .slice p9.F s8.full.length p9.c2, .slice p9.S s8.stack.length p9.c3, .slice p9.M s8.memo.length p9.c4, .bool s8.done] 38))
                          have hO9 := (hOp8.later hb9 (Nat.le_refl _)).later ((Below.refl w9.heap.size w9).alloc (Nat.le_refl _) (.cells #[.slice p9.K s8.kinds.length p9.c1, .slice p9.F s8.full.length p9.c2, .slice p9.S s8.stack.length p9.c3, .slice p9.M s8.memo.length p9.c4, .bool s8.done] 38)) (Nat.le_refl _)
                          have hB9 := (HB8.out.trans (hb9.mono HB8.out.size)).alloc (Nat.le_trans HB8.out.size hb9.size) (.cells #[.slice p9.K s8.kinds.length p9.c1, .slice p9.F s8.full.length p9.c2, .slice p9.S s8.stack.length p9.c3, .slice p9.M s8.memo.length p9.c4, .bool s8.done] 38)
                          have HB9 := hide hB9
                          clear hOp8 hb9 hB9
                          go_upto_region 31 with fail
                          generalize w9.alloc (.cells #[.slice p9.K s8.kinds.length p9.c1, .slice p9.F s8.full.length p9.c2, .slice p9.S s8.stack.length p9.c3, .slice p9.M s8.memo.length p9.c4, .bool s8.done] 38) = wa at HOo9 hO9 HB9 ⊢
                          go_wp2_with fail
                          refine (specValidOps_any A7 ys c7 wa hO9).mono ?_
                          rintro e wb ⟨rfl, hbb⟩
                          have HBb := hide (HB3.out.trans ((HB9.out.trans (hbb.mono HB9.out.size)).mono HB3.out.size))
                          have HOb := hide ((HOo9.out.below hbb).mono HB3.out.size)
                          clear hbb hO9
                          by_cases hyv : OpsOk ys
                          · have hty := hide (tf_true hyv)
                            have HYv := hide hyv
                            rw [hty.out]
                            clear hyv
                            by_cases hkk : k8 < ys.length
                            · have HE := hide (endOf_not Hok.out Hr.out Hd.out (fun hh => by have h2 := hh.2; rw [← HYs.out, Hr8.out] at h2; dsimp only at h2; omega))
                              go_wp2
                              go_ret2
                              rw [HE.out]
                              exact GivesEnd.none rfl HBb.out
                            · have HE := hide (endOf_yes Hok.out Hr.out Hd.out (by rw [← HYs.out]; exact HYv.out) (by rw [← HYs.out, Hr8.out]; dsimp only; omega))
                              have e9 := hide Htl.out
                              go_wp2
                              go_ret2
                              rw [HE.out, ← e9.out]
                              exact GivesEnd.some rfl HOb.out HBb.out
                          · have hty := hide (tf_false hyv)
                            have HE := hide (endOf_not Hok.out Hr.out Hd.out (fun hh => hyv (by rw [HYs.out]; exact hh.1)))
                            rw [hty.out]
                            clear hyv
                            go_wp2
                            go_ret2
                            rw [HE.out]
                            exact GivesEnd.none rfl HBb.out
                  · have hm1 : ¬ (0 : Int) < (m : Int) := by omega
                    rcases hgo2 with hkl | ⟨b, off, x, hlt, rfl, hneg, hcx⟩
                    · have hnl : ¬ k < sF.stack.length := by omega
                      have dkl : decide (k < sF.stack.length) = false := by simp; omega
                      clear hkl
                      go_wp2_with fail
                      clear dkl hnl
                      go_loopg [6, 11] 399 (fun gk ov iv wx => ∃ (i : Nat) (Ao : Option Addr) (co : Nat) (acc : List Od), 1 ≤ i ∧ i ≤ 1 + (k) ∧ gk = 400 - i ∧ iv = .int .i64 (i : Int) ∧ ov = .slice Ao acc.length co ∧ EdS w4 wx Ao co acc ∧ acc = List.replicate m ⟨3, 0⟩ ++ List.replicate (i - 1) ⟨6, 0⟩ ∧ i - 1 ≤ (k) - 1)
                      case atStart => exact ⟨1, Ao, co, acc, Nat.le_refl _, by omega, rfl, rfl, rfl, HSx.out, by rw [Hacc.out]; simp, by omega⟩
                      case round =>
                        clear x2 HSx Hacc hal' hsz
                        obtain ⟨i, Ao, co, acc, hi1, hi2, rfl, rfl, rfl, hS, hacc, hi3⟩ := hrel
                        have HSx := hide hS
                        have Hacc := hide hacc
                        have hal : acc.length = m + (i - 1) := by rw [hacc]; simp
                        have hal' : acc.length ≤ 700 := by omega
                        have hsz := hS.bel.size
                        clear hS hacc hal
                        by_cases hir : i < k
                        · have HNw := hide (Lies.new wr #[.int .i64 6, .int .i64 0] 42)
                          go_wp2_with (at_builtin; refine append_op rfl (.tmp 75) (.tmp 77) rfl w4.heap.size Ao co acc rfl (HSx.out.own.alloc _) wr.heap.size ⟨6, 0⟩ 42 rfl HNw.out (by omega) (by simp; omega) ?_; intro zs A3 c3' w7 hz hown7 hg7 hat7; have HO7 := hide hown7; have HG7 := hide hg7; clear hown7 hg7 hat7)
                          go_roundg (400 - (i + 1))
                          case measure => omega
                          case rel => exact ⟨i + 1, A3, c3', zs, by omega, by omega, rfl, by go_num, rfl, HSx.out.step _ HG7.out HO7.out, by rw [hz.out, Hacc.out, show i + 1 - 1 = (i - 1) + 1 by omega, List.replicate_succ', List.append_assoc], by omega⟩
                        · have hi4 : i - 1 = (k) - 1 := by omega
                          have Hi4 := hide hi4
                          clear hi4
                          by_cases hk0 : k = 0
                          · subst hk0
                            have HN4 := hide (Lies.new wr #[.int .i64 4, .int .i64 0] 42)
                            go_upto_region 28 with (at_builtin; refine append_op rfl (.tmp 81) (.tmp 83) rfl w4.heap.size Ao co acc rfl (HSx.out.own.alloc _) wr.heap.size ⟨4, 0⟩ 42 rfl HN4.out (by omega) (by simp; omega) ?_; intro zs4 A4 c4' wy hz4 hown4 hg4 hat4; have HSn4 := hide (HSx.out.step _ hg4 hown4); clear hown4 hg4 hat4)
                            have hal4 : zs4.length ≤ 701 := by rw [hz4.out]; simp; omega
                            clear HSx
                            have HSx := HSn4
                            clear HSn4
                            have HNw := hide (Lies.new wy #[.int .i64 19, .int .i64 0] 42)
                            go_upto_region 29 with (at_builtin; refine append_op rfl (.tmp 85) (.tmp 87) rfl w4.heap.size A4 c4' zs4 rfl (HSx.out.own.alloc _) wy.heap.size ⟨19, 0⟩ 42 rfl HNw.out (by omega) (by have := HSx.out.bel.size; simp; omega) ?_; intro zs A3 c3' wx hz hown7 hg7 hat7; have HSn := hide (HSx.out.step _ hg7 hown7); clear hown7 hg7 hat7)
                            have Htl : Hid (zs = tailOps sF.stack) := hide (by
                              rw [hz.out, hz4.out, Hacc.out, Hi4.out]
                              exact (tail_c Hm.out Hfe.out hm0).symm)
                            clear HSx
                            have HSx := HSn
                            clear HSn
                            have HOs := hide HSx.out.own
                            have Hin64 := hide (fun o (ho : o ∈ zs) => od_64 (tailOps_mem sF.stack o (by rw [← Htl.out]; exact ho)))
                            have hfew := tailOps_len sF.stack
                            rw [← Htl.out] at hfew
                            have HEm := hide ((OwnO.bare wx).mono HSx.out.bel.size)
                            have HBe := hide (HSx.out.bel.alloc HSx.out.bel.size (.cells #[] 42))
                            have HOe := hide (HSx.out.own.alloc (.cells #[] 42))
                            have Hd1 : Hid (∀ g, blockOf A3 = some g → g < wx.heap.size) := hide (fun g hg => (HSx.out.own.blocks g hg).2)
                            have HSrc := hide ((h.upto n).below (HB3.out.trans (HBe.out.mono HB3.out.size)))
                            have hwz : w4.heap.size ≤ wx.heap.size := HSx.out.bel.size
                            have hacc : zs.length ≤ 1000 := by omega
                            go_upto_region 30 with (at_builtin; first
                              | (refine append_ops rfl (.tmp 89) (.tmp 92) rfl w4.heap.size _ 0 [] rfl HEm.out w.heap.size A c (os.take n) (congrArg (fun k => Value.slice A k c) HT.out.symm) Hnil.out HSrc.out (by simp; omega) HBe.out.size ?_; intro zs5 A5 c5 w6 e5 own5 hg5 hat5; have HB6 := hide (below_grown HBe.out hg5 HBe.out.size (fun q hq => (HEm.out.blocks q hq).1)); have HO6 := hide own5; have hz6 : zs5.length ≤ 300 := (by rw [e5.out, List.nil_append, HT.out]; omega); have HA5 : Hid (∀ g, blockOf A5 = some g → wx.heap.size ≤ g) := hide (fun g hg => (by rcases hat5 with h5 | h5 <;> rw [hg] at h5 <;> injection h5 with h5 <;> subst h5 <;> simp)); have HOo6 := hide (HOe.out.kept hg5 (by by_cases h0 : blockOf A3 = none; exact .inl h0; exact .inr (fun e => absurd (Hd1.out wx.heap.size e) (Nat.lt_irrefl _)))); clear own5 hg5 hat5)
                              | (refine append_ops rfl (.tmp 93) (.tmp 94) rfl w4.heap.size A5 c5 zs5 rfl HO6.out w6.heap.size A3 c3' zs rfl (fun e => (by rcases HOs.out.form with ⟨_, h2, _⟩ | ⟨g, h2, _⟩; exact h2; rw [h2] at e; cases e)) (HOo6.out.ops Hin64.out (by omega)) (by omega) HB6.out.size ?_; intro ys A7 c7 w8 e7 own7 hg7 hat7; have HB8 := hide (below_grown HB6.out hg7 HB6.out.size (fun q hq => (HO6.out.blocks q hq).1)); have HO8 := hide own7; have HOo8 := hide (HOo6.out.kept hg7 (by by_cases h0 : blockOf A3 = none; exact .inl h0; exact .inr (fun e => by have h9 : ∃ g, blockOf A3 = some g := Option.ne_none_iff_exists'.1 h0; obtain ⟨g, hg⟩ := h9; have := Hd1.out g hg; have := HA5.out g (e ▸ hg); omega))); clear own7 hg7 hat7))
                            have hys : ys = os.take n ++ tailOps sF.stack := by rw [e7.out, e5.out, List.nil_append, Htl.out]
                            have HYs := hide hys
                            have hyok : ∀ o ∈ ys, OdOk o := by
                              intro o ho
                              rw [hys] at ho
                              rcases List.mem_append.1 ho with ho | ho
                              · exact Hok.out.2 o (List.mem_of_mem_take ho)
                              · exact tailOps_mem _ o ho
                            have hyl : ys.length ≤ 1300 := by rw [hys, List.length_append, HT.out, ← Htl.out]; omega
                            have HYok := hide hyok
                            have HY64 := hide (fun o (ho : o ∈ ys) => od_64 (hyok o ho))
                            have hrk := (runNew_le hyok).2.2
                            obtain ⟨s8, k8, hr8⟩ : ∃ s8 k8, runShp Shp.new ys = (s8, k8) := ⟨_, _, rfl⟩
                            rw [hr8] at hrk
                            have Hr8 := hide hr8
                            clear hys hyok hr8
                            dsimp only at hrk
                            have hOp8 := HO8.out.ops HY64.out (by omega)
                            go_wp2_with fail
                            have HC := runShapes_any A7 ys c7 w8 hOp8 HYok.out
                            rw [Hr8.out] at HC
                            refine HC.mono ?_
                            clear HC
                            rintro e w9 ⟨p9, rfl, _, hb9⟩
                            simp only [shVal, shCells]
                            have HOo9 := hide ((HOo8.out.below hb9).alloc (.cells #[.slice p9.K s8.kinds.length p9.c1, .slice p9.F s8.full.length p9.c2, .slice p9.S s8.stack.length p9.c3, .slice p9.M s8.memo.length p9.c4, .bool s8.done] 38))
                            have hO9 := (hOp8.later hb9 (Nat.le_refl _)).later ((Below.refl w9.heap.size w9).alloc (Nat.le_refl _) (.cells #[.slice p9.K s8.kinds.length p9.c1, .slice p9.F s8.full.length p9.c2, .slice p9.S s8.stack.length p9.c3, .slice p9.M s8.memo.length p9.c4, .bool s8.done] 38)) (Nat.le_refl _)
                            have hB9 := (HB8.out.trans (hb9.mono HB8.out.size)).alloc (Nat.le_trans HB8.out.size hb9.size) (.cells #[.slice p9.K s8.kinds.length p9.c1, .slice p9.F s8.full.length p9.c2, .slice p9.S s8.stack.length p9.c3, .slice p9.M s8.memo.length p9.c4, .bool s8.done] 38)
                            have HB9 := hide hB9
                            clear hOp8 hb9 hB9
                            go_upto_region 31 with fail
                            generalize w9.alloc (.cells #[.slice p9.K s8.kinds.length p9.c1, .slice p9.F s8.full.length p9.c2, .slice p9.S s8.stack.length p9.c3, .slice p9.M s8.memo.length p9.c4, .bool s8.done] 38) = wa at HOo9 hO9 HB9 ⊢
                            go_wp2_with fail
                            refine (specValidOps_any A7 ys c7 wa hO9).mono ?_
                            rintro e wb ⟨rfl, hbb⟩
                            have HBb := hide (HB3.out.trans ((HB9.out.trans (hbb.mono HB9.out.size)).mono HB3.out.size))
                            have HOb := hide ((HOo9.out.below hbb).mono HB3.out.size)
                            clear hbb hO9
                            by_cases hyv : OpsOk ys
                            · have hty := hide (tf_true hyv)
                              have HYv := hide hyv
                              rw [hty.out]
                              clear hyv
                              by_cases hkk : k8 < ys.length
                              · have HE := hide (endOf_not Hok.out Hr.out Hd.out (fun hh => by have h2 := hh.2; rw [← HYs.out, Hr8.out] at h2; dsimp only at h2; omega))
                                go_wp2
                                go_ret2
                                rw [HE.out]
                                exact GivesEnd.none rfl HBb.out
                              · have HE := hide (endOf_yes Hok.out Hr.out Hd.out (by rw [← HYs.out]; exact HYv.out) (by rw [← HYs.out, Hr8.out]; dsimp only; omega))
                                have e9 := hide Htl.out
                                go_wp2
                                go_ret2
                                rw [HE.out, ← e9.out]
                                exact GivesEnd.some rfl HOb.out HBb.out
                            · have hty := hide (tf_false hyv)
                              have HE := hide (endOf_not Hok.out Hr.out Hd.out (fun hh => hyv (by rw [HYs.out]; exact hh.1)))
                              rw [hty.out]
                              clear hyv
                              go_wp2
                              go_ret2
                              rw [HE.out]
                              exact GivesEnd.none rfl HBb.out
                          · have hk01 : ((k : Int) == 0) = false := by simp; omega
                            generalize wr = wy at HSx ⊢
                            have HNw := hide (Lies.new wy #[.int .i64 19, .int .i64 0] 42)
                            go_upto_region 29 with (at_builtin; refine append_op rfl (.tmp 85) (.tmp 87) rfl w4.heap.size Ao co acc rfl (HSx.out.own.alloc _) wy.heap.size ⟨19, 0⟩ 42 rfl HNw.out (by omega) (by have := HSx.out.bel.size; simp; omega) ?_; intro zs A3 c3' wx hz hown7 hg7 hat7; have HSn := hide (HSx.out.step _ hg7 hown7); clear hown7 hg7 hat7)
                            have Htl : Hid (zs = tailOps sF.stack) := hide (by
                              rw [hz.out, Hacc.out, Hi4.out]
                              exact (tail_b Hm.out Hfe.out hm0 hk0).symm)
                            clear HSx
                            have HSx := HSn
                            clear HSn
                            have HOs := hide HSx.out.own
                            have Hin64 := hide (fun o (ho : o ∈ zs) => od_64 (tailOps_mem sF.stack o (by rw [← Htl.out]; exact ho)))
                            have hfew := tailOps_len sF.stack
                            rw [← Htl.out] at hfew
                            have HEm := hide ((OwnO.bare wx).mono HSx.out.bel.size)
                            have HBe := hide (HSx.out.bel.alloc HSx.out.bel.size (.cells #[] 42))
                            have HOe := hide (HSx.out.own.alloc (.cells #[] 42))
                            have Hd1 : Hid (∀ g, blockOf A3 = some g → g < wx.heap.size) := hide (fun g hg => (HSx.out.own.blocks g hg).2)
                            have HSrc := hide ((h.upto n).below (HB3.out.trans (HBe.out.mono HB3.out.size)))
                            have hwz : w4.heap.size ≤ wx.heap.size := HSx.out.bel.size
                            have hacc : zs.length ≤ 1000 := by omega
                            go_upto_region 30 with (at_builtin; first
                              | (refine append_ops rfl (.tmp 89) (.tmp 92) rfl w4.heap.size _ 0 [] rfl HEm.out w.heap.size A c (os.take n) (congrArg (fun k => Value.slice A k c) HT.out.symm) Hnil.out HSrc.out (by simp; omega) HBe.out.size ?_; intro zs5 A5 c5 w6 e5 own5 hg5 hat5; have HB6 := hide (below_grown HBe.out hg5 HBe.out.size (fun q hq => (HEm.out.blocks q hq).1)); have HO6 := hide own5; have hz6 : zs5.length ≤ 300 := (by rw [e5.out, List.nil_append, HT.out]; omega); have HA5 : Hid (∀ g, blockOf A5 = some g → wx.heap.size ≤ g) := hide (fun g hg => (by rcases hat5 with h5 | h5 <;> rw [hg] at h5 <;> injection h5 with h5 <;> subst h5 <;> simp)); have HOo6 := hide (HOe.out.kept hg5 (by by_cases h0 : blockOf A3 = none; exact .inl h0; exact .inr (fun e => absurd (Hd1.out wx.heap.size e) (Nat.lt_irrefl _)))); clear own5 hg5 hat5)
                              | (refine append_ops rfl (.tmp 93) (.tmp 94) rfl w4.heap.size A5 c5 zs5 rfl HO6.out w6.heap.size A3 c3' zs rfl (fun e => (by rcases HOs.out.form with ⟨_, h2, _⟩ | ⟨g, h2, _⟩; exact h2; rw [h2] at e; cases e)) (HOo6.out.ops Hin64.out (by omega)) (by omega) HB6.out.size ?_; intro ys A7 c7 w8 e7 own7 hg7 hat7; have HB8 := hide (below_grown HB6.out hg7 HB6.out.size (fun q hq => (HO6.out.blocks q hq).1)); have HO8 := hide own7; have HOo8 := hide (HOo6.out.kept hg7 (by by_cases h0 : blockOf A3 = none; exact .inl h0; exact .inr (fun e => by have h9 : ∃ g, blockOf A3 = some g := Option.ne_none_iff_exists'.1 h0; obtain ⟨g, hg⟩ := h9; have := Hd1.out g hg; have := HA5.out g (e ▸ hg); omega))); clear own7 hg7 hat7))
                            have hys : ys = os.take n ++ tailOps sF.stack := by rw [e7.out, e5.out, List.nil_append, Htl.out]
                            have HYs := hide hys
                            have hyok : ∀ o ∈ ys, OdOk o := by
                              intro o ho
                              rw [hys] at ho
                              rcases List.mem_append.1 ho with ho | ho
                              · exact Hok.out.2 o (List.mem_of_mem_take ho)
                              · exact tailOps_mem _ o ho
                            have hyl : ys.length ≤ 1300 := by rw [hys, List.length_append, HT.out, ← Htl.out]; omega
                            have HYok := hide hyok
                            have HY64 := hide (fun o (ho : o ∈ ys) => od_64 (hyok o ho))
                            have hrk := (runNew_le hyok).2.2
                            obtain ⟨s8, k8, hr8⟩ : ∃ s8 k8, runShp Shp.new ys = (s8, k8) := ⟨_, _, rfl⟩
                            rw [hr8] at hrk
                            have Hr8 := hide hr8
                            clear hys hyok hr8
                            dsimp only at hrk
                            have hOp8 := HO8.out.ops HY64.out (by omega)
                            go_wp2_with fail
                            have HC := runShapes_any A7 ys c7 w8 hOp8 HYok.out
                            rw [Hr8.out] at HC
                            refine HC.mono ?_
                            clear HC
                            rintro e w9 ⟨p9, rfl, _, hb9⟩
                            simp only [shVal, shCells]
                            have HOo9 := hide ((HOo8.out.below hb9).alloc (.cells #[.slice p9.K s8.kinds.length p9.c1, .slice p9.F s8.full.length p9.c2, .slice p9.S s8.stack.length p9.c3, .slice p9.M s8.memo.length p9.c4, .bool s8.done] 38))
                            have hO9 := (hOp8.later hb9 (Nat.le_refl _)).later ((Below.refl w9.heap.size w9).alloc (Nat.le_refl _) (.cells #[.slice p9.K s8.kinds.length p9.c1, .slice p9.F s8.full.length p9.c2, .slice p9.S s8.stack.length p9.c3, .slice p9.M s8.memo.length p9.c4, .bool s8.done] 38)) (Nat.le_refl _)
                            have hB9 := (HB8.out.trans (hb9.mono HB8.out.size)).alloc (Nat.le_trans HB8.out.size hb9.size) (.cells #[.slice p9.K s8.kinds.length p9.c1, .slice p9.F s8.full.length p9.c2, .slice p9.S s8.stack.length p9.c3, .slice p9.M s8.memo.length p9.c4, .bool s8.done] 38)
                            have HB9 := hide hB9
                            clear hOp8 hb9 hB9
                            go_upto_region 31 with fail
                            generalize w9.alloc (.cells #[.slice p9.K s8.kinds.length p9.c1, .slice p9.F s8.full.length p9.c2, .slice p9.S s8.stack.length p9.c3, .slice p9.M s8.memo.length p9.c4, .bool s8.done] 38) = wa at HOo9 hO9 HB9 ⊢
                            go_wp2_with fail
                            refine (specValidOps_any A7 ys c7 wa hO9).mono ?_
                            rintro e wb ⟨rfl, hbb⟩
                            have HBb := hide (HB3.out.trans ((HB9.out.trans (hbb.mono HB9.out.size)).mono HB3.out.size))
                            have HOb := hide ((HOo9.out.below hbb).mono HB3.out.size)
                            clear hbb hO9
                            by_cases hyv : OpsOk ys
                            · have hty := hide (tf_true hyv)
                              have HYv := hide hyv
                              rw [hty.out]
                              clear hyv
                              by_cases hkk : k8 < ys.length
                              · have HE := hide (endOf_not Hok.out Hr.out Hd.out (fun hh => by have h2 := hh.2; rw [← HYs.out, Hr8.out] at h2; dsimp only at h2; omega))
                                go_wp2
                                go_ret2
                                rw [HE.out]
                                exact GivesEnd.none rfl HBb.out
                              · have HE := hide (endOf_yes Hok.out Hr.out Hd.out (by rw [← HYs.out]; exact HYv.out) (by rw [← HYs.out, Hr8.out]; dsimp only; omega))
                                have e9 := hide Htl.out
                                go_wp2
                                go_ret2
                                rw [HE.out, ← e9.out]
                                exact GivesEnd.some rfl HOb.out HBb.out
                            · have hty := hide (tf_false hyv)
                              have HE := hide (endOf_not Hok.out Hr.out Hd.out (fun hh => hyv (by rw [HYs.out]; exact hh.1)))
                              rw [hty.out]
                              clear hyv
                              go_wp2
                              go_ret2
                              rw [HE.out]
                              exact GivesEnd.none rfl HBb.out
                    · have dx : decide (0 ≤ x) = false := by simp; omega
                      have hk1 : (0 : Int) ≤ (k : Int) := by omega
                      have hk2 : (k : Int) < (sF.stack.length : Int) := by omega
                      go_wp2_with fail
                      clear dx hcx hneg
                      go_loopg [6, 11] 399 (fun gk ov iv wx => ∃ (i : Nat) (Ao : Option Addr) (co : Nat) (acc : List Od), 1 ≤ i ∧ i ≤ 1 + (k) ∧ gk = 400 - i ∧ iv = .int .i64 (i : Int) ∧ ov = .slice Ao acc.length co ∧ EdS w4 wx Ao co acc ∧ acc = List.replicate m ⟨3, 0⟩ ++ List.replicate (i - 1) ⟨6, 0⟩ ∧ i - 1 ≤ (k) - 1)
                      case atStart => exact ⟨1, Ao, co, acc, Nat.le_refl _, by omega, rfl, rfl, rfl, HSx.out, by rw [Hacc.out]; simp, by omega⟩
                      case round =>
                        clear x2 HSx Hacc hal' hsz
                        obtain ⟨i, Ao, co, acc, hi1, hi2, rfl, rfl, rfl, hS, hacc, hi3⟩ := hrel
                        have HSx := hide hS
                        have Hacc := hide hacc
                        have hal : acc.length = m + (i - 1) := by rw [hacc]; simp
                        have hal' : acc.length ≤ 700 := by omega
                        have hsz := hS.bel.size
                        clear hS hacc hal
                        by_cases hir : i < k
                        · have HNw := hide (Lies.new wr #[.int .i64 6, .int .i64 0] 42)
                          go_wp2_with (at_builtin; refine append_op rfl (.tmp 75) (.tmp 77) rfl w4.heap.size Ao co acc rfl (HSx.out.own.alloc _) wr.heap.size ⟨6, 0⟩ 42 rfl HNw.out (by omega) (by simp; omega) ?_; intro zs A3 c3' w7 hz hown7 hg7 hat7; have HO7 := hide hown7; have HG7 := hide hg7; clear hown7 hg7 hat7)
                          go_roundg (400 - (i + 1))
                          case measure => omega
                          case rel => exact ⟨i + 1, A3, c3', zs, by omega, by omega, rfl, by go_num, rfl, HSx.out.step _ HG7.out HO7.out, by rw [hz.out, Hacc.out, show i + 1 - 1 = (i - 1) + 1 by omega, List.replicate_succ', List.append_assoc], by omega⟩
                        · have hi4 : i - 1 = (k) - 1 := by omega
                          have Hi4 := hide hi4
                          clear hi4
                          by_cases hk0 : k = 0
                          · subst hk0
                            have HN4 := hide (Lies.new wr #[.int .i64 4, .int .i64 0] 42)
                            go_upto_region 28 with (at_builtin; refine append_op rfl (.tmp 81) (.tmp 83) rfl w4.heap.size Ao co acc rfl (HSx.out.own.alloc _) wr.heap.size ⟨4, 0⟩ 42 rfl HN4.out (by omega) (by simp; omega) ?_; intro zs4 A4 c4' wy hz4 hown4 hg4 hat4; have HSn4 := hide (HSx.out.step _ hg4 hown4); clear hown4 hg4 hat4)
                            have hal4 : zs4.length ≤ 701 := by rw [hz4.out]; simp; omega
                            clear HSx
                            have HSx := HSn4
                            clear HSn4
                            have HNw := hide (Lies.new wy #[.int .i64 19, .int .i64 0] 42)
                            go_upto_region 29 with (at_builtin; refine append_op rfl (.tmp 85) (.tmp 87) rfl w4.heap.size A4 c4' zs4 rfl (HSx.out.own.alloc _) wy.heap.size ⟨19, 0⟩ 42 rfl HNw.out (by omega) (by have := HSx.out.bel.size; simp; omega) ?_; intro zs A3 c3' wx hz hown7 hg7 hat7; have HSn := hide (HSx.out.step _ hg7 hown7); clear hown7 hg7 hat7)
                            have Htl : Hid (zs = tailOps sF.stack) := hide (by
                              rw [hz.out, hz4.out, Hacc.out, Hi4.out]
                              exact (tail_c Hm.out Hfe.out hm0).symm)
                            clear HSx
                            have HSx := HSn
                            clear HSn
                            have HOs := hide HSx.out.own
                            have Hin64 := hide (fun o (ho : o ∈ zs) => od_64 (tailOps_mem sF.stack o (by rw [← Htl.out]; exact ho)))
                            have hfew := tailOps_len sF.stack
                            rw [← Htl.out] at hfew
                            have HEm := hide ((OwnO.bare wx).mono HSx.out.bel.size)
                            have HBe := hide (HSx.out.bel.alloc HSx.out.bel.size (.cells #[] 42))
                            have HOe := hide (HSx.out.own.alloc (.cells #[] 42))
                            have Hd1 : Hid (∀ g, blockOf A3 = some g → g < wx.heap.size) := hide (fun g hg => (HSx.out.own.blocks g hg).2)
                            have HSrc := hide ((h.upto n).below (HB3.out.trans (HBe.out.mono HB3.out.size)))
                            have hwz : w4.heap.size ≤ wx.heap.size := HSx.out.bel.size
                            have hacc : zs.length ≤ 1000 := by omega
                            go_upto_region 30 with (at_builtin; first
                              | (refine append_ops rfl (.tmp 89) (.tmp 92) rfl w4.heap.size _ 0 [] rfl HEm.out w.heap.size A c (os.take n) (congrArg (fun k => Value.slice A k c) HT.out.symm) Hnil.out HSrc.out (by simp; omega) HBe.out.size ?_; intro zs5 A5 c5 w6 e5 own5 hg5 hat5; have HB6 := hide (below_grown HBe.out hg5 HBe.out.size (fun q hq => (HEm.out.blocks q hq).1)); have HO6 := hide own5; have hz6 : zs5.length ≤ 300 := (by rw [e5.out, List.nil_append, HT.out]; omega); have HA5 : Hid (∀ g, blockOf A5 = some g → wx.heap.size ≤ g) := hide (fun g hg => (by rcases hat5 with h5 | h5 <;> rw [hg] at h5 <;> injection h5 with h5 <;> subst h5 <;> simp)); have HOo6 := hide (HOe.out.kept hg5 (by by_cases h0 : blockOf A3 = none; exact .inl h0; exact .inr (fun e => absurd (Hd1.out wx.heap.size e) (Nat.lt_irrefl _)))); clear own5 hg5 hat5)
                              | (refine append_ops rfl (.tmp 93) (.tmp 94) rfl w4.heap.size A5 c5 zs5 rfl HO6.out w6.heap.size A3 c3' zs rfl (fun e => (by rcases HOs.out.form with ⟨_, h2, _⟩ | ⟨g, h2, _⟩; exact h2; rw [h2] at e; cases e)) (HOo6.out.ops Hin64.out (by omega)) (by omega) HB6.out.size ?_; intro ys A7 c7 w8 e7 own7 hg7 hat7; have HB8 := hide (below_grown HB6.out hg7 HB6.out.size (fun q hq => (HO6.out.blocks q hq).1)); have HO8 := hide own7; have HOo8 := hide (HOo6.out.kept hg7 (by by_cases h0 : blockOf A3 = none; exact .inl h0; exact .inr (fun e => by have h9 : ∃ g, blockOf A3 = some g := Option.ne_none_iff_exists'.1 h0; obtain ⟨g, hg⟩ := h9; have := Hd1.out g hg; have := HA5.out g (e ▸ hg); omega))); clear own7 hg7 hat7))
                            have hys : ys = os.take n ++ tailOps sF.stack := by rw [e7.out, e5.out, List.nil_append, Htl.out]
                            have HYs := hide hys
                            have hyok : ∀ o ∈ ys, OdOk o := by
                              intro o ho
                              rw [hys] at ho
                              rcases List.mem_append.1 ho with ho | ho
                              · exact Hok.out.2 o (List.mem_of_mem_take ho)
                              · exact tailOps_mem _ o ho
                            have hyl : ys.length ≤ 1300 := by rw [hys, List.length_append, HT.out, ← Htl.out]; omega
                            have HYok := hide hyok
                            have HY64 := hide (fun o (ho : o ∈ ys) => od_64 (hyok o ho))
                            have hrk := (runNew_le hyok).2.2
                            obtain ⟨s8, k8, hr8⟩ : ∃ s8 k8, runShp Shp.new ys = (s8, k8) := ⟨_, _, rfl⟩
                            rw [hr8] at hrk
                            have Hr8 := hide hr8
                            clear hys hyok hr8
                            dsimp only at hrk
                            have hOp8 := HO8.out.ops HY64.out (by omega)
                            go_wp2_with fail
                            have HC := runShapes_any A7 ys c7 w8 hOp8 HYok.out
                            rw [Hr8.out] at HC
                            refine HC.mono ?_
                            clear HC
                            rintro e w9 ⟨p9, rfl, _, hb9⟩
                            simp only [shVal, shCells]
                            have HOo9 := hide ((HOo8.out.below hb9).alloc (.cells #[.slice p9.K s8.kinds.length p9.c1, .slice p9.F s8.full.length p9.c2, .slice p9.S s8.stack.length p9.c3, .slice p9.M s8.memo.length p9.c4, .bool s8.done] 38))
                            have hO9 := (hOp8.later hb9 (Nat.le_refl _)).later ((Below.refl w9.heap.size w9).alloc (Nat.le_refl _) (.cells #[.slice p9.K s8.kinds.length p9.c1, .slice p9.F s8.full.length p9.c2, .slice p9.S s8.stack.length p9.c3, .slice p9.M s8.memo.length p9.c4, .bool s8.done] 38)) (Nat.le_refl _)
                            have hB9 := (HB8.out.trans (hb9.mono HB8.out.size)).alloc (Nat.le_trans HB8.out.size hb9.size) (.cells #[.slice p9.K s8.kinds.length p9.c1, .slice p9.F s8.full.length p9.c2, .slice p9.S s8.stack.length p9.c3, .slice p9.M s8.memo.length p9.c4, .bool s8.done] 38)
                            have HB9 := hide hB9
                            clear hOp8 hb9 hB9
                            go_upto_region 31 with fail
                            generalize w9.alloc (.cells #[.slice p9.K s8.kinds.length p9.c1, .slice p9.F s8.full.length p9.c2, .slice p9.S s8.stack.length p9.c3, .slice p9.M s8.memo.length p9.c4, .bool s8.done] 38) = wa at HOo9 hO9 HB9 ⊢
                            go_wp2_with fail
                            refine (specValidOps_any A7 ys c7 wa hO9).mono ?_
                            rintro e wb ⟨rfl, hbb⟩
                            have HBb := hide (HB3.out.trans ((HB9.out.trans (hbb.mono HB9.out.size)).mono HB3.out.size))
                            have HOb := hide ((HOo9.out.below hbb).mono HB3.out.size)
                            clear hbb hO9
                            by_cases hyv : OpsOk ys
                            · have hty := hide (tf_true hyv)
                              have HYv := hide hyv
                              rw [hty.out]
                              clear hyv
                              by_cases hkk : k8 < ys.length
                              · have HE := hide (endOf_not Hok.out Hr.out Hd.out (fun hh => by have h2 := hh.2; rw [← HYs.out, Hr8.out] at h2; dsimp only at h2; omega))
                                go_wp2
                                go_ret2
                                rw [HE.out]
                                exact GivesEnd.none rfl HBb.out
                              · have HE := hide (endOf_yes Hok.out Hr.out Hd.out (by rw [← HYs.out]; exact HYv.out) (by rw [← HYs.out, Hr8.out]; dsimp only; omega))
                                have e9 := hide Htl.out
                                go_wp2
                                go_ret2
                                rw [HE.out, ← e9.out]
                                exact GivesEnd.some rfl HOb.out HBb.out
                            · have hty := hide (tf_false hyv)
                              have HE := hide (endOf_not Hok.out Hr.out Hd.out (fun hh => hyv (by rw [HYs.out]; exact hh.1)))
                              rw [hty.out]
                              clear hyv
                              go_wp2
                              go_ret2
                              rw [HE.out]
                              exact GivesEnd.none rfl HBb.out
                          · have hk01 : ((k : Int) == 0) = false := by simp; omega
                            generalize wr = wy at HSx ⊢
                            have HNw := hide (Lies.new wy #[.int .i64 19, .int .i64 0] 42)
                            go_upto_region 29 with (at_builtin; refine append_op rfl (.tmp 85) (.tmp 87) rfl w4.heap.size Ao co acc rfl (HSx.out.own.alloc _) wy.heap.size ⟨19, 0⟩ 42 rfl HNw.out (by omega) (by have := HSx.out.bel.size; simp; omega) ?_; intro zs A3 c3' wx hz hown7 hg7 hat7; have HSn := hide (HSx.out.step _ hg7 hown7); clear hown7 hg7 hat7)
                            have Htl : Hid (zs = tailOps sF.stack) := hide (by
                              rw [hz.out, Hacc.out, Hi4.out]
                              exact (tail_b Hm.out Hfe.out hm0 hk0).symm)
                            clear HSx
                            have HSx := HSn
                            clear HSn
                            have HOs := hide HSx.out.own
                            have Hin64 := hide (fun o (ho : o ∈ zs) => od_64 (tailOps_mem sF.stack o (by rw [← Htl.out]; exact ho)))
                            have hfew := tailOps_len sF.stack
                            rw [← Htl.out] at hfew
                            have HEm := hide ((OwnO.bare wx).mono HSx.out.bel.size)
                            have HBe := hide (HSx.out.bel.alloc HSx.out.bel.size (.cells #[] 42))
                            have HOe := hide (HSx.out.own.alloc (.cells #[] 42))
                            have Hd1 : Hid (∀ g, blockOf A3 = some g → g < wx.heap.size) := hide (fun g hg => (HSx.out.own.blocks g hg).2)
                            have HSrc := hide ((h.upto n).below (HB3.out.trans (HBe.out.mono HB3.out.size)))
                            have hwz : w4.heap.size ≤ wx.heap.size := HSx.out.bel.size
                            have hacc : zs.length ≤ 1000 := by omega
                            go_upto_region 30 with (at_builtin; first
                              | (refine append_ops rfl (.tmp 89) (.tmp 92) rfl w4.heap.size _ 0 [] rfl HEm.out w.heap.size A c (os.take n) (congrArg (fun k => Value.slice A k c) HT.out.symm) Hnil.out HSrc.out (by simp; omega) HBe.out.size ?_; intro zs5 A5 c5 w6 e5 own5 hg5 hat5; have HB6 := hide (below_grown HBe.out hg5 HBe.out.size (fun q hq => (HEm.out.blocks q hq).1)); have HO6 := hide own5; have hz6 : zs5.length ≤ 300 := (by rw [e5.out, List.nil_append, HT.out]; omega); have HA5 : Hid (∀ g, blockOf A5 = some g → wx.heap.size ≤ g) := hide (fun g hg => (by rcases hat5 with h5 | h5 <;> rw [hg] at h5 <;> injection h5 with h5 <;> subst h5 <;> simp)); have HOo6 := hide (HOe.out.kept hg5 (by by_cases h0 : blockOf A3 = none; exact .inl h0; exact .inr (fun e => absurd (Hd1.out wx.heap.size e) (Nat.lt_irrefl _)))); clear own5 hg5 hat5)
                              | (refine append_ops rfl (.tmp 93) (.tmp 94) rfl w4.heap.size A5 c5 zs5 rfl HO6.out w6.heap.size A3 c3' zs rfl (fun e => (by rcases HOs.out.form with ⟨_, h2, _⟩ | ⟨g, h2, _⟩; exact h2; rw [h2] at e; cases e)) (HOo6.out.ops Hin64.out (by omega)) (by omega) HB6.out.size ?_; intro ys A7 c7 w8 e7 own7 hg7 hat7; have HB8 := hide (below_grown HB6.out hg7 HB6.out.size (fun q hq => (HO6.out.blocks q hq).1)); have HO8 := hide own7; have HOo8 := hide (HOo6.out.kept hg7 (by by_cases h0 : blockOf A3 = none; exact .inl h0; exact .inr (fun e => by have h9 : ∃ g, blockOf A3 = some g := Option.ne_none_iff_exists'.1 h0; obtain ⟨g, hg⟩ := h9; have := Hd1.out g hg; have := HA5.out g (e ▸ hg); omega))); clear own7 hg7 hat7))
                            have hys : ys = os.take n ++ tailOps sF.stack := by rw [e7.out, e5.out, List.nil_append, Htl.out]
                            have HYs := hide hys
                            have hyok : ∀ o ∈ ys, OdOk o := by
                              intro o ho
                              rw [hys] at ho
                              rcases List.mem_append.1 ho with ho | ho
                              · exact Hok.out.2 o (List.mem_of_mem_take ho)
                              · exact tailOps_mem _ o ho
                            have hyl : ys.length ≤ 1300 := by rw [hys, List.length_append, HT.out, ← Htl.out]; omega
                            have HYok := hide hyok
                            have HY64 := hide (fun o (ho : o ∈ ys) => od_64 (hyok o ho))
                            have hrk := (runNew_le hyok).2.2
                            obtain ⟨s8, k8, hr8⟩ : ∃ s8 k8, runShp Shp.new ys = (s8, k8) := ⟨_, _, rfl⟩
                            rw [hr8] at hrk
                            have Hr8 := hide hr8
                            clear hys hyok hr8
                            dsimp only at hrk
                            have hOp8 := HO8.out.ops HY64.out (by omega)
                            go_wp2_with fail
                            have HC := runShapes_any A7 ys c7 w8 hOp8 HYok.out
                            rw [Hr8.out] at HC
                            refine HC.mono ?_
                            clear HC
                            rintro e w9 ⟨p9, rfl, _, hb9⟩
                            simp only [shVal, shCells]
                            have HOo9 := hide ((HOo8.out.below hb9).alloc (.cells #[.slice p9.K s8.kinds.length p9.c1, .slice p9.F s8.full.length p9.c2, .slice p9.S s8.stack.length p9.c3, .slice p9.M s8.memo.length p9.c4, .bool s8.done] 38))
                            have hO9 := (hOp8.later hb9 (Nat.le_refl _)).later ((Below.refl w9.heap.size w9).alloc (Nat.le_refl _) (.cells #[.slice p9.K s8.kinds.length p9.c1, .slice p9.F s8.full.length p9.c2, .slice p9.S s8.stack.length p9.c3, .slice p9.M s8.memo.length p9.c4, .bool s8.done] 38)) (Nat.le_refl _)
                            have hB9 := (HB8.out.trans (hb9.mono HB8.out.size)).alloc (Nat.le_trans HB8.out.size hb9.size) (.cells #[.slice p9.K s8.kinds.length p9.c1, .slice p9.F s8.full.length p9.c2, .slice p9.S s8.stack.length p9.c3, .slice p9.M s8.memo.length p9.c4, .bool s8.done] 38)
                            have HB9 := hide hB9
                            clear hOp8 hb9 hB9
                            go_upto_region 31 with fail
                            generalize w9.alloc (.cells #[.slice p9.K s8.kinds.length p9.c1, .slice p9.F s8.full.length p9.c2, .slice p9.S s8.stack.length p9.c3, .slice p9.M s8.memo.length p9.c4, .bool s8.done] 38) = wa at HOo9 hO9 HB9 ⊢
                            go_wp2_with fail
                            refine (specValidOps_any A7 ys c7 wa hO9).mono ?_
                            rintro e wb ⟨rfl, hbb⟩
                            have HBb := hide (HB3.out.trans ((HB9.out.trans (hbb.mono HB9.out.size)).mono HB3.out.size))
                            have HOb := hide ((HOo9.out.below hbb).mono HB3.out.size)
                            clear hbb hO9
                            by_cases hyv : OpsOk ys
                            · have hty := hide (tf_true hyv)
                              have HYv := hide hyv
                              rw [hty.out]
                              clear hyv
                              by_cases hkk : k8 < ys.length
                              · have HE := hide (endOf_not Hok.out Hr.out Hd.out (fun hh => by have h2 := hh.2; rw [← HYs.out, Hr8.out] at h2; dsimp only at h2; omega))
                                go_wp2
                                go_ret2
                                rw [HE.out]
                                exact GivesEnd.none rfl HBb.out
                              · have HE := hide (endOf_yes Hok.out Hr.out Hd.out (by rw [← HYs.out]; exact HYv.out) (by rw [← HYs.out, Hr8.out]; dsimp only; omega))
                                have e9 := hide Htl.out
                                go_wp2
                                go_ret2
                                rw [HE.out, ← e9.out]
                                exact GivesEnd.some rfl HOb.out HBb.out
                            · have hty := hide (tf_false hyv)
                              have HE := hide (endOf_not Hok.out Hr.out Hd.out (fun hh => hyv (by rw [HYs.out]; exact hh.1)))
                              rw [hty.out]
                              clear hyv
                              go_wp2
                              go_ret2
                              rw [HE.out]
                              exact GivesEnd.none rfl HBb.out
  · rw [endOf_bad hok]
    have ht := hide (tf_false hok)
    clear hok
    go_enter Tryd.func6, Tryd.ntmps6
    go_wp2_with fail
    refine (specValidOps_any A os c w h).mono ?_
    rintro e w1 ⟨rfl, hb1⟩
    rw [ht.out]
    go_wp2
    go_ret2
    exact GivesEnd.none rfl hb1
end Go.Proofs.YtbihgafkmmcjlaaDoor
