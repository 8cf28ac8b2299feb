/-
  Lemmas, several texts in one: ClaS, RplI, PrM, LawM.
-/
import Derived.Test.YtcblcmdfeoijpabPjAt
import Derived.Test.YtcblcmdfeoijpabPjAo
import Derived.Test.YtcblcmdfeoijpabPjAd
import Derived.Test.YtcblcmdfeoijpabPjAr
import Derived.Deep.LoopGhost
import Derived.Deep.Cut
import Derived.Test.YtcblcmdfeoijpabPjAh
import Derived.Test.YtcblcmdfeoijpabPjAm
import Derived.Test.YtcblcmdfeoijpabPjAs
import Derived.Test.YtcblcmdfeoijpabPjAl
import Derived.Test.YtcblcmdfeoijpabPjAa
import Derived.Deep.QuietTactic
import Derived.BigQuiet
namespace Go.Proofs.Ytcblcmdfeoijpab
open Go.RowKit
set_option linter.unusedVariables false

theorem sameC_sig {ns : List Nd} (hK : KidsIn ns) {d i k : Nat} {n m : Nd} (hi : ns[i]? = some n) (hk : ns[k]? = some m) : SameC ns (clsN ns d) i k ↔ sigOf (clsN ns d) m = sigOf (clsN ns d) n := by
  constructor
  · rintro ⟨_, n', m', g1, g2, g3⟩
    rw [hi] at g1
    rw [hk] at g2
    injection g1 with g1
    injection g2 with g2
    subst g1 g2
    exact g3.symm
  · intro h
    refine ⟨?_, n, m, hi, hk, h.symm⟩
    have h1 : look (clsN ns (d + 1)) i = look (clsN ns (d + 1)) k := (finer_eq (cl := clsN ns d) hi hk).2 h.symm
    exact cls_mono hK d i k (by have := (List.getElem?_eq_some_iff.1 hi).1; omega) (by have := (List.getElem?_eq_some_iff.1 hk).1; omega) h1

theorem clsS_64 {ns : List Nd} (hn : ns.length ≤ 1000) (d : Nat) : ∀ x ∈ clsN ns d, In64 x := by
  intro x hx
  have := clsN_in ns d x hx
  constructor <;> omega

set_option maxRecDepth 100000 in
set_option maxHeartbeats 4000000 in
theorem specClasses_any (A : Option Addr) (ns : List Nd) (c : Nat) (w : World) (hr : NdsAt w w.heap.size A ns) (hK : KidsIn ns) (hn : ns.length ≤ 1000) :
    Calls Try.prog 38 #[.slice A ns.length c] w (GivesInts w (clsN ns ns.length)) := by
  have hmk : ∀ w : World, _ := run_make_row' (P := Try.prog) 29 3 (.int .i64 0) 8 Try.underlying29 infoInt rfl .i64 .i64 ns.length (by omega) (by omega)
  have Hr := hide hr
  have HK := hide hK
  have hR1 := RowL.made w ns.length
  have hB0 := (Below.refl w.heap.size w).alloc (Nat.le_refl _) (.cells (madeCells #[.int .i64 0] ns.length) 3)
  clear hr hK
  go_enter Try.func38, Try.ntmps38
  go_wp2_with fail
  clear hmk
  generalize w.alloc (.cells (madeCells #[.int .i64 0] ns.length) 3) = W at hR1 hB0 ⊢
  have HO0 := hide (hR1.own (base := w.heap.size) (Nat.le_refl _) (by simp; unfold maxLen; omega))
  have HB0 := hide hB0
  clear hR1 hB0
  go_loopg [3, 4, 5, 6, 7] (ns.length + 1) (fun gk nv tv _ _ _ wr => ∃ (t : Nat) (An : Option Addr) (cn : Nat), t ≤ ns.length + 1 ∧ gk = ns.length + 1 - t ∧ tv = .int .i64 (t : Int) ∧ nv = .slice An (clsN ns t).length cn ∧ OwnI wr w.heap.size An cn (clsN ns t) ∧ Below w.heap.size w wr)
  case atStart => exact ⟨0, some ⟨w.heap.size, 0, none⟩, ns.length, Nat.zero_le _, rfl, rfl, by simp [clsN], by have := HO0.out; simpa [clsN] using this, HB0.out⟩
  case round =>
    clear HO0
    obtain ⟨t, An, cn, ht, rfl, rfl, rfl, ho, hb⟩ := hrel
    have HO := hide ho
    have Hb := hide hb
    have hC64 := hide (clsS_64 hn t)
    have hl0 : Hid ((clsN ns t).length = ns.length) := clsN_len ns t
    have hl1 : Hid ((finer ns (clsN ns t)).length = ns.length) := finer_len ns _
    have hSame := hide (fun (i k : Nat) (n m : Nd) (hi : ns[i]? = some n) (hk : ns[k]? = some m) => sameC_sig HK.out (d := t) hi hk)
    have HSt : Hid (finer ns (clsN ns t) = clsN ns (t + 1)) := rfl
    have H164 := hide (clsS_64 hn (t + 1))
    have hFirst := hide (fun (i j : Nat) (n m : Nd) (hi : ns[i]? = some n) (hj : ns[j]? = some m) (hs : sigOf (clsN ns t) m = sigOf (clsN ns t) n) (hf : ∀ k q, k < j → ns[k]? = some q → sigOf (clsN ns t) q ≠ sigOf (clsN ns t) n) => finer_first hi hj hs hf)
    clear ho hb
    by_cases hlt : t ≤ ns.length
    · have hlt2 : (t : Int) ≤ (ns.length : Int) := by omega
      have hcl : (clsN ns t).length ≤ 1000 := by rw [hl0.out]; exact hn
      generalize hC1 : finer ns (clsN ns t) = C1 at hl1 HSt hFirst
      have hin1 : C1.length ≤ 1000 := by rw [hl1.out]; exact hn
      have HC1 := hide hC1
      clear hC1
      rw [← HSt.out] at H164
      generalize hC : clsN ns t = C at HO hC64 hl0 hSame HSt hcl hFirst HC1 ⊢
      have HC := hide hC
      clear hC
      have hww : w.heap.size ≤ wr.heap.size := Hb.out.size
      have HN0 := hide (OwnI.bare wr)
      have HOn := hide (HO.out.alloc (.cells #[] 3))
      have HBn := hide (Hb.out.alloc hww (.cells #[] 3))
      have hd1 : ∀ b, blockOf An = some b → b < wr.heap.size := fun b hb => (HO.out.blocks b hb).2
      have Hd1 := hide hd1
      clear hd1
      go_wp2_with fail
      have hsz1 : wr.heap.size ≤ (wr.alloc (.cells #[] 3)).heap.size := by simp
      generalize wr.alloc (.cells #[] 3) = W1 at HN0 HOn HBn hsz1 ⊢
      generalize hbn : wr.heap.size = bn at HN0 hww Hd1 hsz1 ⊢
      clear hbn
      go_loopg [5, 6, 7] ns.length (fun gk xv iv _ wi => ∃ (i : Nat) (Ax : Option Addr) (cx : Nat) (xs : List Int), i ≤ ns.length ∧ gk = ns.length - i ∧ iv = .int .i64 (i : Int) ∧ xv = .slice Ax xs.length cx ∧ Hid (xs = C1.take i) ∧ OwnI wi bn Ax cx xs ∧ OwnI wi w.heap.size An cn C ∧ bn ≤ wi.heap.size ∧ Below w.heap.size w wi)
      case atStart => exact ⟨0, some ⟨bn, 0, none⟩, 0, [], Nat.zero_le _, rfl, rfl, rfl, hide (by simp), HN0.out, HOn.out, hsz1, HBn.out⟩
      case round =>
        clear HN0 HOn HBn HO Hb
        obtain ⟨i, Ax, cx, xs, hi, rfl, rfl, rfl, hxs, hox, hon, hszi, hb⟩ := hrel
        have Hox := hide hox
        have Hon := hide hon
        have Hb := hide hb
        have hxl : xs.length ≤ 1000 := by rw [hxs.out]; simp; omega
        clear hox hon hb
        by_cases hli : i < ns.length
        · obtain ⟨n, hn'⟩ : ∃ n, ns[i]? = some n := ⟨_, List.getElem?_eq_getElem hli⟩
          have HN := hide hn'
          have hi1 : (i : Int) < (ns.length : Int) := by omega
          have hi64 : In64 (i : Int) := by constructor <;> omega
          have hwi : w.heap.size ≤ wr.heap.size := Hb.out.size
          clear hn'
          have HbW := hide (Below.refl wr.heap.size wr)
          go_wp2_with fail
          obtain ⟨W2, hW2⟩ : ∃ X, X = wr := ⟨_, rfl⟩
          subst hW2
          go_loopg [7] i (fun gk kv wi => ∃ k : Nat, k ≤ i ∧ gk = i - k ∧ kv = .int .i64 (k : Int) ∧ Below W2.heap.size W2 wi ∧ ∀ (q : Nat) (m : Nd), q < k → ns[q]? = some m → sigOf C m ≠ sigOf C n)
          case atStart => exact ⟨0, Nat.zero_le _, rfl, rfl, HbW.out, fun q m hq => absurd hq (by omega)⟩
          case round =>
            clear HbW
            obtain ⟨k, hk, rfl, rfl, hb, hall0⟩ := hrel
            have hall := hide hall0
            have HB := hide hb
            clear hall0 hb
            have HBw := hide (Hb.out.trans (HB.out.mono hwi))
            by_cases hki : k < i
            · have hki1 : (k : Int) < (i : Int) := by omega
              obtain ⟨m, hm⟩ : ∃ m, ns[k]? = some m := ⟨_, List.getElem?_eq_getElem (by omega)⟩
              have HM := hide hm
              have hcall := hide (sameClass_any A ns c An C cn i k wr ((Hr.out.below HBw.out).more HBw.out.size) ((Hon.out.ints hC64.out (by omega)).later HB.out (Nat.le_refl _)) hl0.out HK.out hli (by omega))
              have HSm := hide (hSame.out i k n m HN.out hm)
              clear hm
              by_cases hs : SameC ns C i k
              · have hsig := HSm.out.1 hs
                have h1 := hide (hFirst.out i k n m HN.out HM.out hsig (fun q p hq hp => hall.out q p hq hp))
                have h2 := hide (hFirst.out k k m m HM.out HM.out rfl (fun q p hq hp e => hall.out q p hq hp (e.trans hsig)))
                rw [tf_true hs] at hcall
                clear hs hsig
                have hxk : xs[k]? = some (k : Int) := by
                  rw [hxs.out, List.getElem?_take, if_pos hki]
                  exact h2.out
                have hxk2 : k < xs.length := (List.getElem?_eq_some_iff.1 hxk).1
                have hk0 : (0 : Int) ≤ (k : Int) := by omega
                have hkx : (k : Int) < (xs.length : Int) := by omega
                have hk64 : In64 (k : Int) := by constructor <;> omega
                go_wp2_with fail
                refine hcall.out.mono ?_
                rintro e wy ⟨rfl, hby⟩
                have HBy := hide (HB.out.trans (hby.mono HB.out.size))
                have Hxy := hide (Hox.out.below HBy.out)
                obtain ⟨gx, rfl⟩ : ∃ gx, Ax = some ⟨gx, 0, none⟩ := by
                  rcases Hox.out.form with ⟨_, _, h3⟩ | ⟨gx, h3, _⟩
                  · rw [h3] at hxk2; simp at hxk2
                  · exact ⟨gx, h3⟩
                have hce : wy.cell? ⟨gx, k, none⟩ = some (.int .i64 (k : Int)) := Hxy.out.cellM hxk
                have hbn : bn ≤ wy.heap.size := by have := (Hxy.out.blocks gx rfl); omega
                have HY1 := hide (Hon.out.below HBy.out)
                have hgn : ∀ b, blockOf An = some b → b ≠ gx := fun b hb e => by have := Hd1.out b hb; have := (Hxy.out.blocks gx rfl).1; omega
                have HG := hide hgn
                have hwy := HBy.out.size
                clear hcall hby hgn
                go_wp2_with (at_builtin; refine append_ints rfl (.tmp 40) (.tmp 45) rfl bn (some ⟨gx, 0, none⟩) cx xs rfl (Hxy.out.alloc _) (wy.heap.size + 1) _ 1 [(k : Int)] rfl (fun e => by cases e) (IntsAt.one wy (k : Int) hk64) (by simp <;> omega) (by simp <;> omega) ?_; intro zs A3 c3 w5 hz hown5 hg5 _)
                have hbg : Below bn wy w5 := below_grown ((Below.refl _ _).alloc hbn _) hg5 (by simp; omega) (fun q hq => (Hxy.out.blocks q hq).1)
                have HZ : Hid (zs = C1.take (i + 1)) := hide (by
                  rw [hz.out, hxs.out, List.take_add_one, h1.out]
                  rfl)
                have H5 := hide (HY1.out.ofB (w' := w5) (fun b hb => hbg.block b (Hd1.out b hb)))
                have HB5 := hide (((Hb.out.trans (HBy.out.mono hwi))).trans (hbg.mono hww))
                have HO5 := hide hown5
                have hs5 : bn ≤ w5.heap.size := Nat.le_trans hbn hbg.size
                clear hbg hown5 hg5 hce hxk hxk2 HY1 HG Hxy
                go_wp2
                go_roundg (ns.length - (i + 1))
                case measure => omega
                case rel => exact ⟨i + 1, A3, c3, zs, by omega, rfl, by go_num, rfl, HZ, HO5.out, H5.out, hs5, HB5.out⟩
              · rw [tf_false hs] at hcall
                have hns : sigOf C m ≠ sigOf C n := fun e => hs (HSm.out.2 e)
                have Hns := hide hns
                clear hs hns
                go_wp2_with fail
                refine hcall.out.mono ?_
                rintro e wy ⟨rfl, hby⟩
                have HBy := hide (HB.out.trans (hby.mono HB.out.size))
                clear hby hcall
                go_wp2
                go_roundg (i - (k + 1))
                case measure => omega
                case rel => exact ⟨k + 1, by omega, rfl, by go_num, HBy.out, fun q p hq hp => by
                  by_cases e : q = k
                  · subst e
                    rw [HM.out] at hp
                    injection hp with hp
                    rw [← hp]
                    exact Hns.out
                  · exact hall.out q p (by omega) hp⟩
            · obtain rfl : k = i := by omega
              have hkk : decide ((k : Int) < (k : Int)) = false := by simp
              have h1 := hide (hFirst.out k k n n HN.out HN.out rfl (fun q p hq hp => hall.out q p hq hp))
              have hk64 : In64 (k : Int) := by constructor <;> omega
              have Hxy := hide (Hox.out.below HB.out)
              have HY1 := hide (Hon.out.below HB.out)
              have hwy := HB.out.size
              have hbn : bn ≤ wr.heap.size := by omega
              clear hki
              go_wp2_with (at_builtin; refine append_ints rfl (.tmp 47) (.tmp 49) rfl bn Ax cx xs rfl (Hxy.out.alloc _) (wr.heap.size + 1) _ 1 [(k : Int)] rfl (fun e => by cases e) (IntsAt.one wr (k : Int) hk64) (by simp <;> omega) (by simp <;> omega) ?_; intro zs A3 c3 w5 hz hown5 hg5 _)
              have hbg : Below bn wr w5 := below_grown ((Below.refl _ _).alloc hbn _) hg5 (by simp; omega) (fun q hq => (Hxy.out.blocks q hq).1)
              have HZ : Hid (zs = C1.take (k + 1)) := hide (by
                rw [hz.out, hxs.out, List.take_add_one, h1.out]
                rfl)
              have H5 := hide (HY1.out.ofB (w' := w5) (fun b hb => hbg.block b (Hd1.out b hb)))
              have HB5 := hide (((Hb.out.trans (HB.out.mono hwi))).trans (hbg.mono hww))
              have HO5 := hide hown5
              have hs5 : bn ≤ w5.heap.size := Nat.le_trans hbn hbg.size
              clear hbg hown5 hg5 HY1 Hxy
              go_wp2
              go_roundg (ns.length - (k + 1))
              case measure => omega
              case rel => exact ⟨k + 1, A3, c3, zs, by omega, rfl, by go_num, rfl, HZ, HO5.out, H5.out, hs5, HB5.out⟩
        · obtain rfl : i = ns.length := by omega
          have hii : decide ((ns.length : Int) < (ns.length : Int)) = false := by simp
          have Hx1 : Hid (xs = clsN ns (t + 1)) := hide (by rw [hxs.out, ← HSt.out, ← hl1.out, List.take_length])
          clear hxs hli
          go_wp2
          go_roundg (ns.length + 1 - (t + 1))
          case measure => omega
          case rel => exact ⟨t + 1, Ax, cx, by omega, rfl, by go_num, by rw [Hx1.out], by have := Hox.out.mono hww; rw [Hx1.out] at this; exact this, Hb.out⟩
    · obtain rfl : t = ns.length + 1 := by omega
      have hlt2 : decide (((ns.length + 1 : Nat) : Int) ≤ (ns.length : Int)) = false := decide_eq_false (by omega)
      have HA : Hid (clsN ns (ns.length + 1) = clsN ns ns.length) := cls_all HK.out 1
      clear hSame hFirst HSt H164 hl1
      rw [HA.out] at HO hC64 hl0 ⊢
      go_wp2
      go_ret
      exact ⟨An, cn, rfl, HO.out, Hb.out⟩

end Go.Proofs.Ytcblcmdfeoijpab

namespace Go.Proofs.Ytcblcmdfeoijpab
open Go.RowKit Go.Maps
set_option linter.unusedVariables false
set_option linter.unusedSimpArgs false

set_option maxHeartbeats 400000 in
theorem replaced1_any (k : Int) (q B : Nat) (C : Option Addr) (cl : List Int) (cc : Nat) (w : World) (h : w.cell? ⟨q, 0, none⟩ = some (.slice C cl.length cc)) (hC : IntsAt w B C cl) (h0 : 0 ≤ k) (h1 : k < cl.length) :
    Calls Try.prog 32 #[.int .i64 k, .pointer (some ⟨q, 0, none⟩)] w fun e w' => e = .returned (.int .i64 (look cl k)) ∧ w = w' := by
  have hcl := hC.len
  obtain ⟨i, rfl⟩ := Int.eq_ofNat_of_zero_le h0
  obtain ⟨b, off, x, rfl, hbl, hx, _, cx⟩ := hC.at_ (k := i) (by omega)
  have HX := hide (look_at hx)
  clear hx hC
  go_enter Try.func32, Try.ntmps32
  go_wp2
  go_ret
  exact ⟨ret_int HX.out.symm, rfl⟩

set_option maxHeartbeats 2000000 in
theorem replacedGraph_any (A : Option Addr) (ns : List Nd) (c : Nat) (r : Int) (C : Option Addr) (cl : List Int) (cc : Nat) (w : World) (hr : NdsAt w w.heap.size A ns) (hC : IntsAt w w.heap.size C cl) (hl : cl.length = ns.length) (hK : KidsIn ns) (hkl : ∀ n ∈ ns, n.kids.length ≤ 1000) (hn : ns.length ≤ 1000) (hr0 : 0 ≤ r) (hr1 : r < ns.length) :
    Calls Try.prog 15 #[.agg #[.slice A ns.length c, .int .i64 r], .slice C cl.length cc] w (GivesG w (replNs ns cl) (look cl r)) := by
  have hB3 : Below w.heap.size w (((w.alloc (.cells #[.slice A ns.length c, .int .i64 r] 25)).alloc (.cells #[.slice C cl.length cc] 29)).alloc (.cells #[.slice none 0 0, .int .i64 0] 25)) := (((Below.refl _ _).alloc (Nat.le_refl _) _).alloc (by simp) _).alloc (by simp; omega) _
  have lG := ((Lies.new w #[.slice A ns.length c, .int .i64 r] 25).alloc (.cells #[.slice C cl.length cc] 29)).alloc (.cells #[.slice none 0 0, .int .i64 0] 25)
  have lC := (Lies.new (w.alloc (.cells #[.slice A ns.length c, .int .i64 r] 25)) #[.slice C cl.length cc] 29).alloc (.cells #[.slice none 0 0, .int .i64 0] 25)
  have lR := Lies.new ((w.alloc (.cells #[.slice A ns.length c, .int .i64 r] 25)).alloc (.cells #[.slice C cl.length cc] 29)) #[.slice none 0 0, .int .i64 0] 25
  simp only [World.size_alloc] at lC lR
  have hmk := makeNodesC ns.length hn
  have HR := hide hr
  have HC := hide hC
  have HK := hide hK
  have HKL := hide hkl
  have HL := hide hl
  have hri : r < (cl.length : Int) := by omega
  obtain ⟨ri, rfl⟩ := Int.eq_ofNat_of_zero_le hr0
  obtain ⟨bc, oc, x, rfl, hbc, hx, _, cx⟩ := hC.at_ (k := ri) (by omega)
  have HX := hide (look_at hx)
  have hcl9 := hC.len
  clear hr hC hK hkl hl hx
  go_enter Try.func15, Try.ntmps15
  go_upto_region 1 with fail
  generalize (((w.alloc (.cells #[.slice A ns.length c, .int .i64 (ri : Int)] 25)).alloc (.cells #[.slice (some ⟨bc, oc, none⟩) cl.length cc] 29)).alloc (.cells #[.slice none 0 0, .int .i64 0] 25)) = W at hB3 lG lC lR ⊢
  have hW := lR.lt
  have e0 := lG.cell 0
  simp only [List.getElem?_toArray, List.getElem?_cons_zero, List.getElem?_cons_succ] at e0
  have HB3 := hide hB3
  have HLG := hide lG
  have HLC := hide lC
  have HLR := hide lR
  have cxW := hide ((hB3.cell (p := ⟨bc, oc + ri, none⟩) hbc).trans cx)
  have hS0 := ClA.start W (replNs ns cl)
  rw [replNs_len] at hS0
  have HS0 := hide hS0
  clear hS0 hB3 lG lC lR cx
  go_upto_region 2 with fail
  clear hmk
  generalize hX1 : W.alloc (.cells (madeCells #[.int .i64 0, .int .i64 0, .slice none 0 0] (ns.length * 3)) 41) = X1 at HS0 ⊢
  clear hX1 e0
  have e0 := (HLG.out.below HS0.out.bel HLG.out.lt).cell 0
  simp only [List.getElem?_toArray, List.getElem?_cons_zero, List.getElem?_cons_succ] at e0
  go_wp2_with fail
  clear e0
  go_loopg [15] ns.length (fun gk iv wr => ∃ k : Nat, k ≤ ns.length ∧ gk = ns.length - k ∧ iv = .int .i64 (k : Int) ∧ ClA W wr (replNs ns cl) k)
  case atStart => exact ⟨0, Nat.zero_le _, rfl, rfl, HS0.out⟩
  case round =>
    clear HS0
    obtain ⟨k, hk, rfl, rfl, hS⟩ := hrel
    have hwW := HB3.out.size
    have hSs := hS.bel.size
    by_cases hlt : k < ns.length
    · have hBk := HB3.out.trans (hS.bel.mono hwW)
      obtain ⟨b, off, n, rfl, hbl, hn2, hm, hnd⟩ := (HR.out.below hBk).at_ hlt
      obtain ⟨A1, c1, k2, hki, hnil⟩ := hnd.kids
      have k0 := hnd.kind
      have k1 := hnd.value
      have HN := hide (replNs_at (cl := cl) hn2)
      have HKn := hide (HK.out n hm)
      have hkn := HKL.out n hm
      have HS := hide hS
      have HKI := hide hki
      have hBk2 := hide hBk
      clear hn2 hm hnd hS hki hbl hBk
      go_upto_region 5 with fail
      have hB2 : Below wr.heap.size wr (wr.alloc (.cells #[.int .i64 n.kind, .int .i64 n.value, .slice A1 n.kids.length c1] 41)) := (Below.refl _ _).alloc (Nat.le_refl _) _
      have l1 := Lies.new wr #[.int .i64 n.kind, .int .i64 n.value, .slice A1 n.kids.length c1] 41
      generalize wr.alloc (.cells #[.int .i64 n.kind, .int .i64 n.value, .slice A1 n.kids.length c1] 41) = W2 at hB2 l1 ⊢
      have e0 := l1.cell 0
      have e1 := l1.cell 1
      have e2 := l1.cell 2
      simp only [List.getElem?_toArray, List.getElem?_cons_zero, List.getElem?_cons_succ] at e0 e1 e2
      have hs2 := hB2.size
      have HBW2 := hide (HS.out.bel.trans (hB2.mono hSs))
      have HRW := hide (rewired_any 32 #[] #[.pointer (some ⟨w.heap.size + 1, 0, none⟩)] (look cl) n A1 c1 W2 ((HKI.out.more (by omega)).later hB2 (Nat.le_refl _)) hkn (fun y hy => HC.out.wf _ (look_mem (HKn.out y hy).1 (by have := (HKn.out y hy).2; have := HL.out; omega))) (fun _ _ => by kernel_rfl)
        (fun y W' hb hy => by
          have hbx := HBW2.out.trans (hb.mono (by omega))
          have q0 := (HLC.out.below hbx HLC.out.lt).cell 0
          simp only [List.getElem?_toArray, List.getElem?_cons_zero] at q0
          have h3 := HKn.out y hy
          exact replaced1_any y (w.heap.size + 1) w.heap.size _ cl cc W' q0 (HC.out.below (HB3.out.trans (hbx.mono hwW))) h3.1 (by have := h3.2; have := HL.out; omega)))
      have HB2 := hide hB2
      clear k0 k1 k2 hB2 l1 HKI hnil
      go_wp2_with fail
      refine HRW.out.mono ?_
      clear HRW
      rintro e wi ⟨Ak, ck, rfl, hown, hbi⟩
      obtain ⟨f, hf⟩ := HS.out.row.row
      have hfw : wi.rowIs W.heap.size 41 (ns.length * 3) f := by
        have := hf.of_block (w' := wi) ((HB2.out.trans (hbi.mono HB2.out.size)).block _ hf.lt)
        rwa [replNs_len] at this
      have q0 := World.rowIs.cell hfw (i := k * 3) (by omega)
      have q1 := World.rowIs.cell hfw (i := k * 3 + 1) (by omega)
      have q2 := World.rowIs.cell hfw (i := k * 3 + 2) (by omega)
      have p0 := World.rowIs.frozen hfw (k * 3)
      have p1 := World.rowIs.frozen hfw (k * 3 + 1)
      have p2 := World.rowIs.frozen hfw (k * 3 + 2)
      have hBs := HS.out.step HN.out HB2.out hbi (c := ck) (Ak := Ak) hown
      simp only [replNd, List.length_map] at hBs
      have HB := hide hBs
      have hk1 : (k : Int) < (ns.length : Int) := by omega
      clear hBs hown hbi hf hfw e0 e1 e2 HB2 HN HS
      go_wp2_with fail
      go_roundg (ns.length - (k + 1))
      case measure => omega
      case rel => exact ⟨k + 1, by omega, rfl, by go_num, HB.out⟩
    · obtain rfl : k = ns.length := by omega
      have lG1 := HLG.out.below hS.bel HLG.out.lt
      have lC1 := HLC.out.below hS.bel HLC.out.lt
      have lR1 := HLR.out.below hS.bel HLR.out.lt
      have g1 := lG1.cell 1
      have g2 := lC1.cell 0
      have cx2 := (hS.bel.cell (p := ⟨bc, oc + ri, none⟩) (by show bc < W.heap.size; omega)).trans cxW.out
      have l5 := (lR1.set 0 (.slice (some ⟨W.heap.size, 0, none⟩) ns.length ns.length)).set 1 (.int .i64 x)
      simp only [List.setIfInBounds_toArray, List.set_cons_succ, List.set_cons_zero] at l5
      have s0 := l5.cell 0
      have s1 := l5.cell 1
      have b0 := lR1.cell 0
      have b1 := lR1.cell 1
      have f0 := lR1.frozen 0
      have f1 := lR1.frozen 1
      simp only [List.getElem?_toArray, List.getElem?_cons_zero, List.getElem?_cons_succ] at s0 s1 b0 b1 g1 g2
      have hrow := hS.row
      rw [List.take_of_length_le (by rw [replNs_len]; exact Nat.le_refl _), replNs_len] at hrow
      have hG := GivesG.putQ (q := w.heap.size + 1 + 1) (r := x) (by omega) (by omega) HB3.out (Below.refl _ _) hS.bel (.inr ⟨_, rfl, hrow⟩ : OwnNs wr W.heap.size wr.heap.size (some ⟨W.heap.size, 0, none⟩) ns.length (replNs ns cl))
      rw [replNs_len] at hG
      have HG := hide hG
      have hr3 : (0 : Int) ≤ (ri : Int) := by omega
      clear lG1 lC1 lR1 l5 hrow hG hS hlt
      go_wp2_with fail
      go_wp2
      refine bodyPost_ret (v := .agg #[.slice (some ⟨W.heap.size, 0, none⟩) ns.length ns.length, .int .i64 x]) (by simp [results, Try.results15, go_sem, s0, s1]) rfl ?_
      rw [HX.out]
      exact HG.out

end Go.Proofs.Ytcblcmdfeoijpab

namespace Go.Proofs.Ytcblcmdfeoijpab
open Go.RowKit
set_option linter.unusedVariables false

theorem pruned_yes {ns : List Nd} {r : Int} (hv : ValidG ns r) : prunedOf ns r = pickNs ns (reachOf ns r) := by
  unfold prunedOf
  rw [if_pos hv]
theorem pruned_no {ns : List Nd} {r : Int} (hv : ¬ ValidG ns r) : prunedOf ns r = [] := by
  unfold prunedOf
  rw [if_neg hv]

/-- the pruned graph has the same code -/
theorem pruned_code {ns : List Nd} {r : Int} (hv : ValidG ns r) : codeOf (prunedOf ns r) 0 = codeOf ns r := by
  have h := pick_code hv (reach_pickable hv)
  rw [reach_place hv] at h
  rw [pruned_yes hv]
  exact h
theorem pruned_valid {ns : List Nd} {r : Int} (hv : ValidG ns r) : ValidG (prunedOf ns r) 0 := by
  have h := pick_valid hv (reach_pickable hv)
  rw [reach_place hv] at h
  rw [pruned_yes hv]
  exact h
theorem pruned_len {ns : List Nd} {r : Int} (hv : ValidG ns r) : (prunedOf ns r).length = (reachOf ns r).length := by
  rw [pruned_yes hv, pickNs_len]

theorem map_place_self {L : List Int} (hn : L.Nodup) : L.map (place L) = (List.range L.length).map (fun (i : Nat) => (i : Int)) := by
  apply List.ext_getElem?
  intro j
  rw [List.getElem?_map, List.getElem?_map]
  by_cases hj : j < L.length
  · rw [List.getElem?_eq_getElem hj, List.getElem?_range hj]
    simp only [Option.map_some, Option.some.injEq]
    exact place_get hn (List.getElem?_eq_getElem hj)
  · rw [List.getElem?_eq_none (by omega), List.getElem?_eq_none (by simpa using hj)]
    rfl

/-- all of the pruned graph is reached, in order -/
theorem pruned_reach {ns : List Nd} {r : Int} (hv : ValidG ns r) : reachOf (prunedOf ns r) 0 = (List.range (reachOf ns r).length).map (fun (i : Nat) => (i : Int)) := by
  have hp := reach_pickable hv
  have hR := reachOf_reached hv
  have hw := pruned_valid hv
  have hrch : ∀ y ∈ reachOf ns r, y ∈ reachOf ns r := fun y hy => hy
  rw [← map_place_self hR.met.nodup]
  have h := (dfs_iso (iso_pick hp) (ns.length + 1) r [] hp.root (fun y hy => by cases hy)).1
  rw [reach_place hv] at h
  have e1 : reachOf ns r = dfs ns anyB (ns.length + 1) r [] := by unfold reachOf; rw [if_pos hv]
  have e2 : reachOf (prunedOf ns r) 0 = dfs (prunedOf ns r) anyB ((prunedOf ns r).length + 1) 0 [] := by unfold reachOf; rw [if_pos hw]
  rw [e2]
  conv => rhs; arg 2; rw [e1]
  rw [← h, pruned_yes hv]
  have hle : (pickNs ns (reachOf ns r)).length ≤ ns.length := by rw [pickNs_len]; exact nodup_le _ _ hp.nodup hp.range
  obtain ⟨d, hd⟩ := Nat.exists_eq_add_of_le hle
  have hw2 := hw
  rw [pruned_yes hv] at hw2
  have := dfs_fuels (kidsIn_of_valid hw2) ((pickNs ns (reachOf ns r)).length + 1) 0 [] (Met.nil _) hw2.root0 hw2.root (by simp) d
  have e : (pickNs ns (reachOf ns r)).length + 1 + d = ns.length + 1 := by omega
  rw [e] at this
  exact this.symm

theorem place_range {m : Nat} {x : Int} (h0 : 0 ≤ x) (h1 : x < m) : place ((List.range m).map (fun (i : Nat) => (i : Int))) x = x := by
  obtain ⟨j, rfl⟩ := Int.eq_ofNat_of_zero_le h0
  refine place_get ?_ (j := j) (by rw [List.getElem?_map, List.getElem?_range (by omega)]; rfl)
  exact List.Pairwise.map _ (fun a b hab => by omega) (List.pairwise_lt_range (n := m) |>.imp (fun h => Nat.ne_of_lt h))

/-- pruned again it is the same -/
theorem pruned_again {ns : List Nd} {r : Int} (hv : ValidG ns r) : prunedOf (prunedOf ns r) 0 = prunedOf ns r := by
  have hw := pruned_valid hv
  rw [pruned_yes hw, pruned_reach hv, ← pruned_len hv]
  generalize prunedOf ns r = ms at hw
  apply List.ext_getElem?
  intro j
  unfold pickNs
  rw [List.getElem?_map, List.getElem?_map]
  by_cases hj : j < ms.length
  · rw [List.getElem?_range hj, List.getElem?_eq_getElem hj]
    simp only [Option.map_some, Option.some.injEq]
    rw [pickN_at (List.getElem?_eq_getElem hj)]
    have hok := hw.nodes _ (List.getElem_mem hj)
    generalize ms[j] = n at hok
    have e : n.kids.map (place ((List.range ms.length).map (fun (i : Nat) => (i : Int)))) = n.kids := by
      conv => rhs; rw [← List.map_id n.kids]
      apply List.map_congr_left
      intro k hk
      have := hok.inn k hk
      exact place_range this.1 this.2
    rw [e]
  · rw [List.getElem?_eq_none (by simpa using hj), List.getElem?_eq_none (by omega)]
    rfl

/-- the first numbers of a code -/
theorem code_first {ns : List Nd} {r : Int} (hv : ValidG ns r) : ∃ l, codeOf ns r = kindOf ns r :: valueOf ns r :: l := by
  unfold codeOf
  rw [if_pos hv, cod_new (by simp)]
  have key : ∀ (xs : List Int) (q : CM), ∃ l, (codL ns ns.length xs q).1 = q.1 ++ l := by
    intro xs
    induction xs with
    | nil => intro q; exact ⟨[], by simp [codL]⟩
    | cons a xs ih =>
      intro q
      obtain ⟨l1, h1⟩ := cod_grows (ns := ns) ns.length a q
      obtain ⟨l2, h2⟩ := ih (cod ns ns.length a q)
      refine ⟨l1 ++ l2, ?_⟩
      show (codL ns ns.length xs (cod ns ns.length a q)).1 = _
      rw [h2, h1, List.append_assoc]
  obtain ⟨l, h⟩ := key (kidsOf ns r) (codPut ns r ([], []))
  refine ⟨((kidsOf ns r).length : Int) :: l, ?_⟩
  rw [h]
  unfold codPut
  simp

end Go.Proofs.Ytcblcmdfeoijpab

namespace Go.Proofs.Ytcblcmdfeoijpab
open Go.RowKit
set_option linter.unusedVariables false

theorem OwnI.capLe {w : World} {base : Nat} {A : Option Addr} {c : Nat} {xs : List Int} (h : OwnI w base A c xs) : xs.length ≤ c := by
  rcases h.own with ⟨hl, hh⟩
  rcases hh with ⟨h1, h2⟩ | ⟨g, cap, cur, hv, hg, hh, hle, hm, hs, hx⟩
  · rw [h2]; exact Nat.zero_le _
  · injection hv with _ _ h3
    subst h3
    exact hle

theorem IntsAt.take {w : World} {B : Nat} {A : Option Addr} {xs : List Int} (h : IntsAt w B A xs) (k : Nat) : IntsAt w B A (xs.take k) := by
  refine ⟨fun hx => ?_, fun x hx => h.wf x (List.mem_of_mem_take hx), Nat.le_trans (by simp; omega) h.len⟩
  obtain ⟨b, off, e, hlt, hc⟩ := h.row (by intro e; subst e; simp at hx)
  refine ⟨b, off, e, hlt, fun j x hj => hc j x ?_⟩
  rw [List.getElem?_take] at hj
  split at hj
  · exact hj
  · cases hj

theorem IntsAt.drewN {w : World} {A : Option Addr} {xs : List Int} (h : IntsAt w w.heap.size A xs) (n : Nat) : IntsAt (w.drewN n) (w.drewN n).heap.size A xs :=
  h.later (below_drewN (Below.refl _ _) n) (Nat.le_refl _)

/-- what stays while the law looks at the answer -/
structure LawS (w wr : World) (bg g cap : Nat) (Ag : Option Addr) (ns : List Nd) (r : Int) (R : List Int) : Prop where
  bel : Below w.heap.size w wr
  l : Lies wr bg #[.slice (some ⟨g, 0, none⟩) ns.length cap, .int .i64 r] 25
  nd : NdsAt wr wr.heap.size (some ⟨g, 0, none⟩) ns
  out : IntsAt wr wr.heap.size Ag R

theorem LawS.drewN {w wr : World} {bg g cap : Nat} {Ag : Option Addr} {ns : List Nd} {r : Int} {R : List Int} (h : LawS w wr bg g cap Ag ns r R) (n : Nat) : LawS w (wr.drewN n) bg g cap Ag ns r R :=
  ⟨below_drewN h.bel n, h.l.below (below_drewN (Below.refl _ _) n) h.l.lt, h.nd.later (below_drewN (Below.refl _ _) n) (Nat.le_refl _), h.out.drewN n⟩

/-- a node that the answer names, as the law reads it -/
theorem LawS.at_ {w wr : World} {bg g cap : Nat} {Ag : Option Addr} {ns : List Nd} {r : Int} {R : List Int} (h : LawS w wr bg g cap Ag ns r R) (hR : Reached ns r R) {k : Nat} (hk : k < R.length) :
    ∃ (b off i : Nat) (n : Nd) (Ak : Option Addr) (ck : Nat), Ag = some ⟨b, off, none⟩ ∧ R[k]? = some (i : Int) ∧ wr.cell? ⟨b, off + k, none⟩ = some (.int .i64 (i : Int)) ∧ i < ns.length ∧ wr.cell? ⟨g, i * 3 + 2, none⟩ = some (.slice Ak n.kids.length ck) ∧ IntsAt wr wr.heap.size Ak n.kids ∧ kidsOf ns (i : Int) = n.kids := by
  obtain ⟨b, off, x, e1, _, hx, hm, hc⟩ := h.out.at_ hk
  obtain ⟨h0, h1⟩ := hR.met.range x hm
  obtain ⟨i, rfl⟩ := Int.eq_ofNat_of_zero_le h0
  have hi : i < ns.length := by omega
  obtain ⟨b', off', n, e2, _, hn, _, hnd⟩ := h.nd.at_ hi
  injection e2 with e2
  injection e2 with e3 e4
  subst e3 e4
  obtain ⟨Ak, ck, k1, k2, _⟩ := hnd.kids
  rw [Nat.zero_add] at k1
  exact ⟨b, off, i, n, Ak, ck, e1, hx, hc, hi, k1, k2, kidsOf_at hn⟩

theorem not_in_take {R : List Int} {k : Nat} {x : Int} (h : R.Nodup) (hx : R[k]? = some x) : x ∉ R.take k := by
  intro hm
  obtain ⟨j, hj, e⟩ := List.getElem_of_mem hm
  have hj2 : j < k ∧ j < R.length := by simp at hj; omega
  rw [List.getElem_take] at e
  obtain ⟨hk, e2⟩ := List.getElem?_eq_some_iff.1 hx
  have := (List.getElem_inj h).1 (e.trans e2.symm)
  omega

theorem LawS.below {w wr w' : World} {bg g cap : Nat} {Ag : Option Addr} {ns : List Nd} {r : Int} {R : List Int} (h : LawS w wr bg g cap Ag ns r R) (hb : Below wr.heap.size wr w') : LawS w w' bg g cap Ag ns r R :=
  ⟨h.bel.trans (hb.mono h.bel.size), h.l.below hb h.l.lt, h.nd.later hb (Nat.le_refl _), h.out.later hb (Nat.le_refl _)⟩

theorem LawS.cells {w wr : World} {bg g cap : Nat} {Ag : Option Addr} {ns : List Nd} {r : Int} {R : List Int} (h : LawS w wr bg g cap Ag ns r R) : wr.cell? ⟨bg, 0, none⟩ = some (.slice (some ⟨g, 0, none⟩) ns.length cap) ∧ wr.cell? ⟨bg, 1, none⟩ = some (.int .i64 r) := by
  have e0 := h.l.cell 0
  have e1 := h.l.cell 1
  simp at e0 e1
  exact ⟨e0, e1⟩

/-- an element of the answer, and its node -/
theorem LawS.elem {w wr : World} {bg g cap : Nat} {Ag : Option Addr} {ns : List Nd} {r : Int} {S : List Int} (h : LawS w wr bg g cap Ag ns r S) (hS : ∀ x ∈ S, 0 ≤ x ∧ x < ns.length) {k : Nat} (hk : k < S.length) :
    ∃ (b off i : Nat) (n : Nd), Ag = some ⟨b, off, none⟩ ∧ S[k]? = some (i : Int) ∧ (i : Int) ∈ S ∧ wr.cell? ⟨b, off + k, none⟩ = some (.int .i64 (i : Int)) ∧ i < ns.length ∧ ns[i]? = some n ∧ wr.cell? ⟨g, i * 3, none⟩ = some (.int .i64 n.kind) := by
  obtain ⟨b, off, x, e1, _, hx, hm, hc⟩ := h.out.at_ hk
  obtain ⟨h0, h1⟩ := hS x hm
  obtain ⟨i, rfl⟩ := Int.eq_ofNat_of_zero_le h0
  have hi : i < ns.length := by omega
  obtain ⟨b', off', n, e2, _, hn, _, hnd⟩ := h.nd.at_ hi
  injection e2 with e2
  injection e2 with e3 e4
  subst e3 e4
  have hk2 := hnd.kind
  rw [Nat.zero_add] at hk2
  exact ⟨b, off, i, n, e1, hx, hm, hc, hi, hn, hk2⟩

end Go.Proofs.Ytcblcmdfeoijpab
