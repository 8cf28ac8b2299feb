/-
  The program's EncodeOps: what it returns.
-/
import Derived.Test.YtfhmmdiicnfjbaaDoorImplO
import Derived.Test.YtfhmmdiicnfjbaaDoorHasA
import Derived.Test.YtfhmmdiicnfjbaaDoorApA
import Derived.Deep.LoopGhost
import Derived.Deep.Cut
namespace Go.Proofs.YtfhmmdiicnfjbaaDoor
open Go.RowKit
set_option linter.unusedVariables false

/-- the memory while the bytes of k orders lie behind each other -/
structure EnT (w wr : World) (os : List Od) (k : Nat) (Ao : Option Addr) (co : Nat) (acc : List Int) : Prop where
  bel : Below w.heap.size w wr
  own : OwnI wr w.heap.size Ao co acc
  eq : acc = encs (os.take k)

theorem EnT.few {w wr : World} {os : List Od} {k : Nat} {Ao : Option Addr} {co : Nat} {acc : List Int} (h : EnT w wr os k Ao co acc) : acc.length ≤ 3 * k := by
  rw [h.eq]
  have := (encs_len (os.take k)).2
  simp only [List.length_take] at this
  omega

set_option maxRecDepth 100000 in
set_option maxHeartbeats 2000000 in
theorem implEncodeOps_any (A : Option Addr) (os : List Od) (c : Nat) (w : World) (h : OpsAt w w.heap.size A os) (hF : FormsAt w w.heap.size) :
    Calls Tryd.prog 21 #[.slice A os.length c] w (GivesInts w (encodeOf os)) := by
  have hl := h.len
  by_cases hok : OpsOk os
  · rw [encodeOf_ok hok]
    have Hok := hide hok
    have ht := hide (tf_true hok)
    have hl3 := hok.1
    clear hok
    go_enter Tryd.func21, Tryd.ntmps21
    go_wp2_with fail
    refine (implValidOps_any A os c w h hF).mono ?_
    rintro e w1 ⟨rfl, hb1⟩
    rw [ht.out]
    have HS0 := hide (show EnT w w1 os 0 none 0 [] from ⟨hb1, OwnI.empty _ _, rfl⟩)
    clear hb1
    go_wp2_with fail
    go_loopg [3, 5, 11] os.length (fun gk ov _ iv wr => ∃ (k : Nat) (Ao : Option Addr) (co : Nat) (acc : List Int), k ≤ os.length ∧ gk = os.length - k ∧ iv = .int .i64 (k : Int) ∧ ov = .slice Ao acc.length co ∧ EnT w wr os k Ao co acc)
    case atStart => exact ⟨0, none, 0, [], Nat.zero_le _, rfl, rfl, rfl, HS0.out⟩
    case round =>
      clear HS0
      obtain ⟨k, Ao, co, acc, hk, rfl, rfl, rfl, hS⟩ := hrel
      have HS := hide hS
      have hfew := hS.few
      have hbs := hS.bel.size
      by_cases hlt : k < os.length
      · obtain ⟨b, off, o, rfl, hbl, hx, hmem, hc0, hc1⟩ := (h.below hS.bel).at_ hlt
        have Hx := hide hx
        have hin := Hok.out.2 o hmem
        obtain ⟨⟨hq1, hq2⟩, hqa⟩ := hin
        have HA := hide hqa
        have hm := argMost_range o.code
        have lo := Lies.new wr #[.int .i64 o.code, .int .i64 o.arg] 40
        have HOb := hide (HS.out.own.alloc (.cells #[.int .i64 o.code, .int .i64 o.arg] 40))
        have HBb := hide (HS.out.bel.alloc HS.out.bel.size (.cells #[.int .i64 o.code, .int .i64 o.arg] 40))
        have Hne := hide (fun (g : Nat) (e : some wr.heap.size = blockOf Ao) => (by have := (HS.out.own.blocks _ e.symm).2; omega : False))
        clear hS hx hmem hqa
        go_upto_region 7 with fail
        have hgb : wr.heap.size < (wr.alloc (.cells #[.int .i64 o.code, .int .i64 o.arg] 40)).heap.size := lo.lt
        generalize wr.heap.size = gb at *
        generalize wr.alloc (.cells #[.int .i64 o.code, .int .i64 o.arg] 40) = wb at *
        have c0 := lo.cell 0
        simp at c0
        have Lo := hide lo
        clear hc0 hc1 lo
        have hg3f : ∀ (w3 : World), (wb.alloc (.cells #[.int .i64 o.code] 3)).grownBy w3 (blockOf Ao) → Below w.heap.size w w3 ∧ Lies w3 gb #[.int .i64 o.code, .int .i64 o.arg] 40 := fun w3 hg3 =>
          ⟨below_grown (HBb.out.alloc HBb.out.size _) hg3 (by have := HBb.out.size; simp; omega) (fun q hq => (HOb.out.blocks q hq).1),
            (hg3.block gb (by simp; omega) (fun e => Hne.out gb e)).trans (Lo.out.alloc _)⟩
        have Hg3f := hide hg3f
        clear hg3f
        go_wp2_with (at_builtin; refine append_ints rfl (.tmp 15) (.tmp 18) rfl w.heap.size Ao co acc rfl (HOb.out.alloc _) _ _ 1 [o.code] rfl (fun e => by cases e) (IntsAt.one wb o.code (by constructor <;> omega)) (by simp; omega) (by simp; omega) ?_; intro zs A3 c3 w3 e3 own3 hg3 _; obtain ⟨hb3, lo3⟩ := Hg3f.out w3 hg3; have HO3 := hide own3; have HB3 := hide hb3; have HL3 := hide lo3; have d0 := lo3.cell 0; have d1 := lo3.cell 1; simp at d0 d1; have HF3 := hide (hF.later hb3 (Nat.le_refl _)); have hs3 := hb3.size; clear hg3 own3 hb3 lo3)
        by_cases hneg : argMost o.code < 0
        · have HE := hide (encO_bare hneg)
          refine (hasArg_no o.code w3 HF3.out hq1 (by omega) hneg).mono ?_
          rintro e w' ⟨rfl, rfl⟩
          clear hneg
          go_wp2
          go_roundg (os.length - (k + 1))
          case measure => omega
          case rel => exact ⟨k + 1, A3, c3, zs, by omega, rfl, by go_num, rfl, HB3.out, HO3.out, by rw [e3.out, HS.out.eq, encs_next Hx.out, HE.out]⟩
        · have HE := hide (encO_arg hneg)
          have hr : 0 ≤ o.arg ∧ o.arg ≤ 999 := by have := HA.out; omega
          obtain ⟨hr1, hr2⟩ := hr
          have hzl : zs.length ≤ 3 * k + 1 := by rw [e3.out]; simp; omega
          refine (hasArg_yes o.code w3 HF3.out hq1 (by omega) hneg).mono ?_
          rintro e w' ⟨rfl, rfl⟩
          clear hneg
          go_wp2_with fail
          refine (appendArg_any w.heap.size A3 c3 zs o.arg w3 HO3.out hs3 hr1 hr2 (by omega)).mono ?_
          rintro e w4 ⟨A4, c4, rfl, own4, hb4, _⟩
          go_wp2
          go_roundg (os.length - (k + 1))
          case measure => omega
          case rel => exact ⟨k + 1, A4, c4, zs ++ encA o.arg, by omega, rfl, by go_num, by rw [List.length_append], HB3.out.trans hb4, own4, by rw [e3.out, HS.out.eq, encs_next Hx.out, HE.out]; simp⟩
      · obtain rfl : k = os.length := by omega
        have hE : acc = encs os := by have := hS.eq; rw [List.take_length] at this; exact this
        subst hE
        clear hS hlt
        go_wp2
        go_ret
        exact ⟨Ao, co, rfl, HS.out.own, HS.out.bel⟩
  · rw [encodeOf_no hok]
    have ht := hide (tf_false hok)
    clear hok
    go_enter Tryd.func21, Tryd.ntmps21
    go_wp2_with fail
    refine (implValidOps_any A os c w h hF).mono ?_
    rintro e w1 ⟨rfl, hb1⟩
    rw [ht.out]
    go_wp2
    go_ret
    exact ⟨none, 0, rfl, OwnI.empty _ _, hb1⟩

end Go.Proofs.YtfhmmdiicnfjbaaDoor
