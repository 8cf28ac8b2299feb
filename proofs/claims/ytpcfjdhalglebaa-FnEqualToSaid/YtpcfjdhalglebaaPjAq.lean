/-
  Lemmas, several texts in one: ClaS, WalkT.
-/
import Derived.Test.YtpcfjdhalglebaaPjAo
import Derived.Test.YtpcfjdhalglebaaPjAp
import Derived.Test.YtpcfjdhalglebaaPjAb
import Derived.Test.YtpcfjdhalglebaaPjAk
import Derived.Test.YtpcfjdhalglebaaPjAh
import Derived.Deep.LoopGhost
import Derived.Deep.Cut
import Derived.Test.YtpcfjdhalglebaaSetI
import Derived.Test.YtpcfjdhalglebaaPjAf
import Derived.Test.YtpcfjdhalglebaaPjAd
import Derived.Laws.EntriesVeiled
namespace Go.Proofs.Ytpcfjdhalglebaa
open Go.RowKit
set_option linter.unusedVariables false

theorem sameC_sig {ns : List Nd} (hK : KidsIn ns) {d i k : Nat} {n m : Nd} (hi : ns[i]? = some n) (hk : ns[k]? = some m) : SameC ns (clsN ns d) i k ↔ sigOf (clsN ns d) m = sigOf (clsN ns d) n := by
  constructor
  · rintro ⟨_, n', m', g1, g2, g3⟩
    rw [hi] at g1
    rw [hk] at g2
    injection g1 with g1
    injection g2 with g2
    subst g1 g2
    exact g3.symm
  · intro h
    refine ⟨?_, n, m, hi, hk, h.symm⟩
    have h1 : look (clsN ns (d + 1)) i = look (clsN ns (d + 1)) k := (finer_eq (cl := clsN ns d) hi hk).2 h.symm
    exact cls_mono hK d i k (by have := (List.getElem?_eq_some_iff.1 hi).1; omega) (by have := (List.getElem?_eq_some_iff.1 hk).1; omega) h1

theorem clsS_64 {ns : List Nd} (hn : ns.length ≤ 1000) (d : Nat) : ∀ x ∈ clsN ns d, In64 x := by
  intro x hx
  have := clsN_in ns d x hx
  constructor <;> omega

set_option maxRecDepth 100000 in
set_option maxHeartbeats 4000000 in
theorem specClasses_any (A : Option Addr) (ns : List Nd) (c : Nat) (w : World) (hr : NdsAt w w.heap.size A ns) (hK : KidsIn ns) (hn : ns.length ≤ 1000) :
    Calls Try.prog 39 #[.slice A ns.length c] w (GivesInts w (clsN ns ns.length)) := by
  have hmk : ∀ w : World, _ := run_make_row' (P := Try.prog) 35 3 (.int .i64 0) 8 Try.underlying35 infoInt rfl .i64 .i64 ns.length (by omega) (by omega)
  have Hr := hide hr
  have HK := hide hK
  have hR1 := RowL.made w ns.length
  have hB0 := (Below.refl w.heap.size w).alloc (Nat.le_refl _) (.cells (madeCells #[.int .i64 0] ns.length) 3)
  clear hr hK
  go_enter Try.func39, Try.ntmps39
  go_wp2_with fail
  clear hmk
  generalize w.alloc (.cells (madeCells #[.int .i64 0] ns.length) 3) = W at hR1 hB0 ⊢
  have HO0 := hide (hR1.own (base := w.heap.size) (Nat.le_refl _) (by simp; unfold maxLen; omega))
  have HB0 := hide hB0
  clear hR1 hB0
  go_loopg [3, 4, 5, 6, 7] (ns.length + 1) (fun gk nv tv _ _ _ wr => ∃ (t : Nat) (An : Option Addr) (cn : Nat), t ≤ ns.length + 1 ∧ gk = ns.length + 1 - t ∧ tv = .int .i64 (t : Int) ∧ nv = .slice An (clsN ns t).length cn ∧ OwnI wr w.heap.size An cn (clsN ns t) ∧ Below w.heap.size w wr)
  case atStart => exact ⟨0, some ⟨w.heap.size, 0, none⟩, ns.length, Nat.zero_le _, rfl, rfl, by simp [clsN], by have := HO0.out; simpa [clsN] using this, HB0.out⟩
  case round =>
    clear HO0
    obtain ⟨t, An, cn, ht, rfl, rfl, rfl, ho, hb⟩ := hrel
    have HO := hide ho
    have Hb := hide hb
    have hC64 := hide (clsS_64 hn t)
    have hl0 : Hid ((clsN ns t).length = ns.length) := clsN_len ns t
    have hl1 : Hid ((finer ns (clsN ns t)).length = ns.length) := finer_len ns _
    have hSame := hide (fun (i k : Nat) (n m : Nd) (hi : ns[i]? = some n) (hk : ns[k]? = some m) => sameC_sig HK.out (d := t) hi hk)
    have HSt : Hid (finer ns (clsN ns t) = clsN ns (t + 1)) := rfl
    have H164 := hide (clsS_64 hn (t + 1))
    have hFirst := hide (fun (i j : Nat) (n m : Nd) (hi : ns[i]? = some n) (hj : ns[j]? = some m) (hs : sigOf (clsN ns t) m = sigOf (clsN ns t) n) (hf : ∀ k q, k < j → ns[k]? = some q → sigOf (clsN ns t) q ≠ sigOf (clsN ns t) n) => finer_first hi hj hs hf)
    clear ho hb
    by_cases hlt : t ≤ ns.length
    · have hlt2 : (t : Int) ≤ (ns.length : Int) := by omega
      have hcl : (clsN ns t).length ≤ 1000 := by rw [hl0.out]; exact hn
      generalize hC1 : finer ns (clsN ns t) = C1 at hl1 HSt hFirst
      have hin1 : C1.length ≤ 1000 := by rw [hl1.out]; exact hn
      have HC1 := hide hC1
      clear hC1
      rw [← HSt.out] at H164
      generalize hC : clsN ns t = C at HO hC64 hl0 hSame HSt hcl hFirst HC1 ⊢
      have HC := hide hC
      clear hC
      have hww : w.heap.size ≤ wr.heap.size := Hb.out.size
      have HN0 := hide (OwnI.bare wr)
      have HOn := hide (HO.out.alloc (.cells #[] 3))
      have HBn := hide (Hb.out.alloc hww (.cells #[] 3))
      have hd1 : ∀ b, blockOf An = some b → b < wr.heap.size := fun b hb => (HO.out.blocks b hb).2
      have Hd1 := hide hd1
      clear hd1
      go_wp2_with fail
      have hsz1 : wr.heap.size ≤ (wr.alloc (.cells #[] 3)).heap.size := by simp
      generalize wr.alloc (.cells #[] 3) = W1 at HN0 HOn HBn hsz1 ⊢
      generalize hbn : wr.heap.size = bn at HN0 hww Hd1 hsz1 ⊢
      clear hbn
      go_loopg [5, 6, 7] ns.length (fun gk xv iv _ wi => ∃ (i : Nat) (Ax : Option Addr) (cx : Nat) (xs : List Int), i ≤ ns.length ∧ gk = ns.length - i ∧ iv = .int .i64 (i : Int) ∧ xv = .slice Ax xs.length cx ∧ Hid (xs = C1.take i) ∧ OwnI wi bn Ax cx xs ∧ OwnI wi w.heap.size An cn C ∧ bn ≤ wi.heap.size ∧ Below w.heap.size w wi)
      case atStart => exact ⟨0, some ⟨bn, 0, none⟩, 0, [], Nat.zero_le _, rfl, rfl, rfl, hide (by simp), HN0.out, HOn.out, hsz1, HBn.out⟩
      case round =>
        clear HN0 HOn HBn HO Hb
        obtain ⟨i, Ax, cx, xs, hi, rfl, rfl, rfl, hxs, hox, hon, hszi, hb⟩ := hrel
        have Hox := hide hox
        have Hon := hide hon
        have Hb := hide hb
        have hxl : xs.length ≤ 1000 := by rw [hxs.out]; simp; omega
        clear hox hon hb
        by_cases hli : i < ns.length
        · obtain ⟨n, hn'⟩ : ∃ n, ns[i]? = some n := ⟨_, List.getElem?_eq_getElem hli⟩
          have HN := hide hn'
          have hi1 : (i : Int) < (ns.length : Int) := by omega
          have hi64 : In64 (i : Int) := by constructor <;> omega
          have hwi : w.heap.size ≤ wr.heap.size := Hb.out.size
          clear hn'
          have HbW := hide (Below.refl wr.heap.size wr)
          go_wp2_with fail
          obtain ⟨W2, hW2⟩ : ∃ X, X = wr := ⟨_, rfl⟩
          subst hW2
          go_loopg [7] i (fun gk kv wi => ∃ k : Nat, k ≤ i ∧ gk = i - k ∧ kv = .int .i64 (k : Int) ∧ Below W2.heap.size W2 wi ∧ ∀ (q : Nat) (m : Nd), q < k → ns[q]? = some m → sigOf C m ≠ sigOf C n)
          case atStart => exact ⟨0, Nat.zero_le _, rfl, rfl, HbW.out, fun q m hq => absurd hq (by omega)⟩
          case round =>
            clear HbW
            obtain ⟨k, hk, rfl, rfl, hb, hall0⟩ := hrel
            have hall := hide hall0
            have HB := hide hb
            clear hall0 hb
            have HBw := hide (Hb.out.trans (HB.out.mono hwi))
            by_cases hki : k < i
            · have hki1 : (k : Int) < (i : Int) := by omega
              obtain ⟨m, hm⟩ : ∃ m, ns[k]? = some m := ⟨_, List.getElem?_eq_getElem (by omega)⟩
              have HM := hide hm
              have hcall := hide (sameClass_any A ns c An C cn i k wr ((Hr.out.below HBw.out).more HBw.out.size) ((Hon.out.ints hC64.out (by omega)).later HB.out (Nat.le_refl _)) hl0.out HK.out hli (by omega))
              have HSm := hide (hSame.out i k n m HN.out hm)
              clear hm
              by_cases hs : SameC ns C i k
              · have hsig := HSm.out.1 hs
                have h1 := hide (hFirst.out i k n m HN.out HM.out hsig (fun q p hq hp => hall.out q p hq hp))
                have h2 := hide (hFirst.out k k m m HM.out HM.out rfl (fun q p hq hp e => hall.out q p hq hp (e.trans hsig)))
                rw [tf_true hs] at hcall
                clear hs hsig
                have hxk : xs[k]? = some (k : Int) := by
                  rw [hxs.out, List.getElem?_take, if_pos hki]
                  exact h2.out
                have hxk2 : k < xs.length := (List.getElem?_eq_some_iff.1 hxk).1
                have hk0 : (0 : Int) ≤ (k : Int) := by omega
                have hkx : (k : Int) < (xs.length : Int) := by omega
                have hk64 : In64 (k : Int) := by constructor <;> omega
                go_wp2_with fail
                refine hcall.out.mono ?_
                rintro e wy ⟨rfl, hby⟩
                have HBy := hide (HB.out.trans (hby.mono HB.out.size))
                have Hxy := hide (Hox.out.below HBy.out)
                obtain ⟨gx, rfl⟩ : ∃ gx, Ax = some ⟨gx, 0, none⟩ := by
                  rcases Hox.out.form with ⟨_, _, h3⟩ | ⟨gx, h3, _⟩
                  · rw [h3] at hxk2; simp at hxk2
                  · exact ⟨gx, h3⟩
                have hce : wy.cell? ⟨gx, k, none⟩ = some (.int .i64 (k : Int)) := Hxy.out.cellM hxk
                have hbn : bn ≤ wy.heap.size := by have := (Hxy.out.blocks gx rfl); omega
                have HY1 := hide (Hon.out.below HBy.out)
                have hgn : ∀ b, blockOf An = some b → b ≠ gx := fun b hb e => by have := Hd1.out b hb; have := (Hxy.out.blocks gx rfl).1; omega
                have HG := hide hgn
                have hwy := HBy.out.size
                clear hcall hby hgn
                go_wp2_with (at_builtin; refine append_ints rfl (.tmp 40) (.tmp 45) rfl bn (some ⟨gx, 0, none⟩) cx xs rfl (Hxy.out.alloc _) (wy.heap.size + 1) _ 1 [(k : Int)] rfl (fun e => by cases e) (IntsAt.one wy (k : Int) hk64) (by simp <;> omega) (by simp <;> omega) ?_; intro zs A3 c3 w5 hz hown5 hg5 _)
                have hbg : Below bn wy w5 := below_grown ((Below.refl _ _).alloc hbn _) hg5 (by simp; omega) (fun q hq => (Hxy.out.blocks q hq).1)
                have HZ : Hid (zs = C1.take (i + 1)) := hide (by
                  rw [hz.out, hxs.out, List.take_add_one, h1.out]
                  rfl)
                have H5 := hide (HY1.out.ofB (w' := w5) (fun b hb => hbg.block b (Hd1.out b hb)))
                have HB5 := hide (((Hb.out.trans (HBy.out.mono hwi))).trans (hbg.mono hww))
                have HO5 := hide hown5
                have hs5 : bn ≤ w5.heap.size := Nat.le_trans hbn hbg.size
                clear hbg hown5 hg5 hce hxk hxk2 HY1 HG Hxy
                go_wp2
                go_roundg (ns.length - (i + 1))
                case measure => omega
                case rel => exact ⟨i + 1, A3, c3, zs, by omega, rfl, by go_num, rfl, HZ, HO5.out, H5.out, hs5, HB5.out⟩
              · rw [tf_false hs] at hcall
                have hns : sigOf C m ≠ sigOf C n := fun e => hs (HSm.out.2 e)
                have Hns := hide hns
                clear hs hns
                go_wp2_with fail
                refine hcall.out.mono ?_
                rintro e wy ⟨rfl, hby⟩
                have HBy := hide (HB.out.trans (hby.mono HB.out.size))
                clear hby hcall
                go_wp2
                go_roundg (i - (k + 1))
                case measure => omega
                case rel => exact ⟨k + 1, by omega, rfl, by go_num, HBy.out, fun q p hq hp => by
                  by_cases e : q = k
                  · subst e
                    rw [HM.out] at hp
                    injection hp with hp
                    rw [← hp]
                    exact Hns.out
                  · exact hall.out q p (by omega) hp⟩
            · obtain rfl : k = i := by omega
              have hkk : decide ((k : Int) < (k : Int)) = false := by simp
              have h1 := hide (hFirst.out k k n n HN.out HN.out rfl (fun q p hq hp => hall.out q p hq hp))
              have hk64 : In64 (k : Int) := by constructor <;> omega
              have Hxy := hide (Hox.out.below HB.out)
              have HY1 := hide (Hon.out.below HB.out)
              have hwy := HB.out.size
              have hbn : bn ≤ wr.heap.size := by omega
              clear hki
              go_wp2_with (at_builtin; refine append_ints rfl (.tmp 47) (.tmp 49) rfl bn Ax cx xs rfl (Hxy.out.alloc _) (wr.heap.size + 1) _ 1 [(k : Int)] rfl (fun e => by cases e) (IntsAt.one wr (k : Int) hk64) (by simp <;> omega) (by simp <;> omega) ?_; intro zs A3 c3 w5 hz hown5 hg5 _)
              have hbg : Below bn wr w5 := below_grown ((Below.refl _ _).alloc hbn _) hg5 (by simp; omega) (fun q hq => (Hxy.out.blocks q hq).1)
              have HZ : Hid (zs = C1.take (k + 1)) := hide (by
                rw [hz.out, hxs.out, List.take_add_one, h1.out]
                rfl)
              have H5 := hide (HY1.out.ofB (w' := w5) (fun b hb => hbg.block b (Hd1.out b hb)))
              have HB5 := hide (((Hb.out.trans (HB.out.mono hwi))).trans (hbg.mono hww))
              have HO5 := hide hown5
              have hs5 : bn ≤ w5.heap.size := Nat.le_trans hbn hbg.size
              clear hbg hown5 hg5 HY1 Hxy
              go_wp2
              go_roundg (ns.length - (k + 1))
              case measure => omega
              case rel => exact ⟨k + 1, A3, c3, zs, by omega, rfl, by go_num, rfl, HZ, HO5.out, H5.out, hs5, HB5.out⟩
        · obtain rfl : i = ns.length := by omega
          have hii : decide ((ns.length : Int) < (ns.length : Int)) = false := by simp
          have Hx1 : Hid (xs = clsN ns (t + 1)) := hide (by rw [hxs.out, ← HSt.out, ← hl1.out, List.take_length])
          clear hxs hli
          go_wp2
          go_roundg (ns.length + 1 - (t + 1))
          case measure => omega
          case rel => exact ⟨t + 1, Ax, cx, by omega, rfl, by go_num, by rw [Hx1.out], by have := Hox.out.mono hww; rw [Hx1.out] at this; exact this, Hb.out⟩
    · obtain rfl : t = ns.length + 1 := by omega
      have hlt2 : decide (((ns.length + 1 : Nat) : Int) ≤ (ns.length : Int)) = false := decide_eq_false (by omega)
      have HA : Hid (clsN ns (ns.length + 1) = clsN ns ns.length) := cls_all HK.out 1
      clear hSame hFirst HSt H164 hl1
      rw [HA.out] at HO hC64 hl0 ⊢
      go_wp2
      go_ret
      exact ⟨An, cn, rfl, HO.out, Hb.out⟩

end Go.Proofs.Ytpcfjdhalglebaa

namespace Go.Proofs.Ytpcfjdhalglebaa.WalkT
open Go.RowKit Go.Maps Go.Proofs.Ytpcfjdhalglebaa
set_option linter.unusedVariables false

/-- the function F tells whether a node may be entered -/
def Enters (ns : List Nd) (ent : Int → Bool) : Prop :=
  ∀ (k : Nat) (n : Nd) (A : Option Addr) (c : Nat) (w : World), ns[k]? = some n →
    Calls Try.prog 47 #[.agg #[.int .i64 n.kind, .int .i64 n.value, .slice A n.kids.length c]] w fun e w' => e = .returned (.bool (ent (k : Int))) ∧ Below w.heap.size w w'

/-- what the closure of walkFrom finds in memory -/
structure Env (w : World) (base b3 b5 b7 b8 : Nat) (A : Option Addr) (c : Nat) (ns : List Nd) (L : List Int) : Prop where
  enter : Lies w b5 #[.func (.func 47) #[] #[]] 66
  nodes : Lies w b3 #[.slice A ns.length c] 23
  set : ∃ m Am cm, SetI w b7 base m Am cm L
  self : Lies w b8 #[.func (.func 63) #[] #[.pointer (some ⟨b5, 0, none⟩), .pointer (some ⟨b3, 0, none⟩), .pointer (some ⟨b7, 0, none⟩), .pointer (some ⟨b8, 0, none⟩)]] 87
  read : NdsAt w b3 A ns
  n3 : b3 < b5
  n5 : b5 < b7
  n7 : b7 < b8
  n8 : b8 < base
  hb : base ≤ w.heap.size

theorem Env.later {w w' : World} {base b3 b5 b7 b8 : Nat} {A : Option Addr} {c : Nat} {ns : List Nd} {L : List Int} (h : Env w base b3 b5 b7 b8 A c ns L) (hb : Below w.heap.size w w') : Env w' base b3 b5 b7 b8 A c ns L := by
  obtain ⟨m, Am, cm, hs⟩ := h.set
  have h1 := h.n3
  have h2 := h.n5
  have h3 := h.n7
  have h4 := h.n8
  have h5 := h.hb
  exact ⟨h.enter.below hb (by omega), h.nodes.below hb (by omega), ⟨m, Am, cm, hs.below hb⟩, h.self.below hb (by omega), h.read.below (hb.mono (by omega)), h1, h2, h3, h4, Nat.le_trans h5 hb.size⟩

/-- the environment behind an add -/
theorem Env.added {w w' : World} {base b3 b5 b7 b8 : Nat} {A : Option Addr} {c : Nat} {ns : List Nd} {L L' : List Int} (h : Env w base b3 b5 b7 b8 A c ns L) (hs : ∃ m Am cm, SetI w' b7 base m Am cm L') (hb : But base b7 w w') : Env w' base b3 b5 b7 b8 A c ns L' := by
  have h1 := h.n3
  have h2 := h.n5
  have h3 := h.n7
  have h4 := h.n8
  have h5 := h.hb
  have hl : ∀ {g : Nat} {cs : Array Value} {t : TypeId}, Lies w g cs t → g < base → g ≠ b7 → Lies w' g cs t := fun hg hlt hne => (hb.block _ hlt hne).trans hg
  refine ⟨hl h.enter (by omega) (by omega), hl h.nodes (by omega) (by omega), hs, hl h.self (by omega) (by omega), h.read.below (B := b3) ⟨hb.os, hb.tape, hb.output, hb.size, fun k hk => hb.block k (by omega) (by omega)⟩, h1, h2, h3, h4, Nat.le_trans h5 hb.size⟩

theorem Env.below3 {w w' : World} {base b3 b5 b7 b8 : Nat} {A : Option Addr} {c : Nat} {ns : List Nd} {L : List Int} (h : Env w base b3 b5 b7 b8 A c ns L) (hb : But base b7 w w') : Below b3 w w' := by
  have h1 := h.n3
  have h2 := h.n5
  have h3 := h.n7
  have h4 := h.n8
  exact ⟨hb.os, hb.tape, hb.output, hb.size, fun k hk => hb.block k (by omega) (by omega)⟩

theorem But.refl (base g : Nat) (w : World) : But base g w w := ⟨rfl, rfl, rfl, Nat.le_refl _, fun _ _ _ => rfl⟩
theorem But.of_below {base g : Nat} {w w' : World} (h : Below w.heap.size w w') (hb : base ≤ w.heap.size) : But base g w w' := ⟨h.os, h.tape, h.output, h.size, fun k hk _ => h.block k (by omega)⟩

def WalkDone (base b3 b5 b7 b8 : Nat) (A : Option Addr) (c : Nat) (ns : List Nd) (R : List Int) (w : World) (e : Ending) (w' : World) : Prop :=
  e = .returned (.tuple #[]) ∧ Env w' base b3 b5 b7 b8 A c ns R ∧ But base b7 w w'

set_option maxRecDepth 100000 in
set_option maxHeartbeats 4000000 in
theorem walk1_any (ns : List Nd) (ent : Int → Bool) (hF : Enters ns ent) (hk : KidsIn ns) (hsm : ns.length ≤ 1048576) (base b3 b5 b7 b8 : Nat) (A : Option Addr) (c : Nat) (f : Nat)
    (ih : ∀ (i : Nat) (L : List Int) (w : World), i < ns.length → Met ns L → Env w base b3 b5 b7 b8 A c ns L → ns.length < f + L.length →
      Calls Try.prog 63 #[.int .i64 (i : Int), .pointer (some ⟨b5, 0, none⟩), .pointer (some ⟨b3, 0, none⟩), .pointer (some ⟨b7, 0, none⟩), .pointer (some ⟨b8, 0, none⟩)] w (WalkDone base b3 b5 b7 b8 A c ns (dfs ns ent f i L) w))
    (i : Nat) (L : List Int) (w : World) (hi : i < ns.length) (hL : Met ns L) (he : Env w base b3 b5 b7 b8 A c ns L) (hf : ns.length < f + 1 + L.length) :
      Calls Try.prog 63 #[.int .i64 (i : Int), .pointer (some ⟨b5, 0, none⟩), .pointer (some ⟨b3, 0, none⟩), .pointer (some ⟨b7, 0, none⟩), .pointer (some ⟨b8, 0, none⟩)] w (WalkDone base b3 b5 b7 b8 A c ns (dfs ns ent (f + 1) i L) w) := by
  have x5 := he.enter.cell 0
  have x3 := he.nodes.cell 0
  simp at x5 x3
  obtain ⟨b, off, n, rfl, hbl, hat, hmem, hN⟩ := he.read.at_ hi
  obtain ⟨hn_k, hn_v, ⟨A1, c1, hn_s, hI1, _⟩, _, _⟩ := hN
  have hi1 : (0 : Int) ≤ (i : Int) := by omega
  have hi2 : (i : Int) < (ns.length : Int) := by omega
  have hin64 : In64 (i : Int) := by constructor <;> omega
  have HIn := hide hin64
  have Hat := hide hat
  have Hih := hide ih
  have HF := hide hF
  have HL := hide hL
  have hlL := hL.len
  have hhb := he.hb
  have hn3 := he.n3
  have hn5 := he.n5
  have hn7 := he.n7
  have hn8 := he.n8
  have hkids : Hid (kidsOf ns (i : Int) = n.kids) := kidsOf_at hat
  have hI2 : IntsAt w.drew b3 A1 n.kids := hI1.below (Below.refl _ _).drew
  have hr2 : NdsAt w.drew b3 (some ⟨b, off, none⟩) ns := he.read.below (Below.refl _ _).drew
  have He := hide (he.later (Below.refl _ w).drew)
  have hbt : But base b7 w w.drew := But.of_below (Below.refl _ w).drew he.hb
  have hsz2 : w.drew.heap.size = w.heap.size := rfl
  clear hat ih hF he hmem hin64 hL hI1
  go_enter Try.func63, Try.ntmps63
  go_wp2_with fail
  go_still_tail 5, (by kernel_rfl)
  change wpList _ _ _ _ _ w.drew
  generalize hwd : w.drew = w2 at He hI2 hr2 hbt hsz2 ⊢
  clear hwd x5 x3 hn_k hn_v hn_s
  go_wp2_with fail
  refine (HF.out i n A1 c1 w2 Hat.out).mono ?_
  rintro e w3 ⟨rfl, hb3⟩
  have He3 := hide (He.out.later hb3)
  have hI3 : IntsAt w3 b3 A1 n.kids := hI2.below (hb3.mono (by omega))
  have hr3 : NdsAt w3 b3 (some ⟨b, off, none⟩) ns := hr2.below (hb3.mono (by omega))
  have hbt3 : But base b7 w w3 := hbt.trans (But.of_below hb3 (by omega))
  have hsz3 : base ≤ w3.heap.size := by have := hb3.size; omega
  clear hb3 He hI2 hr2 hbt hsz2
  cases hent : ent (i : Int) with
  | false =>
    have Hd := hide (show dfs ns ent (f + 1) i L = L from dfs_stop (.inl hent))
    clear hent hI3 hr3
    go_wp2
    go_end0
    exact ⟨rfl, by rw [Hd.out]; exact He3.out, hbt3⟩
  | true =>
    obtain ⟨m, Am, cm, hset⟩ := He3.out.set
    by_cases hmem : (i : Int) ∈ L
    · have Hd := hide (show dfs ns ent (f + 1) i L = L from dfs_stop (.inr hmem))
      clear hent hI3 hr3
      go_wp2_with fail
      refine (addI_seen b7 base m Am cm L i w3 hset HIn.out hmem).mono ?_
      rintro e w' ⟨rfl, rfl⟩
      clear hset hmem
      go_wp2
      go_end0
      exact ⟨rfl, by rw [Hd.out]; exact He3.out, hbt3⟩
    · have Hd := hide (show dfs ns ent (f + 1) i L = dfsL ns ent f n.kids (L ++ [(i : Int)]) from (dfs_go hent hmem).trans (by rw [hkids.out]))
      have HM := hide (HL.out.snoc ⟨hi1, hi2⟩ hmem)
      clear hent
      go_wp2_with fail
      refine (addI_new b7 base m cm Am L i w3 hset HIn.out hsz3 hmem (by omega)).mono ?_
      rintro e w4 ⟨rfl, hset4, hb4⟩
      have He4 := hide (He3.out.added hset4 hb4)
      have hbt4 := hbt3.trans hb4
      have hB34 := He3.out.below3 hb4
      have hI4 : IntsAt w4 b3 A1 n.kids := hI3.below hB34
      have hr4 : NdsAt w4 b3 (some ⟨b, off, none⟩) ns := hr3.below hB34
      clear hset4 hb4 hset hmem hI3 hr3 hB34 He3 hbt3
      have y3 := He4.out.nodes.cell 0
      simp at y3
      obtain ⟨_, _, n', hq, _, hat', _, hN'⟩ := hr4.at_ hi
      simp only [Option.some.injEq, Addr.mk.injEq, and_true] at hq
      obtain ⟨rfl, rfl⟩ := hq
      obtain rfl := Option.some.inj (Hat.out.symm.trans hat')
      obtain ⟨_, _, ⟨A2, c2, hn_s, hI5, _⟩, _, _⟩ := hN'
      clear hat' hI4
      have hlk := hI5.len
      go_wp2_with fail
      go_loopw [26] (fun iv wr => ∃ k : Nat, k ≤ n.kids.length ∧ iv = .int .i64 k ∧ Env wr base b3 b5 b7 b8 (some ⟨b, off, none⟩) c ns (dfsL ns ent f (n.kids.take k) (L ++ [(i : Int)])) ∧ But base b7 w wr ∧ IntsAt wr b3 A2 n.kids) (fun iv _ => n.kids.length - (intOf iv).toNat)
      case atStart => exact ⟨0, Nat.zero_le _, rfl, by rw [List.take_zero, dfsL_nil]; exact He4.out, hbt4, hI5⟩
      case round =>
        obtain ⟨k, hkl, rfl, her, hbr, hIr⟩ := hrel
        have Her := hide her
        have Hbr := hide hbr
        clear her hbr He4 hbt4 hI5 y3 hn_s hr4
        by_cases hlt : k < n.kids.length
        · obtain ⟨bk, ok, x, rfl, hbk, hx, hxm, hcx⟩ := hIr.at_ hlt
          obtain ⟨hx0, hx1⟩ := hk.of (i : Int) x (by rw [hkids.out]; exact hxm)
          obtain ⟨y, rfl⟩ := Int.eq_ofNat_of_zero_le hx0
          have ys := Her.out.self.cell 0
          simp at ys
          have hwk := walkedAll ns ent hk (n.kids.take k) (L ++ [(i : Int)]) f HM.out (fun z hz => hk.of (i : Int) z (by rw [hkids.out]; exact List.mem_of_mem_take hz)) (by simp; omega)
          have hlen2 := hwk.len
          have Hwk := hide hwk.met
          have Hx := hide hx
          have hk1 : (0 : Int) ≤ (k : Int) := by omega
          have hk2 : (k : Int) < (n.kids.length : Int) := by omega
          clear hx hxm hwk
          go_wp2_with fail
          refine (Hih.out y _ wr (by omega) Hwk.out Her.out (by simp at hlen2; omega)).mono ?_
          rintro e w5 ⟨rfl, he5, hb5⟩
          have He5 := hide he5
          have Hb5 := hide (Hbr.out.trans hb5)
          have hI6 := hIr.below (Her.out.below3 hb5)
          clear he5 hb5 hlen2 hIr ys hcx
          go_wp2
          go_roundw
          case rel => exact ⟨k + 1, by omega, by go_num, by rw [List.take_add_one, Hx.out, Option.toList_some, dfsL_snoc]; exact He5.out, Hb5.out, hI6⟩
          case measure => simp [intOf]; omega
        · obtain rfl : k = n.kids.length := by omega
          clear hlt hIr
          go_wp2
          go_end0
          exact ⟨rfl, by rw [Hd.out]; have := Her.out; rw [List.take_length] at this; exact this, Hbr.out⟩

theorem walk_any (ns : List Nd) (ent : Int → Bool) (hF : Enters ns ent) (hk : KidsIn ns) (hsm : ns.length ≤ 1048576) (base b3 b5 b7 b8 : Nat) (A : Option Addr) (c : Nat) : ∀ (f i : Nat) (L : List Int) (w : World), i < ns.length → Met ns L → Env w base b3 b5 b7 b8 A c ns L → ns.length < f + L.length →
    Calls Try.prog 63 #[.int .i64 (i : Int), .pointer (some ⟨b5, 0, none⟩), .pointer (some ⟨b3, 0, none⟩), .pointer (some ⟨b7, 0, none⟩), .pointer (some ⟨b8, 0, none⟩)] w (WalkDone base b3 b5 b7 b8 A c ns (dfs ns ent f i L) w)
  | 0, _, _, _, _, hL, _, hf => by have := hL.len; omega
  | f + 1, i, L, w, hi, hL, he, hf => walk1_any ns ent hF hk hsm base b3 b5 b7 b8 A c f (fun i L w h1 h2 h3 h4 => walk_any ns ent hF hk hsm base b3 b5 b7 b8 A c f i L w h1 h2 h3 h4) i L w hi hL he hf

set_option maxRecDepth 100000 in
set_option maxHeartbeats 2000000 in
theorem walkFrom_any (ns : List Nd) (ent : Int → Bool) (hF : Enters ns ent) (hk : KidsIn ns) (hsm : ns.length ≤ 1048576) (A : Option Addr) (c : Nat) (A2 : Option Addr) (xs : List Int) (c2 : Nat) (w : World) (hr : NdsAt w w.heap.size A ns) (hx : IntsAt w w.heap.size A2 xs)
    (hin : ∀ x ∈ xs, 0 ≤ x ∧ x < ns.length) :
    Calls Try.prog 59 #[.slice A ns.length c, .slice A2 xs.length c2, .func (.func 47) #[] #[]] w (GivesInts w (dfsL ns ent (ns.length + 1) xs [])) := by
  have HF := hide hF
  have Hin := hide hin
  have hxl := hx.len
  have hB : Below w.heap.size w ((((w.alloc (.cells #[.slice A ns.length c] 23)).alloc (.cells #[.func (.func 47) #[] #[]] 66)).alloc (.cells #[.map none, .slice none 0 0] 86)).alloc
    (.cells #[.func (.func 63) #[] #[.pointer (some ⟨w.heap.size + 1, 0, none⟩), .pointer (some ⟨w.heap.size, 0, none⟩), .pointer (some ⟨w.heap.size + 1 + 1, 0, none⟩), .pointer (some ⟨w.heap.size + 1 + 1 + 1, 0, none⟩)]] 87)) :=
    ((((Below.refl _ w).alloc (Nat.le_refl _) _).alloc (by simp) _).alloc (by simp <;> omega) _).alloc (by simp <;> omega) _
  have henv : Env ((((w.alloc (.cells #[.slice A ns.length c] 23)).alloc (.cells #[.func (.func 47) #[] #[]] 66)).alloc (.cells #[.map none, .slice none 0 0] 86)).alloc
    (.cells #[.func (.func 63) #[] #[.pointer (some ⟨w.heap.size + 1, 0, none⟩), .pointer (some ⟨w.heap.size, 0, none⟩), .pointer (some ⟨w.heap.size + 1 + 1, 0, none⟩), .pointer (some ⟨w.heap.size + 1 + 1 + 1, 0, none⟩)]] 87)) (w.heap.size + 1 + 1 + 1 + 1) w.heap.size (w.heap.size + 1) (w.heap.size + 1 + 1) (w.heap.size + 1 + 1 + 1) A c ns [] := by
    refine ⟨?_, ?_, ⟨none, none, 0, SetI.start ?_ (by omega)⟩, ?_, hr.below hB, by omega, by omega, by omega, by omega, by simp⟩
    · have := ((Lies.new (w.alloc (.cells #[.slice A ns.length c] 23)) #[.func (.func 47) #[] #[]] 66).alloc (.cells #[.map none, .slice none 0 0] 86)).alloc (.cells #[.func (.func 63) #[] #[.pointer (some ⟨w.heap.size + 1, 0, none⟩), .pointer (some ⟨w.heap.size, 0, none⟩), .pointer (some ⟨w.heap.size + 1 + 1, 0, none⟩), .pointer (some ⟨w.heap.size + 1 + 1 + 1, 0, none⟩)]] 87)
      simpa using this
    · exact (((Lies.new w #[.slice A ns.length c] 23).alloc _).alloc _).alloc _
    · have := (Lies.new ((w.alloc (.cells #[.slice A ns.length c] 23)).alloc (.cells #[.func (.func 47) #[] #[]] 66)) #[.map none, .slice none 0 0] 86).alloc (.cells #[.func (.func 63) #[] #[.pointer (some ⟨w.heap.size + 1, 0, none⟩), .pointer (some ⟨w.heap.size, 0, none⟩), .pointer (some ⟨w.heap.size + 1 + 1, 0, none⟩), .pointer (some ⟨w.heap.size + 1 + 1 + 1, 0, none⟩)]] 87)
      simpa using this
    · have := Lies.new (((w.alloc (.cells #[.slice A ns.length c] 23)).alloc (.cells #[.func (.func 47) #[] #[]] 66)).alloc (.cells #[.map none, .slice none 0 0] 86)) #[.func (.func 63) #[] #[.pointer (some ⟨w.heap.size + 1, 0, none⟩), .pointer (some ⟨w.heap.size, 0, none⟩), .pointer (some ⟨w.heap.size + 1 + 1, 0, none⟩), .pointer (some ⟨w.heap.size + 1 + 1 + 1, 0, none⟩)]] 87
      simpa using this
  have Henv := hide henv
  have hx2 := hx.below hB
  clear hF hin henv hr hx
  go_enter Try.func59, Try.ntmps59
  go_wp2_with fail
  generalize ((((w.alloc (.cells #[.slice A ns.length c] 23)).alloc (.cells #[.func (.func 47) #[] #[]] 66)).alloc (.cells #[.map none, .slice none 0 0] 86)).alloc
    (.cells #[.func (.func 63) #[] #[.pointer (some ⟨w.heap.size + 1, 0, none⟩), .pointer (some ⟨w.heap.size, 0, none⟩), .pointer (some ⟨w.heap.size + 1 + 1, 0, none⟩), .pointer (some ⟨w.heap.size + 1 + 1 + 1, 0, none⟩)]] 87)) = W at hB Henv hx2 ⊢
  go_loopw [14] (fun iv wr => ∃ k : Nat, k ≤ xs.length ∧ iv = .int .i64 k ∧ Env wr (w.heap.size + 1 + 1 + 1 + 1) w.heap.size (w.heap.size + 1) (w.heap.size + 1 + 1) (w.heap.size + 1 + 1 + 1) A c ns (dfsL ns ent (ns.length + 1) (xs.take k) []) ∧ But (w.heap.size + 1 + 1 + 1 + 1) (w.heap.size + 1 + 1) W wr ∧ IntsAt wr w.heap.size A2 xs) (fun iv _ => xs.length - (intOf iv).toNat)
  case atStart => exact ⟨0, Nat.zero_le _, rfl, by rw [List.take_zero, dfsL_nil]; exact Henv.out, But.refl _ _ _, hx2⟩
  case round =>
    obtain ⟨k, hkl, rfl, her, hbr, hIr⟩ := hrel
    have Her := hide her
    have Hbr := hide hbr
    clear her hbr hx2 Henv
    by_cases hlt : k < xs.length
    · obtain ⟨bk, ok, x, rfl, hbk, hx, hxm, hcx⟩ := hIr.at_ hlt
      obtain ⟨hx0, hx1⟩ := Hin.out x hxm
      obtain ⟨y, rfl⟩ := Int.eq_ofNat_of_zero_le hx0
      have ys := Her.out.self.cell 0
      simp at ys
      have hwk := walkedAll ns ent hk (xs.take k) [] (ns.length + 1) (Met.nil ns) (fun z hz => Hin.out z (List.mem_of_mem_take hz)) (by simp)
      have Hwk := hide hwk.met
      have Hx := hide hx
      have hk1 : (0 : Int) ≤ (k : Int) := by omega
      have hk2 : (k : Int) < (xs.length : Int) := by omega
      clear hx hxm hwk
      go_wp2_with fail
      refine (walk_any ns ent HF.out hk hsm _ _ _ _ _ A c (ns.length + 1) y _ wr (by omega) Hwk.out Her.out (by omega)).mono ?_
      rintro e w5 ⟨rfl, he5, hb5⟩
      have He5 := hide he5
      have Hb5 := hide (Hbr.out.trans hb5)
      have hI6 := hIr.below (Her.out.below3 hb5)
      clear he5 hb5 hIr ys hcx
      go_wp2
      go_roundw
      case rel => exact ⟨k + 1, by omega, by go_num, by rw [List.take_add_one, Hx.out, Option.toList_some, dfsL_snoc]; exact He5.out, Hb5.out, hI6⟩
      case measure => simp [intOf]; omega
    · obtain rfl : k = xs.length := by omega
      have he9 := Her.out
      rw [List.take_length] at he9
      obtain ⟨m, Am, cm, hset⟩ := he9.set
      have z1 := hset.box.cell 1
      simp at z1
      have hrow9 := hset.row
      clear hlt hIr he9 hset
      generalize hR : dfsL ns ent (ns.length + 1) xs [] = R at z1 hrow9
      have Hfin : Hid (GivesInts w (dfsL ns ent (ns.length + 1) xs []) (.returned (.slice Am R.length cm)) wr) :=
        ⟨Am, cm, by rw [hR], by rw [hR]; exact hrow9.mono (by omega), Hbr.out.below hB (by omega) (by omega)⟩
      clear hR hrow9
      go_wp2
      go_ret
      exact Hfin.out

end Go.Proofs.Ytpcfjdhalglebaa.WalkT
