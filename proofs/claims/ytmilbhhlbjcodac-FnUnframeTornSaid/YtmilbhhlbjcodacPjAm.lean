/-
  Lemmas, several texts in one: LkM, CutS, EqL.
-/
import Derived.Test.YtmilbhhlbjcodacPjAh
import Derived.Test.YtmilbhhlbjcodacSomeOp
import Derived.Test.YtmilbhhlbjcodacRunS
import Derived.Test.YtmilbhhlbjcodacPjAf
import Derived.Deep.QuietTactic
import Derived.BigQuiet
import Derived.StillTailTactics
namespace Go.Proofs.Ytmilbhhlbjcodac
open Go.RowKit
set_option linter.unusedVariables false
def HeldO (q b : Nat) (cs : Array Value) (u v : Value) (w' : World) : Prop := Lies w' q cs 62 ∧ w'.cell? ⟨b, 0, none⟩ = some u ∧ w'.cell? ⟨b, 1, none⟩ = some v
theorem HeldO.below {q b B : Nat} {cs : Array Value} {u v : Value} {X w' : World} (h : HeldO q b cs u v X) (hb : Below B X w') (hq : q < B) (hbB : b < B) : HeldO q b cs u v w' :=
  ⟨h.1.below hb hq, (hb.cell (p := ⟨b, 0, none⟩) hbB).trans h.2.1, (hb.cell (p := ⟨b, 1, none⟩) hbB).trans h.2.2⟩
theorem HeldO.set5 {q b nb : Nat} {cs : Array Value} {u v v0 v1 v2 v3 v4 : Value} {X : World} (h : HeldO q b cs u v X) (hq : q ≠ nb) (hbB : b ≠ nb) : HeldO q b cs u v (set5 X nb v0 v1 v2 v3 v4) :=
  ⟨(set5_block hq).trans h.1, (World.cell?_of_block (w := X) (set5_block hbB)).trans h.2.1, (World.cell?_of_block (w := X) (set5_block hbB)).trans h.2.2⟩
theorem ShBox.next {Y : World} {base q lo : Nat} {p p' : ShPtr} {s t : Shp} (h : ShBox Y base q p s) (ho : ShOwn Y lo p' t) (hq : q < lo) (hb : base ≤ lo) :
    ShBox (set5 Y q (.slice p'.K t.kinds.length p'.c1) (.slice p'.F t.full.length p'.c2) (.slice p'.S t.stack.length p'.c3) (.slice p'.M t.memo.length p'.c4) (.bool t.done)) base q p' t := by
  have o1 : p'.Off q := ho.off (.inl hq)
  exact ⟨(Lies.set5 h.box _ _ _ _ _).2, (ho.mono hb).set5 o1, o1⟩
structure BoxN (X Y : World) (base q : Nat) (p : ShPtr) (s : Shp) (nb : Nat) (p5 : ShPtr) (s5 : Shp) (ok : Bool) (r : Option Shp) : Prop where
  run : ShBox Y base q p s
  box : Lies Y nb (shCells p5 s5) 62
  bel : Below X.heap.size X Y
  good : ∀ t, r = some t → ok = true ∧ s5 = t ∧ ∃ lo, ShOwn Y lo p5 t ∧ X.heap.size ≤ lo
  bad : r = none → ok = false
theorem BoxN.mk' {X Y : World} {base q nb lo : Nat} {p p5 : ShPtr} {s s5 : Shp} {ok : Bool} {r : Option Shp} (h : ShBox Y base q p s) (hz : Lies Y nb #[.slice none 0 0, .slice none 0 0, .slice none 0 0, .slice none 0 0, .bool false] 62)
    (hbl : Below X.heap.size X Y) (hnb : X.heap.size ≤ nb) (ho : p.Off nb) (hq : q ≠ nb) (hl : X.heap.size ≤ lo) (hg : ∀ t, r = some t → ok = true ∧ s5 = t ∧ ShOwn Y lo p5 t ∧ p5.Off nb) (hb : r = none → ok = false) :
    BoxN X (set5 Y nb (.slice p5.K s5.kinds.length p5.c1) (.slice p5.F s5.full.length p5.c2) (.slice p5.S s5.stack.length p5.c3) (.slice p5.M s5.memo.length p5.c4) (.bool s5.done)) base q p s nb p5 s5 ok r :=
  ⟨⟨(set5_block hq).trans h.box, h.own.set5 ho, h.off⟩, (Lies.set5 hz _ _ _ _ _).2, set5_below hbl hnb, fun t ht => by
    obtain ⟨h1, h2, h3, h4⟩ := hg t ht
    exact ⟨h1, h2, lo, h3.set5 h4, hl⟩, hb⟩
structure LkS (w wr : World) (rb base q : Nat) (A : Option Addr) (n c P : Nat) (p : ShPtr) (s : Shp) (Ao : Option Addr) (co : Nat) (acc : List Od) : Prop where
  grew : Grew rb w wr
  rd : ∃ p', p' ≤ P ∧ Rd wr rb A n c p'
  sb : ShBox wr base q p s
  own : OwnO wr base Ao co acc
  apart : ∀ g, blockOf Ao = some g → p.Off g ∧ g ≠ q
  hb : w.heap.size ≤ base
  hq : base ≤ q
  hrb : rb < w.heap.size
  ok : s.Ok
  fit : s.Fits
  mem : ∀ o ∈ acc, OdOk o
theorem ShBox.ofB {w w' : World} {base q : Nat} {p : ShPtr} {s : Shp} (h : ShBox w base q p s) (hq : base ≤ q) (hb : ∀ g, base ≤ g → g < w.heap.size → w'.heap[g]? = w.heap[g]?) : ShBox w' base q p s :=
  ⟨(hb q hq h.box.lt).trans h.box, h.own.ofB hb, h.off⟩
section
variable {w wr w1 : World} {rb base q n c P P' : Nat} {A Ao A2 : Option Addr} {co c2 : Nat} {p p5 : ShPtr} {s t : Shp} {acc zs : List Od}
theorem LkS.turned (h : LkS w wr rb base q A n c P p s Ao co acc) {p1 : Nat} (hg : Grew rb wr w1) (hr : Rd w1 rb A n c p1) (hp : p1 ≤ P') : LkS w w1 rb base q A n c P' p s Ao co acc := by
  have h1 := h.hb
  have h2 := h.hrb
  exact ⟨h.grew.trans hg, ⟨p1, hp, hr⟩, h.sb.ofB h.hq (fun g hg1 hg2 => hg.block g hg2 (by omega)), h.own.of_block (fun g hg1 => hg.block g (h.own.blocks g hg1).2 (by have := (h.own.blocks g hg1).1; omega)), h.apart, h.hb, h.hq, h.hrb, h.ok, h.fit, h.mem⟩
theorem LkS.below (h : LkS w wr rb base q A n c P p s Ao co acc) (hb : Below wr.heap.size wr w1) : LkS w w1 rb base q A n c P p s Ao co acc := by
  obtain ⟨p1, hp1, hr⟩ := h.rd
  exact h.turned (Grew.of_below hb) (hr.below hb) hp1
theorem LkS.next (h : LkS w wr rb base q A n c P p s Ao co acc) {Y : World} {lo : Nat} (hb : Below wr.heap.size wr Y) (ho : ShOwn Y lo p5 t) (hl : wr.heap.size ≤ lo) (hok : t.Ok) (hfit : t.Fits) :
    LkS w (set5 Y q (.slice p5.K t.kinds.length p5.c1) (.slice p5.F t.full.length p5.c2) (.slice p5.S t.stack.length p5.c3) (.slice p5.M t.memo.length p5.c4) (.bool t.done)) rb base q A n c P p5 t Ao co acc := by
  have h2 := h.below hb
  have hql := h.sb.box.lt
  have hqb := h.hq
  have hb1 := h.hb
  have hr1 := h.hrb
  obtain ⟨p1, hp1, hr⟩ := h2.rd
  have hbq : Below q Y (set5 Y q (.slice p5.K t.kinds.length p5.c1) (.slice p5.F t.full.length p5.c2) (.slice p5.S t.stack.length p5.c3) (.slice p5.M t.memo.length p5.c4) (.bool t.done)) := set5_below (Below.refl _ _) (Nat.le_refl _)
  refine ⟨⟨?_, ?_, ?_, ?_, ?_⟩, ⟨p1, hp1, ?_⟩, h2.sb.next ho (by omega) (by omega), h2.own.of_block (fun g hg => set5_block (h2.apart g hg).2), fun g hg => ⟨ho.off (.inl (by have := (h.own.blocks g hg).2; omega)), (h2.apart g hg).2⟩, h.hb, h.hq, h.hrb, hok, hfit, h.mem⟩
  · exact hbq.os.trans h2.grew.os
  · exact hbq.tape.trans h2.grew.tape
  · exact hbq.output.trans h2.grew.output
  · exact Nat.le_trans h2.grew.size hbq.size
  · intro k hk hne
    rw [hbq.block k (by omega)]
    exact h2.grew.block k hk hne
  · exact ⟨hr.box.below hbq (by omega), hr.bytes.later (hbq.mono (by omega)), hr.few⟩
theorem LkS.app (h : LkS w wr rb base q A n c P p s Ao co acc) (lit : Obj) {d : Od} (hg : (wr.alloc lit).grownBy w1 (blockOf Ao)) (hat : blockOf A2 = blockOf Ao ∨ blockOf A2 = some (wr.alloc lit).heap.size) (own : OwnO w1 base A2 c2 zs) (hz : zs = acc ++ [d]) (hd : OdOk d) : LkS w w1 rb base q A n c P p s A2 c2 zs := by
  have h1 := h.hb
  have h2 := h.hrb
  have h3 := h.hq
  have h4 := h.sb.box.lt
  obtain ⟨p1, hp1, hr⟩ := h.rd
  have hrl := hr.box.lt
  have hblk : ∀ k, k < wr.heap.size → blockOf Ao ≠ some k → w1.heap[k]? = wr.heap[k]? := fun k hk hne => (hg.block k (by simp; omega) (fun e => hne e.symm)).trans (Below.heap_alloc wr lit k hk)
  have hsz : wr.heap.size ≤ w1.heap.size := by have := hg.size; simp at this; omega
  have hbl : Below base wr w1 := ((Below.refl wr.heap.size wr).alloc (Nat.le_refl _) lit |>.mono (by omega)).grown hg (by simp; omega) (fun b e => (h.own.blocks b e).1)
  have hAo : ∀ g, blockOf Ao = some g → g < wr.heap.size := fun g hg => (h.own.blocks g hg).2
  have hpo : ∀ g, wr.heap.size ≤ g → p.Off g := fun g hg => h.sb.own.off (.inr hg)
  refine ⟨⟨hbl.os.trans h.grew.os, hbl.tape.trans h.grew.tape, hbl.output.trans h.grew.output, Nat.le_trans h.grew.size hsz, fun k hk hne => (hbl.block k (by omega)).trans (h.grew.block k hk hne)⟩, ⟨p1, hp1, ?_⟩, ?_, own, ?_, h.hb, h.hq, h.hrb, h.ok, h.fit, ?_⟩
  · exact ⟨hr.box.below hbl (by omega), hr.bytes.later (hbl.mono (by omega)), hr.few⟩
  · refine ⟨(hblk q h4 (fun e => (h.apart q e).2 rfl)).trans h.sb.box, ?_, h.sb.off⟩
    have hk := fun (B : Option Addr) (hB : ∀ g, blockOf B = some g → g < wr.heap.size) (hd : ∀ g, blockOf Ao = some g → blockOf B ≠ some g) (g : Nat) (e : blockOf B = some g) => hblk g (hB g e) (fun e2 => hd g e2 e)
    exact ⟨h.sb.own.k.ofB (hk p.K (fun g e => (h.sb.own.k.blocks g e).2) (fun g e => (h.apart g e).1.k)), h.sb.own.f.ofB (hk p.F (fun g e => (h.sb.own.f.blocks g e).2) (fun g e => (h.apart g e).1.f)), h.sb.own.t.ofB (hk p.S (fun g e => (h.sb.own.t.blocks g e).2) (fun g e => (h.apart g e).1.t)), h.sb.own.m.ofB (hk p.M (fun g e => (h.sb.own.m.blocks g e).2) (fun g e => (h.apart g e).1.m)), h.sb.own.kf, h.sb.own.kt, h.sb.own.km, h.sb.own.ft, h.sb.own.fm, h.sb.own.tm⟩
  · intro g hg2
    rcases hat with e | e
    · exact h.apart g (e ▸ hg2)
    · rw [e] at hg2
      injection hg2 with hg2
      simp at hg2
      exact ⟨hpo g (by omega), by omega⟩
  · intro o ho
    rw [hz] at ho
    rcases List.mem_append.1 ho with ho | ho
    · exact h.mem o ho
    · rw [List.mem_singleton.1 ho]; exact hd
end
end Go.Proofs.Ytmilbhhlbjcodac

namespace Go.Proofs.Ytmilbhhlbjcodac
open Go.RowKit
set_option linter.unusedVariables false
set_option maxRecDepth 100000 in
set_option maxHeartbeats 1000000 in
theorem specCutOps_any (A : Option Addr) (os : List Od) (c : Nat) (w : World) (h : OpsAt w w.heap.size A os) (hnil : A = none → c = 0) (hc : os.length ≤ c) :
    Calls Try.prog 37 #[.slice A os.length c] w (GivesOps w (cutOf os)) := by
  have Hnil := hide hnil
  clear hnil
  by_cases hok : OpsOk os
  · have ht := hide (tf_true hok)
    have Hok := hide hok
    have hl := hok.1
    have hn := (runNew_le hok.2).2.2
    have HE := hide (cutOf_ok hok)
    obtain ⟨n, hnd⟩ : ∃ n, n = (runShp Shp.new os).2 := ⟨_, rfl⟩
    have Hnd := hide hnd
    rw [← hnd] at hn
    have HT : Hid ((os.take n).length = n) := hide (by simp; omega)
    have hnc : (n : Int) ≤ (c : Int) := by omega
    clear hok hnd
    go_enter Try.func37, Try.ntmps37
    go_wp2_with fail
    refine (specValidOps_any A os c w h).mono ?_
    rintro e w1 ⟨rfl, hb1⟩
    rw [ht.out]
    have h1 := h.later hb1 (Nat.le_refl _)
    go_wp2_with fail
    have HC := runShapes_any A os c w1 h1 Hok.out.2
    obtain ⟨sF, hsF⟩ : ∃ s, s = (runShp Shp.new os).1 := ⟨_, rfl⟩
    have e2 : runShp Shp.new os = (sF, n) := by rw [hsF, Hnd.out]
    rw [e2] at HC
    clear e2 hsF
    refine HC.mono ?_
    clear HC
    rintro e w2 ⟨p, rfl, _, hb2⟩
    have HB2 := hide (hb1.trans (hb2.mono hb1.size))
    clear hb1 hb2 h1
    simp only [shVal, shCells]
    have HB3 := hide (HB2.out.alloc HB2.out.size (.cells #[.slice p.K sF.kinds.length p.c1, .slice p.F sF.full.length p.c2, .slice p.S sF.stack.length p.c3, .slice p.M sF.memo.length p.c4, .bool sF.done] 62))
    go_upto_region 4 with fail
    generalize w2.alloc (.cells #[.slice p.K sF.kinds.length p.c1, .slice p.F sF.full.length p.c2, .slice p.S sF.stack.length p.c3, .slice p.M sF.memo.length p.c4, .bool sF.done] 62) = w3 at HB3 ⊢
    have HO := hide ((OwnO.bare w3).mono HB3.out.size)
    have HB4 := hide (HB3.out.alloc HB3.out.size (.cells #[] 56))
    go_wp2_with (at_builtin; refine append_ops rfl (.tmp 13) (.tmp 16) rfl w.heap.size _ 0 [] rfl HO.out w.heap.size A c (os.take n) (congrArg (fun k => Value.slice A k c) HT.out.symm) Hnil.out ((h.upto n).below HB4.out) (by simp; omega) HB4.out.size ?_; intro zs A5 c5 w5 e5 own5 hg5 _; have HG5 := hide hg5; have HO5 := hide own5; clear hg5 own5)
    go_ret
    have e6 : zs = cutOf os := by rw [e5.out, HE.out, ← Hnd.out, List.nil_append]
    subst e6
    exact ⟨A5, c5, rfl, HO5.out, below_grown HB4.out HG5.out HB4.out.size (fun q hq => (HO.out.blocks q hq).1)⟩
  · rw [cutOf_no hok]
    have ht := hide (tf_false hok)
    clear hok
    go_enter Try.func37, Try.ntmps37
    go_wp2_with fail
    refine (specValidOps_any A os c w h).mono ?_
    rintro e w1 ⟨rfl, hb1⟩
    rw [ht.out]
    go_wp2
    go_ret
    exact ⟨none, 0, rfl, OwnO.empty _ _, hb1⟩
end Go.Proofs.Ytmilbhhlbjcodac

namespace Go.Proofs.Ytmilbhhlbjcodac
open Go.RowKit
set_option maxHeartbeats 1000000 in
theorem equalInts_any (A A' : Option Addr) (xs ys : List Int) (c c' : Nat) (w : World) (h : IntsAt w w.heap.size A xs) (h' : IntsAt w w.heap.size A' ys) :
    Calls Try.prog 7 #[.slice A xs.length c, .slice A' ys.length c'] w fun e w' => e = .returned (.bool (decide (xs = ys))) ∧ Below w.heap.size w w' := by
  have hl := h.len
  by_cases hne : xs.length = ys.length
  · have hb0 : ((xs.length : Int) != (ys.length : Int)) = false := by simp [hne]
    go_enter Try.func7, Try.ntmps7
    go_wp2_with fail
    go_loopw [5] (fun i wr => ∃ k : Nat, k ≤ xs.length ∧ i = .int .i64 k ∧ Below w.heap.size w wr ∧ ∀ j, j < k → xs[j]? = ys[j]?) (fun i _ => xs.length - (intOf i).toNat)
    case atStart => exact ⟨0, Nat.zero_le _, rfl, Below.refl _ _, fun j hj => absurd hj (by omega)⟩
    case round =>
      obtain ⟨k, hk, rfl, hb, he0⟩ := hrel
      have he := hide he0
      clear he0
      by_cases hlt : k < xs.length
      · obtain ⟨b, off, x, rfl, hbl, hx, _, hcx⟩ := (h.below hb).at_ hlt
        obtain ⟨b', off', y, rfl, hbl', hy, _, hcy⟩ := (h'.below hb).at_ (k := k) (by omega)
        have Hx := hide hx
        have Hy := hide hy
        clear hx hy
        have hk1 : (0 : Int) ≤ (k : Int) := by omega
        have hk2 : (k : Int) < (xs.length : Int) := by omega
        have hk3 : (k : Int) < (ys.length : Int) := by omega
        by_cases hxy : x = y
        · subst hxy
          go_wp2_with fail
          go_quiet (fail)
          go_wp2
          go_roundw
          case rel => exact ⟨k + 1, by omega, by go_num, below_drewN hb _, fun j hj => by
            by_cases e : j = k
            · subst e; rw [Hx.out, Hy.out]
            · exact he.out j (by omega)⟩
          case measure => simp [intOf]; omega
        · have hn1 : (x != y) = true := by simpa using hxy
          have hF : decide (xs = ys) = false := by
            simp only [decide_eq_false_iff_not]
            intro e
            subst e
            have := Hx.out.symm.trans Hy.out
            injection this with this
            exact hxy this
          have HF := hide hF
          clear hF
          go_wp2_with fail
          go_quiet (fail)
          go_wp2
          go_ret
          exact ⟨ret_bool HF.out.symm, below_drewN hb _⟩
      · obtain rfl : k = xs.length := by omega
        have hF : decide (xs = ys) = true := by
          simp only [decide_eq_true_eq]
          exact eq_of_prefix hne rfl he.out
        have HF := hide hF
        clear hF hlt
        go_wp2
        go_ret
        exact ⟨ret_bool HF.out.symm, hb⟩
  · have hb1 : ((xs.length : Int) != (ys.length : Int)) = true := by simp; omega
    have hF : decide (xs = ys) = false := by
      simp only [decide_eq_false_iff_not]
      intro e
      exact hne (by rw [e])
    have HF := hide hF
    clear hF
    go_enter Try.func7, Try.ntmps7
    go_wp2
    go_ret
    exact ⟨ret_bool HF.out.symm, Below.refl _ _⟩
end Go.Proofs.Ytmilbhhlbjcodac
