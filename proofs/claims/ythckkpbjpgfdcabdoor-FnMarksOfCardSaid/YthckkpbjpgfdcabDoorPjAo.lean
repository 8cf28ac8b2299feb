/-
  Lemmas, several texts in one: LkM, CutS, MkS, EqL, MkL.
-/
import Derived.Test.YthckkpbjpgfdcabDoorPjAk
import Derived.Test.YthckkpbjpgfdcabDoorPjAj
import Derived.Test.YthckkpbjpgfdcabDoorSomeOp
import Derived.Test.YthckkpbjpgfdcabDoorPjAh
import Derived.Test.YthckkpbjpgfdcabDoorRunS
import Derived.Deep.QuietTactic
import Derived.BigQuiet
import Derived.StillTailTactics
import Derived.Test.YthckkpbjpgfdcabDoorPjAb
namespace Go.Proofs.YthckkpbjpgfdcabDoor
open Go.RowKit
set_option linter.unusedVariables false
def HeldO (q b : Nat) (cs : Array Value) (u v : Value) (w' : World) : Prop := Lies w' q cs 39 ∧ w'.cell? ⟨b, 0, none⟩ = some u ∧ w'.cell? ⟨b, 1, none⟩ = some v
theorem HeldO.below {q b B : Nat} {cs : Array Value} {u v : Value} {X w' : World} (h : HeldO q b cs u v X) (hb : Below B X w') (hq : q < B) (hbB : b < B) : HeldO q b cs u v w' :=
  ⟨h.1.below hb hq, (hb.cell (p := ⟨b, 0, none⟩) hbB).trans h.2.1, (hb.cell (p := ⟨b, 1, none⟩) hbB).trans h.2.2⟩
theorem HeldO.set5 {q b nb : Nat} {cs : Array Value} {u v v0 v1 v2 v3 v4 : Value} {X : World} (h : HeldO q b cs u v X) (hq : q ≠ nb) (hbB : b ≠ nb) : HeldO q b cs u v (set5 X nb v0 v1 v2 v3 v4) :=
  ⟨(set5_block hq).trans h.1, (World.cell?_of_block (w := X) (set5_block hbB)).trans h.2.1, (World.cell?_of_block (w := X) (set5_block hbB)).trans h.2.2⟩
theorem ShBox.next {Y : World} {base q lo : Nat} {p p' : ShPtr} {s t : Shp} (h : ShBox Y base q p s) (ho : ShOwn Y lo p' t) (hq : q < lo) (hb : base ≤ lo) :
    ShBox (set5 Y q (.slice p'.K t.kinds.length p'.c1) (.slice p'.F t.full.length p'.c2) (.slice p'.S t.stack.length p'.c3) (.slice p'.M t.memo.length p'.c4) (.bool t.done)) base q p' t := by
  have o1 : p'.Off q := ho.off (.inl hq)
  exact ⟨(Lies.set5 h.box _ _ _ _ _).2, (ho.mono hb).set5 o1, o1⟩
structure BoxN (X Y : World) (base q : Nat) (p : ShPtr) (s : Shp) (nb : Nat) (p5 : ShPtr) (s5 : Shp) (ok : Bool) (r : Option Shp) : Prop where
  run : ShBox Y base q p s
  box : Lies Y nb (shCells p5 s5) 39
  bel : Below X.heap.size X Y
  good : ∀ t, r = some t → ok = true ∧ s5 = t ∧ ∃ lo, ShOwn Y lo p5 t ∧ X.heap.size ≤ lo
  bad : r = none → ok = false
theorem BoxN.mk' {X Y : World} {base q nb lo : Nat} {p p5 : ShPtr} {s s5 : Shp} {ok : Bool} {r : Option Shp} (h : ShBox Y base q p s) (hz : Lies Y nb #[.slice none 0 0, .slice none 0 0, .slice none 0 0, .slice none 0 0, .bool false] 39)
    (hbl : Below X.heap.size X Y) (hnb : X.heap.size ≤ nb) (ho : p.Off nb) (hq : q ≠ nb) (hl : X.heap.size ≤ lo) (hg : ∀ t, r = some t → ok = true ∧ s5 = t ∧ ShOwn Y lo p5 t ∧ p5.Off nb) (hb : r = none → ok = false) :
    BoxN X (set5 Y nb (.slice p5.K s5.kinds.length p5.c1) (.slice p5.F s5.full.length p5.c2) (.slice p5.S s5.stack.length p5.c3) (.slice p5.M s5.memo.length p5.c4) (.bool s5.done)) base q p s nb p5 s5 ok r :=
  ⟨⟨(set5_block hq).trans h.box, h.own.set5 ho, h.off⟩, (Lies.set5 hz _ _ _ _ _).2, set5_below hbl hnb, fun t ht => by
    obtain ⟨h1, h2, h3, h4⟩ := hg t ht
    exact ⟨h1, h2, lo, h3.set5 h4, hl⟩, hb⟩
structure LkS (w wr : World) (rb base q : Nat) (A : Option Addr) (n c P : Nat) (p : ShPtr) (s : Shp) (Ao : Option Addr) (co : Nat) (acc : List Od) : Prop where
  grew : Grew rb w wr
  rd : ∃ p', p' ≤ P ∧ Rd wr rb A n c p'
  sb : ShBox wr base q p s
  own : OwnO wr base Ao co acc
  apart : ∀ g, blockOf Ao = some g → p.Off g ∧ g ≠ q
  hb : w.heap.size ≤ base
  hq : base ≤ q
  hrb : rb < w.heap.size
  ok : s.Ok
  fit : s.Fits
  mem : ∀ o ∈ acc, OdOk o
theorem ShBox.ofB {w w' : World} {base q : Nat} {p : ShPtr} {s : Shp} (h : ShBox w base q p s) (hq : base ≤ q) (hb : ∀ g, base ≤ g → g < w.heap.size → w'.heap[g]? = w.heap[g]?) : ShBox w' base q p s :=
  ⟨(hb q hq h.box.lt).trans h.box, h.own.ofB hb, h.off⟩
section
variable {w wr w1 : World} {rb base q n c P P' : Nat} {A Ao A2 : Option Addr} {co c2 : Nat} {p p5 : ShPtr} {s t : Shp} {acc zs : List Od}
theorem LkS.turned (h : LkS w wr rb base q A n c P p s Ao co acc) {p1 : Nat} (hg : Grew rb wr w1) (hr : Rd w1 rb A n c p1) (hp : p1 ≤ P') : LkS w w1 rb base q A n c P' p s Ao co acc := by
  have h1 := h.hb
  have h2 := h.hrb
  exact ⟨h.grew.trans hg, ⟨p1, hp, hr⟩, h.sb.ofB h.hq (fun g hg1 hg2 => hg.block g hg2 (by omega)), h.own.of_block (fun g hg1 => hg.block g (h.own.blocks g hg1).2 (by have := (h.own.blocks g hg1).1; omega)), h.apart, h.hb, h.hq, h.hrb, h.ok, h.fit, h.mem⟩
theorem LkS.below (h : LkS w wr rb base q A n c P p s Ao co acc) (hb : Below wr.heap.size wr w1) : LkS w w1 rb base q A n c P p s Ao co acc := by
  obtain ⟨p1, hp1, hr⟩ := h.rd
  exact h.turned (Grew.of_below hb) (hr.below hb) hp1
theorem LkS.next (h : LkS w wr rb base q A n c P p s Ao co acc) {Y : World} {lo : Nat} (hb : Below wr.heap.size wr Y) (ho : ShOwn Y lo p5 t) (hl : wr.heap.size ≤ lo) (hok : t.Ok) (hfit : t.Fits) :
    LkS w (set5 Y q (.slice p5.K t.kinds.length p5.c1) (.slice p5.F t.full.length p5.c2) (.slice p5.S t.stack.length p5.c3) (.slice p5.M t.memo.length p5.c4) (.bool t.done)) rb base q A n c P p5 t Ao co acc := by
  have h2 := h.below hb
  have hql := h.sb.box.lt
  have hqb := h.hq
  have hb1 := h.hb
  have hr1 := h.hrb
  obtain ⟨p1, hp1, hr⟩ := h2.rd
  have hbq : Below q Y (set5 Y q (.slice p5.K t.kinds.length p5.c1) (.slice p5.F t.full.length p5.c2) (.slice p5.S t.stack.length p5.c3) (.slice p5.M t.memo.length p5.c4) (.bool t.done)) := set5_below (Below.refl _ _) (Nat.le_refl _)
  refine ⟨⟨?_, ?_, ?_, ?_, ?_⟩, ⟨p1, hp1, ?_⟩, h2.sb.next ho (by omega) (by omega), h2.own.of_block (fun g hg => set5_block (h2.apart g hg).2), fun g hg => ⟨ho.off (.inl (by have := (h.own.blocks g hg).2; omega)), (h2.apart g hg).2⟩, h.hb, h.hq, h.hrb, hok, hfit, h.mem⟩
  · exact hbq.os.trans h2.grew.os
  · exact hbq.tape.trans h2.grew.tape
  · exact hbq.output.trans h2.grew.output
  · exact Nat.le_trans h2.grew.size hbq.size
  · intro k hk hne
    rw [hbq.block k (by omega)]
    exact h2.grew.block k hk hne
  · exact ⟨hr.box.below hbq (by omega), hr.bytes.later (hbq.mono (by omega)), hr.few⟩
theorem LkS.app (h : LkS w wr rb base q A n c P p s Ao co acc) (lit : Obj) {d : Od} (hg : (wr.alloc lit).grownBy w1 (blockOf Ao)) (hat : blockOf A2 = blockOf Ao ∨ blockOf A2 = some (wr.alloc lit).heap.size) (own : OwnO w1 base A2 c2 zs) (hz : zs = acc ++ [d]) (hd : OdOk d) : LkS w w1 rb base q A n c P p s A2 c2 zs := by
  have h1 := h.hb
  have h2 := h.hrb
  have h3 := h.hq
  have h4 := h.sb.box.lt
  obtain ⟨p1, hp1, hr⟩ := h.rd
  have hrl := hr.box.lt
  have hblk : ∀ k, k < wr.heap.size → blockOf Ao ≠ some k → w1.heap[k]? = wr.heap[k]? := fun k hk hne => (hg.block k (by simp; omega) (fun e => hne e.symm)).trans (Below.heap_alloc wr lit k hk)
  have hsz : wr.heap.size ≤ w1.heap.size := by have := hg.size; simp at this; omega
  have hbl : Below base wr w1 := ((Below.refl wr.heap.size wr).alloc (Nat.le_refl _) lit |>.mono (by omega)).grown hg (by simp; omega) (fun b e => (h.own.blocks b e).1)
  have hAo : ∀ g, blockOf Ao = some g → g < wr.heap.size := fun g hg => (h.own.blocks g hg).2
  have hpo : ∀ g, wr.heap.size ≤ g → p.Off g := fun g hg => h.sb.own.off (.inr hg)
  refine ⟨⟨hbl.os.trans h.grew.os, hbl.tape.trans h.grew.tape, hbl.output.trans h.grew.output, Nat.le_trans h.grew.size hsz, fun k hk hne => (hbl.block k (by omega)).trans (h.grew.block k hk hne)⟩, ⟨p1, hp1, ?_⟩, ?_, own, ?_, h.hb, h.hq, h.hrb, h.ok, h.fit, ?_⟩
  · exact ⟨hr.box.below hbl (by omega), hr.bytes.later (hbl.mono (by omega)), hr.few⟩
  · refine ⟨(hblk q h4 (fun e => (h.apart q e).2 rfl)).trans h.sb.box, ?_, h.sb.off⟩
    have hk := fun (B : Option Addr) (hB : ∀ g, blockOf B = some g → g < wr.heap.size) (hd : ∀ g, blockOf Ao = some g → blockOf B ≠ some g) (g : Nat) (e : blockOf B = some g) => hblk g (hB g e) (fun e2 => hd g e2 e)
    exact ⟨h.sb.own.k.ofB (hk p.K (fun g e => (h.sb.own.k.blocks g e).2) (fun g e => (h.apart g e).1.k)), h.sb.own.f.ofB (hk p.F (fun g e => (h.sb.own.f.blocks g e).2) (fun g e => (h.apart g e).1.f)), h.sb.own.t.ofB (hk p.S (fun g e => (h.sb.own.t.blocks g e).2) (fun g e => (h.apart g e).1.t)), h.sb.own.m.ofB (hk p.M (fun g e => (h.sb.own.m.blocks g e).2) (fun g e => (h.apart g e).1.m)), h.sb.own.kf, h.sb.own.kt, h.sb.own.km, h.sb.own.ft, h.sb.own.fm, h.sb.own.tm⟩
  · intro g hg2
    rcases hat with e | e
    · exact h.apart g (e ▸ hg2)
    · rw [e] at hg2
      injection hg2 with hg2
      simp at hg2
      exact ⟨hpo g (by omega), by omega⟩
  · intro o ho
    rw [hz] at ho
    rcases List.mem_append.1 ho with ho | ho
    · exact h.mem o ho
    · rw [List.mem_singleton.1 ho]; exact hd
end
end Go.Proofs.YthckkpbjpgfdcabDoor

namespace Go.Proofs.YthckkpbjpgfdcabDoor
open Go.RowKit
set_option linter.unusedVariables false
set_option maxRecDepth 100000 in
set_option maxHeartbeats 1000000 in
theorem specCutOps_any (A : Option Addr) (os : List Od) (c : Nat) (w : World) (h : OpsAt w w.heap.size A os) (hnil : A = none → c = 0) (hc : os.length ≤ c) :
    Calls Tryd.prog 35 #[.slice A os.length c] w (GivesOps w (cutOf os)) := by
  have Hnil := hide hnil
  clear hnil
  by_cases hok : OpsOk os
  · have ht := hide (tf_true hok)
    have Hok := hide hok
    have hl := hok.1
    have hn := (runNew_le hok.2).2.2
    have HE := hide (cutOf_ok hok)
    obtain ⟨n, hnd⟩ : ∃ n, n = (runShp Shp.new os).2 := ⟨_, rfl⟩
    have Hnd := hide hnd
    rw [← hnd] at hn
    have HT : Hid ((os.take n).length = n) := hide (by simp; omega)
    have hnc : (n : Int) ≤ (c : Int) := by omega
    clear hok hnd
    go_enter Tryd.func35, Tryd.ntmps35
    go_wp2_with fail
    refine (specValidOps_any A os c w h).mono ?_
    rintro e w1 ⟨rfl, hb1⟩
    rw [ht.out]
    have h1 := h.later hb1 (Nat.le_refl _)
    go_wp2_with fail
    have HC := runShapes_any A os c w1 h1 Hok.out.2
    obtain ⟨sF, hsF⟩ : ∃ s, s = (runShp Shp.new os).1 := ⟨_, rfl⟩
    have e2 : runShp Shp.new os = (sF, n) := by rw [hsF, Hnd.out]
    rw [e2] at HC
    clear e2 hsF
    refine HC.mono ?_
    clear HC
    rintro e w2 ⟨p, rfl, _, hb2⟩
    have HB2 := hide (hb1.trans (hb2.mono hb1.size))
    clear hb1 hb2 h1
    simp only [shVal, shCells]
    have HB3 := hide (HB2.out.alloc HB2.out.size (.cells #[.slice p.K sF.kinds.length p.c1, .slice p.F sF.full.length p.c2, .slice p.S sF.stack.length p.c3, .slice p.M sF.memo.length p.c4, .bool sF.done] 39))
    go_upto_region 4 with fail
    generalize w2.alloc (.cells #[.slice p.K sF.kinds.length p.c1, .slice p.F sF.full.length p.c2, .slice p.S sF.stack.length p.c3, .slice p.M sF.memo.length p.c4, .bool sF.done] 39) = w3 at HB3 ⊢
    have HO := hide ((OwnO.bare w3).mono HB3.out.size)
    have HB4 := hide (HB3.out.alloc HB3.out.size (.cells #[] 31))
    go_wp2_with (at_builtin; refine append_ops rfl (.tmp 13) (.tmp 16) rfl w.heap.size _ 0 [] rfl HO.out w.heap.size A c (os.take n) (congrArg (fun k => Value.slice A k c) HT.out.symm) Hnil.out ((h.upto n).below HB4.out) (by simp; omega) HB4.out.size ?_; intro zs A5 c5 w5 e5 own5 hg5 _; have HG5 := hide hg5; have HO5 := hide own5; clear hg5 own5)
    go_ret
    have e6 : zs = cutOf os := by rw [e5.out, HE.out, ← Hnd.out, List.nil_append]
    subst e6
    exact ⟨A5, c5, rfl, HO5.out, below_grown HB4.out HG5.out HB4.out.size (fun q hq => (HO.out.blocks q hq).1)⟩
  · rw [cutOf_no hok]
    have ht := hide (tf_false hok)
    clear hok
    go_enter Tryd.func35, Tryd.ntmps35
    go_wp2_with fail
    refine (specValidOps_any A os c w h).mono ?_
    rintro e w1 ⟨rfl, hb1⟩
    rw [ht.out]
    go_wp2
    go_ret
    exact ⟨none, 0, rfl, OwnO.empty _ _, hb1⟩
end Go.Proofs.YthckkpbjpgfdcabDoor

namespace Go.Proofs.YthckkpbjpgfdcabDoor
open Go.RowKit
set_option linter.unusedVariables false
set_option maxRecDepth 100000 in
set_option maxHeartbeats 2000000 in
theorem specMarksOf_any (A : Option Addr) (os : List Od) (c : Nat) (w : World) (h : OpsAt w w.heap.size A os) (hc : os.length ≤ c) :
    Calls Tryd.prog 7 #[.slice A os.length c] w (GivesInts w (marksOf os)) := by
  by_cases hok : OpsOk os
  · have ht := hide (tf_true hok)
    have hl := hok.1
    have Hall := hide hok.2
    have hnl := run_le hok.2
    have HV := hide (show marksOf os = toldOf marksIn os (runShp Shp.new os).2 by unfold marksOf; rw [if_pos hok])
    obtain ⟨R, hR⟩ : ∃ R, R = runShp Shp.new os := ⟨_, rfl⟩
    rw [← hR] at HV hnl
    have HR := hide hR
    clear hR hok
    obtain ⟨s, n⟩ := R
    rw [HV.out]
    simp only at hnl ⊢
    go_enter Tryd.func7, Tryd.ntmps7
    go_wp2_with fail
    refine (specValidOps_any A os c w h).mono ?_
    rintro e w1 ⟨rfl, hb1⟩
    rw [ht.out]
    have hA1 := hb1.alloc hb1.size (.cells #[] 3)
    have h1 := h.later hA1 (Nat.le_refl _)
    have HO1 := hide ((OwnI.bare w1).mono hb1.size)
    have HA1 := hide hA1
    go_wp2_with fail
    generalize w1.alloc (.cells #[] 3) = W1 at HA1 HO1 h1 ⊢
    have HC := runShapes_any A os c W1 h1 Hall.out
    rw [← HR.out] at HC
    refine HC.mono ?_
    clear HC
    rintro e w2 ⟨p, rfl, ho, hb2⟩
    have hg1 := w1.heap.size
    have HO2 := hide (HO1.out.below hb2)
    have HB2 := hide (HA1.out.trans (hb2.mono HA1.out.size))
    simp only [shVal, shCells]
    have HB3 := hide (HB2.out.alloc HB2.out.size (.cells #[.slice p.K s.kinds.length p.c1, .slice p.F s.full.length p.c2, .slice p.S s.stack.length p.c3, .slice p.M s.memo.length p.c4, .bool s.done] 39))
    have HO3 := hide (HO2.out.alloc (.cells #[.slice p.K s.kinds.length p.c1, .slice p.F s.full.length p.c2, .slice p.S s.stack.length p.c3, .slice p.M s.memo.length p.c4, .bool s.done] 39))
    clear ho hb1 hb2 h1 hA1 HO1 HO2 HA1 HB2
    go_upto_region 5 with fail
    generalize w2.alloc (.cells #[.slice p.K s.kinds.length p.c1, .slice p.F s.full.length p.c2, .slice p.S s.stack.length p.c3, .slice p.M s.memo.length p.c4, .bool s.done] 39) = W3 at HB3 HO3 ⊢
    generalize w1.heap.size = g1 at HO3 ⊢
    go_wp2_with fail
    go_loopg [3, 6] n (fun gk ov iv wr => ∃ (k : Nat) (Ao : Option Addr) (co : Nat) (xs : List Int), k ≤ n ∧ gk = n - k ∧ iv = .int .i64 ((k : Int) + 1) ∧ ov = .slice Ao xs.length co ∧ Hid (xs = toldOf marksIn os k) ∧ OwnI wr w.heap.size Ao co xs ∧ Below w.heap.size w wr)
    case atStart => exact ⟨0, _, 0, [], Nat.zero_le _, rfl, rfl, rfl, hide rfl, HO3.out, HB3.out⟩
    case round =>
      clear HO3 HB3
      obtain ⟨k, Ao, co, xs, hk, rfl, rfl, rfl, hxs, hO, hB⟩ := hrel
      have HO := hide hO
      have HB := hide hB
      have hxl : xs.length ≤ 300 := by rw [hxs.out, toldOf_len]; omega
      clear hO hB
      by_cases hlt : k < n
      · have hT := hide (show (os.take (k + 1)).length = k + 1 by simp; omega)
        have hi1 : (k : Int) + 1 ≤ (n : Int) := by omega
        have hi2 : (k : Int) + 1 ≤ (c : Int) := by omega
        have hi0 : (0 : Int) ≤ (k : Int) + 1 := by omega
        have hcall := runShapes_any A (os.take (k + 1)) c wr ((h.upto (k + 1)).later HB.out (Nat.le_refl _)) (fun o ho => Hall.out o (List.mem_of_mem_take ho))
        rw [hT.out] at hcall
        have Hst := hide (show (runShp Shp.new (os.take (k + 1))).1.stack = stk os (k + 1) from rfl)
        have hok2 := runShp_ok (s := Shp.new) (os := os.take (k + 1)) Shp.new_ok ⟨by simp [Shp.new], by simp [Shp.new]⟩ (fun o ho => (Hall.out o (List.mem_of_mem_take ho)).get)
        have hsm := hok2.2.1.small hok2.1
        generalize runShp Shp.new (os.take (k + 1)) = R2 at hcall Hst hsm
        obtain ⟨s2, n2⟩ := R2
        have Hsm := hide hsm
        clear hok2 hsm
        have HCall := hide hcall
        have hs3 : s2.stack.length ≤ 300 := by
          have : s2.stack = stk os (k + 1) := Hst.out
          rw [this]
          exact stk_le Hall.out _
        clear hcall
        go_wp2_with fail
        refine HCall.out.mono ?_
        clear HCall
        rintro e w5 ⟨p2, rfl, hown5, hb5⟩
        have HO5 := hide (HO.out.below hb5)
        have HB5 := hide (HB.out.trans (hb5.mono HB.out.size))
        simp only [shVal, shCells]
        have HO6 := hide (HO5.out.alloc (.cells #[.slice p2.K s2.kinds.length p2.c1, .slice p2.F s2.full.length p2.c2, .slice p2.S s2.stack.length p2.c3, .slice p2.M s2.memo.length p2.c4, .bool s2.done] 39))
        have HB6 := hide (HB5.out.alloc HB5.out.size (.cells #[.slice p2.K s2.kinds.length p2.c1, .slice p2.F s2.full.length p2.c2, .slice p2.S s2.stack.length p2.c3, .slice p2.M s2.memo.length p2.c4, .bool s2.done] 39))
        have l6 := Lies.new w5 #[.slice p2.K s2.kinds.length p2.c1, .slice p2.F s2.full.length p2.c2, .slice p2.S s2.stack.length p2.c3, .slice p2.M s2.memo.length p2.c4, .bool s2.done] 39
        have hI6 := ((hown5.at_ Hsm.out).t).below ((Below.refl w5.heap.size w5).alloc (Nat.le_refl _) (.cells #[.slice p2.K s2.kinds.length p2.c1, .slice p2.F s2.full.length p2.c2, .slice p2.S s2.stack.length p2.c3, .slice p2.M s2.memo.length p2.c4, .bool s2.done] 39))
        clear hb5 HO HB HO5 HB5 hown5
        go_upto_region 9 with fail
        have hb6 : w5.heap.size ≤ (w5.alloc (.cells #[.slice p2.K s2.kinds.length p2.c1, .slice p2.F s2.full.length p2.c2, .slice p2.S s2.stack.length p2.c3, .slice p2.M s2.memo.length p2.c4, .bool s2.done] 39)).heap.size := by simp
        replace hI6 := hI6.more hb6
        clear hb6
        generalize w5.alloc (.cells #[.slice p2.K s2.kinds.length p2.c1, .slice p2.F s2.full.length p2.c2, .slice p2.S s2.stack.length p2.c3, .slice p2.M s2.memo.length p2.c4, .bool s2.done] 39) = W6 at HO6 HB6 l6 hI6 ⊢
        have c2 := l6.cell 2
        simp only [jD, jE, jF] at c2
        have hwz := HB6.out.size
        generalize w5.heap.size = qb at c2 ⊢
        go_wp2_with fail
        go_loop [9, 10] (fun nv iv => ∃ i : Nat, i ≤ s2.stack.length ∧ iv = .int .i64 (i : Int) ∧ nv = .int .i64 (marksIn (s2.stack.take i) : Int)) (fun _ iv => s2.stack.length - (intOf iv).toNat)
        case atStart => exact ⟨0, Nat.zero_le _, rfl, rfl⟩
        case round =>
          obtain ⟨i, hi, rfl, rfl⟩ := hrel
          have hml := marksIn_le (s2.stack.take i)
          have hml2 : (s2.stack.take i).length ≤ 300 := by simp; omega
          by_cases hlt2 : i < s2.stack.length
          · obtain ⟨b, off, x, hSe, hbl, hx, hmem, hcx⟩ := hI6.at_ hlt2
            rw [hSe] at c2
            have hst := marksIn_step hx
            have hi0 : (0 : Int) ≤ (i : Int) := by omega
            have hi1b : (i : Int) < (s2.stack.length : Int) := by omega
            clear hx hmem hSe hI6
            by_cases hx0 : x < 0
            · rw [if_pos hx0] at hst
              have HST := hide hst
              clear hst
              generalize marksIn (s2.stack.take i) = m at hml HST ⊢
              have hmb : m ≤ 300 := by omega
              have hxd : decide (x < 0) = true := by simpa using hx0
              go_wp2
              go_round
              case rel => exact ⟨i + 1, by omega, by go_num, by rw [HST.out]; go_num⟩
              case measure => simp [intOf] <;> omega
            · rw [if_neg hx0] at hst
              have HST := hide hst
              clear hst
              generalize marksIn (s2.stack.take i) = m at hml HST ⊢
              have hxd : decide (x < 0) = false := by simpa using hx0
              go_wp2
              go_round
              case rel => exact ⟨i + 1, by omega, by go_num, by rw [HST.out]; rfl⟩
              case measure => simp [intOf] <;> omega
          · obtain rfl : i = s2.stack.length := by omega
            rw [List.take_length] at hml ⊢
            have Hmn : Hid (marksIn s2.stack = marksIn (stk os (k + 1))) := hide (by rw [← Hst.out])
            generalize marksIn s2.stack = mk at Hmn hml ⊢
            have hn3 : mk ≤ 300 := by omega
            go_wp2_with (at_builtin; refine append_ints rfl (.tmp 47) (.tmp 49) rfl w.heap.size Ao co xs rfl (HO6.out.alloc _) _ _ 1 [(mk : Int)] rfl (fun e => by cases e) (IntsAt.oneN _ W6.heap.size (mk : Int) (by constructor <;> omega) rfl) (by simp <;> omega) (by simp <;> omega) ?_; intro zs A7 c7 w7 hz7 ho7 hg7 ha7; have HX := hide (And.intro ho7 (below_grown (HB6.out.alloc hwz _) hg7 (by simp; omega) (fun q hq => (HO6.out.blocks q hq).1))); have hzz := hide (show zs = toldOf marksIn os (k + 1) by rw [hz7.out, hxs.out, toldOf_succ, ← Hmn.out]); clear ho7 hg7 ha7 hz7 l6)
            go_roundg (n - (k + 1))
            case measure => omega
            case rel => exact ⟨k + 1, A7, c7, zs, by omega, rfl, by go_num, rfl, hzz, HX.out.1, HX.out.2⟩
      · obtain rfl : k = n := by omega
        have hi1 : ¬ (k : Int) + 1 ≤ (k : Int) := by omega
        go_wp2
        go_ret
        rw [← hxs.out]
        exact ⟨Ao, co, rfl, HO.out, HB.out⟩
  · have ht := hide (tf_false hok)
    have HV := hide (show marksOf os = [] by unfold marksOf; rw [if_neg hok])
    rw [HV.out]
    clear hok HV
    go_enter Tryd.func7, Tryd.ntmps7
    go_wp2_with fail
    refine (specValidOps_any A os c w h).mono ?_
    rintro e w1 ⟨rfl, hb1⟩
    rw [ht.out]
    go_wp2
    go_ret
    exact ⟨none, 0, rfl, OwnI.empty _ _, hb1⟩
end Go.Proofs.YthckkpbjpgfdcabDoor

namespace Go.Proofs.YthckkpbjpgfdcabDoor
open Go.RowKit
set_option maxHeartbeats 1000000 in
theorem equalInts_any (A A' : Option Addr) (xs ys : List Int) (c c' : Nat) (w : World) (h : IntsAt w w.heap.size A xs) (h' : IntsAt w w.heap.size A' ys) :
    Calls Tryd.prog 6 #[.slice A xs.length c, .slice A' ys.length c'] w fun e w' => e = .returned (.bool (decide (xs = ys))) ∧ Below w.heap.size w w' := by
  have hl := h.len
  by_cases hne : xs.length = ys.length
  · have hb0 : ((xs.length : Int) != (ys.length : Int)) = false := by simp [hne]
    go_enter Tryd.func6, Tryd.ntmps6
    go_wp2_with fail
    go_loopw [5] (fun i wr => ∃ k : Nat, k ≤ xs.length ∧ i = .int .i64 k ∧ Below w.heap.size w wr ∧ ∀ j, j < k → xs[j]? = ys[j]?) (fun i _ => xs.length - (intOf i).toNat)
    case atStart => exact ⟨0, Nat.zero_le _, rfl, Below.refl _ _, fun j hj => absurd hj (by omega)⟩
    case round =>
      obtain ⟨k, hk, rfl, hb, he0⟩ := hrel
      have he := hide he0
      clear he0
      by_cases hlt : k < xs.length
      · obtain ⟨b, off, x, rfl, hbl, hx, _, hcx⟩ := (h.below hb).at_ hlt
        obtain ⟨b', off', y, rfl, hbl', hy, _, hcy⟩ := (h'.below hb).at_ (k := k) (by omega)
        have Hx := hide hx
        have Hy := hide hy
        clear hx hy
        have hk1 : (0 : Int) ≤ (k : Int) := by omega
        have hk2 : (k : Int) < (xs.length : Int) := by omega
        have hk3 : (k : Int) < (ys.length : Int) := by omega
        by_cases hxy : x = y
        · subst hxy
          go_wp2_with fail
          go_quiet (fail)
          go_wp2
          go_roundw
          case rel => exact ⟨k + 1, by omega, by go_num, below_drewN hb _, fun j hj => by
            by_cases e : j = k
            · subst e; rw [Hx.out, Hy.out]
            · exact he.out j (by omega)⟩
          case measure => simp [intOf]; omega
        · have hn1 : (x != y) = true := by simpa using hxy
          have hF : decide (xs = ys) = false := by
            simp only [decide_eq_false_iff_not]
            intro e
            subst e
            have := Hx.out.symm.trans Hy.out
            injection this with this
            exact hxy this
          have HF := hide hF
          clear hF
          go_wp2_with fail
          go_quiet (fail)
          go_wp2
          go_ret
          exact ⟨ret_bool HF.out.symm, below_drewN hb _⟩
      · obtain rfl : k = xs.length := by omega
        have hF : decide (xs = ys) = true := by
          simp only [decide_eq_true_eq]
          exact eq_of_prefix hne rfl he.out
        have HF := hide hF
        clear hF hlt
        go_wp2
        go_ret
        exact ⟨ret_bool HF.out.symm, hb⟩
  · have hb1 : ((xs.length : Int) != (ys.length : Int)) = true := by simp; omega
    have hF : decide (xs = ys) = false := by
      simp only [decide_eq_false_iff_not]
      intro e
      exact hne (by rw [e])
    have HF := hide hF
    clear hF
    go_enter Tryd.func6, Tryd.ntmps6
    go_wp2
    go_ret
    exact ⟨ret_bool HF.out.symm, Below.refl _ _⟩
end Go.Proofs.YthckkpbjpgfdcabDoor

namespace Go.Proofs.YthckkpbjpgfdcabDoor
set_option linter.unusedVariables false
set_option linter.unusedSimpArgs false
theorem marksIn_append (a b : List Int) : marksIn (a ++ b) = marksIn a + marksIn b := by simp [marksIn]
theorem marksIn_free {l : List Int} (h : ∀ x ∈ l, 0 ≤ x) : marksIn l = 0 := by
  unfold marksIn
  rw [List.length_eq_zero_iff, List.filter_eq_nil_iff]
  intro x hx
  have := h x hx
  simp
  omega
theorem marksIn_one (x : Int) : marksIn [x] = if x < 0 then 1 else 0 := by
  unfold marksIn
  by_cases h : x < 0 <;> simp [h]
theorem marks_above {l : List Int} {a : Nat} (h : above l = a + 1) : marksIn l = marksIn (l.take a) + 1 := by
  have hle := above_le l
  have hm := above_mark h
  have hlt : a < l.length := by omega
  have e : l = l.take a ++ ([l[a]] ++ l.drop (a + 1)) := by
    rw [List.singleton_append, ← List.drop_eq_getElem_cons hlt, List.take_append_drop]
  have hg : l.getD a 0 = l[a] := by rw [List.getD_eq_getElem?_getD, List.getElem?_eq_getElem hlt]; rfl
  have hf : marksIn (l.drop (a + 1)) = 0 := marksIn_free fun x hx => by
    obtain ⟨i, hi, he⟩ := List.getElem_of_mem hx
    rw [List.length_drop] at hi
    have := above_free (l := l) (j := a + 1 + i) (by omega) (by omega)
    rw [List.getElem_drop] at he
    rw [List.getD_eq_getElem?_getD, List.getElem?_eq_getElem (by omega)] at this
    simp only [Option.getD_some, he] at this
    exact this
  conv => { lhs; rw [e] }
  rw [marksIn_append, marksIn_append, marksIn_one, hf, if_pos (by rw [← hg]; exact hm)]
theorem marks_pop {l : List Int} (h0 : 0 < l.length) (h : 0 ≤ l.getD (l.length - 1) 0) : marksIn (l.take (l.length - 1)) = marksIn l := by
  have hlt : l.length - 1 < l.length := by omega
  have e : l = l.take (l.length - 1) ++ [l[l.length - 1]] := by
    have h2 : l.take (l.length - 1 + 1) = l := List.take_of_length_le (by omega)
    conv => { lhs; rw [← h2] }
    rw [List.take_succ_eq_append_getElem hlt]
  have hg : l.getD (l.length - 1) 0 = l[l.length - 1] := by rw [List.getD_eq_getElem?_getD, List.getElem?_eq_getElem hlt]; rfl
  conv => { rhs; rw [e] }
  rw [marksIn_append, marksIn_one, if_neg (by rw [← hg]; omega), Nat.add_zero]
theorem marks_cut1 {s : Shp} (h : s.Ok) (h0 : ¬ s.kindAt 0 < 0) : marksIn (s.cutTo (s.stack.length - 1)).stack = marksIn s.stack := by
  have hl := Shp.kind_lt h0
  have hk := (h.kindAt 0).2.2
  have ht : 0 ≤ s.thing 0 := by omega
  unfold Shp.thing at ht
  rw [if_pos hl] at ht
  exact marks_pop hl ht
theorem marks_cut2 {s : Shp} (h : s.Ok) (h0 : ¬ s.kindAt 0 < 0) (h1 : ¬ s.kindAt 1 < 0) : marksIn (s.cutTo (s.stack.length - 2)).stack = marksIn s.stack := by
  have hl := Shp.kind_lt h1
  have hk := (h.kindAt 1).2.2
  have ht : 0 ≤ s.thing 1 := by omega
  unfold Shp.thing at ht
  rw [if_pos hl] at ht
  rw [← marks_cut1 h h0]
  unfold Shp.cutTo
  have hlen : (s.stack.take (s.stack.length - 1)).length = s.stack.length - 1 := by simp
  have e : s.stack.take (s.stack.length - 2) = (s.stack.take (s.stack.length - 1)).take ((s.stack.take (s.stack.length - 1)).length - 1) := by
    rw [hlen, List.take_take]
    congr 1
    omega
  show marksIn (s.stack.take (s.stack.length - 2)) = marksIn (s.stack.take (s.stack.length - 1))
  rw [e]
  refine marks_pop (by omega) ?_
  rw [hlen, List.getD_eq_getElem?_getD, List.getElem?_take, if_pos (by omega), ← List.getD_eq_getElem?_getD]
  have e2 : s.stack.length - 1 - 1 = s.stack.length - 1 - 1 := rfl
  exact ht
theorem marks_push (s : Shp) (k : Int) : marksIn (s.push k).stack = marksIn s.stack := by
  unfold Shp.push
  show marksIn (s.stack ++ [(s.kinds.length : Int)]) = _
  rw [marksIn_append, marksIn_one, if_neg (by omega), Nat.add_zero]
def dMark (c : Int) : Int := if c = 2 then 1 else if c = 3 ∨ c = 9 ∨ c = 12 ∨ c = 18 then -1 else 0
theorem marks_step {s t : Shp} {o : Od} (h : s.Ok) (he : stepFree s o = some t) (ha : o.code = 16 → o.arg.toNat < 20) : (marksIn t.stack : Int) = (marksIn s.stack : Int) + dMark o.code ∧ (t.done = true → marksIn t.stack = 0) := by
  have hd : s.done = false := by
    cases hx : s.done
    · rfl
    · simp [stepFree, hx] at he
  unfold stepFree at he
  rw [if_neg (by rw [hd]; simp)] at he
  split at he
  · next h0 =>
    cases he
    have hdm : dMark o.code = 0 := by
      unfold dMark newK at *
      have : ¬ o.code = 2 ∧ ¬ (o.code = 3 ∨ o.code = 9 ∨ o.code = 12 ∨ o.code = 18) := by
        repeat' split at h0
        all_goals omega
      rw [if_neg this.1, if_neg this.2]
    rw [marks_push, hdm]
    exact ⟨by omega, fun hh => by have : s.done = true := hh; rw [hd] at this; cases this⟩
  split at he
  · next h2 =>
    cases he
    have hdm : dMark o.code = 1 := by unfold dMark; rw [if_pos h2]
    rw [hdm]
    refine ⟨?_, fun hh => by have : s.done = true := hh; rw [hd] at this; cases this⟩
    show ((marksIn (s.stack ++ [-1]) : Nat) : Int) = _
    rw [marksIn_append, marksIn_one, if_pos (by omega)]
    omega
  next h2 =>
  split at he
  · next h16 =>
    split at he
    · cases he
    · next hm =>
      cases he
      have hdm : dMark o.code = 0 := by unfold dMark; rw [h16]; rfl
      rw [hdm]
      refine ⟨?_, fun hh => by have : s.done = true := hh; rw [hd] at this; cases this⟩
      show ((marksIn (s.stack ++ [s.memo.getD o.arg.toNat 0]) : Nat) : Int) = _
      rw [marksIn_append, marksIn_one, if_neg hm]
      omega
  split at he
  · next hmk =>
    have hdm : dMark o.code = -1 := by unfold dMark; rw [if_neg h2]; exact if_pos hmk
    rw [hdm]
    unfold markStep at he
    split at he
    · cases he
    next ha0 =>
    obtain ⟨a, haa⟩ : ∃ a, above s.stack = a + 1 := ⟨above s.stack - 1, by omega⟩
    have hma := marks_above haa
    have hcut : marksIn (s.cutTo (above s.stack - 1)).stack + 1 = marksIn s.stack := by
      rw [haa, hma]
      rfl
    have hdn : (s.cutTo (above s.stack - 1)).done = false := hd
    repeat' split at he
    all_goals first
      | (cases he; done)
      | (cases he; exact ⟨by rw [marks_push]; omega, fun hh => by have : (s.cutTo (above s.stack - 1)).done = true := hh; rw [hdn] at this; cases this⟩)
      | (cases he; exact ⟨by omega, fun hh => by rw [hdn] at hh; cases hh⟩)
  · next hnm =>
    have hdm : dMark o.code = 0 := by unfold dMark; rw [if_neg h2]; exact if_neg hnm
    rw [hdm]
    unfold takeStep at he
    split at he
    · cases he
    next hk0 =>
    have h1 := marks_cut1 h hk0
    have hnd : ∀ {u : Shp}, u.done = s.done → u.done = true → marksIn u.stack = 0 := fun hu hh => by rw [hu, hd] at hh; cases hh
    split at he
    · cases he; exact ⟨by rw [marks_push, h1]; omega, hnd rfl⟩
    split at he
    · split at he
      · cases he
      · next hk1 =>
        cases he
        exact ⟨by rw [marks_push, marks_cut2 h hk0 hk1]; omega, hnd rfl⟩
    split at he
    · split at he
      · cases he; exact ⟨by rw [h1]; omega, hnd rfl⟩
      · cases he
    split at he
    · split at he
      · next hky =>
        cases he
        have hk1 : ¬ s.kindAt 1 < 0 := by have := hky.1; unfold KeyK at this; omega
        exact ⟨by rw [marks_cut2 h hk0 hk1]; omega, hnd rfl⟩
      · cases he
    split at he
    · split at he
      · cases he
        refine ⟨?_, hnd rfl⟩
        show ((marksIn (s.cutTo (s.stack.length - 1)).stack : Nat) : Int) = _
        rw [h1]
        omega
      · cases he
    split at he
    · cases he
      refine ⟨?_, hnd rfl⟩
      show ((marksIn s.stack : Nat) : Int) = _
      omega
    split at he
    · split at he
      · next hl1 =>
        cases he
        refine ⟨by show ((marksIn s.stack : Nat) : Int) = _; omega, fun _ => ?_⟩
        show marksIn s.stack = 0
        rw [← h1]
        unfold Shp.cutTo
        rw [hl1]
        simp [marksIn]
      · cases he
    · cases he; exact ⟨by rw [h1]; omega, hnd rfl⟩
theorem run_back {s : Shp} {os : List Od} (h : s.Ok) (ho : ∀ o ∈ os, OdOk o) : ∀ k, k < (runShp s os).2 → ∃ o, os[k]? = some o ∧ (runShp s (os.take k)).1.Ok ∧ stepFree (runShp s (os.take k)).1 o = some (runShp s (os.take (k + 1))).1 := by
  induction os generalizing s with
  | nil => intro k hk; rw [runShp_end] at hk; simp at hk
  | cons o os ih =>
    intro k hk
    cases hst : stepShp s o with
    | none => rw [runShp_stop hst] at hk; simp at hk
    | some t =>
      rw [runShp_go hst] at hk
      simp only at hk
      have hok := ho o (by simp)
      have htk := (stepShp_ok h hst hok.get).1
      cases k with
      | zero =>
        refine ⟨o, rfl, h, ?_⟩
        rw [List.take_zero, List.take_succ_cons, List.take_zero, runShp_end, runShp_go hst, runShp_end]
        exact (stepShp_some hst).1
      | succ k =>
        obtain ⟨o2, h1, h2, h3⟩ := ih htk (fun x hx => ho x (by simp [hx])) k (by omega)
        refine ⟨o2, by simpa using h1, ?_, ?_⟩
        · rw [List.take_succ_cons, runShp_go hst]; exact h2
        · rw [List.take_succ_cons, List.take_succ_cons, runShp_go hst, runShp_go hst]
          exact h3
theorem marks_next {os : List Od} (h : OpsOk os) {k : Nat} (hk : k < (runShp Shp.new os).2) : ∃ o, os[k]? = some o ∧ ((marksIn (stk os (k + 1)) : Nat) : Int) = ((marksIn (stk os k) : Nat) : Int) + dMark o.code := by
  obtain ⟨o, h1, h2, h3⟩ := run_back Shp.new_ok h.2 k hk
  exact ⟨o, h1, (marks_step h2 h3 (h.2 o (List.mem_of_getElem? h1)).get).1⟩
theorem done_marks {s : Shp} {os : List Od} (h : s.Ok) (hd : s.done = true → marksIn s.stack = 0) (ho : ∀ o ∈ os, OdOk o) : (runShp s os).1.done = true → marksIn (runShp s os).1.stack = 0 := by
  induction os generalizing s with
  | nil => exact hd
  | cons o os ih =>
    cases hst : stepShp s o with
    | none => rw [runShp_stop hst]; exact hd
    | some t =>
      rw [runShp_go hst]
      have hok := ho o (by simp)
      exact ih (stepShp_ok h hst hok.get).1 (marks_step h (stepShp_some hst).1 hok.get).2 (fun x hx => ho x (by simp [hx]))
theorem whole_marks {os : List Od} (h : Whole os) : marksIn (stk os (runShp Shp.new os).2) = 0 := by
  have := done_marks (s := Shp.new) (os := os) Shp.new_ok (fun hh => by simp [Shp.new] at hh) h.1.2 h.2.2
  unfold stk
  rw [h.2.1, List.take_length]
  exact this
end Go.Proofs.YthckkpbjpgfdcabDoor
