/-
  Lemmas, several texts in one: LkM, CutS, UpTo, ImplO, PlI, PlS, LeanM, ReadB.
-/
import Derived.Test.YthckkpbjpgfdcaaDoorPjAe
import Derived.Test.YthckkpbjpgfdcaaDoorPjAc
import Derived.Test.YthckkpbjpgfdcaaDoorSomeOp
import Derived.Test.YthckkpbjpgfdcaaDoorRunS
import Derived.Test.YthckkpbjpgfdcaaDoorPjAh
import Derived.Test.YthckkpbjpgfdcaaDoorMem
import Derived.Test.YthckkpbjpgfdcaaDoorPjAd
import Derived.Test.YthckkpbjpgfdcaaDoorPjAb
import Derived.Deep.QuietTactic
import Derived.BigQuiet
import Derived.Test.YthckkpbjpgfdcaaDoorPjAg
import Derived.Test.YthckkpbjpgfdcaaDoorPjAa
import Derived.Test.YthckkpbjpgfdcaaDoorRows
import Derived.ProofKit
import Derived.OpenShut
import Derived.ShutString
import Derived.ChangeOld
import Derived.Deep.Slices
import Derived.Deep.Fields
import Derived.Lib.SmallJoins
namespace Go.Proofs.YthckkpbjpgfdcaaDoor
open Go.RowKit
set_option linter.unusedVariables false
def HeldO (q b : Nat) (cs : Array Value) (u v : Value) (w' : World) : Prop := Lies w' q cs 62 ∧ w'.cell? ⟨b, 0, none⟩ = some u ∧ w'.cell? ⟨b, 1, none⟩ = some v
theorem HeldO.below {q b B : Nat} {cs : Array Value} {u v : Value} {X w' : World} (h : HeldO q b cs u v X) (hb : Below B X w') (hq : q < B) (hbB : b < B) : HeldO q b cs u v w' :=
  ⟨h.1.below hb hq, (hb.cell (p := ⟨b, 0, none⟩) hbB).trans h.2.1, (hb.cell (p := ⟨b, 1, none⟩) hbB).trans h.2.2⟩
theorem HeldO.set5 {q b nb : Nat} {cs : Array Value} {u v v0 v1 v2 v3 v4 : Value} {X : World} (h : HeldO q b cs u v X) (hq : q ≠ nb) (hbB : b ≠ nb) : HeldO q b cs u v (set5 X nb v0 v1 v2 v3 v4) :=
  ⟨(set5_block hq).trans h.1, (World.cell?_of_block (w := X) (set5_block hbB)).trans h.2.1, (World.cell?_of_block (w := X) (set5_block hbB)).trans h.2.2⟩
theorem ShBox.next {Y : World} {base q lo : Nat} {p p' : ShPtr} {s t : Shp} (h : ShBox Y base q p s) (ho : ShOwn Y lo p' t) (hq : q < lo) (hb : base ≤ lo) :
    ShBox (set5 Y q (.slice p'.K t.kinds.length p'.c1) (.slice p'.F t.full.length p'.c2) (.slice p'.S t.stack.length p'.c3) (.slice p'.M t.memo.length p'.c4) (.bool t.done)) base q p' t := by
  have o1 : p'.Off q := ho.off (.inl hq)
  exact ⟨(Lies.set5 h.box _ _ _ _ _).2, (ho.mono hb).set5 o1, o1⟩
structure BoxN (X Y : World) (base q : Nat) (p : ShPtr) (s : Shp) (nb : Nat) (p5 : ShPtr) (s5 : Shp) (ok : Bool) (r : Option Shp) : Prop where
  run : ShBox Y base q p s
  box : Lies Y nb (shCells p5 s5) 62
  bel : Below X.heap.size X Y
  good : ∀ t, r = some t → ok = true ∧ s5 = t ∧ ∃ lo, ShOwn Y lo p5 t ∧ X.heap.size ≤ lo
  bad : r = none → ok = false
theorem BoxN.mk' {X Y : World} {base q nb lo : Nat} {p p5 : ShPtr} {s s5 : Shp} {ok : Bool} {r : Option Shp} (h : ShBox Y base q p s) (hz : Lies Y nb #[.slice none 0 0, .slice none 0 0, .slice none 0 0, .slice none 0 0, .bool false] 62)
    (hbl : Below X.heap.size X Y) (hnb : X.heap.size ≤ nb) (ho : p.Off nb) (hq : q ≠ nb) (hl : X.heap.size ≤ lo) (hg : ∀ t, r = some t → ok = true ∧ s5 = t ∧ ShOwn Y lo p5 t ∧ p5.Off nb) (hb : r = none → ok = false) :
    BoxN X (set5 Y nb (.slice p5.K s5.kinds.length p5.c1) (.slice p5.F s5.full.length p5.c2) (.slice p5.S s5.stack.length p5.c3) (.slice p5.M s5.memo.length p5.c4) (.bool s5.done)) base q p s nb p5 s5 ok r :=
  ⟨⟨(set5_block hq).trans h.box, h.own.set5 ho, h.off⟩, (Lies.set5 hz _ _ _ _ _).2, set5_below hbl hnb, fun t ht => by
    obtain ⟨h1, h2, h3, h4⟩ := hg t ht
    exact ⟨h1, h2, lo, h3.set5 h4, hl⟩, hb⟩
structure LkS (w wr : World) (rb base q : Nat) (A : Option Addr) (n c P : Nat) (p : ShPtr) (s : Shp) (Ao : Option Addr) (co : Nat) (acc : List Od) : Prop where
  grew : Grew rb w wr
  rd : ∃ p', p' ≤ P ∧ Rd wr rb A n c p'
  sb : ShBox wr base q p s
  own : OwnO wr base Ao co acc
  apart : ∀ g, blockOf Ao = some g → p.Off g ∧ g ≠ q
  hb : w.heap.size ≤ base
  hq : base ≤ q
  hrb : rb < w.heap.size
  ok : s.Ok
  fit : s.Fits
  mem : ∀ o ∈ acc, OdOk o
theorem ShBox.ofB {w w' : World} {base q : Nat} {p : ShPtr} {s : Shp} (h : ShBox w base q p s) (hq : base ≤ q) (hb : ∀ g, base ≤ g → g < w.heap.size → w'.heap[g]? = w.heap[g]?) : ShBox w' base q p s :=
  ⟨(hb q hq h.box.lt).trans h.box, h.own.ofB hb, h.off⟩
section
variable {w wr w1 : World} {rb base q n c P P' : Nat} {A Ao A2 : Option Addr} {co c2 : Nat} {p p5 : ShPtr} {s t : Shp} {acc zs : List Od}
theorem LkS.turned (h : LkS w wr rb base q A n c P p s Ao co acc) {p1 : Nat} (hg : Grew rb wr w1) (hr : Rd w1 rb A n c p1) (hp : p1 ≤ P') : LkS w w1 rb base q A n c P' p s Ao co acc := by
  have h1 := h.hb
  have h2 := h.hrb
  exact ⟨h.grew.trans hg, ⟨p1, hp, hr⟩, h.sb.ofB h.hq (fun g hg1 hg2 => hg.block g hg2 (by omega)), h.own.of_block (fun g hg1 => hg.block g (h.own.blocks g hg1).2 (by have := (h.own.blocks g hg1).1; omega)), h.apart, h.hb, h.hq, h.hrb, h.ok, h.fit, h.mem⟩
theorem LkS.below (h : LkS w wr rb base q A n c P p s Ao co acc) (hb : Below wr.heap.size wr w1) : LkS w w1 rb base q A n c P p s Ao co acc := by
  obtain ⟨p1, hp1, hr⟩ := h.rd
  exact h.turned (Grew.of_below hb) (hr.below hb) hp1
theorem LkS.next (h : LkS w wr rb base q A n c P p s Ao co acc) {Y : World} {lo : Nat} (hb : Below wr.heap.size wr Y) (ho : ShOwn Y lo p5 t) (hl : wr.heap.size ≤ lo) (hok : t.Ok) (hfit : t.Fits) :
    LkS w (set5 Y q (.slice p5.K t.kinds.length p5.c1) (.slice p5.F t.full.length p5.c2) (.slice p5.S t.stack.length p5.c3) (.slice p5.M t.memo.length p5.c4) (.bool t.done)) rb base q A n c P p5 t Ao co acc := by
  have h2 := h.below hb
  have hql := h.sb.box.lt
  have hqb := h.hq
  have hb1 := h.hb
  have hr1 := h.hrb
  obtain ⟨p1, hp1, hr⟩ := h2.rd
  have hbq : Below q Y (set5 Y q (.slice p5.K t.kinds.length p5.c1) (.slice p5.F t.full.length p5.c2) (.slice p5.S t.stack.length p5.c3) (.slice p5.M t.memo.length p5.c4) (.bool t.done)) := set5_below (Below.refl _ _) (Nat.le_refl _)
  refine ⟨⟨?_, ?_, ?_, ?_, ?_⟩, ⟨p1, hp1, ?_⟩, h2.sb.next ho (by omega) (by omega), h2.own.of_block (fun g hg => set5_block (h2.apart g hg).2), fun g hg => ⟨ho.off (.inl (by have := (h.own.blocks g hg).2; omega)), (h2.apart g hg).2⟩, h.hb, h.hq, h.hrb, hok, hfit, h.mem⟩
  · exact hbq.os.trans h2.grew.os
  · exact hbq.tape.trans h2.grew.tape
  · exact hbq.output.trans h2.grew.output
  · exact Nat.le_trans h2.grew.size hbq.size
  · intro k hk hne
    rw [hbq.block k (by omega)]
    exact h2.grew.block k hk hne
  · exact ⟨hr.box.below hbq (by omega), hr.bytes.later (hbq.mono (by omega)), hr.few⟩
theorem LkS.app (h : LkS w wr rb base q A n c P p s Ao co acc) (lit : Obj) {d : Od} (hg : (wr.alloc lit).grownBy w1 (blockOf Ao)) (hat : blockOf A2 = blockOf Ao ∨ blockOf A2 = some (wr.alloc lit).heap.size) (own : OwnO w1 base A2 c2 zs) (hz : zs = acc ++ [d]) (hd : OdOk d) : LkS w w1 rb base q A n c P p s A2 c2 zs := by
  have h1 := h.hb
  have h2 := h.hrb
  have h3 := h.hq
  have h4 := h.sb.box.lt
  obtain ⟨p1, hp1, hr⟩ := h.rd
  have hrl := hr.box.lt
  have hblk : ∀ k, k < wr.heap.size → blockOf Ao ≠ some k → w1.heap[k]? = wr.heap[k]? := fun k hk hne => (hg.block k (by simp; omega) (fun e => hne e.symm)).trans (Below.heap_alloc wr lit k hk)
  have hsz : wr.heap.size ≤ w1.heap.size := by have := hg.size; simp at this; omega
  have hbl : Below base wr w1 := ((Below.refl wr.heap.size wr).alloc (Nat.le_refl _) lit |>.mono (by omega)).grown hg (by simp; omega) (fun b e => (h.own.blocks b e).1)
  have hAo : ∀ g, blockOf Ao = some g → g < wr.heap.size := fun g hg => (h.own.blocks g hg).2
  have hpo : ∀ g, wr.heap.size ≤ g → p.Off g := fun g hg => h.sb.own.off (.inr hg)
  refine ⟨⟨hbl.os.trans h.grew.os, hbl.tape.trans h.grew.tape, hbl.output.trans h.grew.output, Nat.le_trans h.grew.size hsz, fun k hk hne => (hbl.block k (by omega)).trans (h.grew.block k hk hne)⟩, ⟨p1, hp1, ?_⟩, ?_, own, ?_, h.hb, h.hq, h.hrb, h.ok, h.fit, ?_⟩
  · exact ⟨hr.box.below hbl (by omega), hr.bytes.later (hbl.mono (by omega)), hr.few⟩
  · refine ⟨(hblk q h4 (fun e => (h.apart q e).2 rfl)).trans h.sb.box, ?_, h.sb.off⟩
    have hk := fun (B : Option Addr) (hB : ∀ g, blockOf B = some g → g < wr.heap.size) (hd : ∀ g, blockOf Ao = some g → blockOf B ≠ some g) (g : Nat) (e : blockOf B = some g) => hblk g (hB g e) (fun e2 => hd g e2 e)
    exact ⟨h.sb.own.k.ofB (hk p.K (fun g e => (h.sb.own.k.blocks g e).2) (fun g e => (h.apart g e).1.k)), h.sb.own.f.ofB (hk p.F (fun g e => (h.sb.own.f.blocks g e).2) (fun g e => (h.apart g e).1.f)), h.sb.own.t.ofB (hk p.S (fun g e => (h.sb.own.t.blocks g e).2) (fun g e => (h.apart g e).1.t)), h.sb.own.m.ofB (hk p.M (fun g e => (h.sb.own.m.blocks g e).2) (fun g e => (h.apart g e).1.m)), h.sb.own.kf, h.sb.own.kt, h.sb.own.km, h.sb.own.ft, h.sb.own.fm, h.sb.own.tm⟩
  · intro g hg2
    rcases hat with e | e
    · exact h.apart g (e ▸ hg2)
    · rw [e] at hg2
      injection hg2 with hg2
      simp at hg2
      exact ⟨hpo g (by omega), by omega⟩
  · intro o ho
    rw [hz] at ho
    rcases List.mem_append.1 ho with ho | ho
    · exact h.mem o ho
    · rw [List.mem_singleton.1 ho]; exact hd
end
end Go.Proofs.YthckkpbjpgfdcaaDoor

namespace Go.Proofs.YthckkpbjpgfdcaaDoor
open Go.RowKit
set_option linter.unusedVariables false
set_option maxRecDepth 100000 in
set_option maxHeartbeats 1000000 in
theorem specCutOps_any (A : Option Addr) (os : List Od) (c : Nat) (w : World) (h : OpsAt w w.heap.size A os) (hnil : A = none → c = 0) (hc : os.length ≤ c) :
    Calls Tryd.prog 30 #[.slice A os.length c] w (GivesOps w (cutOf os)) := by
  have Hnil := hide hnil
  clear hnil
  by_cases hok : OpsOk os
  · have ht := hide (tf_true hok)
    have Hok := hide hok
    have hl := hok.1
    have hn := (runNew_le hok.2).2.2
    have HE := hide (cutOf_ok hok)
    obtain ⟨n, hnd⟩ : ∃ n, n = (runShp Shp.new os).2 := ⟨_, rfl⟩
    have Hnd := hide hnd
    rw [← hnd] at hn
    have HT : Hid ((os.take n).length = n) := hide (by simp; omega)
    have hnc : (n : Int) ≤ (c : Int) := by omega
    clear hok hnd
    go_enter Tryd.func30, Tryd.ntmps30
    go_wp2_with fail
    refine (specValidOps_any A os c w h).mono ?_
    rintro e w1 ⟨rfl, hb1⟩
    rw [ht.out]
    have h1 := h.later hb1 (Nat.le_refl _)
    go_wp2_with fail
    have HC := runShapes_any A os c w1 h1 Hok.out.2
    obtain ⟨sF, hsF⟩ : ∃ s, s = (runShp Shp.new os).1 := ⟨_, rfl⟩
    have e2 : runShp Shp.new os = (sF, n) := by rw [hsF, Hnd.out]
    rw [e2] at HC
    clear e2 hsF
    refine HC.mono ?_
    clear HC
    rintro e w2 ⟨p, rfl, _, hb2⟩
    have HB2 := hide (hb1.trans (hb2.mono hb1.size))
    clear hb1 hb2 h1
    simp only [shVal, shCells]
    have HB3 := hide (HB2.out.alloc HB2.out.size (.cells #[.slice p.K sF.kinds.length p.c1, .slice p.F sF.full.length p.c2, .slice p.S sF.stack.length p.c3, .slice p.M sF.memo.length p.c4, .bool sF.done] 62))
    go_upto_region 4 with fail
    generalize w2.alloc (.cells #[.slice p.K sF.kinds.length p.c1, .slice p.F sF.full.length p.c2, .slice p.S sF.stack.length p.c3, .slice p.M sF.memo.length p.c4, .bool sF.done] 62) = w3 at HB3 ⊢
    have HO := hide ((OwnO.bare w3).mono HB3.out.size)
    have HB4 := hide (HB3.out.alloc HB3.out.size (.cells #[] 38))
    go_wp2_with (at_builtin; refine append_ops rfl (.tmp 13) (.tmp 16) rfl w.heap.size _ 0 [] rfl HO.out w.heap.size A c (os.take n) (congrArg (fun k => Value.slice A k c) HT.out.symm) Hnil.out ((h.upto n).below HB4.out) (by simp; omega) HB4.out.size ?_; intro zs A5 c5 w5 e5 own5 hg5 _; have HG5 := hide hg5; have HO5 := hide own5; clear hg5 own5)
    go_ret
    have e6 : zs = cutOf os := by rw [e5.out, HE.out, ← Hnd.out, List.nil_append]
    subst e6
    exact ⟨A5, c5, rfl, HO5.out, below_grown HB4.out HG5.out HB4.out.size (fun q hq => (HO.out.blocks q hq).1)⟩
  · rw [cutOf_no hok]
    have ht := hide (tf_false hok)
    clear hok
    go_enter Tryd.func30, Tryd.ntmps30
    go_wp2_with fail
    refine (specValidOps_any A os c w h).mono ?_
    rintro e w1 ⟨rfl, hb1⟩
    rw [ht.out]
    go_wp2
    go_ret
    exact ⟨none, 0, rfl, OwnO.empty _ _, hb1⟩
end Go.Proofs.YthckkpbjpgfdcaaDoor

namespace Go.Proofs.YthckkpbjpgfdcaaDoor
open Go.RowKit
theorem isUpTo_yes (n hi : Int) (w : World) (h1 : 0 ≤ n) (h2 : n ≤ hi) :
    Calls Tryd.prog 24 #[.int .i64 n, .int .i64 hi] w fun e w' => e = .returned (.bool true) ∧ w = w' := by
  have d1 : decide (0 ≤ n) = true := by simpa using h1
  have d2 : decide (n ≤ hi) = true := by simpa using h2
  go_enter Tryd.func24, Tryd.ntmps24
  go_wp2
  go_ret
  exact ⟨rfl, rfl⟩
theorem isUpTo_no (n hi : Int) (w : World) (h : n < 0 ∨ hi < n) :
    Calls Tryd.prog 24 #[.int .i64 n, .int .i64 hi] w fun e w' => e = .returned (.bool false) ∧ w = w' := by
  by_cases h1 : 0 ≤ n
  · have h2 : ¬ n ≤ hi := by omega
    have d1 : decide (0 ≤ n) = true := by simpa using h1
    have d2 : decide (n ≤ hi) = false := by simpa using h2
    clear h
    go_enter Tryd.func24, Tryd.ntmps24
    go_wp2
    go_ret
    exact ⟨rfl, rfl⟩
  · have d1 : decide (0 ≤ n) = false := by simpa using h1
    clear h
    go_enter Tryd.func24, Tryd.ntmps24
    go_wp2
    go_ret
    exact ⟨rfl, rfl⟩
def upB (n hi : Int) : Bool := decide (0 ≤ n ∧ n ≤ hi)
theorem upB_yes {n hi : Int} (h : 0 ≤ n ∧ n ≤ hi) : upB n hi = true := by unfold upB; simpa using h
theorem upB_no {n hi : Int} (h : ¬ (0 ≤ n ∧ n ≤ hi)) : upB n hi = false := by unfold upB; simpa using h
theorem isUpTo_q (n hi : Int) (w : World) :
    Calls Tryd.prog 24 #[.int .i64 n, .int .i64 hi] w fun e w' => e = .returned (.bool (upB n hi)) ∧ w' = w := by
  by_cases h : 0 ≤ n ∧ n ≤ hi
  · rw [upB_yes h]
    exact (isUpTo_yes n hi w h.1 h.2).mono fun e w' ⟨a, b⟩ => ⟨a, b.symm⟩
  · rw [upB_no h]
    exact (isUpTo_no n hi w (by omega)).mono fun e w' ⟨a, b⟩ => ⟨a, b.symm⟩
end Go.Proofs.YthckkpbjpgfdcaaDoor

namespace Go.Proofs.YthckkpbjpgfdcaaDoor
open Go.RowKit
set_option linter.unusedVariables false
set_option maxRecDepth 100000 in
set_option maxHeartbeats 1000000 in
theorem implValidOps_any (A : Option Addr) (os : List Od) (c : Nat) (w : World) (h : OpsAt w w.heap.size A os) (hF : FormsAt w w.heap.size) :
    Calls Tryd.prog 11 #[.slice A os.length c] w fun e w' => e = .returned (.bool (tf (OpsOk os))) ∧ Below w.heap.size w w' := by
  have hl := h.len
  by_cases h3 : os.length ≤ 300
  · have t3 : decide ((300 : Int) < (os.length : Int)) = false := by simp; omega
    go_enter Tryd.func11, Tryd.ntmps11
    go_wp2_with fail
    go_loopw [10] (fun i wr => ∃ k : Nat, k ≤ os.length ∧ i = .int .i64 k ∧ Below w.heap.size w wr ∧ ∀ j x, j < k → os[j]? = some x → OdOk x) (fun i _ => os.length - (intOf i).toNat)
    case atStart => exact ⟨0, Nat.zero_le _, rfl, Below.refl _ _, fun j _ hj => absurd hj (by omega)⟩
    case round =>
      obtain ⟨k, hk, rfl, hb, he0⟩ := hrel
      have he := hide he0
      clear he0
      by_cases hlt : k < os.length
      · obtain ⟨b, off, x, rfl, hbl, hx, hmem, hc0, hc1⟩ := (h.below hb).at_ hlt
        have Hx := hide hx
        clear hx
        have hFr := hF.below hb
        have hb2 : Below w.heap.size w (wr.alloc (.cells #[.int .i64 x.code, .int .i64 x.arg] 38)) := hb.alloc hb.size _
        have lx := Lies.new wr #[.int .i64 x.code, .int .i64 x.arg] 38
        have hF2 := hF.below hb2
        clear hFr
        go_wp2_with fail
        generalize wr.alloc (.cells #[.int .i64 x.code, .int .i64 x.arg] 38) = w2 at hb2 lx hF2 ⊢
        have x0 := lx.cell 0
        have x1 := lx.cell 1
        simp at x0 x1
        by_cases hc : 0 ≤ x.code ∧ x.code ≤ 19
        · have u1 := upB_yes hc
          obtain ⟨m, hm⟩ := Int.eq_ofNat_of_zero_le hc.1
          have hm19 : m < 20 := by omega
          have harg := hF2.arg m hm19
          have hi1 : (0 : Int) ≤ x.code := hc.1
          have hi2 : x.code < 20 := by omega
          have hmn : x.code.toNat = m := by omega
          rw [← hm, ← hmn] at harg
          by_cases ha : 0 ≤ x.arg ∧ x.arg ≤ argTop x.code
          · have u2 := upB_yes ha
            have He : Hid (∀ j y, j < k + 1 → os[j]? = some y → OdOk y) := by
              intro j y hj hy
              by_cases e : j = k
              · subst e
                obtain rfl := Option.some.inj (Hx.out.symm.trans hy)
                exact (OdOk.iff _).2 ⟨hc, ha⟩
              · exact he.out j y (by omega) hy
            generalize argTop x.code = T at harg u2
            clear he hmem hm hmn ha hc hF2 lx
            go_quiet ((go_at_call 24; exact Calls.quiet_of_same (isUpTo_q _ _ _)))
            go_wp2
            go_roundw
            case rel => exact ⟨k + 1, by omega, by go_num, below_drewN hb2 _, He.out⟩
            case measure => simp [intOf]; omega
          · have u2 := upB_no ha
            have HF := hide (show tf (OpsOk os) = false from tf_false fun hall => ha ((OdOk.iff _).1 (hall.2 x hmem)).2)
            generalize argTop x.code = T at harg u2
            clear he hmem hm hmn ha hc hF2 lx
            go_quiet ((go_at_call 24; exact Calls.quiet_of_same (isUpTo_q _ _ _)))
            go_wp2
            go_ret
            exact ⟨ret_bool HF.out.symm, below_drewN hb2 _⟩
        · have u1 := upB_no hc
          have HF := hide (show tf (OpsOk os) = false from tf_false fun hall => hc (hall.2 x hmem).1)
          clear he hmem hc hF2 lx
          go_quiet ((go_at_call 24; exact Calls.quiet_of_same (isUpTo_q _ _ _)))
          go_wp2
          go_ret
          exact ⟨ret_bool HF.out.symm, below_drewN hb2 _⟩
      · obtain rfl : k = os.length := by omega
        have HF := hide (show tf (OpsOk os) = true from tf_true ⟨h3, fun x hx => by
          obtain ⟨j, hj, rfl⟩ := List.getElem_of_mem hx
          exact he.out j _ hj (List.getElem?_eq_getElem hj)⟩)
        clear hlt
        go_wp2
        go_ret
        exact ⟨ret_bool HF.out.symm, hb⟩
  · have t3 : decide ((300 : Int) < (os.length : Int)) = true := by simp; omega
    have HF := hide (show tf (OpsOk os) = false from tf_false fun hh => h3 hh.1)
    clear h3
    go_enter Tryd.func11, Tryd.ntmps11
    go_wp2
    go_ret
    exact ⟨ret_bool HF.out.symm, Below.refl _ _⟩
end Go.Proofs.YthckkpbjpgfdcaaDoor

namespace Go.Proofs.YthckkpbjpgfdcaaDoor
open Go.RowKit
set_option linter.unusedVariables false
set_option maxRecDepth 100000 in
set_option maxHeartbeats 1000000 in
theorem implPlacesOf_any (A : Option Addr) (os : List Od) (c : Nat) (w : World) (h : OpsAt w w.heap.size A os) (hF : FormsAt w w.heap.size) :
    Calls Tryd.prog 5 #[.slice A os.length c] w fun e w' => e = .returned (.int .i64 (placesOf os)) ∧ Below w.heap.size w w' := by
  have hl := h.len
  by_cases hok : OpsOk os
  · rw [placesOf_ok hok]
    have ht := hide (tf_true hok)
    have hl3 := hok.1
    have Hwf := hide h.wf
    clear hok
    go_enter Tryd.func5, Tryd.ntmps5
    go_wp2_with fail
    refine (implValidOps_any A os c w h hF).mono ?_
    rintro e w1 ⟨rfl, hb1⟩
    rw [ht.out]
    have lb := Lies.new w1 #[.map none, .slice none 0 0] 36
    have hb2 := hb1.alloc hb1.size (.cells #[.map none, .slice none 0 0] 36)
    have hsz := hb1.size
    go_wp2_with fail
    have hst : (w1.alloc (.cells #[.map none, .slice none 0 0] 36)).heap.size = w1.heap.size + 1 := by simp
    generalize w1.alloc (.cells #[.map none, .slice none 0 0] 36) = w2 at lb hb2 hst ⊢
    have HST := hide (show w1.heap.size + 1 ≤ w2.heap.size by omega)
    clear hst
    generalize w1.heap.size = g at lb hsz HST ⊢
    go_loopw [11] (fun iv wr => ∃ (k : Nat) (m : Option Nat) (A' : Option Addr) (c' : Nat), k ≤ os.length ∧ iv = .int .i64 k ∧ SetI wr g (g + 1) m A' c' (placesTo os k) ∧ Below w.heap.size w wr ∧ g + 1 ≤ wr.heap.size) (fun iv _ => os.length - (intOf iv).toNat)
    case atStart => exact ⟨0, none, none, 0, Nat.zero_le _, rfl, SetI.start lb (Nat.lt_succ_self _), hb2, HST.out⟩
    case round =>
      clear lb hb2
      obtain ⟨k, m, A', c', hk, rfl, hset, hb, hs⟩ := hrel
      by_cases hlt : k < os.length
      · obtain ⟨b, off, o, rfl, hbl, hx, hmem, hc0, hc1⟩ := (h.below hb).at_ hlt
        have Hs := hide (placesTo_succ hx)
        have hpl := placesTo_len os k
        have hoa := (Hwf.out o hmem).2
        have hk1 : (0 : Int) ≤ (k : Int) := by omega
        have hk2 : (k : Int) < (os.length : Int) := by omega
        have hb3 := hb.alloc hb.size (.cells #[.int .i64 o.code, .int .i64 o.arg] 38)
        have lo := Lies.new wr #[.int .i64 o.code, .int .i64 o.arg] 38
        have hset3 := hset.below ((Below.refl wr.heap.size wr).alloc (Nat.le_refl _) (.cells #[.int .i64 o.code, .int .i64 o.arg] 38))
        have hs3 : g + 1 ≤ (wr.alloc (.cells #[.int .i64 o.code, .int .i64 o.arg] 38)).heap.size := by simp; omega
        generalize placesTo os k = L at hset hset3 Hs hpl ⊢
        clear hset
        by_cases h15 : o.code = 15
        · rw [h15] at hc0 hb3 lo hset3 hs3
          have t15 : ((15 : Int) == 15) = true := rfl
          have o0 := lo.cell 0
          have o1 := lo.cell 1
          simp at o0 o1
          by_cases hin : o.arg ∈ L
          · have HF := hide (addPlace_old (o := o) hin)
            have HC := hide (addI_seen g (g + 1) m A' c' L o.arg _ hset3 hoa hin)
            have HS := hide hset3
            have HB := hide hb3
            have HZ := hide hs3
            clear hx hmem hin h15 t15 hset3 lo hb3 hs3
            go_wp2_with fail
            refine HC.out.mono ?_
            rintro e w' ⟨rfl, rfl⟩
            clear HC
            go_wp2
            go_roundw
            case rel => exact ⟨k + 1, m, A', c', by omega, by go_num, by rw [Hs.out, HF.out]; exact HS.out, HB.out, HZ.out⟩
            case measure => simp [intOf]; omega
          · have HF := hide (addPlace_new h15 hin)
            have HC := hide (addI_new g (g + 1) m c' A' L o.arg _ hset3 hoa hs3 hin (by omega))
            have HB := hide hb3
            have HZ := hide hs3
            clear hx hmem hin h15 t15 hset3 lo hb3 hs3
            go_wp2_with fail
            refine HC.out.mono ?_
            rintro e w' ⟨rfl, ⟨m2, A2, c2, hset4⟩, hbut⟩
            have HS := hide hset4
            have HBB := hide (hbut.below HB.out hsz (by omega))
            have HZ2 := hide (show g + 1 ≤ w'.heap.size from Nat.le_trans HZ.out hbut.size)
            clear HC hset4 hbut HB HZ
            go_wp2
            go_roundw
            case rel => exact ⟨k + 1, m2, A2, c2, by omega, by go_num, by rw [Hs.out, HF.out]; exact HS.out, HBB.out, HZ2.out⟩
            case measure => simp [intOf]; omega
        · have t15 : (o.code == 15) = false := by simpa using h15
          have HF := hide (addPlace_no (L := L) h15)
          have o0 := lo.cell 0
          simp at o0
          have HS := hide hset3
          have HB := hide hb3
          have HZ := hide hs3
          clear hx hmem h15 hset3 lo hb3 hs3
          go_wp2
          go_roundw
          case rel => exact ⟨k + 1, m, A', c', by omega, by go_num, by rw [Hs.out, HF.out]; exact HS.out, HB.out, HZ.out⟩
          case measure => simp [intOf]; omega
      · obtain rfl : k = os.length := by omega
        clear hlt
        have hpl := placesTo_len os os.length
        have e0 := hset.box.cell 1
        simp at e0
        generalize hLd : placesTo os os.length = L at hset hpl e0 ⊢
        have HL := hide hLd
        clear hLd hset
        go_wp2
        go_ret
        exact ⟨ret_int (by rw [HL.out]), hb⟩
  · rw [placesOf_no hok]
    have ht := hide (tf_false hok)
    clear hok
    go_enter Tryd.func5, Tryd.ntmps5
    go_wp2_with fail
    refine (implValidOps_any A os c w h hF).mono ?_
    rintro e w1 ⟨rfl, hb1⟩
    rw [ht.out]
    go_wp2
    go_ret
    exact ⟨rfl, hb1⟩
end Go.Proofs.YthckkpbjpgfdcaaDoor

namespace Go.Proofs.YthckkpbjpgfdcaaDoor
open Go.RowKit
set_option linter.unusedVariables false
set_option maxRecDepth 100000 in
set_option maxHeartbeats 1000000 in
theorem specPlacesOf_any (A : Option Addr) (os : List Od) (c : Nat) (w : World) (h : OpsAt w w.heap.size A os) :
    Calls Tryd.prog 6 #[.slice A os.length c] w fun e w' => e = .returned (.int .i64 (placesOf os)) ∧ Below w.heap.size w w' := by
  have hl := h.len
  by_cases hok : OpsOk os
  · rw [placesOf_ok hok]
    have ht := hide (tf_true hok)
    have hl3 := hok.1
    have Hwf := hide h.wf
    clear hok
    go_enter Tryd.func6, Tryd.ntmps6
    go_wp2_with fail
    refine (specValidOps_any A os c w h).mono ?_
    rintro e w1 ⟨rfl, hb1⟩
    rw [ht.out]
    have hbare := OwnI.bare w1
    have hb2 := hb1.alloc hb1.size (.cells #[] 3)
    have hsz := hb1.size
    go_wp2_with fail
    generalize w1.alloc (.cells #[] 3) = w2 at hbare hb2 ⊢
    go_loopw [3, 4] (fun mv iv wr => ∃ (k : Nat) (A' : Option Addr) (c' : Nat), k ≤ os.length ∧ iv = .int .i64 k ∧ mv = .slice A' (placesTo os k).length c' ∧ OwnI wr w.heap.size A' c' (placesTo os k) ∧ Below w.heap.size w wr) (fun _ iv _ => os.length - (intOf iv).toNat)
    case atStart => exact ⟨0, some ⟨w1.heap.size, 0, none⟩, 0, Nat.zero_le _, rfl, rfl, hbare.mono hsz, hb2⟩
    case round =>
      clear hbare hb2
      obtain ⟨k, A', c', hk, rfl, rfl, hown, hb⟩ := hrel
      by_cases hlt : k < os.length
      · obtain ⟨b, off, o, rfl, hbl, hx, hmem, hc0, hc1⟩ := (h.below hb).at_ hlt
        have Hs := hide (placesTo_succ hx)
        have hpl := placesTo_len os k
        have H64 := hide (placesTo_64 Hwf.out k)
        have hk1 : (0 : Int) ≤ (k : Int) := by omega
        have hk2 : (k : Int) < (os.length : Int) := by omega
        have hoa := (Hwf.out o hmem).2
        generalize placesTo os k = L at hown Hs hpl H64 ⊢
        by_cases h15 : o.code = 15
        · rw [h15] at hc0
          have t15 : ((15 : Int) == 15) = true := rfl
          have hI := hown.ints H64.out (by omega)
          by_cases hin : o.arg ∈ L
          · have HF := hide (addPlace_old (o := o) hin)
            have hp := (place_lt hin).1
            have d : decide (place L o.arg < 0) = false := by simp; omega
            clear hx hmem hin h15 t15
            go_wp2_with fail
            refine (placeIn_any A' L c' o.arg wr hI).mono ?_
            rintro e w' ⟨rfl, rfl⟩
            generalize place L o.arg = P at d hp ⊢
            clear hI
            go_wp2
            go_roundw
            case rel => exact ⟨k + 1, A', c', by omega, by go_num, by rw [Hs.out, HF.out], by rw [Hs.out, HF.out]; exact hown, hb⟩
            case measure => simp [intOf]; omega
          · have HF := hide (addPlace_new h15 hin)
            have hp := place_neg hin
            clear hx hmem hin h15 t15
            go_wp2_with fail
            refine (placeIn_any A' L c' o.arg wr hI).mono ?_
            rintro e w' ⟨rfl, rfl⟩
            rw [hp]
            clear hp hI
            have hsz3 := hb.size
            go_wp2_with (at_builtin; refine append_ints rfl (.tmp 31) (.tmp 37) rfl w.heap.size A' c' L rfl (hown.alloc _) (wr.heap.size + 1) _ 1 [o.arg] rfl (fun e => by cases e) (IntsAt.one wr o.arg hoa) (by simp <;> omega) (by simp <;> omega) ?_; intro zs A2 c2 w3 hz hown3 hgrow3 hat3)
            go_roundw
            case rel => exact ⟨k + 1, A2, c2, by omega, by go_num, by rw [Hs.out, HF.out, hz.out], by rw [Hs.out, HF.out, ← hz.out]; exact hown3, below_grown (hb.alloc hsz3 _) hgrow3 (by simp; omega) (fun q hq => (hown.blocks q hq).1)⟩
            case measure => simp [intOf]; omega
        · have t15 : (o.code == 15) = false := by simpa using h15
          have HF := hide (addPlace_no (L := L) h15)
          clear hx hmem h15
          go_wp2
          go_roundw
          case rel => exact ⟨k + 1, A', c', by omega, by go_num, by rw [Hs.out, HF.out], by rw [Hs.out, HF.out]; exact hown, hb⟩
          case measure => simp [intOf]; omega
      · obtain rfl : k = os.length := by omega
        clear hlt
        have hpl := placesTo_len os os.length
        generalize hLd : placesTo os os.length = L at hown hpl ⊢
        have HL := hide hLd
        clear hLd
        go_wp2
        go_ret
        exact ⟨ret_int (by rw [HL.out]), hb⟩
  · rw [placesOf_no hok]
    have ht := hide (tf_false hok)
    clear hok
    go_enter Tryd.func6, Tryd.ntmps6
    go_wp2_with fail
    refine (specValidOps_any A os c w h).mono ?_
    rintro e w1 ⟨rfl, hb1⟩
    rw [ht.out]
    go_wp2
    go_ret
    exact ⟨rfl, hb1⟩
end Go.Proofs.YthckkpbjpgfdcaaDoor

namespace Go.Proofs.YthckkpbjpgfdcaaDoor
set_option linter.unusedVariables false
def placesL (os : List Od) : Nat → List Int
  | 0 => []
  | k + 1 => match os[k]? with
    | none => placesL os k
    | some o => if o.code = 15 ∧ idleAt os k = false ∧ o.arg ∉ placesL os k then placesL os k ++ [o.arg] else placesL os k
def leanOd (L : List Int) (o : Od) : Od := if o.code = 15 ∨ o.code = 16 then ⟨o.code, (L.idxOf o.arg : Int)⟩ else o
def leanTo (os : List Od) : Nat → List Od
  | 0 => []
  | k + 1 => match os[k]? with
    | none => leanTo os k
    | some o => if idleAt os k = true then leanTo os k else leanTo os k ++ [leanOd (placesL os (k + 1)) o]
theorem placesL_new {os : List Od} {k : Nat} {o : Od} (h : os[k]? = some o) (h1 : o.code = 15) (h2 : idleAt os k = false) (h3 : o.arg ∉ placesL os k) : placesL os (k + 1) = placesL os k ++ [o.arg] := by
  show (match os[k]? with | none => placesL os k | some o => if o.code = 15 ∧ idleAt os k = false ∧ o.arg ∉ placesL os k then placesL os k ++ [o.arg] else placesL os k) = _
  rw [h]
  exact if_pos ⟨h1, h2, h3⟩
theorem placesL_same {os : List Od} {k : Nat} {o : Od} (h : os[k]? = some o) (h1 : ¬ (o.code = 15 ∧ idleAt os k = false ∧ o.arg ∉ placesL os k)) : placesL os (k + 1) = placesL os k := by
  show (match os[k]? with | none => placesL os k | some o => if o.code = 15 ∧ idleAt os k = false ∧ o.arg ∉ placesL os k then placesL os k ++ [o.arg] else placesL os k) = _
  rw [h]
  exact if_neg h1
theorem leanTo_idle {os : List Od} {k : Nat} {o : Od} (h : os[k]? = some o) (h1 : idleAt os k = true) : leanTo os (k + 1) = leanTo os k := by
  show (match os[k]? with | none => leanTo os k | some o => if idleAt os k = true then leanTo os k else leanTo os k ++ [leanOd (placesL os (k + 1)) o]) = _
  rw [h]
  exact if_pos h1
theorem leanTo_stay {os : List Od} {k : Nat} {o : Od} (h : os[k]? = some o) (h1 : idleAt os k = false) : leanTo os (k + 1) = leanTo os k ++ [leanOd (placesL os (k + 1)) o] := by
  show (match os[k]? with | none => leanTo os k | some o => if idleAt os k = true then leanTo os k else leanTo os k ++ [leanOd (placesL os (k + 1)) o]) = _
  rw [h]
  exact if_neg (by rw [h1]; simp)
theorem leanOd_other {L : List Int} {o : Od} (h1 : o.code ≠ 15) (h2 : o.code ≠ 16) : leanOd L o = o := by
  unfold leanOd
  rw [if_neg (fun h => h.elim h1 h2)]
theorem leanOd_place {L : List Int} {o : Od} (h : o.code = 15 ∨ o.code = 16) : leanOd L o = ⟨o.code, (L.idxOf o.arg : Int)⟩ := by
  unfold leanOd
  rw [if_pos h]
theorem placesL_mono {os : List Od} {k : Nat} {p : Int} (h : p ∈ placesL os k) : p ∈ placesL os (k + 1) := by
  show p ∈ (match os[k]? with | none => placesL os k | some o => if o.code = 15 ∧ idleAt os k = false ∧ o.arg ∉ placesL os k then placesL os k ++ [o.arg] else placesL os k)
  split
  · exact h
  · split
    · exact List.mem_append_left _ h
    · exact h
def putTo (os : List Od) (k : Nat) (p : Int) : Bool := (os.take k).any fun o => decide (o.code = 15 ∧ o.arg = p)
theorem putTo_succ {os : List Od} {k : Nat} {o : Od} (h : os[k]? = some o) (p : Int) : putTo os (k + 1) p = (putTo os k p || decide (o.code = 15 ∧ o.arg = p)) := by
  unfold putTo
  rw [List.take_add_one, h, List.any_append]
  simp
theorem placesL_put (os : List Od) (p : Int) : ∀ k, p ∈ placesL os k → putTo os k p = true := by
  intro k
  induction k with
  | zero => intro h; cases h
  | succ k ih =>
    intro h
    cases hx : os[k]? with
    | none =>
      have he : placesL os (k + 1) = placesL os k := by
        show (match os[k]? with | none => placesL os k | some o => if o.code = 15 ∧ idleAt os k = false ∧ o.arg ∉ placesL os k then placesL os k ++ [o.arg] else placesL os k) = _
        rw [hx]
      rw [he] at h
      have := ih h
      unfold putTo at this ⊢
      rw [List.take_add_one, hx]
      simpa using this
    | some o =>
      rw [putTo_succ hx]
      by_cases hc : o.code = 15 ∧ idleAt os k = false ∧ o.arg ∉ placesL os k
      · rw [placesL_new hx hc.1 hc.2.1 hc.2.2] at h
        rcases List.mem_append.1 h with h | h
        · rw [ih h]; rfl
        · simp at h
          subst h
          simp [hc.1]
      · rw [placesL_same hx hc] at h
        rw [ih h]; rfl
def OrderlyTo (os : List Od) (k : Nat) : Prop := ∀ j o, j < k → os[j]? = some o → o.code = 16 → o.arg ∈ placesL os j
theorem OrderlyTo.step {os : List Od} {k : Nat} {o : Od} (h : OrderlyTo os k) (hk : os[k]? = some o) (h1 : o.code = 16 → o.arg ∈ placesL os k) : OrderlyTo os (k + 1) := by
  intro j p hj hp h16
  by_cases e : j = k
  · subst e
    obtain rfl := Option.some.inj (hk.symm.trans hp)
    exact h1 h16
  · exact h j p (by omega) hp h16
open Classical in
noncomputable def leanOf (os : List Od) : List Od := if OpsOk os ∧ OrderlyTo os os.length then leanTo os os.length else []
theorem leanOf_ok {os : List Od} (h : OpsOk os) (h2 : OrderlyTo os os.length) : leanOf os = leanTo os os.length := by unfold leanOf; rw [if_pos ⟨h, h2⟩]
theorem leanOf_no {os : List Od} (h : ¬ OpsOk os) : leanOf os = [] := by unfold leanOf; rw [if_neg fun x => h x.1]
theorem leanOf_not {os : List Od} (h : ¬ OrderlyTo os os.length) : leanOf os = [] := by unfold leanOf; rw [if_neg fun x => h x.2]
theorem placesL_len (os : List Od) : ∀ k, (placesL os k).length ≤ k := by
  intro k
  induction k with
  | zero => simp [placesL]
  | succ k ih =>
    show (match os[k]? with | none => placesL os k | some o => if o.code = 15 ∧ idleAt os k = false ∧ o.arg ∉ placesL os k then placesL os k ++ [o.arg] else placesL os k).length ≤ k + 1
    split
    · omega
    · split
      · simp; omega
      · omega
theorem leanTo_len (os : List Od) : ∀ k, (leanTo os k).length ≤ k := by
  intro k
  induction k with
  | zero => simp [leanTo]
  | succ k ih =>
    show (match os[k]? with | none => leanTo os k | some o => if idleAt os k = true then leanTo os k else leanTo os k ++ [leanOd (placesL os (k + 1)) o]).length ≤ k + 1
    split
    · omega
    · split
      · omega
      · simp; omega
theorem idx_64 {L : List Int} {n : Nat} (h : L.length ≤ n) (hn : n ≤ 1048576) (x : Int) : In64 (L.idxOf x : Int) := by
  have : L.idxOf x ≤ L.length := List.idxOf_le_length
  constructor <;> omega
theorem leanTo_64 {os : List Od} (h : ∀ o ∈ os, In64 o.code ∧ In64 o.arg) : ∀ k, k ≤ 1048575 → ∀ o ∈ leanTo os k, In64 o.code ∧ In64 o.arg := by
  intro k
  induction k with
  | zero => intro _ o ho; cases ho
  | succ k ih =>
    intro hk o ho
    cases hx : os[k]? with
    | none =>
      have he : leanTo os (k + 1) = leanTo os k := by
        show (match os[k]? with | none => leanTo os k | some o => if idleAt os k = true then leanTo os k else leanTo os k ++ [leanOd (placesL os (k + 1)) o]) = _
        rw [hx]
      rw [he] at ho
      exact ih (by omega) o ho
    | some q =>
      have hq := h q (List.mem_of_getElem? hx)
      cases hi : idleAt os k with
      | true =>
        rw [leanTo_idle hx hi] at ho
        exact ih (by omega) o ho
      | false =>
        rw [leanTo_stay hx hi] at ho
        rcases List.mem_append.1 ho with ho | ho
        · exact ih (by omega) o ho
        · simp at ho
          subst ho
          unfold leanOd
          split
          · exact ⟨hq.1, idx_64 (placesL_len os (k + 1)) (by omega) _⟩
          · exact hq
theorem leanOf_few {os : List Od} : (leanOf os).length ≤ 300 := by
  unfold leanOf
  split
  next h => exact Nat.le_trans (leanTo_len _ _) h.1.1
  next => simp
theorem leanOf_64 {os : List Od} (h : ∀ o ∈ os, In64 o.code ∧ In64 o.arg) : ∀ o ∈ leanOf os, In64 o.code ∧ In64 o.arg := by
  unfold leanOf
  split
  next h2 => exact leanTo_64 h _ (by have := h2.1.1; omega)
  next => simp
def posL (L : List Int) : List Int := (List.range 20).map fun (p : Nat) => if (p : Int) ∈ L then (L.idxOf (p : Int) : Int) else -1
end Go.Proofs.YthckkpbjpgfdcaaDoor

namespace Go.Proofs.YthckkpbjpgfdcaaDoor
open Go.ChangeShapes Go.WideShapes Go.ChangeAt Go.RowKit Go.Deep
set_option linter.unusedVariables false
theorem readCellsB : Tryd.prog.cellsOf 5 = 1 := by kernel_rfl
theorem addr_add_b (b off j : Nat) : (⟨b, off, none⟩ : Addr).add j = ⟨b, off + j, none⟩ := by
  unfold Addr.add
  split
  · rename_i h0; subst h0; rfl
  · rfl
theorem read_bytes {H : Type} {enc : TypeId × Value → H} {w : World} {base : Nat} {spare : Nat → Bool} {held : Bool} {m : Nat} {v : Value} {y : DataW H × List MemPlace} (h : DataW.trod enc Tryd.prog w base spare held m 22 [v] = some y) :
    ∃ (A : Option Addr) (n c : Nat), v = .slice A n c ∧ BytesAt w w.heap.size A n ∧ n ≤ c ∧ n ≤ 9223372036854775807 := by
  rcases open_ints Tryd.underlying22 Tryd.underlying5 readCellsB h with ⟨hcs, _⟩ | ⟨a, len, cap, zs, hcs, _, hl, hm, hz, _, hcell, hwz⟩
  · simp at hcs
    subst hcs
    exact ⟨none, 0, 0, rfl, fun k hk => absurd hk (by omega), Nat.le_refl _, by omega⟩
  · simp at hcs
    subst hcs
    have hzl : len ≤ zs.length := by rw [hz]; split <;> omega
    refine ⟨some a, len, cap, rfl, fun k hk => ?_, hl, by unfold maxLen at hm; omega⟩
    have hz0 := hcell 0 (by omega)
    have hc0 := hcell k (by omega)
    obtain ⟨b, off, sp⟩ := a
    have hsp : sp = none := by simpa [Addr.add] using World.cell?_spot hz0
    subst hsp
    rw [addr_add_b] at hc0
    have hb := range_u8 hwz k
    rw [List.getD_eq_getElem?_getD] at hc0
    obtain ⟨x, hx⟩ := Int.eq_ofNat_of_zero_le hb.1
    refine ⟨b, off, x, rfl, World.block_lt_of_cell? w _ hc0, ?_, by omega⟩
    rw [hc0, hx]
end Go.Proofs.YthckkpbjpgfdcaaDoor
