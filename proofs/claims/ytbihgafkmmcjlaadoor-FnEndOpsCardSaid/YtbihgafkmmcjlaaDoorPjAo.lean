/-
  Lemmas, several texts in one: LkM, CutS, EgW, IwI.
-/
import Derived.Test.YtbihgafkmmcjlaaDoorPjAe
import Derived.Test.YtbihgafkmmcjlaaDoorPjAh
import Derived.Test.YtbihgafkmmcjlaaDoorSomeOp
import Derived.Test.YtbihgafkmmcjlaaDoorRunS
import Derived.Test.YtbihgafkmmcjlaaDoorPjAm
import Derived.Test.YtbihgafkmmcjlaaDoorPjAn
import Derived.Deep.RegionHeld3
namespace Go.Proofs.YtbihgafkmmcjlaaDoor
open Go.RowKit
set_option linter.unusedVariables false
def HeldO (q b : Nat) (cs : Array Value) (u v : Value) (w' : World) : Prop := Lies w' q cs 38 ∧ w'.cell? ⟨b, 0, none⟩ = some u ∧ w'.cell? ⟨b, 1, none⟩ = some v
theorem HeldO.below {q b B : Nat} {cs : Array Value} {u v : Value} {X w' : World} (h : HeldO q b cs u v X) (hb : Below B X w') (hq : q < B) (hbB : b < B) : HeldO q b cs u v w' :=
  ⟨h.1.below hb hq, (hb.cell (p := ⟨b, 0, none⟩) hbB).trans h.2.1, (hb.cell (p := ⟨b, 1, none⟩) hbB).trans h.2.2⟩
theorem HeldO.set5 {q b nb : Nat} {cs : Array Value} {u v v0 v1 v2 v3 v4 : Value} {X : World} (h : HeldO q b cs u v X) (hq : q ≠ nb) (hbB : b ≠ nb) : HeldO q b cs u v (set5 X nb v0 v1 v2 v3 v4) :=
  ⟨(set5_block hq).trans h.1, (World.cell?_of_block (w := X) (set5_block hbB)).trans h.2.1, (World.cell?_of_block (w := X) (set5_block hbB)).trans h.2.2⟩
theorem ShBox.next {Y : World} {base q lo : Nat} {p p' : ShPtr} {s t : Shp} (h : ShBox Y base q p s) (ho : ShOwn Y lo p' t) (hq : q < lo) (hb : base ≤ lo) :
    ShBox (set5 Y q (.slice p'.K t.kinds.length p'.c1) (.slice p'.F t.full.length p'.c2) (.slice p'.S t.stack.length p'.c3) (.slice p'.M t.memo.length p'.c4) (.bool t.done)) base q p' t := by
  have o1 : p'.Off q := ho.off (.inl hq)
  exact ⟨(Lies.set5 h.box _ _ _ _ _).2, (ho.mono hb).set5 o1, o1⟩
structure BoxN (X Y : World) (base q : Nat) (p : ShPtr) (s : Shp) (nb : Nat) (p5 : ShPtr) (s5 : Shp) (ok : Bool) (r : Option Shp) : Prop where
  run : ShBox Y base q p s
  box : Lies Y nb (shCells p5 s5) 38
  bel : Below X.heap.size X Y
  good : ∀ t, r = some t → ok = true ∧ s5 = t ∧ ∃ lo, ShOwn Y lo p5 t ∧ X.heap.size ≤ lo
  bad : r = none → ok = false
theorem BoxN.mk' {X Y : World} {base q nb lo : Nat} {p p5 : ShPtr} {s s5 : Shp} {ok : Bool} {r : Option Shp} (h : ShBox Y base q p s) (hz : Lies Y nb #[.slice none 0 0, .slice none 0 0, .slice none 0 0, .slice none 0 0, .bool false] 38)
    (hbl : Below X.heap.size X Y) (hnb : X.heap.size ≤ nb) (ho : p.Off nb) (hq : q ≠ nb) (hl : X.heap.size ≤ lo) (hg : ∀ t, r = some t → ok = true ∧ s5 = t ∧ ShOwn Y lo p5 t ∧ p5.Off nb) (hb : r = none → ok = false) :
    BoxN X (set5 Y nb (.slice p5.K s5.kinds.length p5.c1) (.slice p5.F s5.full.length p5.c2) (.slice p5.S s5.stack.length p5.c3) (.slice p5.M s5.memo.length p5.c4) (.bool s5.done)) base q p s nb p5 s5 ok r :=
  ⟨⟨(set5_block hq).trans h.box, h.own.set5 ho, h.off⟩, (Lies.set5 hz _ _ _ _ _).2, set5_below hbl hnb, fun t ht => by
    obtain ⟨h1, h2, h3, h4⟩ := hg t ht
    exact ⟨h1, h2, lo, h3.set5 h4, hl⟩, hb⟩
structure LkS (w wr : World) (rb base q : Nat) (A : Option Addr) (n c P : Nat) (p : ShPtr) (s : Shp) (Ao : Option Addr) (co : Nat) (acc : List Od) : Prop where
  grew : Grew rb w wr
  rd : ∃ p', p' ≤ P ∧ Rd wr rb A n c p'
  sb : ShBox wr base q p s
  own : OwnO wr base Ao co acc
  apart : ∀ g, blockOf Ao = some g → p.Off g ∧ g ≠ q
  hb : w.heap.size ≤ base
  hq : base ≤ q
  hrb : rb < w.heap.size
  ok : s.Ok
  fit : s.Fits
  mem : ∀ o ∈ acc, OdOk o
theorem ShBox.ofB {w w' : World} {base q : Nat} {p : ShPtr} {s : Shp} (h : ShBox w base q p s) (hq : base ≤ q) (hb : ∀ g, base ≤ g → g < w.heap.size → w'.heap[g]? = w.heap[g]?) : ShBox w' base q p s :=
  ⟨(hb q hq h.box.lt).trans h.box, h.own.ofB hb, h.off⟩
section
variable {w wr w1 : World} {rb base q n c P P' : Nat} {A Ao A2 : Option Addr} {co c2 : Nat} {p p5 : ShPtr} {s t : Shp} {acc zs : List Od}
theorem LkS.turned (h : LkS w wr rb base q A n c P p s Ao co acc) {p1 : Nat} (hg : Grew rb wr w1) (hr : Rd w1 rb A n c p1) (hp : p1 ≤ P') : LkS w w1 rb base q A n c P' p s Ao co acc := by
  have h1 := h.hb
  have h2 := h.hrb
  exact ⟨h.grew.trans hg, ⟨p1, hp, hr⟩, h.sb.ofB h.hq (fun g hg1 hg2 => hg.block g hg2 (by omega)), h.own.of_block (fun g hg1 => hg.block g (h.own.blocks g hg1).2 (by have := (h.own.blocks g hg1).1; omega)), h.apart, h.hb, h.hq, h.hrb, h.ok, h.fit, h.mem⟩
theorem LkS.below (h : LkS w wr rb base q A n c P p s Ao co acc) (hb : Below wr.heap.size wr w1) : LkS w w1 rb base q A n c P p s Ao co acc := by
  obtain ⟨p1, hp1, hr⟩ := h.rd
  exact h.turned (Grew.of_below hb) (hr.below hb) hp1
theorem LkS.next (h : LkS w wr rb base q A n c P p s Ao co acc) {Y : World} {lo : Nat} (hb : Below wr.heap.size wr Y) (ho : ShOwn Y lo p5 t) (hl : wr.heap.size ≤ lo) (hok : t.Ok) (hfit : t.Fits) :
    LkS w (set5 Y q (.slice p5.K t.kinds.length p5.c1) (.slice p5.F t.full.length p5.c2) (.slice p5.S t.stack.length p5.c3) (.slice p5.M t.memo.length p5.c4) (.bool t.done)) rb base q A n c P p5 t Ao co acc := by
  have h2 := h.below hb
  have hql := h.sb.box.lt
  have hqb := h.hq
  have hb1 := h.hb
  have hr1 := h.hrb
  obtain ⟨p1, hp1, hr⟩ := h2.rd
  have hbq : Below q Y (set5 Y q (.slice p5.K t.kinds.length p5.c1) (.slice p5.F t.full.length p5.c2) (.slice p5.S t.stack.length p5.c3) (.slice p5.M t.memo.length p5.c4) (.bool t.done)) := set5_below (Below.refl _ _) (Nat.le_refl _)
  refine ⟨⟨?_, ?_, ?_, ?_, ?_⟩, ⟨p1, hp1, ?_⟩, h2.sb.next ho (by omega) (by omega), h2.own.of_block (fun g hg => set5_block (h2.apart g hg).2), fun g hg => ⟨ho.off (.inl (by have := (h.own.blocks g hg).2; omega)), (h2.apart g hg).2⟩, h.hb, h.hq, h.hrb, hok, hfit, h.mem⟩
  · exact hbq.os.trans h2.grew.os
  · exact hbq.tape.trans h2.grew.tape
  · exact hbq.output.trans h2.grew.output
  · exact Nat.le_trans h2.grew.size hbq.size
  · intro k hk hne
    rw [hbq.block k (by omega)]
    exact h2.grew.block k hk hne
  · exact ⟨hr.box.below hbq (by omega), hr.bytes.later (hbq.mono (by omega)), hr.few⟩
theorem LkS.app (h : LkS w wr rb base q A n c P p s Ao co acc) (lit : Obj) {d : Od} (hg : (wr.alloc lit).grownBy w1 (blockOf Ao)) (hat : blockOf A2 = blockOf Ao ∨ blockOf A2 = some (wr.alloc lit).heap.size) (own : OwnO w1 base A2 c2 zs) (hz : zs = acc ++ [d]) (hd : OdOk d) : LkS w w1 rb base q A n c P p s A2 c2 zs := by
  have h1 := h.hb
  have h2 := h.hrb
  have h3 := h.hq
  have h4 := h.sb.box.lt
  obtain ⟨p1, hp1, hr⟩ := h.rd
  have hrl := hr.box.lt
  have hblk : ∀ k, k < wr.heap.size → blockOf Ao ≠ some k → w1.heap[k]? = wr.heap[k]? := fun k hk hne => (hg.block k (by simp; omega) (fun e => hne e.symm)).trans (Below.heap_alloc wr lit k hk)
  have hsz : wr.heap.size ≤ w1.heap.size := by have := hg.size; simp at this; omega
  have hbl : Below base wr w1 := ((Below.refl wr.heap.size wr).alloc (Nat.le_refl _) lit |>.mono (by omega)).grown hg (by simp; omega) (fun b e => (h.own.blocks b e).1)
  have hAo : ∀ g, blockOf Ao = some g → g < wr.heap.size := fun g hg => (h.own.blocks g hg).2
  have hpo : ∀ g, wr.heap.size ≤ g → p.Off g := fun g hg => h.sb.own.off (.inr hg)
  refine ⟨⟨hbl.os.trans h.grew.os, hbl.tape.trans h.grew.tape, hbl.output.trans h.grew.output, Nat.le_trans h.grew.size hsz, fun k hk hne => (hbl.block k (by omega)).trans (h.grew.block k hk hne)⟩, ⟨p1, hp1, ?_⟩, ?_, own, ?_, h.hb, h.hq, h.hrb, h.ok, h.fit, ?_⟩
  · exact ⟨hr.box.below hbl (by omega), hr.bytes.later (hbl.mono (by omega)), hr.few⟩
  · refine ⟨(hblk q h4 (fun e => (h.apart q e).2 rfl)).trans h.sb.box, ?_, h.sb.off⟩
    have hk := fun (B : Option Addr) (hB : ∀ g, blockOf B = some g → g < wr.heap.size) (hd : ∀ g, blockOf Ao = some g → blockOf B ≠ some g) (g : Nat) (e : blockOf B = some g) => hblk g (hB g e) (fun e2 => hd g e2 e)
    exact ⟨h.sb.own.k.ofB (hk p.K (fun g e => (h.sb.own.k.blocks g e).2) (fun g e => (h.apart g e).1.k)), h.sb.own.f.ofB (hk p.F (fun g e => (h.sb.own.f.blocks g e).2) (fun g e => (h.apart g e).1.f)), h.sb.own.t.ofB (hk p.S (fun g e => (h.sb.own.t.blocks g e).2) (fun g e => (h.apart g e).1.t)), h.sb.own.m.ofB (hk p.M (fun g e => (h.sb.own.m.blocks g e).2) (fun g e => (h.apart g e).1.m)), h.sb.own.kf, h.sb.own.kt, h.sb.own.km, h.sb.own.ft, h.sb.own.fm, h.sb.own.tm⟩
  · intro g hg2
    rcases hat with e | e
    · exact h.apart g (e ▸ hg2)
    · rw [e] at hg2
      injection hg2 with hg2
      simp at hg2
      exact ⟨hpo g (by omega), by omega⟩
  · intro o ho
    rw [hz] at ho
    rcases List.mem_append.1 ho with ho | ho
    · exact h.mem o ho
    · rw [List.mem_singleton.1 ho]; exact hd
end
end Go.Proofs.YtbihgafkmmcjlaaDoor

namespace Go.Proofs.YtbihgafkmmcjlaaDoor
open Go.RowKit
set_option linter.unusedVariables false
set_option maxRecDepth 100000 in
set_option maxHeartbeats 1000000 in
theorem specCutOps_any (A : Option Addr) (os : List Od) (c : Nat) (w : World) (h : OpsAt w w.heap.size A os) (hnil : A = none → c = 0) (hc : os.length ≤ c) :
    Calls Tryd.prog 35 #[.slice A os.length c] w (GivesOps w (cutOf os)) := by
  have Hnil := hide hnil
  clear hnil
  by_cases hok : OpsOk os
  · have ht := hide (tf_true hok)
    have Hok := hide hok
    have hl := hok.1
    have hn := (runNew_le hok.2).2.2
    have HE := hide (cutOf_ok hok)
    obtain ⟨n, hnd⟩ : ∃ n, n = (runShp Shp.new os).2 := ⟨_, rfl⟩
    have Hnd := hide hnd
    rw [← hnd] at hn
    have HT : Hid ((os.take n).length = n) := hide (by simp; omega)
    have hnc : (n : Int) ≤ (c : Int) := by omega
    clear hok hnd
    go_enter Tryd.func35, Tryd.ntmps35
    go_wp2_with fail
    refine (specValidOps_any A os c w h).mono ?_
    rintro e w1 ⟨rfl, hb1⟩
    rw [ht.out]
    have h1 := h.later hb1 (Nat.le_refl _)
    go_wp2_with fail
    have HC := runShapes_any A os c w1 h1 Hok.out.2
    obtain ⟨sF, hsF⟩ : ∃ s, s = (runShp Shp.new os).1 := ⟨_, rfl⟩
    have e2 : runShp Shp.new os = (sF, n) := by rw [hsF, Hnd.out]
    rw [e2] at HC
    clear e2 hsF
    refine HC.mono ?_
    clear HC
    rintro e w2 ⟨p, rfl, _, hb2⟩
    have HB2 := hide (hb1.trans (hb2.mono hb1.size))
    clear hb1 hb2 h1
    simp only [shVal, shCells]
    have HB3 := hide (HB2.out.alloc HB2.out.size (.cells #[.slice p.K sF.kinds.length p.c1, .slice p.F sF.full.length p.c2, .slice p.S sF.stack.length p.c3, .slice p.M sF.memo.length p.c4, .bool sF.done] 38))
    go_upto_region 4 with fail
    generalize w2.alloc (.cells #[.slice p.K sF.kinds.length p.c1, .slice p.F sF.full.length p.c2, .slice p.S sF.stack.length p.c3, .slice p.M sF.memo.length p.c4, .bool sF.done] 38) = w3 at HB3 ⊢
    have HO := hide ((OwnO.bare w3).mono HB3.out.size)
    have HB4 := hide (HB3.out.alloc HB3.out.size (.cells #[] 42))
    go_wp2_with (at_builtin; refine append_ops rfl (.tmp 13) (.tmp 16) rfl w.heap.size _ 0 [] rfl HO.out w.heap.size A c (os.take n) (congrArg (fun k => Value.slice A k c) HT.out.symm) Hnil.out ((h.upto n).below HB4.out) (by simp; omega) HB4.out.size ?_; intro zs A5 c5 w5 e5 own5 hg5 _; have HG5 := hide hg5; have HO5 := hide own5; clear hg5 own5)
    go_ret
    have e6 : zs = cutOf os := by rw [e5.out, HE.out, ← Hnd.out, List.nil_append]
    subst e6
    exact ⟨A5, c5, rfl, HO5.out, below_grown HB4.out HG5.out HB4.out.size (fun q hq => (HO.out.blocks q hq).1)⟩
  · rw [cutOf_no hok]
    have ht := hide (tf_false hok)
    clear hok
    go_enter Tryd.func35, Tryd.ntmps35
    go_wp2_with fail
    refine (specValidOps_any A os c w h).mono ?_
    rintro e w1 ⟨rfl, hb1⟩
    rw [ht.out]
    go_wp2
    go_ret
    exact ⟨none, 0, rfl, OwnO.empty _ _, hb1⟩
end Go.Proofs.YtbihgafkmmcjlaaDoor

namespace Go.Proofs.YtbihgafkmmcjlaaDoor
open Go.RowKit
set_option linter.unusedVariables false
def GivesEndI (w : World) (r : Option (List Od)) (e : Ending) (w' : World) : Prop := ∃ A c, e = .returned (.tuple #[.slice A (r.getD []).length c, .bool r.isSome]) ∧ OwnO w' w.heap.size A c (r.getD []) ∧ Below w.heap.size w w'
set_option maxRecDepth 100000 in
set_option maxHeartbeats 1000000 in
theorem implEndOps_ok (A : Option Addr) (os : List Od) (c : Nat) (w : World) (h : OpsAt w w.heap.size A os) (hF : FormsAt w w.heap.size) (hN : NeedsAt w w.heap.size) (hok : OpsOk os) :
    Calls Tryd.prog 5 #[.slice A os.length c] w (GivesEndI w (endOf os)) := by
  have HC := hide (implShapesOf_ok A os c w h hF hN hok)
  obtain ⟨q1, q2, q3⟩ := run_few (s := Shp.new) (os := os) Shp.new_ok hok.2
  have q2 : (runShp Shp.new os).1.kinds.length ≤ (runShp Shp.new os).2 := by simpa [Shp.new] using q2
  have q3 : (runShp Shp.new os).1.stack.length ≤ (runShp Shp.new os).2 := by simpa [Shp.new] using q3
  have hn : (runShp Shp.new os).2 ≤ 300 := Nat.le_trans (run_le hok.2) hok.1
  rw [end_of hok]
  obtain ⟨R, hR⟩ : ∃ R, R = runShp Shp.new os := ⟨_, rfl⟩
  rw [← hR] at q1 q2 q3 hn HC ⊢
  clear hR
  obtain ⟨s0, n⟩ := R
  simp only at q1 q2 q3 hn ⊢
  obtain ⟨V, hV⟩ : ∃ V, V = (if s0.done = true then some [] else if n + (tailOps s0.stack).length ≤ 300 then some (tailOps s0.stack) else none) := ⟨_, rfl⟩
  rw [← hV]
  obtain ⟨tail, ht⟩ : ∃ t, t = if s0.done = true then [] else tailOps s0.stack := ⟨_, rfl⟩
  have HE0 : Hid (Ended n tail [] s0) := hide (by
    refine ⟨q1, by simpa using q2, by simpa using q3, by simpa using hn, ?_⟩
    by_cases hd : s0.done = true
    · exact .inl ⟨hd, by rw [ht, if_pos hd]⟩
    · exact .inr ⟨by simpa using hd, by rw [ht, if_neg hd]; rfl⟩)
  have HV : Hid (V = if n + tail.length ≤ 300 then some tail else none) := hide (by
    rw [hV, ht]
    by_cases hd : s0.done = true
    · rw [if_pos hd, if_pos hd, if_pos (by simpa using hn)]
    · rw [if_neg hd, if_neg hd])
  clear hV ht q1 q2 q3
  have HFw := hide hF
  have HNw := hide hN
  clear h hF hN hok
  have hn1 : ((n : Int) == -1) = false := by rw [beq_eq_false_iff_ne]; omega
  go_enter Tryd.func5, Tryd.ntmps5
  go_wp2_with fail
  refine HC.out.mono ?_
  clear HC
  rintro e w1 ⟨p, rfl, ho, hb1⟩
  have HS0 := hide (show EgS w (w1.alloc (.cells (shCells p s0) 38)) w1.heap.size p s0 none 0 [] from
    ⟨(ShBox.new ho).sb, OwnO.empty _ _, by simp [blockOf], fun b hb => (by cases hb), hb1.alloc hb1.size _, hb1.size⟩)
  clear ho hb1
  simp only [shVal, shCells] at HS0 ⊢
  go_wp2_with fail
  generalize w1.alloc (.cells #[.slice p.K s0.kinds.length p.c1, .slice p.F s0.full.length p.c2, .slice p.S s0.stack.length p.c3, .slice p.M s0.memo.length p.c4, .bool s0.done] 38) = W at HS0 ⊢
  generalize w1.heap.size = q at HS0 ⊢
  go_loopg [6] (300 - n) (fun gk ev wr => ∃ (p : ShPtr) (s : Shp) (Ae : Option Addr) (ce : Nat) (acc : List Od), gk = 300 - (n + acc.length) ∧ ev = .slice Ae acc.length ce ∧ EgS w wr q p s Ae ce acc ∧ Ended n tail acc s)
  case atStart => exact ⟨p, s0, none, 0, [], rfl, rfl, HS0.out, HE0.out⟩
  case round =>
    clear HS0 HE0
    obtain ⟨p, s, Ae, ce, acc, rfl, rfl, hS, hE⟩ := hrel
    have HS := hide hS
    have HE := hide hE
    have hal := hE.le
    clear hS hE
    obtain ⟨e0, e1, e2, e3, e4, f0, f1, f2, f3, f4⟩ := HS.out.sb.c
    simp only [Nat.zero_add] at e0 e1 e2 e3 e4
    obtain ⟨d, hd⟩ : ∃ d, s.done = d := ⟨_, rfl⟩
    rw [hd] at e4
    cases d
    · have Hd := hide hd
      have HG := hide (endingOp_any q w.heap.size 0 p s _ HS.out.sb HE.out.small HE.out.ok)
      obtain ⟨o, ho⟩ : ∃ o, endOp s.stack = o := ⟨_, rfl⟩
      have Hok := hide (show OdOk o from by rw [← ho]; exact endOp_ok _)
      rw [ho] at HG
      have Ho := hide ho
      clear hd ho
      go_wp2_with fail
      refine HG.out.mono ?_
      clear HG
      rintro e w2 ⟨rfl, hb2⟩
      have HS2 := hide ((HS.out.below hb2).below ((Below.refl w2.heap.size w2).alloc (Nat.le_refl _) (.cells #[.int .i64 o.code, .int .i64 o.arg] 42)))
      have LO := hide (Lies.new w2 #[.int .i64 o.code, .int .i64 o.arg] 42)
      have hoff := (HS.out.below hb2).sb.own.off (.inr (Nat.le_refl w2.heap.size))
      have hqn : w2.heap.size ≠ q := by have := (HS.out.below hb2).sb.lt; omega
      clear HS hb2 e0 e1 e2 e3 e4 f0 f1 f2 f3 f4
      by_cases hlong : 300 ≤ n + acc.length
      · have hb : decide ((300 : Int) ≤ (n : Int) + (acc.length : Int)) = true := by simp; omega
        obtain rfl : V = none := by rw [HV.out, if_neg (HE.out.long Hd.out hlong)]
        have HBx := hide HS2.out.bel
        go_wp2_with fail
        go_ret2
        exact ⟨none, 0, rfl, OwnO.empty _ _, HBx.out⟩
      · have hb : decide ((300 : Int) ≤ (n : Int) + (acc.length : Int)) = false := by simp; omega
        obtain ⟨t, hst, hEn⟩ := HE.out.next Hd.out (by omega)
        rw [Ho.out] at hst hEn
        obtain ⟨⟨ho1, ho2⟩, ho3, ho4⟩ := (OdOk.iff _).1 Hok.out
        obtain ⟨cd, ar⟩ := o
        simp only at ho1 ho2 ho3 ho4 HS2 LO
        obtain ⟨cn, rfl⟩ := Int.eq_ofNat_of_zero_le ho1
        have hcn : cn < 20 := by omega
        have har : cn = 15 ∨ cn = 16 → 0 ≤ ar ∧ ar < 20 := fun hh => ⟨ho3, by rcases hh with rfl | rfl <;> simp [argTop, argMost] at ho4 <;> omega⟩
        have HEn := hide hEn
        have HCs := hide (step_yes q w.heap.size 0 p s t cn ar _ HS2.out.sb HE.out.small HS2.out.bel.size (HFw.out.later HS2.out.bel (Nat.le_refl _)) (HNw.out.later HS2.out.bel (Nat.le_refl _)) hcn har hst)
        clear hst hEn ho1 ho2 ho3 ho4 hcn har
        go_wp2_with fail
        refine HCs.out.mono ?_
        clear HCs
        rintro e w3 ⟨rfl, p', hSn, hFn⟩
        have HS3 := hide (HS2.out.step hSn hFn)
        have LO3 : Lies w3 w2.heap.size #[.int .i64 (cn : Int), .int .i64 ar] 42 := (hFn.blk w2.heap.size (by simp) hqn hoff).trans LO.out
        have d0 := LO3.cell 0
        have d1 := LO3.cell 1
        simp only [jD, jE, jF] at d0 d1
        have hwz := HS3.out.bel.size
        have HNw3 := hide (Lies.new w3 #[.int .i64 (cn : Int), .int .i64 ar] 42)
        clear hSn hFn LO3 HS2 LO hoff hqn
        go_wp2_with (at_builtin; refine append_op rfl (.tmp 29) (.tmp 31) rfl w.heap.size Ae ce acc rfl (HS3.out.own.alloc _) w3.heap.size ⟨(cn : Int), ar⟩ 42 rfl HNw3.out (by omega) (by simp; omega) ?_; intro zs A9 c9 w9 hz9 ho9 hg9 ha9; have HS9 := hide (HS3.out.push ho9 hg9 ha9); have hzl : zs.length = acc.length + 1 := (by rw [hz9.out]; simp); clear ho9 hg9 ha9)
        go_roundg (300 - (n + zs.length))
        case measure => omega
        case rel => exact ⟨p', t, A9, c9, zs, rfl, by rw [hzl], HS9.out, by rw [hz9.out]; exact HEn.out⟩
    · have hf := HE.out.fin hd
      subst hf
      obtain rfl : V = some tail := by rw [HV.out, if_pos hal]
      have HX := hide (And.intro HS.out.own HS.out.bel)
      go_wp2
      go_ret2
      exact ⟨Ae, ce, rfl, HX.out.1, HX.out.2⟩
set_option maxRecDepth 100000 in
set_option maxHeartbeats 1000000 in
theorem implEndOps_bad (A : Option Addr) (os : List Od) (c : Nat) (w : World) (h : OpsAt w w.heap.size A os) (hF : FormsAt w w.heap.size) (hok : ¬ OpsOk os) :
    Calls Tryd.prog 5 #[.slice A os.length c] w (GivesEndI w (endOf os)) := by
  have HC := hide (implShapesOf_bad A os c w h hF hok)
  rw [end_bad hok]
  clear h hF hok
  go_enter Tryd.func5, Tryd.ntmps5
  go_wp2_with fail
  refine HC.out.mono ?_
  clear HC
  rintro e w1 ⟨rfl, hb1⟩
  have HB := hide (hb1.alloc hb1.size (.cells (shCells ShPtr.nil Shp.zero) 38))
  clear hb1
  simp only [shVal, shCells, ShPtr.nil, Shp.zero, List.length_nil] at HB ⊢
  go_wp2
  go_ret2
  exact ⟨none, 0, rfl, OwnO.empty _ _, HB.out⟩
theorem implEndOps_any (A : Option Addr) (os : List Od) (c : Nat) (w : World) (h : OpsAt w w.heap.size A os) (hF : FormsAt w w.heap.size) (hN : NeedsAt w w.heap.size) :
    Calls Tryd.prog 5 #[.slice A os.length c] w (GivesEndI w (endOf os)) := by
  by_cases hok : OpsOk os
  · exact implEndOps_ok A os c w h hF hN hok
  · exact implEndOps_bad A os c w h hF hok
end Go.Proofs.YtbihgafkmmcjlaaDoor

namespace Go.Proofs.YtbihgafkmmcjlaaDoor
open Go.RowKit
set_option linter.unusedVariables false
set_option maxRecDepth 100000 in
set_option maxHeartbeats 1000000 in
theorem implIsWhole_any (A : Option Addr) (os : List Od) (c : Nat) (w : World) (h : OpsAt w w.heap.size A os) (hF : FormsAt w w.heap.size) (hN : NeedsAt w w.heap.size) :
    Calls Tryd.prog 10 #[.slice A os.length c] w fun e w' => e = .returned (.bool (tf (Whole os))) ∧ Below w.heap.size w w' := by
  by_cases hok : OpsOk os
  · have hl := hok.1
    have HC := hide (implShapesOf_ok A os c w h hF hN hok)
    have HV := hide (show tf (Whole os) = tf ((runShp Shp.new os).2 = os.length ∧ (runShp Shp.new os).1.done = true) from tf_congr ⟨fun h => h.2, fun h => ⟨hok, h⟩⟩)
    have hnl := (runShp_ok (s := Shp.new) (os := os) Shp.new_ok ⟨by simp [Shp.new], by simp [Shp.new]⟩ (fun o ho => (hok.2 o ho).get)).2.2
    obtain ⟨R, hR⟩ : ∃ R, R = runShp Shp.new os := ⟨_, rfl⟩
    rw [← hR] at HC HV hnl
    clear hR hok
    obtain ⟨s, n⟩ := R
    simp only at hnl
    have n3 : ((-1 : Int) == (os.length : Int)) = false := by simp <;> omega
    have n1 : ((n : Int) == -1) = false := by simp <;> omega
    by_cases hn : n = os.length
    · subst hn
      have HV3 := hide (show tf (Whole os) = s.done from by
        rw [HV.out]
        cases s.done
        · exact tf_false fun h => by simp at h
        · exact tf_true ⟨rfl, rfl⟩)
      clear HV
      go_enter Tryd.func10, Tryd.ntmps10
      go_wp2_with fail
      refine HC.out.mono ?_
      rintro e w2 ⟨p, rfl, ho, hb⟩
      have HB := hide (hb.alloc hb.size (.cells (shCells p s) 38))
      simp only [shVal, shCells] at HB ⊢
      clear ho hb HC
      go_wp2
      go_ret
      exact ⟨ret_bool HV3.out.symm, HB.out⟩
    · have n2 : ((n : Int) == (os.length : Int)) = false := by simp; omega
      have HV2 := hide (show tf (Whole os) = false by rw [HV.out]; exact tf_false fun h => hn h.1)
      clear hn HV
      go_enter Tryd.func10, Tryd.ntmps10
      go_wp2_with fail
      refine HC.out.mono ?_
      rintro e w2 ⟨p, rfl, ho, hb⟩
      have HB := hide (hb.alloc hb.size (.cells (shCells p s) 38))
      simp only [shVal, shCells] at HB ⊢
      clear ho hb HC
      go_wp2
      go_ret
      exact ⟨ret_bool HV2.out.symm, HB.out⟩
  · have HC := hide (implShapesOf_bad A os c w h hF hok)
    have HV := hide (show tf (Whole os) = false from tf_false fun h => hok h.1)
    have n3 : ((-1 : Int) == (os.length : Int)) = false := by simp <;> omega
    clear hok
    go_enter Tryd.func10, Tryd.ntmps10
    go_wp2_with fail
    refine HC.out.mono ?_
    rintro e w2 ⟨rfl, hb⟩
    have HB := hide (hb.alloc hb.size (.cells (shCells ShPtr.nil Shp.zero) 38))
    simp only [shVal, shCells, ShPtr.nil, Shp.zero, List.length_nil] at HB ⊢
    clear hb HC
    go_wp2
    go_ret
    exact ⟨ret_bool HV.out.symm, HB.out⟩
end Go.Proofs.YtbihgafkmmcjlaaDoor
