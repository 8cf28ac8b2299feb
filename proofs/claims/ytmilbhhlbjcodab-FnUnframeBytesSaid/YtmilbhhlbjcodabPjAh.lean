/-
  Lemmas, several texts in one: LkM, CutS, EncM, Bof, UfS, FF.
-/
import Derived.Test.YtmilbhhlbjcodabPjAg
import Derived.Test.YtmilbhhlbjcodabPjAf
import Derived.Test.YtmilbhhlbjcodabSomeOp
import Derived.Test.YtmilbhhlbjcodabPjAd
import Derived.Test.YtmilbhhlbjcodabRunS
import Derived.Test.YtmilbhhlbjcodabPjAe
import Derived.Test.YtmilbhhlbjcodabPjAb
import Derived.Deep.LoopGhost
import Derived.Deep.RegionLaw
import Derived.Test.YtmilbhhlbjcodabPjAa
namespace Go.Proofs.Ytmilbhhlbjcodab
open Go.RowKit
set_option linter.unusedVariables false
def HeldO (q b : Nat) (cs : Array Value) (u v : Value) (w' : World) : Prop := Lies w' q cs 62 ∧ w'.cell? ⟨b, 0, none⟩ = some u ∧ w'.cell? ⟨b, 1, none⟩ = some v
theorem HeldO.below {q b B : Nat} {cs : Array Value} {u v : Value} {X w' : World} (h : HeldO q b cs u v X) (hb : Below B X w') (hq : q < B) (hbB : b < B) : HeldO q b cs u v w' :=
  ⟨h.1.below hb hq, (hb.cell (p := ⟨b, 0, none⟩) hbB).trans h.2.1, (hb.cell (p := ⟨b, 1, none⟩) hbB).trans h.2.2⟩
theorem HeldO.set5 {q b nb : Nat} {cs : Array Value} {u v v0 v1 v2 v3 v4 : Value} {X : World} (h : HeldO q b cs u v X) (hq : q ≠ nb) (hbB : b ≠ nb) : HeldO q b cs u v (set5 X nb v0 v1 v2 v3 v4) :=
  ⟨(set5_block hq).trans h.1, (World.cell?_of_block (w := X) (set5_block hbB)).trans h.2.1, (World.cell?_of_block (w := X) (set5_block hbB)).trans h.2.2⟩
theorem ShBox.next {Y : World} {base q lo : Nat} {p p' : ShPtr} {s t : Shp} (h : ShBox Y base q p s) (ho : ShOwn Y lo p' t) (hq : q < lo) (hb : base ≤ lo) :
    ShBox (set5 Y q (.slice p'.K t.kinds.length p'.c1) (.slice p'.F t.full.length p'.c2) (.slice p'.S t.stack.length p'.c3) (.slice p'.M t.memo.length p'.c4) (.bool t.done)) base q p' t := by
  have o1 : p'.Off q := ho.off (.inl hq)
  exact ⟨(Lies.set5 h.box _ _ _ _ _).2, (ho.mono hb).set5 o1, o1⟩
structure BoxN (X Y : World) (base q : Nat) (p : ShPtr) (s : Shp) (nb : Nat) (p5 : ShPtr) (s5 : Shp) (ok : Bool) (r : Option Shp) : Prop where
  run : ShBox Y base q p s
  box : Lies Y nb (shCells p5 s5) 62
  bel : Below X.heap.size X Y
  good : ∀ t, r = some t → ok = true ∧ s5 = t ∧ ∃ lo, ShOwn Y lo p5 t ∧ X.heap.size ≤ lo
  bad : r = none → ok = false
theorem BoxN.mk' {X Y : World} {base q nb lo : Nat} {p p5 : ShPtr} {s s5 : Shp} {ok : Bool} {r : Option Shp} (h : ShBox Y base q p s) (hz : Lies Y nb #[.slice none 0 0, .slice none 0 0, .slice none 0 0, .slice none 0 0, .bool false] 62)
    (hbl : Below X.heap.size X Y) (hnb : X.heap.size ≤ nb) (ho : p.Off nb) (hq : q ≠ nb) (hl : X.heap.size ≤ lo) (hg : ∀ t, r = some t → ok = true ∧ s5 = t ∧ ShOwn Y lo p5 t ∧ p5.Off nb) (hb : r = none → ok = false) :
    BoxN X (set5 Y nb (.slice p5.K s5.kinds.length p5.c1) (.slice p5.F s5.full.length p5.c2) (.slice p5.S s5.stack.length p5.c3) (.slice p5.M s5.memo.length p5.c4) (.bool s5.done)) base q p s nb p5 s5 ok r :=
  ⟨⟨(set5_block hq).trans h.box, h.own.set5 ho, h.off⟩, (Lies.set5 hz _ _ _ _ _).2, set5_below hbl hnb, fun t ht => by
    obtain ⟨h1, h2, h3, h4⟩ := hg t ht
    exact ⟨h1, h2, lo, h3.set5 h4, hl⟩, hb⟩
structure LkS (w wr : World) (rb base q : Nat) (A : Option Addr) (n c P : Nat) (p : ShPtr) (s : Shp) (Ao : Option Addr) (co : Nat) (acc : List Od) : Prop where
  grew : Grew rb w wr
  rd : ∃ p', p' ≤ P ∧ Rd wr rb A n c p'
  sb : ShBox wr base q p s
  own : OwnO wr base Ao co acc
  apart : ∀ g, blockOf Ao = some g → p.Off g ∧ g ≠ q
  hb : w.heap.size ≤ base
  hq : base ≤ q
  hrb : rb < w.heap.size
  ok : s.Ok
  fit : s.Fits
  mem : ∀ o ∈ acc, OdOk o
theorem ShBox.ofB {w w' : World} {base q : Nat} {p : ShPtr} {s : Shp} (h : ShBox w base q p s) (hq : base ≤ q) (hb : ∀ g, base ≤ g → g < w.heap.size → w'.heap[g]? = w.heap[g]?) : ShBox w' base q p s :=
  ⟨(hb q hq h.box.lt).trans h.box, h.own.ofB hb, h.off⟩
section
variable {w wr w1 : World} {rb base q n c P P' : Nat} {A Ao A2 : Option Addr} {co c2 : Nat} {p p5 : ShPtr} {s t : Shp} {acc zs : List Od}
theorem LkS.turned (h : LkS w wr rb base q A n c P p s Ao co acc) {p1 : Nat} (hg : Grew rb wr w1) (hr : Rd w1 rb A n c p1) (hp : p1 ≤ P') : LkS w w1 rb base q A n c P' p s Ao co acc := by
  have h1 := h.hb
  have h2 := h.hrb
  exact ⟨h.grew.trans hg, ⟨p1, hp, hr⟩, h.sb.ofB h.hq (fun g hg1 hg2 => hg.block g hg2 (by omega)), h.own.of_block (fun g hg1 => hg.block g (h.own.blocks g hg1).2 (by have := (h.own.blocks g hg1).1; omega)), h.apart, h.hb, h.hq, h.hrb, h.ok, h.fit, h.mem⟩
theorem LkS.below (h : LkS w wr rb base q A n c P p s Ao co acc) (hb : Below wr.heap.size wr w1) : LkS w w1 rb base q A n c P p s Ao co acc := by
  obtain ⟨p1, hp1, hr⟩ := h.rd
  exact h.turned (Grew.of_below hb) (hr.below hb) hp1
theorem LkS.next (h : LkS w wr rb base q A n c P p s Ao co acc) {Y : World} {lo : Nat} (hb : Below wr.heap.size wr Y) (ho : ShOwn Y lo p5 t) (hl : wr.heap.size ≤ lo) (hok : t.Ok) (hfit : t.Fits) :
    LkS w (set5 Y q (.slice p5.K t.kinds.length p5.c1) (.slice p5.F t.full.length p5.c2) (.slice p5.S t.stack.length p5.c3) (.slice p5.M t.memo.length p5.c4) (.bool t.done)) rb base q A n c P p5 t Ao co acc := by
  have h2 := h.below hb
  have hql := h.sb.box.lt
  have hqb := h.hq
  have hb1 := h.hb
  have hr1 := h.hrb
  obtain ⟨p1, hp1, hr⟩ := h2.rd
  have hbq : Below q Y (set5 Y q (.slice p5.K t.kinds.length p5.c1) (.slice p5.F t.full.length p5.c2) (.slice p5.S t.stack.length p5.c3) (.slice p5.M t.memo.length p5.c4) (.bool t.done)) := set5_below (Below.refl _ _) (Nat.le_refl _)
  refine ⟨⟨?_, ?_, ?_, ?_, ?_⟩, ⟨p1, hp1, ?_⟩, h2.sb.next ho (by omega) (by omega), h2.own.of_block (fun g hg => set5_block (h2.apart g hg).2), fun g hg => ⟨ho.off (.inl (by have := (h.own.blocks g hg).2; omega)), (h2.apart g hg).2⟩, h.hb, h.hq, h.hrb, hok, hfit, h.mem⟩
  · exact hbq.os.trans h2.grew.os
  · exact hbq.tape.trans h2.grew.tape
  · exact hbq.output.trans h2.grew.output
  · exact Nat.le_trans h2.grew.size hbq.size
  · intro k hk hne
    rw [hbq.block k (by omega)]
    exact h2.grew.block k hk hne
  · exact ⟨hr.box.below hbq (by omega), hr.bytes.later (hbq.mono (by omega)), hr.few⟩
theorem LkS.app (h : LkS w wr rb base q A n c P p s Ao co acc) (lit : Obj) {d : Od} (hg : (wr.alloc lit).grownBy w1 (blockOf Ao)) (hat : blockOf A2 = blockOf Ao ∨ blockOf A2 = some (wr.alloc lit).heap.size) (own : OwnO w1 base A2 c2 zs) (hz : zs = acc ++ [d]) (hd : OdOk d) : LkS w w1 rb base q A n c P p s A2 c2 zs := by
  have h1 := h.hb
  have h2 := h.hrb
  have h3 := h.hq
  have h4 := h.sb.box.lt
  obtain ⟨p1, hp1, hr⟩ := h.rd
  have hrl := hr.box.lt
  have hblk : ∀ k, k < wr.heap.size → blockOf Ao ≠ some k → w1.heap[k]? = wr.heap[k]? := fun k hk hne => (hg.block k (by simp; omega) (fun e => hne e.symm)).trans (Below.heap_alloc wr lit k hk)
  have hsz : wr.heap.size ≤ w1.heap.size := by have := hg.size; simp at this; omega
  have hbl : Below base wr w1 := ((Below.refl wr.heap.size wr).alloc (Nat.le_refl _) lit |>.mono (by omega)).grown hg (by simp; omega) (fun b e => (h.own.blocks b e).1)
  have hAo : ∀ g, blockOf Ao = some g → g < wr.heap.size := fun g hg => (h.own.blocks g hg).2
  have hpo : ∀ g, wr.heap.size ≤ g → p.Off g := fun g hg => h.sb.own.off (.inr hg)
  refine ⟨⟨hbl.os.trans h.grew.os, hbl.tape.trans h.grew.tape, hbl.output.trans h.grew.output, Nat.le_trans h.grew.size hsz, fun k hk hne => (hbl.block k (by omega)).trans (h.grew.block k hk hne)⟩, ⟨p1, hp1, ?_⟩, ?_, own, ?_, h.hb, h.hq, h.hrb, h.ok, h.fit, ?_⟩
  · exact ⟨hr.box.below hbl (by omega), hr.bytes.later (hbl.mono (by omega)), hr.few⟩
  · refine ⟨(hblk q h4 (fun e => (h.apart q e).2 rfl)).trans h.sb.box, ?_, h.sb.off⟩
    have hk := fun (B : Option Addr) (hB : ∀ g, blockOf B = some g → g < wr.heap.size) (hd : ∀ g, blockOf Ao = some g → blockOf B ≠ some g) (g : Nat) (e : blockOf B = some g) => hblk g (hB g e) (fun e2 => hd g e2 e)
    exact ⟨h.sb.own.k.ofB (hk p.K (fun g e => (h.sb.own.k.blocks g e).2) (fun g e => (h.apart g e).1.k)), h.sb.own.f.ofB (hk p.F (fun g e => (h.sb.own.f.blocks g e).2) (fun g e => (h.apart g e).1.f)), h.sb.own.t.ofB (hk p.S (fun g e => (h.sb.own.t.blocks g e).2) (fun g e => (h.apart g e).1.t)), h.sb.own.m.ofB (hk p.M (fun g e => (h.sb.own.m.blocks g e).2) (fun g e => (h.apart g e).1.m)), h.sb.own.kf, h.sb.own.kt, h.sb.own.km, h.sb.own.ft, h.sb.own.fm, h.sb.own.tm⟩
  · intro g hg2
    rcases hat with e | e
    · exact h.apart g (e ▸ hg2)
    · rw [e] at hg2
      injection hg2 with hg2
      simp at hg2
      exact ⟨hpo g (by omega), by omega⟩
  · intro o ho
    rw [hz] at ho
    rcases List.mem_append.1 ho with ho | ho
    · exact h.mem o ho
    · rw [List.mem_singleton.1 ho]; exact hd
end
end Go.Proofs.Ytmilbhhlbjcodab

namespace Go.Proofs.Ytmilbhhlbjcodab
open Go.RowKit
set_option linter.unusedVariables false
set_option maxRecDepth 100000 in
set_option maxHeartbeats 1000000 in
theorem specCutOps_any (A : Option Addr) (os : List Od) (c : Nat) (w : World) (h : OpsAt w w.heap.size A os) (hnil : A = none → c = 0) (hc : os.length ≤ c) :
    Calls Try.prog 38 #[.slice A os.length c] w (GivesOps w (cutOf os)) := by
  have Hnil := hide hnil
  clear hnil
  by_cases hok : OpsOk os
  · have ht := hide (tf_true hok)
    have Hok := hide hok
    have hl := hok.1
    have hn := (runNew_le hok.2).2.2
    have HE := hide (cutOf_ok hok)
    obtain ⟨n, hnd⟩ : ∃ n, n = (runShp Shp.new os).2 := ⟨_, rfl⟩
    have Hnd := hide hnd
    rw [← hnd] at hn
    have HT : Hid ((os.take n).length = n) := hide (by simp; omega)
    have hnc : (n : Int) ≤ (c : Int) := by omega
    clear hok hnd
    go_enter Try.func38, Try.ntmps38
    go_wp2_with fail
    refine (specValidOps_any A os c w h).mono ?_
    rintro e w1 ⟨rfl, hb1⟩
    rw [ht.out]
    have h1 := h.later hb1 (Nat.le_refl _)
    go_wp2_with fail
    have HC := runShapes_any A os c w1 h1 Hok.out.2
    obtain ⟨sF, hsF⟩ : ∃ s, s = (runShp Shp.new os).1 := ⟨_, rfl⟩
    have e2 : runShp Shp.new os = (sF, n) := by rw [hsF, Hnd.out]
    rw [e2] at HC
    clear e2 hsF
    refine HC.mono ?_
    clear HC
    rintro e w2 ⟨p, rfl, _, hb2⟩
    have HB2 := hide (hb1.trans (hb2.mono hb1.size))
    clear hb1 hb2 h1
    simp only [shVal, shCells]
    have HB3 := hide (HB2.out.alloc HB2.out.size (.cells #[.slice p.K sF.kinds.length p.c1, .slice p.F sF.full.length p.c2, .slice p.S sF.stack.length p.c3, .slice p.M sF.memo.length p.c4, .bool sF.done] 62))
    go_upto_region 4 with fail
    generalize w2.alloc (.cells #[.slice p.K sF.kinds.length p.c1, .slice p.F sF.full.length p.c2, .slice p.S sF.stack.length p.c3, .slice p.M sF.memo.length p.c4, .bool sF.done] 62) = w3 at HB3 ⊢
    have HO := hide ((OwnO.bare w3).mono HB3.out.size)
    have HB4 := hide (HB3.out.alloc HB3.out.size (.cells #[] 56))
    go_wp2_with (at_builtin; refine append_ops rfl (.tmp 13) (.tmp 16) rfl w.heap.size _ 0 [] rfl HO.out w.heap.size A c (os.take n) (congrArg (fun k => Value.slice A k c) HT.out.symm) Hnil.out ((h.upto n).below HB4.out) (by simp; omega) HB4.out.size ?_; intro zs A5 c5 w5 e5 own5 hg5 _; have HG5 := hide hg5; have HO5 := hide own5; clear hg5 own5)
    go_ret
    have e6 : zs = cutOf os := by rw [e5.out, HE.out, ← Hnd.out, List.nil_append]
    subst e6
    exact ⟨A5, c5, rfl, HO5.out, below_grown HB4.out HG5.out HB4.out.size (fun q hq => (HO.out.blocks q hq).1)⟩
  · rw [cutOf_no hok]
    have ht := hide (tf_false hok)
    clear hok
    go_enter Try.func38, Try.ntmps38
    go_wp2_with fail
    refine (specValidOps_any A os c w h).mono ?_
    rintro e w1 ⟨rfl, hb1⟩
    rw [ht.out]
    go_wp2
    go_ret
    exact ⟨none, 0, rfl, OwnO.empty _ _, hb1⟩
end Go.Proofs.Ytmilbhhlbjcodab

namespace Go.Proofs.Ytmilbhhlbjcodab
set_option linter.unusedVariables false
def encA (a : Int) : List Int := if a < 128 then [a] else [128 + a % 128, a / 128]
def encO (o : Od) : List Int := if argMost o.code < 0 then [o.code] else o.code :: encA o.arg
def encs (os : List Od) : List Int := os.flatMap encO
theorem encA_short {a : Int} (h : a < 128) : encA a = [a] := by unfold encA; rw [if_pos h]
theorem encA_long {a : Int} (h : ¬ a < 128) : encA a = [128 + a % 128, a / 128] := by unfold encA; rw [if_neg h]
theorem encO_bare {o : Od} (h : argMost o.code < 0) : encO o = [o.code] := by unfold encO; rw [if_pos h]
theorem encO_arg {o : Od} (h : ¬ argMost o.code < 0) : encO o = o.code :: encA o.arg := by unfold encO; rw [if_neg h]
theorem encA_len (a : Int) : 1 ≤ (encA a).length ∧ (encA a).length ≤ 2 := by unfold encA; split <;> simp
theorem encO_len (o : Od) : 1 ≤ (encO o).length ∧ (encO o).length ≤ 3 := by
  have := encA_len o.arg
  unfold encO
  split
  · simp
  · simp only [List.length_cons]; omega
theorem encO_byte {o : Od} (h : OdOk o) : ∀ x ∈ encO o, 0 ≤ x ∧ x ≤ 255 := by
  obtain ⟨h1, h2⟩ := h
  have hm := argMost_range o.code
  intro x hx
  unfold encO encA at hx
  split at hx
  · simp at hx; omega
  · split at hx
    · simp at hx
      omega
    · simp at hx
      omega
theorem encs_cons (o : Od) (os : List Od) : encs (o :: os) = encO o ++ encs os := by simp [encs]
theorem encs_append (os ps : List Od) : encs (os ++ ps) = encs os ++ encs ps := by simp [encs]
theorem encs_next {os : List Od} {k : Nat} {o : Od} (h : os[k]? = some o) : encs (os.take (k + 1)) = encs (os.take k) ++ encO o := by
  rw [List.take_add_one, h, encs_append]
  simp [encs]
theorem encs_len (os : List Od) : os.length ≤ (encs os).length ∧ (encs os).length ≤ 3 * os.length := by
  induction os with
  | nil => simp [encs]
  | cons o os ih =>
    have := encO_len o
    rw [encs_cons, List.length_append, List.length_cons]
    omega
theorem encs_byte {os : List Od} (h : ∀ o ∈ os, OdOk o) : ∀ x ∈ encs os, 0 ≤ x ∧ x ≤ 255 := by
  intro x hx
  obtain ⟨o, ho, hx⟩ := List.mem_flatMap.1 hx
  exact encO_byte (h o ho) x hx
open Classical in
noncomputable def encodeOf (os : List Od) : List Int := if OpsOk os then encs os else []
theorem encodeOf_ok {os : List Od} (h : OpsOk os) : encodeOf os = encs os := by unfold encodeOf; rw [if_pos h]
theorem encodeOf_no {os : List Od} (h : ¬ OpsOk os) : encodeOf os = [] := by unfold encodeOf; rw [if_neg h]
theorem encodeOf_byte (os : List Od) : ∀ x ∈ encodeOf os, 0 ≤ x ∧ x ≤ 255 := by
  by_cases h : OpsOk os
  · rw [encodeOf_ok h]; exact encs_byte h.2
  · rw [encodeOf_no h]; intro x hx; cases hx
theorem encodeOf_few {os : List Od} : (encodeOf os).length ≤ 900 := by
  by_cases h : OpsOk os
  · rw [encodeOf_ok h]
    have := (encs_len os).2
    have := h.1
    omega
  · rw [encodeOf_no h]; simp
theorem encodeOf_64 {os : List Od} : ∀ x ∈ encodeOf os, In64 x := fun x hx => by
  have := encodeOf_byte os x hx
  constructor <;> omega
noncomputable def sizeOfOps (os : List Od) : Int := @ite _ (OpsOk os) (Classical.propDecidable _) ((encs os).length : Int) (-1)
end Go.Proofs.Ytmilbhhlbjcodab

namespace Go.Proofs.Ytmilbhhlbjcodab
open Go.RowKit
set_option linter.unusedVariables false
def GivesRead (w : World) (ys : List Int) (e : Ending) (w' : World) : Prop := ∃ A c, e = .returned (.slice A ys.length c) ∧ (A = none → c = 0) ∧ IntsAt w' w'.heap.size A ys ∧ Below w.heap.size w w'
theorem GivesRead.lit {w w' : World} {e : Ending} (ys : List Int) (h64 : ∀ x ∈ ys, In64 x) (hl : ys.length ≤ 1048576) (W : World) (he : e = .returned (.slice (some ⟨W.heap.size, 0, none⟩) ys.length ys.length))
    (hw : w' = W.alloc (.cells (ys.map (Value.int .i64)).toArray 3)) (hb : Below w.heap.size w W) : GivesRead w ys e w' := by
  subst hw
  exact ⟨_, _, he, (fun e => by cases e), (IntsAt.lit W ys h64 hl).more (by simp), hb.alloc hb.size _⟩
set_option maxHeartbeats 1000000 in
theorem bytesOf_any (o : Od) (w : World) (ho : OdOk o) :
    Calls Try.prog 33 #[.agg #[.int .i64 o.code, .int .i64 o.arg]] w (GivesRead w (encO o)) := by
  have hb := encO_byte ho
  have H64 := hide (fun x hx => (by have := hb x hx; constructor <;> omega : In64 x))
  have hbel := hide (show Below w.heap.size w (w.alloc (.cells #[.int .i64 o.code, .int .i64 o.arg] 56)) from (Below.refl _ _).alloc (Nat.le_refl _) _)
  obtain ⟨⟨hc1, hc2⟩, ha⟩ := ho
  have hm := argMost_range o.code
  have l1 := Lies.new w #[.int .i64 o.code, .int .i64 o.arg] 56
  by_cases hneg : argMost o.code < 0
  · rw [encO_bare hneg] at H64 ⊢
    clear hb ha
    go_enter Try.func33, Try.ntmps33
    go_wp2_with fail
    refine (argOf_any o.code _).mono ?_
    rintro e w' ⟨rfl, rfl⟩
    generalize argMost o.code = M at hneg hm ⊢
    have d : decide (M < 0) = true := by simpa using hneg
    generalize hW : w.alloc (.cells #[.int .i64 o.code, .int .i64 o.arg] 56) = W at hbel l1 ⊢
    clear hW
    have x0 := l1.cell 0
    have x1 := l1.cell 1
    simp at x0 x1
    go_wp2
    go_ret
    exact GivesRead.lit _ H64.out (by simp) W rfl rfl hbel.out
  · have ha' : 0 ≤ o.arg ∧ o.arg ≤ 999 := by omega
    obtain ⟨ha1, ha2⟩ := ha'
    have Hneg := hide hneg
    rw [encO_arg hneg] at H64 ⊢
    by_cases hs : o.arg < 128
    · rw [encA_short hs] at H64 ⊢
      have d2 : decide (o.arg < 128) = true := by simpa using hs
      clear hb ha
      go_enter Try.func33, Try.ntmps33
      go_wp2_with fail
      refine (argOf_any o.code _).mono ?_
      rintro e w' ⟨rfl, rfl⟩
      generalize argMost o.code = M at hneg hm ⊢
      have d : decide (M < 0) = false := by simpa using hneg
      generalize hW : w.alloc (.cells #[.int .i64 o.code, .int .i64 o.arg] 56) = W at hbel l1 ⊢
      clear hW
      have x0 := l1.cell 0
      have x1 := l1.cell 1
      simp at x0 x1
      go_wp2
      go_ret
      exact GivesRead.lit _ H64.out (by simp) W rfl rfl hbel.out
    · rw [encA_long hs] at H64 ⊢
      have d2 : decide (o.arg < 128) = false := by simpa using hs
      clear hb ha
      go_enter Try.func33, Try.ntmps33
      go_wp2_with fail
      refine (argOf_any o.code _).mono ?_
      rintro e w' ⟨rfl, rfl⟩
      generalize argMost o.code = M at hneg hm ⊢
      have d : decide (M < 0) = false := by simpa using hneg
      generalize hW : w.alloc (.cells #[.int .i64 o.code, .int .i64 o.arg] 56) = W at hbel l1 ⊢
      clear hW
      have x0 := l1.cell 0
      have x1 := l1.cell 1
      simp at x0 x1
      go_wp2
      go_ret
      exact GivesRead.lit _ H64.out (by simp) W rfl rfl hbel.out
end Go.Proofs.Ytmilbhhlbjcodab

namespace Go.Proofs.Ytmilbhhlbjcodab
open Go.RowKit
set_option linter.unusedVariables false
def GivesIntsV (w : World) (xs : List Int) (v : Value) (e : Ending) (w' : World) : Prop := ∃ A c, e = .returned (.tuple #[.slice A xs.length c, v]) ∧ OwnI w' w.heap.size A c xs ∧ Below w.heap.size w w'
structure UfS (w wr : World) (R : List Int) (N : Nat) (xs : List Int) (i : Nat) (Ao : Option Addr) (co : Nat) (acc : List Int) : Prop where
  bel : Below w.heap.size w wr
  own : OwnI wr w.heap.size Ao co acc
  eq : acc ++ (unfr xs.length (xs.drop i)).1 = R
  at_ : i + (unfr xs.length (xs.drop i)).2 = N
  sum : acc.length ≤ i
  le : i ≤ xs.length
theorem UfS.step {w wr w2 : World} {R : List Int} {N : Nat} {xs : List Int} {i q : Nat} {Ao A2 : Option Addr} {co c2 : Nat} {acc zs2 : List Int} (h : UfS w wr R N xs i Ao co acc)
    (hx : xs[i]? = some (q : Int)) (h1 : 1 ≤ q) (h2 : q ≤ 200) (h3 : i + q < xs.length)
    (hg2 : wr.grownBy w2 (blockOf Ao)) (e2 : zs2 = acc ++ (xs.drop (i + 1)).take q) (own2 : OwnI w2 w.heap.size A2 c2 zs2) :
    UfS w w2 R N xs (i + 1 + q) A2 c2 zs2 := by
  have hs := unfr_step (f := xs.length) hx (by omega) (by omega) (by rw [Int.toNat_natCast]; exact h3) (Nat.le_refl _)
  rw [Int.toNat_natCast] at hs
  refine ⟨below_grown h.bel hg2 h.bel.size (fun k hk => (h.own.blocks k hk).1), own2, ?_, ?_, ?_, by omega⟩
  · rw [e2, ← h.eq, hs, List.append_assoc]
  · have := h.at_
    rw [hs] at this
    simp only at this
    omega
  · rw [e2]
    have := h.sum
    simp only [List.length_append, List.length_take]
    omega
theorem UfS.stop {w wr : World} {R : List Int} {N : Nat} {xs : List Int} {i : Nat} {Ao : Option Addr} {co : Nat} {acc : List Int} (h : UfS w wr R N xs i Ao co acc)
    (hx : ∀ h, xs[i]? = some h → ¬ (1 ≤ h ∧ h ≤ 200 ∧ i + h.toNat < xs.length)) : acc = R ∧ i = N := by
  have hs := unfr_stop (f := xs.length) hx
  have h1 := h.eq
  have h2 := h.at_
  rw [hs] at h1 h2
  simp at h1 h2
  exact ⟨h1, h2⟩
set_option maxRecDepth 100000 in
set_option maxHeartbeats 1000000 in
theorem unframe_any (A : Option Addr) (xs : List Int) (c : Nat) (w : World) (h : IntsAt w w.heap.size A xs) (hc : xs.length ≤ c) (hl : xs.length ≤ 2000) :
    Calls Try.prog 13 #[.slice A xs.length c] w (GivesIntsV w (unfr xs.length xs).1 (.int .i64 ((unfr xs.length xs).2 : Int))) := by
  obtain ⟨R, hR⟩ : ∃ R, R = (unfr xs.length xs).1 := ⟨_, rfl⟩
  obtain ⟨N, hN⟩ : ∃ N, N = (unfr xs.length xs).2 := ⟨_, rfl⟩
  have HR := hide hR
  have HN := hide hN
  rw [← hR, ← hN]
  clear hR hN
  have HS0 := hide (show UfS w (w.alloc (.cells #[] 3)) R N xs 0 (some ⟨w.heap.size, 0, none⟩) 0 [] from
    ⟨(Below.refl _ _).alloc (Nat.le_refl _) _, OwnI.bare w, by rw [HR.out]; rfl, by rw [HN.out]; simp, Nat.zero_le _, Nat.zero_le _⟩)
  go_enter Try.func13, Try.ntmps13
  go_wp2_with fail
  generalize w.alloc (.cells #[] 3) = w0 at HS0 ⊢
  go_loopg [4, 5] xs.length (fun gk ov iv wr => ∃ (i : Nat) (Ao : Option Addr) (co : Nat) (acc : List Int), gk = xs.length - i ∧ iv = .int .i64 (i : Int) ∧ ov = .slice Ao acc.length co ∧ UfS w wr R N xs i Ao co acc)
  case atStart => exact ⟨0, _, 0, [], rfl, rfl, rfl, HS0.out⟩
  case round =>
    clear HS0
    obtain ⟨i, Ao, co, acc, rfl, rfl, rfl, hS⟩ := hrel
    have HS := hide hS
    have hil := hS.le
    have hsum := hS.sum
    have hbs := hS.bel.size
    by_cases hlt : i < xs.length
    · obtain ⟨b, off, y, rfl, hbl, hy, _, hcell⟩ := (h.below hS.bel).at_ hlt
      have Hy := hide hy
      clear hS hy
      by_cases h12 : 1 ≤ y ∧ y ≤ 200
      · obtain ⟨q, rfl⟩ := Int.eq_ofNat_of_zero_le (show 0 ≤ y by omega)
        obtain ⟨h1, h2⟩ := h12
        by_cases h3 : i + q < xs.length
        · have HT : Hid (((xs.drop (i + 1)).take q).length = q) := hide (by simp; omega)
          have HT2 : Hid (((xs.drop (i + 1)).take q).length = i + 1 + q - (i + 1)) := hide (by simp; omega)
          have hw4 : (i : Int) + 1 + (q : Int) ≤ (c : Int) := by omega
          have hw5 : ¬ c = i + 1 := by omega
          go_wp2_with fail
          refine (inRange_yes (q : Int) 1 200 wr h1 h2).mono ?_
          rintro e w' ⟨rfl, rfl⟩
          have d1 : decide ((i : Int) + (q : Int) < (xs.length : Int)) = true := by simp; omega
          go_wp2_with (at_builtin; refine append_ints rfl (.tmp 29) (.tmp 40) rfl w.heap.size Ao co acc rfl HS.out.own w.heap.size (some ⟨b, off + (i + 1), none⟩) (c - (i + 1)) ((xs.drop (i + 1)).take q) (congrArg (fun n => Value.slice (some ⟨b, off + (i + 1), none⟩) n (c - (i + 1))) HT2.out.symm) (fun e => by cases e) (((h.behind (i + 1)).upto q).below HS.out.bel) (by rw [HT.out]; omega) hbs ?_; intro zs2 A2 c2 w2 e2 own2 hg2 _; have HG2 := hide hg2; have HO2 := hide own2; have hcell2 : w2.cell? ⟨b, off + i, none⟩ = some (.int .i64 (q : Int)) := ((below_grown HS.out.bel hg2 hbs (fun k hk => (HS.out.own.blocks k hk).1)).cell (p := ⟨b, off + i, none⟩) hbl).trans ((HS.out.bel.cell (p := ⟨b, off + i, none⟩) hbl).symm.trans hcell); clear hg2 own2)
          go_roundg (xs.length - (i + 1 + q))
          case measure => omega
          case rel => exact ⟨i + 1 + q, A2, c2, zs2, rfl, by go_num, rfl, HS.out.step Hy.out (by omega) (by omega) h3 HG2.out e2 HO2.out⟩
        · have hE := HS.out.stop (fun h hh => by
            have : h = (q : Int) := by have := hh.symm.trans Hy.out; injection this
            rw [this, Int.toNat_natCast]; omega)
          obtain ⟨rfl, rfl⟩ := hE
          go_wp2_with fail
          refine (inRange_yes (q : Int) 1 200 wr h1 h2).mono ?_
          rintro e w' ⟨rfl, rfl⟩
          go_wp2
          go_ret2
          exact ⟨Ao, co, rfl, HS.out.own, HS.out.bel⟩
      · have hE := HS.out.stop (fun h hh => by
          have : h = y := by have := hh.symm.trans Hy.out; injection this
          rw [this]; omega)
        obtain ⟨rfl, rfl⟩ := hE
        go_wp2_with fail
        refine (inRange_no y 1 200 wr (by omega)).mono ?_
        rintro e w' ⟨rfl, rfl⟩
        clear h12
        go_wp2
        go_ret2
        exact ⟨Ao, co, rfl, HS.out.own, HS.out.bel⟩
    · have hE := HS.out.stop (fun h hh => by
        have := (List.getElem?_eq_some_iff.1 hh).1
        omega)
      obtain ⟨rfl, rfl⟩ := hE
      clear hS
      go_wp2
      go_ret2
      exact ⟨Ao, co, rfl, HS.out.own, HS.out.bel⟩
end Go.Proofs.Ytmilbhhlbjcodab

namespace Go.Proofs.Ytmilbhhlbjcodab
open Go.RowKit
set_option linter.unusedVariables false
def GivesPart (w : World) (ys : List Int) (e : Ending) (w' : World) : Prop := ∃ A c, e = .returned (.slice A ys.length c) ∧ IntsAt w w.heap.size A ys ∧ (A = none → c = 0) ∧ w = w'
set_option maxHeartbeats 1000000 in
theorem firstFrame_yes (A : Option Addr) (xs : List Int) (c : Nat) (q : Nat) (w : World) (h : IntsAt w w.heap.size A xs) (hc : xs.length ≤ c) (hx : xs[0]? = some (q : Int)) (h1 : 1 ≤ q) (h2 : q ≤ 200) (h3 : q < xs.length) (hl : xs.length ≤ 2000) :
    Calls Try.prog 15 #[.slice A xs.length c] w (GivesPart w ((xs.drop 1).take q)) := by
  obtain ⟨b, off, y, rfl, hbl, hy, _, hcell⟩ := h.at_ (k := 0) (by omega)
  obtain rfl : (q : Int) = y := by have := hx.symm.trans hy; injection this
  have HP : Hid (IntsAt w w.heap.size (some ⟨b, off + 1, none⟩) ((xs.drop 1).take q)) := hide ((h.behind 1).upto q)
  have HT : Hid (((xs.drop 1).take q).length = q) := hide (by simp; omega)
  have d1 : decide (xs.length ≤ q) = false := by simp; omega
  have d2 : ((xs.length : Int) == 0) = false := by simp only [beq_eq_false_iff_ne, ne_eq]; omega
  have d3 : (0 : Int) < (xs.length : Int) := by omega
  have d4 : 0 < xs.length := by omega
  have d5 : (1 : Int) + (q : Int) ≤ (c : Int) := by omega
  rw [Nat.add_zero] at hcell
  clear hx hy h
  go_enter Try.func15, Try.ntmps15
  go_wp2_with fail
  refine (isFrameSize_yes (q : Int) w (by omega) (by omega)).mono ?_
  rintro e w' ⟨rfl, rfl⟩
  go_wp2
  go_ret
  have e1 : 1 + q - 1 = q := by omega
  refine ⟨some ⟨b, off + 1, none⟩, q, ?_, HP.out, (fun e => by cases e), rfl⟩
  show Ending.returned (Value.slice (some ⟨b, off + 1, none⟩) (1 + q - 1) (1 + q - 1)) = _
  rw [HT.out, e1]
set_option maxHeartbeats 1000000 in
theorem firstFrame_no (A : Option Addr) (xs : List Int) (c : Nat) (w : World) (h : IntsAt w w.heap.size A xs) (hn : ∀ h, xs[0]? = some h → ¬ (1 ≤ h ∧ h ≤ 200 ∧ h.toNat < xs.length)) (hl : xs.length ≤ 2000) :
    Calls Try.prog 15 #[.slice A xs.length c] w (GivesPart w []) := by
  by_cases hx : 0 < xs.length
  · obtain ⟨b, off, y, rfl, hbl, hy, _, hcell⟩ := h.at_ hx
    have hno := hn y hy
    rw [Nat.add_zero] at hcell
    have d2 : ((xs.length : Int) == 0) = false := by simp only [beq_eq_false_iff_ne, ne_eq]; omega
    have d3 : (0 : Int) < (xs.length : Int) := by omega
    by_cases h12 : 1 ≤ y ∧ y ≤ 200
    · obtain ⟨q, rfl⟩ := Int.eq_ofNat_of_zero_le (show 0 ≤ y by omega)
      have d1 : decide (xs.length ≤ q) = true := by simp; omega
      clear hn hy h hno
      go_enter Try.func15, Try.ntmps15
      go_wp2_with fail
      refine (isFrameSize_yes (q : Int) w (by omega) (by omega)).mono ?_
      rintro e w' ⟨rfl, rfl⟩
      go_wp2
      go_ret
      exact ⟨none, 0, rfl, IntsAt.empt _, fun _ => rfl, rfl⟩
    · clear hn hy h hno
      go_enter Try.func15, Try.ntmps15
      go_wp2_with fail
      refine (isFrameSize_no y w h12).mono ?_
      rintro e w' ⟨rfl, rfl⟩
      clear h12
      go_wp2
      go_ret
      exact ⟨none, 0, rfl, IntsAt.empt _, fun _ => rfl, rfl⟩
  · obtain rfl : xs = [] := List.eq_nil_of_length_eq_zero (by omega)
    clear hn h hx hl
    go_enter Try.func15, Try.ntmps15
    go_wp2
    go_ret
    exact ⟨none, 0, rfl, IntsAt.empt _, fun _ => rfl, rfl⟩
end Go.Proofs.Ytmilbhhlbjcodab
