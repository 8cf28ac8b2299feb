/-
  Lemmas, several texts in one: LkM, AlI.
-/
import Derived.Test.YtochdhibmmohfabPjAf
import Derived.Test.YtochdhibmmohfabPjAj
import Derived.Test.YtochdhibmmohfabSomeOp
import Derived.Test.YtochdhibmmohfabPjAd
import Derived.Test.YtochdhibmmohfabPjAg
import Derived.Test.YtochdhibmmohfabPjAi
import Derived.Deep.Cut
namespace Go.Proofs.Ytochdhibmmohfab
open Go.RowKit
set_option linter.unusedVariables false

/-- what a drawn statement that steps shapes holds: the box, and the order's own box -/
def HeldO (q b : Nat) (cs : Array Value) (u v : Value) (w' : World) : Prop := Lies w' q cs 44 ∧ w'.cell? ⟨b, 0, none⟩ = some u ∧ w'.cell? ⟨b, 1, none⟩ = some v

theorem HeldO.below {q b B : Nat} {cs : Array Value} {u v : Value} {X w' : World} (h : HeldO q b cs u v X) (hb : Below B X w') (hq : q < B) (hbB : b < B) : HeldO q b cs u v w' :=
  ⟨h.1.below hb hq, (hb.cell (p := ⟨b, 0, none⟩) hbB).trans h.2.1, (hb.cell (p := ⟨b, 1, none⟩) hbB).trans h.2.2⟩
theorem HeldO.set5 {q b nb : Nat} {cs : Array Value} {u v v0 v1 v2 v3 v4 : Value} {X : World} (h : HeldO q b cs u v X) (hq : q ≠ nb) (hbB : b ≠ nb) : HeldO q b cs u v (set5 X nb v0 v1 v2 v3 v4) :=
  ⟨(set5_block hq).trans h.1, (World.cell?_of_block (w := X) (set5_block hbB)).trans h.2.1, (World.cell?_of_block (w := X) (set5_block hbB)).trans h.2.2⟩

/-- the box is written anew, with shapes in newer memory -/
theorem ShBox.next {Y : World} {base q lo : Nat} {p p' : ShPtr} {s t : Shp} (h : ShBox Y base q p s) (ho : ShOwn Y lo p' t) (hq : q < lo) (hb : base ≤ lo) :
    ShBox (set5 Y q (.slice p'.K t.kinds.length p'.c1) (.slice p'.F t.full.length p'.c2) (.slice p'.S t.stack.length p'.c3) (.slice p'.M t.memo.length p'.c4) (.bool t.done)) base q p' t := by
  have o1 : p'.Off q := ho.off (.inl hq)
  exact ⟨(Lies.set5 h.box _ _ _ _ _).2, (ho.mono hb).set5 o1, o1⟩

/-- the memory behind a step that was tried; X is the memory ahead of it -/
structure BoxN (X Y : World) (base q : Nat) (p : ShPtr) (s : Shp) (nb : Nat) (p5 : ShPtr) (s5 : Shp) (ok : Bool) (r : Option Shp) : Prop where
  run : ShBox Y base q p s
  box : Lies Y nb (shCells p5 s5) 44
  bel : Below X.heap.size X Y
  good : ∀ t, r = some t → ok = true ∧ s5 = t ∧ ∃ lo, ShOwn Y lo p5 t ∧ X.heap.size ≤ lo
  bad : r = none → ok = false

theorem BoxN.mk' {X Y : World} {base q nb lo : Nat} {p p5 : ShPtr} {s s5 : Shp} {ok : Bool} {r : Option Shp} (h : ShBox Y base q p s) (hz : Lies Y nb #[.slice none 0 0, .slice none 0 0, .slice none 0 0, .slice none 0 0, .bool false] 44)
    (hbl : Below X.heap.size X Y) (hnb : X.heap.size ≤ nb) (ho : p.Off nb) (hq : q ≠ nb) (hl : X.heap.size ≤ lo) (hg : ∀ t, r = some t → ok = true ∧ s5 = t ∧ ShOwn Y lo p5 t ∧ p5.Off nb) (hb : r = none → ok = false) :
    BoxN X (set5 Y nb (.slice p5.K s5.kinds.length p5.c1) (.slice p5.F s5.full.length p5.c2) (.slice p5.S s5.stack.length p5.c3) (.slice p5.M s5.memo.length p5.c4) (.bool s5.done)) base q p s nb p5 s5 ok r :=
  ⟨⟨(set5_block hq).trans h.box, h.own.set5 ho, h.off⟩, (Lies.set5 hz _ _ _ _ _).2, set5_below hbl hnb, fun t ht => by
    obtain ⟨h1, h2, h3, h4⟩ := hg t ht
    exact ⟨h1, h2, lo, h3.set5 h4, hl⟩, hb⟩

/-- the reader, the shapes in their box, and the orders that are put together -/
structure LkS (w wr : World) (rb base q : Nat) (A : Option Addr) (n c P : Nat) (p : ShPtr) (s : Shp) (Ao : Option Addr) (co : Nat) (acc : List Od) : Prop where
  grew : Grew rb w wr
  rd : ∃ p', p' ≤ P ∧ Rd wr rb A n c p'
  sb : ShBox wr base q p s
  own : OwnO wr base Ao co acc
  apart : ∀ g, blockOf Ao = some g → p.Off g ∧ g ≠ q
  hb : w.heap.size ≤ base
  hq : base ≤ q
  hrb : rb < w.heap.size
  ok : s.Ok
  fit : s.Fits
  mem : ∀ o ∈ acc, OdOk o

theorem ShBox.ofB {w w' : World} {base q : Nat} {p : ShPtr} {s : Shp} (h : ShBox w base q p s) (hq : base ≤ q) (hb : ∀ g, base ≤ g → g < w.heap.size → w'.heap[g]? = w.heap[g]?) : ShBox w' base q p s :=
  ⟨(hb q hq h.box.lt).trans h.box, h.own.ofB hb, h.off⟩

section
variable {w wr w1 : World} {rb base q n c P P' : Nat} {A Ao A2 : Option Addr} {co c2 : Nat} {p p5 : ShPtr} {s t : Shp} {acc zs : List Od}

theorem LkS.turned (h : LkS w wr rb base q A n c P p s Ao co acc) {p1 : Nat} (hg : Grew rb wr w1) (hr : Rd w1 rb A n c p1) (hp : p1 ≤ P') : LkS w w1 rb base q A n c P' p s Ao co acc := by
  have h1 := h.hb
  have h2 := h.hrb
  exact ⟨h.grew.trans hg, ⟨p1, hp, hr⟩, h.sb.ofB h.hq (fun g hg1 hg2 => hg.block g hg2 (by omega)), h.own.of_block (fun g hg1 => hg.block g (h.own.blocks g hg1).2 (by have := (h.own.blocks g hg1).1; omega)), h.apart, h.hb, h.hq, h.hrb, h.ok, h.fit, h.mem⟩

theorem LkS.below (h : LkS w wr rb base q A n c P p s Ao co acc) (hb : Below wr.heap.size wr w1) : LkS w w1 rb base q A n c P p s Ao co acc := by
  obtain ⟨p1, hp1, hr⟩ := h.rd
  exact h.turned (Grew.of_below hb) (hr.below hb) hp1

/-- the box is written anew with what a step made of the shapes -/
theorem LkS.next (h : LkS w wr rb base q A n c P p s Ao co acc) {Y : World} {lo : Nat} (hb : Below wr.heap.size wr Y) (ho : ShOwn Y lo p5 t) (hl : wr.heap.size ≤ lo) (hok : t.Ok) (hfit : t.Fits) :
    LkS w (set5 Y q (.slice p5.K t.kinds.length p5.c1) (.slice p5.F t.full.length p5.c2) (.slice p5.S t.stack.length p5.c3) (.slice p5.M t.memo.length p5.c4) (.bool t.done)) rb base q A n c P p5 t Ao co acc := by
  have h2 := h.below hb
  have hql := h.sb.box.lt
  have hqb := h.hq
  have hb1 := h.hb
  have hr1 := h.hrb
  obtain ⟨p1, hp1, hr⟩ := h2.rd
  have hbq : Below q Y (set5 Y q (.slice p5.K t.kinds.length p5.c1) (.slice p5.F t.full.length p5.c2) (.slice p5.S t.stack.length p5.c3) (.slice p5.M t.memo.length p5.c4) (.bool t.done)) := set5_below (Below.refl _ _) (Nat.le_refl _)
  refine ⟨⟨?_, ?_, ?_, ?_, ?_⟩, ⟨p1, hp1, ?_⟩, h2.sb.next ho (by omega) (by omega), h2.own.of_block (fun g hg => set5_block (h2.apart g hg).2), fun g hg => ⟨ho.off (.inl (by have := (h.own.blocks g hg).2; omega)), (h2.apart g hg).2⟩, h.hb, h.hq, h.hrb, hok, hfit, h.mem⟩
  · exact hbq.os.trans h2.grew.os
  · exact hbq.tape.trans h2.grew.tape
  · exact hbq.output.trans h2.grew.output
  · exact Nat.le_trans h2.grew.size hbq.size
  · intro k hk hne
    rw [hbq.block k (by omega)]
    exact h2.grew.block k hk hne
  · exact ⟨hr.box.below hbq (by omega), hr.bytes.later (hbq.mono (by omega)), hr.few⟩

/-- an order is put behind the others -/
theorem LkS.app (h : LkS w wr rb base q A n c P p s Ao co acc) (lit : Obj) {d : Od} (hg : (wr.alloc lit).grownBy w1 (blockOf Ao)) (hat : blockOf A2 = blockOf Ao ∨ blockOf A2 = some (wr.alloc lit).heap.size) (own : OwnO w1 base A2 c2 zs) (hz : zs = acc ++ [d]) (hd : OdOk d) : LkS w w1 rb base q A n c P p s A2 c2 zs := by
  have h1 := h.hb
  have h2 := h.hrb
  have h3 := h.hq
  have h4 := h.sb.box.lt
  obtain ⟨p1, hp1, hr⟩ := h.rd
  have hrl := hr.box.lt
  have hblk : ∀ k, k < wr.heap.size → blockOf Ao ≠ some k → w1.heap[k]? = wr.heap[k]? := fun k hk hne => (hg.block k (by simp; omega) (fun e => hne e.symm)).trans (Below.heap_alloc wr lit k hk)
  have hsz : wr.heap.size ≤ w1.heap.size := by have := hg.size; simp at this; omega
  have hbl : Below base wr w1 := ((Below.refl wr.heap.size wr).alloc (Nat.le_refl _) lit |>.mono (by omega)).grown hg (by simp; omega) (fun b e => (h.own.blocks b e).1)
  have hAo : ∀ g, blockOf Ao = some g → g < wr.heap.size := fun g hg => (h.own.blocks g hg).2
  have hpo : ∀ g, wr.heap.size ≤ g → p.Off g := fun g hg => h.sb.own.off (.inr hg)
  refine ⟨⟨hbl.os.trans h.grew.os, hbl.tape.trans h.grew.tape, hbl.output.trans h.grew.output, Nat.le_trans h.grew.size hsz, fun k hk hne => (hbl.block k (by omega)).trans (h.grew.block k hk hne)⟩, ⟨p1, hp1, ?_⟩, ?_, own, ?_, h.hb, h.hq, h.hrb, h.ok, h.fit, ?_⟩
  · exact ⟨hr.box.below hbl (by omega), hr.bytes.later (hbl.mono (by omega)), hr.few⟩
  · refine ⟨(hblk q h4 (fun e => (h.apart q e).2 rfl)).trans h.sb.box, ?_, h.sb.off⟩
    have hk := fun (B : Option Addr) (hB : ∀ g, blockOf B = some g → g < wr.heap.size) (hd : ∀ g, blockOf Ao = some g → blockOf B ≠ some g) (g : Nat) (e : blockOf B = some g) => hblk g (hB g e) (fun e2 => hd g e2 e)
    exact ⟨h.sb.own.k.ofB (hk p.K (fun g e => (h.sb.own.k.blocks g e).2) (fun g e => (h.apart g e).1.k)), h.sb.own.f.ofB (hk p.F (fun g e => (h.sb.own.f.blocks g e).2) (fun g e => (h.apart g e).1.f)), h.sb.own.t.ofB (hk p.S (fun g e => (h.sb.own.t.blocks g e).2) (fun g e => (h.apart g e).1.t)), h.sb.own.m.ofB (hk p.M (fun g e => (h.sb.own.m.blocks g e).2) (fun g e => (h.apart g e).1.m)), h.sb.own.kf, h.sb.own.kt, h.sb.own.km, h.sb.own.ft, h.sb.own.fm, h.sb.own.tm⟩
  · intro g hg2
    rcases hat with e | e
    · exact h.apart g (e ▸ hg2)
    · rw [e] at hg2
      injection hg2 with hg2
      simp at hg2
      exact ⟨hpo g (by omega), by omega⟩
  · intro o ho
    rw [hz] at ho
    rcases List.mem_append.1 ho with ho | ho
    · exact h.mem o ho
    · rw [List.mem_singleton.1 ho]; exact hd
end

end Go.Proofs.Ytochdhibmmohfab

namespace Go.Proofs.Ytochdhibmmohfab
open Go.RowKit Go.Maps
set_option linter.unusedVariables false

/-- the captured rules -/
structure CapRu (W : World) (bc : Nat) (A : Option Addr) (a : Ru) (c : Nat) : Prop where
  l : Lies W bc #[.int .i64 a.steps, .int .i64 a.nodes, .int .i64 a.deep, .slice A a.cls.length c] 25
  i : IntsAt W W.heap.size A a.cls

set_option maxRecDepth 100000 in
set_option maxHeartbeats 1000000 in
theorem forbidden_any (bc : Nat) (A : Option Addr) (a : Ru) (c : Nat) (x : Int) (W : World) (h : CapRu W bc A a c) :
    Calls Try.prog 11 #[.int .i64 x, .pointer (some ⟨bc, 0, none⟩)] W fun e w' => e = .returned (.bool (!tf (x ∈ a.cls))) ∧ W = w' := by
  have hc := h.l.cell 3
  simp only [List.getElem?_toArray, List.getElem?_cons_zero, List.getElem?_cons_succ] at hc
  have HC := hide fun n => containsI_any A a.cls c n W h.i
  obtain ⟨b, hb⟩ : ∃ b, tf (x ∈ a.cls) = b := ⟨_, rfl⟩
  have HX := HC.out x
  rw [hb] at HX ⊢
  have HX := hide HX
  clear HC hb h
  go_enter Try.func11, Try.ntmps11
  go_wp2_with fail
  refine HX.out.mono ?_
  rintro e w' ⟨rfl, rfl⟩
  go_wp2
  go_ret
  exact ⟨rfl, rfl⟩

set_option maxRecDepth 100000 in
set_option maxHeartbeats 1000000 in
theorem indexForbidden_any (bc : Nat) (A A' : Option Addr) (a : Ru) (xs : List Int) (c c' : Nat) (w : World) (h : CapRu w bc A a c) (h' : IntsAt w w.heap.size A' xs) :
    Calls Try.prog 29 #[.slice A' xs.length c', .func (.func 11) #[] #[.pointer (some ⟨bc, 0, none⟩)]] w fun e w' =>
      (∃ i : Int, e = .returned (.int .i64 i) ∧ (i < 0 ↔ ∀ x ∈ xs, x ∈ a.cls)) ∧ w = w' := by
  have hl := h'.len
  have HP := hide h
  clear h
  go_enter Try.func29, Try.ntmps29
  go_wp2_with fail
  go_loop [8] (fun i => ∃ k : Nat, k ≤ xs.length ∧ i = .int .i64 k ∧ ∀ j y, j < k → xs[j]? = some y → y ∈ a.cls) (fun i => xs.length - (intOf i).toNat)
  case atStart => exact ⟨0, Nat.zero_le _, rfl, fun j _ hj => absurd hj (by omega)⟩
  case round =>
    obtain ⟨k, hk, rfl, he0⟩ := hrel
    have he := hide he0
    clear he0
    by_cases hlt : k < xs.length
    · obtain ⟨b, off, x, rfl, hbl, hx, _, hc⟩ := h'.at_ hlt
      have Hx := hide hx
      clear hx
      have hk1 : (0 : Int) ≤ (k : Int) := by omega
      have hk2 : (k : Int) < (xs.length : Int) := by omega
      go_wp2_with fail
      refine (forbidden_any bc A a c x w HP.out).mono ?_
      rintro e w2 ⟨rfl, rfl⟩
      by_cases hs : x ∈ a.cls
      · rw [tf_true hs]
        have HE := hide (all_step he.out Hx.out hs)
        clear hs he
        simp only [Bool.not_true]
        go_wp2
        go_round
        case rel => exact ⟨k + 1, by omega, by go_num, HE.out⟩
        case measure => simp [intOf]; omega
      · rw [tf_false hs]
        have HF := hide (show (k : Int) < 0 ↔ ∀ x ∈ xs, x ∈ a.cls from ⟨fun _ => by omega, fun hh => absurd (hh x (List.mem_of_getElem? Hx.out)) hs⟩)
        clear hs he
        simp only [Bool.not_false]
        go_wp2
        go_ret
        exact ⟨⟨k, rfl, HF.out⟩, rfl⟩
    · obtain rfl : k = xs.length := by omega
      have HF := hide (show (-1 : Int) < 0 ↔ ∀ x ∈ xs, x ∈ a.cls from ⟨fun _ => all_end he.out, fun _ => by omega⟩)
      clear hlt he
      go_wp2
      go_ret
      exact ⟨⟨-1, rfl, HF.out⟩, rfl⟩

set_option maxHeartbeats 1000000 in
theorem containsForbidden_any (bc : Nat) (A A' : Option Addr) (a : Ru) (xs : List Int) (c c' : Nat) (w : World) (h : CapRu w bc A a c) (h' : IntsAt w w.heap.size A' xs) :
    Calls Try.prog 13 #[.slice A' xs.length c', .func (.func 11) #[] #[.pointer (some ⟨bc, 0, none⟩)]] w fun e w' =>
      e = .returned (.bool (!tf (∀ x ∈ xs, x ∈ a.cls))) ∧ w = w' := by
  have HC := hide (indexForbidden_any bc A A' a xs c c' w h h')
  clear h h'
  go_enter Try.func13, Try.ntmps13
  go_wp2_with fail
  refine HC.out.mono ?_
  rintro e w2 ⟨⟨i, rfl, hi⟩, rfl⟩
  have hf : (!tf (∀ x ∈ xs, x ∈ a.cls)) = decide (0 ≤ i) := by
    by_cases h0 : i < 0
    · rw [tf_true (hi.1 h0)]
      have : ¬ 0 ≤ i := by omega
      simp [this]
    · rw [tf_false (fun hs => h0 (hi.2 hs))]
      have : 0 ≤ i := by omega
      simp [this]
  have HF := hide hf
  clear hf
  clear hi HC
  go_wp2
  go_ret
  exact ⟨ret_bool HF.out.symm, rfl⟩

set_option maxRecDepth 100000 in
set_option maxHeartbeats 2000000 in
theorem implRulesAllow_any (A A' : Option Addr) (a b : Ru) (c c' : Nat) (w : World) (h : RuAt w w.heap.size A a) (h' : RuAt w w.heap.size A' b) (hl : a.cls.length ≤ 1048576) (hl' : b.cls.length ≤ 1048576) :
    Calls Try.prog 5 #[ruVal a A c, ruVal b A' c'] w fun e w' => e = .returned (.bool (tf (Allow a b))) ∧ Below w.heap.size w w' := by
  have hB0 : Below w.heap.size w ((w.alloc (.cells (ruCells a A c) 25)).alloc (.cells (ruCells b A' c') 25)) := ((Below.refl _ _).alloc (Nat.le_refl _) _).alloc (by simp) _
  have l1 := (Lies.new w (ruCells a A c) 25).alloc (.cells (ruCells b A' c') 25)
  have l2 := Lies.new (w.alloc (.cells (ruCells a A c) 25)) (ruCells b A' c') 25
  simp only [World.size_alloc] at l2
  have HB0 := hide hB0
  have HRa := hide h
  have HRb := hide h'
  obtain ⟨b1, h1⟩ : ∃ x, tf (RuOk a) = x := ⟨_, rfl⟩
  obtain ⟨b2, h2⟩ : ∃ x, tf (RuOk b) = x := ⟨_, rfl⟩
  obtain ⟨b3, h3⟩ : ∃ x, decide (b.steps ≤ a.steps) = x := ⟨_, rfl⟩
  obtain ⟨b4, h4⟩ : ∃ x, decide (b.nodes ≤ a.nodes) = x := ⟨_, rfl⟩
  obtain ⟨b5, h5⟩ : ∃ x, decide (b.deep ≤ a.deep) = x := ⟨_, rfl⟩
  obtain ⟨b6, h6⟩ : ∃ x, tf (∀ x ∈ b.cls, x ∈ a.cls) = x := ⟨_, rfl⟩
  have HT := hide (allow_and a b)
  rw [h1, h2, h3, h4, h5, h6] at HT
  have hs1 := h.s
  have hs2 := h'.s
  have hn1 := h.n
  have hn2 := h'.n
  have hd1 := h.d
  have hd2 := h'.d
  have q1 : ∀ W, RuAt W W.heap.size A a → Calls Try.prog 10 #[ruVal a A c] W fun e w' => e = .returned (.bool b1) ∧ Below W.heap.size W w' := fun W hW => by
    rw [← h1]; exact implValidRules_any A a c W hW hl
  have q2 : ∀ W, RuAt W W.heap.size A' b → Calls Try.prog 10 #[ruVal b A' c'] W fun e w' => e = .returned (.bool b2) ∧ Below W.heap.size W w' := fun W hW => by
    rw [← h2]; exact implValidRules_any A' b c' W hW hl'
  have q6 : ∀ W bc, CapRu W bc A a c → IntsAt W W.heap.size A' b.cls → Calls Try.prog 13 #[.slice A' b.cls.length c', .func (.func 11) #[] #[.pointer (some ⟨bc, 0, none⟩)]] W fun e w' => e = .returned (.bool (!b6)) ∧ W = w' := fun W bc hC hI => by
    rw [← h6]; exact containsForbidden_any bc A A' a b.cls c c' W hC hI
  have Q1 := hide q1
  have Q2 := hide q2
  have Q6 := hide q6
  clear h h' q1 q2 q6 hB0 h1 h2 h6
  unfold ruVal at *
  unfold ruCells at *
  go_enter Try.func5, Try.ntmps5
  go_upto_region 1 with fail
  generalize (w.alloc (.cells #[.int .i64 a.steps, .int .i64 a.nodes, .int .i64 a.deep, .slice A a.cls.length c] 25)).alloc (.cells #[.int .i64 b.steps, .int .i64 b.nodes, .int .i64 b.deep, .slice A' b.cls.length c'] 25) = W at l1 l2 HB0 ⊢
  have a0 := l1.cell 0
  have a1 := l1.cell 1
  have a2 := l1.cell 2
  have a3 := l1.cell 3
  have t0 := l2.cell 0
  have t1 := l2.cell 1
  have t2 := l2.cell 2
  have t3 := l2.cell 3
  simp only [List.getElem?_toArray, List.getElem?_cons_zero, List.getElem?_cons_succ] at a0 a1 a2 a3 t0 t1 t2 t3
  have hlt1 := l1.lt
  have hlt2 := l2.lt
  have L1 := hide l1
  have L2 := hide l2
  clear l1 l2
  go_wp2_with fail
  refine (Q1.out W (HRa.out.later HB0.out (Nat.le_refl _))).mono ?_
  rintro e w1 ⟨rfl, hb1⟩
  have HB1 := hide (HB0.out.trans (hb1.mono HB0.out.size))
  cases b1
  · clear hb1
    go_wp2
    go_ret
    exact ⟨ret_bool (by rw [HT.out]; simp), HB1.out⟩
  have l1 := L1.out.below hb1 hlt1
  have l2 := L2.out.below hb1 hlt2
  clear hb1 L1 L2 a0 a1 a2 a3 t0 t1 t2 t3 hlt1 hlt2
  have t0 := l2.cell 0
  have t1 := l2.cell 1
  have t2 := l2.cell 2
  have t3 := l2.cell 3
  simp only [List.getElem?_toArray, List.getElem?_cons_zero, List.getElem?_cons_succ] at t0 t1 t2 t3
  have hlt1 := l1.lt
  have hlt2 := l2.lt
  have L1 := hide l1
  have L2 := hide l2
  clear l1 l2
  go_wp2_with fail
  refine (Q2.out w1 (HRb.out.later HB1.out (Nat.le_refl _))).mono ?_
  rintro e w2 ⟨rfl, hb2⟩
  have HB2 := hide (HB1.out.trans (hb2.mono HB1.out.size))
  cases b2
  · clear hb2
    go_wp2
    go_ret
    exact ⟨ret_bool (by rw [HT.out]; simp), HB2.out⟩
  have l1 := L1.out.below hb2 hlt1
  have l2 := L2.out.below hb2 hlt2
  clear hb2 L1 L2 t0 t1 t2 t3 hlt1 hlt2
  have a0 := l1.cell 0
  have a1 := l1.cell 1
  have a2 := l1.cell 2
  have t0 := l2.cell 0
  have t1 := l2.cell 1
  have t2 := l2.cell 2
  have t3 := l2.cell 3
  simp only [List.getElem?_toArray, List.getElem?_cons_zero, List.getElem?_cons_succ] at a0 a1 a2 t0 t1 t2 t3
  have hlt1 := l1.lt
  have L1 := hide l1
  clear l1 l2
  cases b3
  · go_wp2
    go_ret
    exact ⟨ret_bool (by rw [HT.out]; simp), HB2.out⟩
  cases b4
  · go_wp2
    go_ret
    exact ⟨ret_bool (by rw [HT.out]; simp), HB2.out⟩
  cases b5
  · go_wp2
    go_ret
    exact ⟨ret_bool (by rw [HT.out]; simp), HB2.out⟩
  go_wp2_with fail
  refine (Q6.out w2 w.heap.size ⟨L1.out, (HRa.out.later HB2.out (Nat.le_refl _)).c⟩ (HRb.out.later HB2.out (Nat.le_refl _)).c).mono ?_
  rintro e w3 ⟨rfl, rfl⟩
  go_wp2
  go_ret
  exact ⟨ret_bool (by rw [HT.out]; simp), HB2.out⟩

end Go.Proofs.Ytochdhibmmohfab
