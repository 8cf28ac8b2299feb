/-
  Lemmas, several texts in one: DrawRA, LawRA.
-/
import Derived.Test.YtochdhibmmohfabSrR
import Derived.Test.YtochdhibmmohfabPjAm
import Derived.Test.YtochdhibmmohfabPjAk
namespace Go.Proofs.Ytochdhibmmohfab
open Go.RowKit
set_option linter.unusedVariables false
set_option linter.unusedSimpArgs false

/-- two rules that can be read come back, and old memory is as it was -/
def DrawnR2 (w : World) (e : Ending) (w' : World) : Prop :=
  ∃ (Ax : Option Addr) (cx : Nat) (r : Ru) (Ay : Option Addr) (cy : Nat) (t : Ru), e = .returned (.tuple #[.agg #[.int .i64 r.steps, .int .i64 r.nodes, .int .i64 r.deep, .slice Ax r.cls.length cx], .agg #[.int .i64 t.steps, .int .i64 t.nodes, .int .i64 t.deep, .slice Ay t.cls.length cy]]) ∧
    RuAt w' w'.heap.size Ax r ∧ r.cls.length ≤ 1000 ∧ r.cls.length ≤ cx ∧ RuAt w' w'.heap.size Ay t ∧ t.cls.length ≤ 1000 ∧ t.cls.length ≤ cy ∧ Below w.heap.size w w'

theorem OwnI.capS {w : World} {base : Nat} {A : Option Addr} {c : Nat} {xs : List Int} (h : OwnI w base A c xs) : xs.length ≤ c := by
  rcases h.own with ⟨hl, hh⟩
  rcases hh with ⟨h1, h2⟩ | ⟨g, cap, cur, hv, hg, hh, hle, hm, hs, hx⟩
  · rw [h2]; exact Nat.zero_le _
  · injection hv with _ _ h3
    subst h3
    exact hle

set_option maxRecDepth 100000 in
set_option maxHeartbeats 2000000 in
theorem drawRulesAllow_any (A : Option Addr) (n c : Nat) (w : World) (h : BytesAt w w.heap.size A n) (hc : n ≤ c) (hn : n ≤ 9223372036854775807) :
    Calls Try.prog 4 #[.slice A n c] w (DrawnR2 w) := by
  have hB : Below w.heap.size w ((w.alloc (.cells #[.int .i64 0, .int .i64 0, .int .i64 0, .slice none 0 0] 25)).alloc (.cells #[.int .i64 0, .int .i64 0, .int .i64 0, .slice none 0 0] 25)) := ((Below.refl _ w).alloc (Nat.le_refl _) _).alloc (by simp) _
  have l1 := (Lies.new w #[.int .i64 0, .int .i64 0, .int .i64 0, .slice none 0 0] 25).alloc (.cells #[.int .i64 0, .int .i64 0, .int .i64 0, .slice none 0 0] 25)
  have l2 := Lies.new (w.alloc (.cells #[.int .i64 0, .int .i64 0, .int .i64 0, .slice none 0 0] 25)) #[.int .i64 0, .int .i64 0, .int .i64 0, .slice none 0 0] 25
  simp only [World.size_alloc] at l2
  have h2 := (h.later hB).more hB.size
  clear h
  go_enter Try.func4, Try.ntmps4
  go_wp2_with fail
  generalize (w.alloc (.cells #[.int .i64 0, .int .i64 0, .int .i64 0, .slice none 0 0] 25)).alloc (.cells #[.int .i64 0, .int .i64 0, .int .i64 0, .slice none 0 0] 25) = W at hB l1 l2 h2 ⊢
  refine (newReader_any A n c W h2 hc hn).mono ?_
  rintro e w1 ⟨rfl, ⟨n', c', hrd⟩, hb1⟩
  have k1 := l1.below hb1 l1.lt
  have k2 := l2.below hb1 l2.lt
  have hB1 := hB.trans (hb1.mono hB.size)
  have hrl := hrd.box.lt
  have hwl := l2.lt
  clear l1 l2 h2 hB hb1
  generalize W.heap.size = rb at hrd hrl hwl ⊢
  go_wp2_with fail
  refine (likelyOps_any rb A n' c' 0 w1 hrd (by omega)).mono ?_
  rintro e w2 ⟨os, Ao, co, p', rfl, hown, hok, hol, hp', hrd2, hG⟩
  have hops : OpsAt w2 w2.heap.size Ao os := hown.ops (fun o ho => by
    have h := hok o ho
    have hm := argMost_range o.code
    unfold In64
    rcases h.2 with ⟨h2, h3⟩ | ⟨h2, h3, h4⟩
    · have := h.1; omega
    · have := h.1; omega) (by omega)
  have hcap := hown.capLen
  have hne : blockOf Ao ≠ some rb := fun e => by have := (hown.blocks rb e).1; omega
  have m1 := k1.grew hG (by omega)
  have m2 := k2.grew hG (by omega)
  have hB2 : Below w.heap.size w w2 := hG.below hB1 (by omega) (by omega)
  have hs2 := hG.size
  have Hops := hide hops
  clear k1 k2 hB1 hown hok hG hrd hops
  go_wp2_with fail
  refine (someRules_any rb A n' c' p' Ao os co w2 hrd2 (by omega) Hops.out hcap hne).mono ?_
  rintro e w3 ⟨p3, Ax, cx, r, rfl, hp3, hrd3, hox, h64, hfew, hn64, hG3⟩
  have q1 := m1.grew hG3 (by omega)
  have q2 := m2.grew hG3 (by omega)
  have hB3 : Below w.heap.size w w3 := hG3.below hB2 (by omega) (by omega)
  have hs3 := hG3.size
  have Hops3 := hide (Hops.out.grew hG3 hne)
  have HX := hide (And.intro hox (And.intro h64 hn64))
  have hcx := hox.capS
  clear m1 m2 hB2 hG3 hrd2 hox h64 hn64 Hops
  go_wp2_with fail
  refine (someRules_any rb A n' c' p3 Ao os co w3 hrd3 (by omega) Hops3.out hcap hne).mono ?_
  rintro e w4 ⟨p4, Ay, cy, t, rfl, hp4, hrd4, hoy, h64y, hfewy, hn64y, hG4⟩
  have u1 := q1.grew hG4 (by omega)
  have u2 := q2.grew hG4 (by omega)
  have hB4 : Below w.heap.size w w4 := hG4.below hB3 (by omega) (by omega)
  have hox4 := HX.out.1.ofS (w' := w4) (fun g hg => hG4.block g (HX.out.1.blocks g hg).2 (by have := (HX.out.1.blocks g hg).1; omega))
  have hcy := hoy.capS
  have hb1x := hox4.blocks
  have hb1y := hoy.blocks
  simp only [ruVal, ruCells]
  obtain ⟨⟨a0, a1, a2, a3, f0, f1, f2, f3, s0, s1, s2, s3⟩, v1⟩ := u1.put4 (.int .i64 r.steps) (.int .i64 r.nodes) (.int .i64 r.deep) (.slice Ax r.cls.length cx)
  have v2 : Lies _ (w.heap.size + 1) #[.int .i64 0, .int .i64 0, .int .i64 0, .slice none 0 0] 25 := (put4_block (w := w4) (q := w.heap.size) (v0 := .int .i64 r.steps) (v1 := .int .i64 r.nodes) (v2 := .int .i64 r.deep) (v3 := .slice Ax r.cls.length cx) (show w.heap.size + 1 ≠ w.heap.size by omega)).trans u2
  have oX := hox4.put4 (q := w.heap.size) (by omega) (.int .i64 r.steps) (.int .i64 r.nodes) (.int .i64 r.deep) (.slice Ax r.cls.length cx)
  have oY := hoy.put4 (q := w.heap.size) (by omega) (.int .i64 r.steps) (.int .i64 r.nodes) (.int .i64 r.deep) (.slice Ax r.cls.length cx)
  have B5 := put4_below (q := w.heap.size) (v0 := .int .i64 r.steps) (v1 := .int .i64 r.nodes) (v2 := .int .i64 r.deep) (v3 := .slice Ax r.cls.length cx) hB4 (Nat.le_refl _)
  obtain ⟨⟨b0, b1, b2, b3, g0, g1, g2, g3, t0, t1, t2, t3⟩, y2⟩ := v2.put4 (.int .i64 t.steps) (.int .i64 t.nodes) (.int .i64 t.deep) (.slice Ay t.cls.length cy)
  have y1 : Lies _ w.heap.size _ _ := (put4_block (w := ((((w4.setCell ⟨w.heap.size, 0, none⟩ (.int .i64 r.steps)).setCell ⟨w.heap.size, 1, none⟩ (.int .i64 r.nodes)).setCell ⟨w.heap.size, 2, none⟩ (.int .i64 r.deep)).setCell ⟨w.heap.size, 3, none⟩ (.slice Ax r.cls.length cx))) (q := w.heap.size + 1) (v0 := .int .i64 t.steps) (v1 := .int .i64 t.nodes) (v2 := .int .i64 t.deep) (v3 := .slice Ay t.cls.length cy) (show w.heap.size ≠ w.heap.size + 1 by omega)).trans v1
  have x0 := y1.cell 0
  have x1 := y1.cell 1
  have x2 := y1.cell 2
  have x3 := y1.cell 3
  simp only [List.getElem?_toArray, List.getElem?_cons_zero, List.getElem?_cons_succ] at x0 x1 x2 x3
  have eX := hide ((oX.put4 (q := w.heap.size + 1) (by omega) (.int .i64 t.steps) (.int .i64 t.nodes) (.int .i64 t.deep) (.slice Ay t.cls.length cy)).ints HX.out.2.1 (by omega))
  have eY := hide ((oY.put4 (q := w.heap.size + 1) (by omega) (.int .i64 t.steps) (.int .i64 t.nodes) (.int .i64 t.deep) (.slice Ay t.cls.length cy)).ints h64y (by omega))
  have eB := hide (put4_below (q := w.heap.size + 1) (v0 := .int .i64 t.steps) (v1 := .int .i64 t.nodes) (v2 := .int .i64 t.deep) (v3 := .slice Ay t.cls.length cy) B5 (by omega))
  have HN := hide (And.intro HX.out.2.2 hn64y)
  have hne1 : w.heap.size ≠ w.heap.size + 1 := by omega
  have hne2 : w.heap.size + 1 ≠ w.heap.size := by omega
  clear u1 u2 v1 v2 y1 y2 oX oY B5 hox4 hoy HX hB3 hB4 hG4 q1 q2 hrd3 hrd4 s0 s1 s2 s3 hb1x hb1y h64y hn64y Hops3
  go_wp2
  refine bodyPost_ret (v := .tuple #[.agg #[.int .i64 r.steps, .int .i64 r.nodes, .int .i64 r.deep, .slice Ax r.cls.length cx], .agg #[.int .i64 t.steps, .int .i64 t.nodes, .int .i64 t.deep, .slice Ay t.cls.length cy]]) (by simp [results, Try.results4, go_sem, x0, x1, x2, x3, t0, t1, t2, t3]) rfl ?_
  exact ⟨Ax, cx, r, Ay, cy, t, rfl, ⟨eX.out, HN.out.1.1, HN.out.1.2.1, HN.out.1.2.2⟩, hfew, hcx, ⟨eY.out, HN.out.2.1, HN.out.2.2.1, HN.out.2.2.2⟩, hfewy, hcy, eB.out⟩

end Go.Proofs.Ytochdhibmmohfab

namespace Go.Proofs.Ytochdhibmmohfab
open Go.RowKit
set_option linter.unusedVariables false

theorem len_sub : ∀ (xs ys : List Int), xs.Nodup → (∀ x ∈ xs, x ∈ ys) → xs.length ≤ ys.length
  | [], _, _, _ => Nat.zero_le _
  | x :: xs, ys, hn, h => by
    have hx := h x (by simp)
    obtain ⟨h1, h2⟩ := List.nodup_cons.1 hn
    have h3 := len_sub xs (ys.erase x) h2 (fun y hy => (List.mem_erase_of_ne (fun e => h1 (by rw [← e]; exact hy))).2 (h y (List.mem_cons_of_mem _ hy)))
    have h4 := List.length_erase_of_mem hx
    have h5 := List.length_pos_of_mem hx
    simp only [List.length_cons]
    omega

theorem Allow.refl_l {a b : Ru} (h : Allow a b) : Allow a a := ⟨h.oa, h.oa, Int.le_refl _, Int.le_refl _, Int.le_refl _, fun _ hx => hx⟩
theorem Allow.refl_r {a b : Ru} (h : Allow a b) : Allow b b := ⟨h.ob, h.ob, Int.le_refl _, Int.le_refl _, Int.le_refl _, fun _ hx => hx⟩
theorem Allow.both {a b : Ru} (h : Allow a b) (k : Allow b a) : a.steps = b.steps ∧ a.nodes = b.nodes ∧ a.deep = b.deep ∧ a.cls.length = b.cls.length := by
  have h1 := h.s
  have h2 := h.n
  have h3 := h.d
  have k1 := k.s
  have k2 := k.n
  have k3 := k.d
  have l1 := len_sub _ _ h.ob.c.nd h.c
  have l2 := len_sub _ _ k.ob.c.nd k.c
  refine ⟨?_, ?_, ?_, ?_⟩ <;> omega

/-- what stays while the law looks at both rules -/
structure LawA (w wr : World) (ba bb : Nat) (Ax Ay : Option Addr) (cx cy : Nat) (r t : Ru) : Prop where
  bel : Below w.heap.size w wr
  la : Lies wr ba #[.int .i64 r.steps, .int .i64 r.nodes, .int .i64 r.deep, .slice Ax r.cls.length cx] 25
  lb : Lies wr bb #[.int .i64 t.steps, .int .i64 t.nodes, .int .i64 t.deep, .slice Ay t.cls.length cy] 25
  ra : RuAt wr wr.heap.size Ax r
  rb : RuAt wr wr.heap.size Ay t

theorem LawA.below {w wr w' : World} {ba bb : Nat} {Ax Ay : Option Addr} {cx cy : Nat} {r t : Ru} (h : LawA w wr ba bb Ax Ay cx cy r t) (hb : Below wr.heap.size wr w') : LawA w w' ba bb Ax Ay cx cy r t :=
  ⟨h.bel.trans (hb.mono h.bel.size), h.la.below hb h.la.lt, h.lb.below hb h.lb.lt, h.ra.later hb (Nat.le_refl _), h.rb.later hb (Nat.le_refl _)⟩

theorem LawA.cells {w wr : World} {ba bb : Nat} {Ax Ay : Option Addr} {cx cy : Nat} {r t : Ru} (h : LawA w wr ba bb Ax Ay cx cy r t) :
    (wr.cell? ⟨ba, 0, none⟩ = some (.int .i64 r.steps) ∧ wr.cell? ⟨ba, 1, none⟩ = some (.int .i64 r.nodes) ∧ wr.cell? ⟨ba, 2, none⟩ = some (.int .i64 r.deep) ∧ wr.cell? ⟨ba, 3, none⟩ = some (.slice Ax r.cls.length cx)) ∧
    wr.cell? ⟨bb, 0, none⟩ = some (.int .i64 t.steps) ∧ wr.cell? ⟨bb, 1, none⟩ = some (.int .i64 t.nodes) ∧ wr.cell? ⟨bb, 2, none⟩ = some (.int .i64 t.deep) ∧ wr.cell? ⟨bb, 3, none⟩ = some (.slice Ay t.cls.length cy) :=
  ⟨⟨h.la.cell 0, h.la.cell 1, h.la.cell 2, h.la.cell 3⟩, h.lb.cell 0, h.lb.cell 1, h.lb.cell 2, h.lb.cell 3⟩

set_option maxRecDepth 100000 in
set_option maxHeartbeats 4000000 in
theorem lawRA_any (A : Option Addr) (n c : Nat) (w : World) (h : BytesAt w w.heap.size A n) (hc : n ≤ c) (hn : n ≤ 9223372036854775807) :
    Calls Try.prog 3 #[.slice A n c] w fun e w' => e = .returned (.bool true) ∧ Below w.heap.size w w' := by
  by_cases hbig : 1048576 < n
  · have d : decide ((1048576 : Int) < (n : Int)) = true := by simp; omega
    go_enter Try.func3, Try.ntmps3
    go_wp2
    go_ret
    exact ⟨rfl, Below.refl _ _⟩
  · have d : decide ((1048576 : Int) < (n : Int)) = false := by simp; omega
    go_enter Try.func3, Try.ntmps3
    go_wp2_with fail
    refine (drawRulesAllow_any A n c w h hc hn).mono ?_
    rintro e w1 ⟨Ax, cx, r, Ay, cy, t, rfl, hr1, hrl, hrc, ht1, htl, htc, hb1⟩
    have hba := ((Below.refl w1.heap.size w1).alloc (Nat.le_refl _) (.cells #[.int .i64 r.steps, .int .i64 r.nodes, .int .i64 r.deep, .slice Ax r.cls.length cx] 25)).alloc (by simp) (.cells #[.int .i64 t.steps, .int .i64 t.nodes, .int .i64 t.deep, .slice Ay t.cls.length cy] 25)
    have la := (Lies.new w1 #[.int .i64 r.steps, .int .i64 r.nodes, .int .i64 r.deep, .slice Ax r.cls.length cx] 25).alloc (.cells #[.int .i64 t.steps, .int .i64 t.nodes, .int .i64 t.deep, .slice Ay t.cls.length cy] 25)
    have lb := Lies.new (w1.alloc (.cells #[.int .i64 r.steps, .int .i64 r.nodes, .int .i64 r.deep, .slice Ax r.cls.length cx] 25)) #[.int .i64 t.steps, .int .i64 t.nodes, .int .i64 t.deep, .slice Ay t.cls.length cy] 25
    simp only [World.size_alloc] at lb
    have P2 : LawA w ((w1.alloc (.cells #[.int .i64 r.steps, .int .i64 r.nodes, .int .i64 r.deep, .slice Ax r.cls.length cx] 25)).alloc (.cells #[.int .i64 t.steps, .int .i64 t.nodes, .int .i64 t.deep, .slice Ay t.cls.length cy] 25)) w1.heap.size (w1.heap.size + 1) Ax Ay cx cy r t :=
      ⟨hb1.trans (hba.mono hb1.size), la, lb, hr1.later hba (Nat.le_refl _), ht1.later hba (Nat.le_refl _)⟩
    obtain ⟨⟨a0, a1, a2, a3⟩, b0, b1, b2, b3⟩ := P2.cells
    clear h hr1 ht1 hb1 hba la lb
    go_upto_region 4 with fail
    generalize (w1.alloc (.cells #[.int .i64 r.steps, .int .i64 r.nodes, .int .i64 r.deep, .slice Ax r.cls.length cx] 25)).alloc (.cells #[.int .i64 t.steps, .int .i64 t.nodes, .int .i64 t.deep, .slice Ay t.cls.length cy] 25) = w2 at P2 a0 a1 a2 a3 b0 b1 b2 b3 ⊢
    generalize w1.heap.size + 1 = bb at P2 b0 b1 b2 b3 ⊢
    generalize w1.heap.size = ba at P2 a0 a1 a2 a3 ⊢
    have HI := hide (fun (W : World) (h1 : RuAt W W.heap.size Ax r) (h2 : RuAt W W.heap.size Ay t) => implRulesAllow_any Ax Ay r t cx cy W h1 h2 (by omega) (by omega))
    have HS := hide (fun (W : World) (h1 : RuAt W W.heap.size Ax r) (h2 : RuAt W W.heap.size Ay t) => specRulesAllow_any Ax Ay r t cx cy W h1 h2 (by omega) (by omega) hrc htc)
    by_cases hv : Allow r t
    · have HV := hide hv
      rw [tf_true hv] at HI HS
      clear hv
      have HA := hide (fun (W : World) (h1 : RuAt W W.heap.size Ax r) => implRulesAllow_any Ax Ax r r cx cx W h1 h1 (by omega) (by omega))
      have HBb := hide (fun (W : World) (h1 : RuAt W W.heap.size Ay t) => implRulesAllow_any Ay Ay t t cy cy W h1 h1 (by omega) (by omega))
      have HBA := hide (fun (W : World) (h1 : RuAt W W.heap.size Ax r) (h2 : RuAt W W.heap.size Ay t) => implRulesAllow_any Ay Ax t r cy cx W h2 h1 (by omega) (by omega))
      rw [tf_true HV.out.refl_l] at HA
      rw [tf_true HV.out.refl_r] at HBb
      simp only [ruVal, ruCells] at HI HS HA HBb HBA
      go_wp2_with fail
      refine (HI.out w2 P2.ra P2.rb).mono ?_
      rintro e w3 ⟨rfl, hb3⟩
      have P3 := P2.below hb3
      clear P2 hb3 a0 a1 a2 a3 b0 b1 b2 b3
      obtain ⟨⟨a0, a1, a2, a3⟩, b0, b1, b2, b3⟩ := P3.cells
      go_wp2_with fail
      refine (HS.out w3 P3.ra P3.rb).mono ?_
      rintro e w4 ⟨rfl, hb4⟩
      have P4 := P3.below hb4
      clear P3 hb4 a0 a1 a2 a3 b0 b1 b2 b3
      obtain ⟨⟨a0, a1, a2, a3⟩, b0, b1, b2, b3⟩ := P4.cells
      go_wp2_with fail
      refine (HA.out w4 P4.ra).mono ?_
      rintro e w5 ⟨rfl, hb5⟩
      have P5 := P4.below hb5
      clear P4 hb5 a0 a1 a2 a3 b0 b1 b2 b3
      obtain ⟨⟨a0, a1, a2, a3⟩, b0, b1, b2, b3⟩ := P5.cells
      go_wp2_with fail
      refine (HBb.out w5 P5.rb).mono ?_
      rintro e w6 ⟨rfl, hb6⟩
      have P6 := P5.below hb6
      clear P5 hb6 a0 a1 a2 a3 b0 b1 b2 b3
      obtain ⟨⟨a0, a1, a2, a3⟩, b0, b1, b2, b3⟩ := P6.cells
      by_cases hw : Allow t r
      · obtain ⟨m1, m2, m3, m4⟩ := HV.out.both hw
        rw [tf_true hw] at HBA
        have t1 : (r.steps == t.steps) = true := by simpa using m1
        have t2 : (r.nodes == t.nodes) = true := by simpa using m2
        have t3 : (r.deep == t.deep) = true := by simpa using m3
        have t4 : ((r.cls.length : Int) == (t.cls.length : Int)) = true := beq_iff_eq.2 (by omega)
        clear hw m1 m2 m3 m4
        go_wp2_with fail
        refine (HBA.out w6 P6.ra P6.rb).mono ?_
        rintro e w7 ⟨rfl, hb7⟩
        have P7 := P6.below hb7
        clear P6 hb7 a0 a1 a2 a3 b0 b1 b2 b3
        obtain ⟨⟨a0, a1, a2, a3⟩, b0, b1, b2, b3⟩ := P7.cells
        have HB := hide P7.bel
        clear P7
        go_wp2
        go_ret
        exact ⟨rfl, HB.out⟩
      · rw [tf_false hw] at HBA
        clear hw
        go_wp2_with fail
        refine (HBA.out w6 P6.ra P6.rb).mono ?_
        rintro e w7 ⟨rfl, hb7⟩
        have HB := hide (P6.below hb7).bel
        clear P6 hb7 a0 a1 a2 a3 b0 b1 b2 b3
        go_wp2
        go_ret
        exact ⟨rfl, HB.out⟩
    · rw [tf_false hv] at HI HS
      clear hv
      simp only [ruVal, ruCells] at HI HS
      go_wp2_with fail
      refine (HI.out w2 P2.ra P2.rb).mono ?_
      rintro e w3 ⟨rfl, hb3⟩
      have P3 := P2.below hb3
      clear P2 hb3 a0 a1 a2 a3 b0 b1 b2 b3
      obtain ⟨⟨a0, a1, a2, a3⟩, b0, b1, b2, b3⟩ := P3.cells
      go_wp2_with fail
      refine (HS.out w3 P3.ra P3.rb).mono ?_
      rintro e w4 ⟨rfl, hb4⟩
      have P4 := P3.below hb4
      clear P3 hb4 a0 a1 a2 a3 b0 b1 b2 b3
      obtain ⟨⟨a0, a1, a2, a3⟩, b0, b1, b2, b3⟩ := P4.cells
      go_wp2_with fail
      refine (HS.out w4 P4.ra P4.rb).mono ?_
      rintro e w5 ⟨rfl, hb5⟩
      have HB := hide (P4.below hb5).bel
      clear P4 hb5 a0 a1 a2 a3 b0 b1 b2 b3
      go_wp2
      go_ret
      exact ⟨rfl, HB.out⟩

end Go.Proofs.Ytochdhibmmohfab
