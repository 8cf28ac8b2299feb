/-
  Lemmas, several texts in one: AppK, PrunS, CngM.
-/
import Derived.Test.YtkgnijbdbkopkabPjAh
import Derived.Test.YtkgnijbdbkopkabPjAa
import Derived.ArgAppend
import Derived.RegionTactic
import Derived.Deep.AppendLies
import Derived.Deep.Onto
import Derived.Test.YtkgnijbdbkopkabPjAm
import Derived.Test.YtkgnijbdbkopkabPlIn
import Derived.Deep.RegionLaw
import Derived.Deep.LoopGhost
import Derived.Deep.RegionHeld3
import Derived.Deep.Cut
import Derived.Test.YtkgnijbdbkopkabPjAi
import Derived.Test.YtkgnijbdbkopkabSpecE
import Derived.Test.YtkgnijbdbkopkabPjAb
namespace Go.Proofs.Ytkgnijbdbkopkab
open Go.RowKit
set_option linter.unusedVariables false

section
variable {P : Program} (w : World)

theorem run_append_keep (base : Nat) (t ty e : TypeId) (i : TypeInfo) (z : Value) (size bytes : Nat) (ht : P.underlying t = some (.slice e)) (hi : P.info? e = some i) (hz : i.zero = some z)
    (hsize : i.size = size) (hby : i.bytes = bytes) (hzs : z.cells.size = size) (hsz : 0 < size)
    (A : Option Addr) (c0 n : Nat) (xs : List Value) (hown : w.ownsRow base e size (.slice A n c0) n xs)
    (a : Addr) (m c : Nat) (news : List Value) (hl : news.length = m * size) (hnews : ∀ j u, news[j]? = some u → w.cell? (a.add j) = some u) (h1 : ∀ u ∈ news, u.oneCell' = true)
    (h63 : n + m ≤ maxLen) (hbytes : (n + m) * bytes ≤ 140737488355328) (hbase : base ≤ w.heap.size) (hm : 0 < m) :
    ∃ A' c' w', (Builtin.append_ #[t, t] ty #[.slice A n c0, .slice (some a) m c]).run P w = .ok (.slice A' (n + m) c') w' ∧ w'.ownsRow base e size (.slice A' (n + m) c') (n + m) (xs ++ news) ∧ w'.ownsRow base e size (.slice A n c0) n xs ∧
      ((A' = A ∧ c' = c0 ∧ w.grownBy w' (blockOf A)) ∨ (blockOf A' = some w.heap.size ∧ w.grownBy w' none)) := by
  have hown0 := hown
  rcases hown.2 with ⟨hv, rfl⟩ | ⟨g, cap, cur, hv, hbg, hg, hnc, hcm, hcs, htake⟩
  · injection hv with e1 _ e3
    subst e1 e3
    obtain ⟨v', w', hr, h2, h3, h4, h5⟩ := run_append_own_at (P := P) w base t ty e i z size bytes ht hi hz hsize hby hzs hsz _ 0 xs hown a m c news hl hnews h1 h63 hbytes hbase
    obtain ⟨g, cap, rfl, hgb, hlt⟩ := h2.form (by omega)
    refine ⟨some ⟨g, 0, none⟩, cap, w', hr, h2, ⟨hown.1, .inl ⟨rfl, rfl⟩⟩, .inr ⟨?_, ?_⟩⟩
    · simpa [Value.ownBlock, blockOf] using h5
    · simpa [Value.ownBlock] using h3
  · injection hv with e1 _ e3
    subst e1 e3
    subst hsize
    by_cases hroom : n + m ≤ c0
    · have hfit : n * i.size + news.length ≤ cur.size := by
        rw [hl, hcs, ← Nat.add_mul]
        exact Nat.mul_le_mul_right _ hroom
      have hr := run_append_room (P := P) w t ty e i ht hi g n c0 cur hg a m c news hl hnews h1 hroom hfit
      have hxl : xs.length = n * i.size := hown.1
      have htk : (cur.toList.take (n * i.size)) = xs := htake
      have hsz2 : (cur.toList.take (n * i.size) ++ news ++ cur.toList.drop (n * i.size + news.length)).toArray.size = c0 * i.size := by
        simp only [List.size_toArray, List.length_append, List.length_take, List.length_drop, Array.length_toList]
        omega
      have hh := setRow_heap w g cur (cur.toList.take (n * i.size) ++ news ++ cur.toList.drop (n * i.size + news.length)).toArray e (0, 0) hg
      refine ⟨some ⟨g, 0, none⟩, c0, _, hr, ⟨?_, .inr ⟨g, c0, _, rfl, hbg, hh, hroom, hcm, hsz2, ?_⟩⟩, ⟨hown.1, .inr ⟨g, c0, _, rfl, hbg, hh, hnc, hcm, hsz2, ?_⟩⟩, .inl ⟨rfl, rfl, rfl, rfl, rfl, by simp [World.setRow], fun k _ hk => setRow_other w g k _ (fun e => hk (by simp [blockOf, e]))⟩⟩
      · rw [List.length_append, hxl, hl, Nat.add_mul]
      · show List.take ((n + m) * i.size) (cur.toList.take (n * i.size) ++ news ++ cur.toList.drop (n * i.size + news.length)) = xs ++ news
        rw [htk, show (n + m) * i.size = (xs ++ news).length by rw [List.length_append, hxl, hl, Nat.add_mul]]
        exact List.take_left
      · show List.take (n * i.size) (cur.toList.take (n * i.size) ++ news ++ cur.toList.drop (n * i.size + news.length)) = xs
        rw [htk, List.append_assoc, ← hxl]
        exact List.take_left
    · have holds : ∀ j u, xs[j]? = some u → w.cell? ((⟨g, 0, none⟩ : Addr).add j) = some u := hown.cells (by rfl)
      obtain ⟨v', w', hr, h2, h3⟩ := run_append_arg_grows (P := P) w t ty e i z i.size bytes ht hi hz rfl hby hzs hsz ⟨g, 0, none⟩ n c0 xs hown.1 holds a m c news hl hnews (by omega) h63 hbytes
      have h2b := h2.mono hbase
      obtain ⟨g', cap, rfl, hgb, hlt⟩ := h2.form (by omega)
      refine ⟨some ⟨g', 0, none⟩, cap, w', hr, h2b, hown0.kept h3 (by right; simp [Value.ownBlock]), .inr ⟨?_, h3⟩⟩
      obtain ⟨v2, w2, hr2, _, _, _, h52⟩ := run_append_own_at (P := P) w base t ty e i z i.size bytes ht hi hz rfl hby hzs hsz _ n xs hown0 a m c news hl hnews h1 h63 hbytes hbase
      rw [hr] at hr2
      injection hr2 with hr2 _
      subst hr2
      have hgl := lt_of_block hg
      rcases h52 with h5 | h5
      · simp [Value.ownBlock] at h5
        omega
      · simpa [Value.ownBlock, blockOf] using h5
end

/-- a longer slice of the same address tells what a shorter one reads -/
theorem OwnI.short {w : World} {base : Nat} {A : Option Addr} {c : Nat} {xs ys : List Int} (h : OwnI w base A c ys) (hp : xs <+: ys) : OwnI w base A c xs := by
  have hle := hp.length_le
  refine ⟨by simp, ?_⟩
  rcases h.own.2 with ⟨hv, hn⟩ | ⟨g, cap, cur, hv, hbg, hg, hnc, hcm, hcs, htake⟩
  · injection hv with e1 _ e3
    have : xs.length = 0 := by omega
    exact .inl ⟨by rw [e1, e3, this], this⟩
  · injection hv with e1 _ e3
    subst e1 e3
    refine .inr ⟨g, c, cur, rfl, hbg, hg, by omega, hcm, hcs, ?_⟩
    have h2 : (cur.toList.take (ys.length * 1)).take (xs.length * 1) = (ys.map (Value.int .i64)).take (xs.length * 1) := by rw [htake]
    rw [List.take_take, Nat.min_eq_left (by omega)] at h2
    rw [h2, ← List.map_take, Nat.mul_one]
    obtain ⟨zs, rfl⟩ := hp
    rw [List.take_left]

/-- what an append leaves behind -/
structure AppK (w w' : World) (base : Nat) (A A' : Option Addr) (c c' : Nat) (xs ys zs : List Int) : Prop where
  eq : zs = xs ++ ys
  own : OwnI w' base A' c' zs
  old : OwnI w' base A c xs
  how : (A' = A ∧ c' = c ∧ w.grownBy w' (blockOf A)) ∨ (blockOf A' = some w.heap.size ∧ w.grownBy w' none)

theorem AppK.grown {w w' : World} {base : Nat} {A A' : Option Addr} {c c' : Nat} {xs ys zs : List Int} (h : AppK w w' base A A' c c' xs ys zs) : w.grownBy w' (blockOf A) := by
  rcases h.how with ⟨_, _, h⟩ | ⟨_, h⟩
  · exact h
  · exact ⟨h.os, h.tape, h.output, h.size, fun k hk _ => h.block k hk (by simp)⟩

theorem append_intsK {w : World} {ops : Array Oper} {rest : List Oper} {o : Oper} {a : Act} {Q : Exit → Act → World → Prop} (hgd : o.guard = none) (s x : Operand)
    (ho : o.op = .call { callee := .builtin .append, args := #[s, x], argTypes := #[37, 37] })
    (base : Nat) (A : Option Addr) (c : Nat) (xs : List Int) (hs : a.eval s = .slice A xs.length c) (hown : OwnI w base A c xs)
    (B : Nat) (ad : Addr) (c2 : Nat) (ys : List Int) (hne : ys ≠ []) (hx : a.eval x = .slice (some ad) ys.length c2) (hr : IntsAt w B (some ad) ys)
    (hsum : xs.length + ys.length ≤ 16777216) (hbase : base ≤ w.heap.size)
    (h : ∀ (zs : List Int) (A' : Option Addr) (c' : Nat) (w' : World), Hid (AppK w w' base A A' c c' xs ys zs) → 
      wpList Try.prog ops Q rest (a.put o.dst (.slice A' zs.length c')) w') : wpList Try.prog ops Q (o :: rest) a w := by
  obtain ⟨i0, hi, hz0, hz1, hz2⟩ := info_parts infoI
  have hcells : ∀ j u, (ys.map (Value.int .i64))[j]? = some u → w.cell? (ad.add j) = some u := by
    intro j u hu
    rw [List.getElem?_map] at hu
    cases hy : ys[j]? with
    | none => rw [hy] at hu; cases hu
    | some y =>
      rw [hy] at hu
      simp at hu
      subst hu
      obtain ⟨b, off, e2, _, hc⟩ := hr.row hne
      obtain rfl : ad = ⟨b, off, none⟩ := Option.some.inj e2
      have hadd : (⟨b, off, none⟩ : Addr).add j = ⟨b, off + j, none⟩ := by
        unfold Addr.add
        split
        · rename_i h0; subst h0; rfl
        · rfl
      rw [hadd]
      exact hc j y hy
  refine wpList_plain hgd fun K hK' => ?_
  obtain ⟨A', c', w', hrun, h1, h2, h3⟩ := run_append_keep (P := Try.prog) w base 37 o.type 3 i0 _ 1 8 Try.underlying37 hi hz0 hz1 hz2 rfl (by omega) _ _ _ _ hown.own ad ys.length c2 (ys.map (Value.int .i64)) (by simp) hcells (ints_one ys)
    (by unfold maxLen; omega) (by omega) hbase (List.length_pos_iff.2 hne)
  have hlen : xs.length + ys.length = (xs ++ ys).length := by simp
  rw [← List.map_append, hlen] at h1
  rw [hlen] at hrun
  unfold Oper.wp
  simp [execOp, ho, resolve, invoke, builtin, hs, hx, hrun, Result.andThen]
  simp only [List.length_append] at *
  exact hK' _ _ (by simpa using h (xs ++ ys) A' c' w' (hide ⟨rfl, ⟨by simpa using h1⟩, ⟨h2⟩, h3⟩))

theorem step_append_intsK {w : World} {ops : Array Oper} {o : Oper} {a : Act} {K : Act → World → Prop} {Q : Exit → Act → World → Prop} {E : Prop} (hgd : o.guard = none) (s x : Operand)
    (ho : o.op = .call { callee := .builtin .append, args := #[s, x], argTypes := #[37, 37] })
    (base : Nat) (A : Option Addr) (c : Nat) (xs : List Int) (hs : a.eval s = .slice A xs.length c) (hown : OwnI w base A c xs)
    (B : Nat) (ad : Addr) (c2 : Nat) (ys : List Int) (hne : ys ≠ []) (hx : a.eval x = .slice (some ad) ys.length c2) (hr : IntsAt w B (some ad) ys)
    (hsum : xs.length + ys.length ≤ 16777216) (hbase : base ≤ w.heap.size)
    (h : ∀ (zs : List Int) (A' : Option Addr) (c' : Nat) (w' : World), Hid (AppK w w' base A A' c c' xs ys zs) →
      K (a.put o.dst (.slice A' zs.length c')) w') :
    if Region.wanted o (yielded ops a.tmps) = true then Oper.wp Try.prog o a w K Q else E := by
  obtain ⟨i0, hi, hz0, hz1, hz2⟩ := info_parts infoI
  have hcells : ∀ j u, (ys.map (Value.int .i64))[j]? = some u → w.cell? (ad.add j) = some u := by
    intro j u hu
    rw [List.getElem?_map] at hu
    cases hy : ys[j]? with
    | none => rw [hy] at hu; cases hu
    | some y =>
      rw [hy] at hu
      simp at hu
      subst hu
      obtain ⟨b, off, e2, _, hc⟩ := hr.row hne
      obtain rfl : ad = ⟨b, off, none⟩ := Option.some.inj e2
      have hadd : (⟨b, off, none⟩ : Addr).add j = ⟨b, off + j, none⟩ := by
        unfold Addr.add
        split
        · rename_i h0; subst h0; rfl
        · rfl
      rw [hadd]
      exact hc j y hy
  obtain ⟨A', c', w', hrun, h1, h2, h3⟩ := run_append_keep (P := Try.prog) w base 37 o.type 3 i0 _ 1 8 Try.underlying37 hi hz0 hz1 hz2 rfl (by omega) _ _ _ _ hown.own ad ys.length c2 (ys.map (Value.int .i64)) (by simp) hcells (ints_one ys)
    (by unfold maxLen; omega) (by omega) hbase (List.length_pos_iff.2 hne)
  have hlen : xs.length + ys.length = (xs ++ ys).length := by simp
  rw [← List.map_append, hlen] at h1
  rw [hlen] at hrun
  have hw : Region.wanted o (yielded ops a.tmps) = true := by
    unfold Region.wanted
    rw [hgd]
  rw [if_pos hw]
  unfold Oper.wp execOp
  simp only [ho, resolve, invoke, builtin, Sem.run_bind, Sem.run_pure, Result.andThen_ok, List.map_toArray, List.map_cons, List.map_nil, hs, hx, hrun]
  exact h (xs ++ ys) A' c' w' (hide ⟨rfl, ⟨h1⟩, ⟨h2⟩, h3⟩)

end Go.Proofs.Ytkgnijbdbkopkab

namespace Go.Proofs.Ytkgnijbdbkopkab
open Go.RowKit Go.Maps
set_option linter.unusedVariables false

/-- a graph in a row of the call's own comes back that reads as ms with the root r -/
def ReadsG (w : World) (ms : List Nd) (r : Int) (e : Ending) (w' : World) : Prop :=
  ∃ A c, e = .returned (.agg #[.slice A ms.length c, .int .i64 r]) ∧ RowN w' w.heap.size A c ms ∧ WfN ms ∧ Below w.heap.size w w'

theorem RowN.low {w : World} {base base' : Nat} {A : Option Addr} {c : Nat} {ns : List Nd} (h : RowN w base A c ns) (hb : base' ≤ base) : RowN w base' A c ns := by
  obtain ⟨cs, h1, h2⟩ := h.row
  refine ⟨⟨cs, ⟨h1.1, ?_⟩, fun j n hj => ?_⟩⟩
  · rcases h1.2 with h3 | ⟨g, cap, cur, hv, hg, r⟩
    · exact .inl h3
    · exact .inr ⟨g, cap, cur, hv, by omega, r⟩
  · obtain ⟨A1, c1, a1, a2, a3, a4⟩ := h2 j n hj
    exact ⟨A1, c1, a1, a2, a3, a4.lowB hb⟩

/-- the memory of the model's pruned: nodes are added -/
structure PsA (W3 wr : World) (ns : List Nd) (L : List Int) (k : Nat) : Prop where
  bel : Below W3.heap.size W3 wr
  out : ∃ An cn, Lies wr W3.heap.size #[.slice An ((pickNs ns L).take k).length cn, .int .i64 0] 25 ∧ RowN wr (W3.heap.size + 1) An cn ((pickNs ns L).take k)
  size : W3.heap.size + 1 ≤ wr.heap.size

theorem RowN.keep {w w' : World} {base : Nat} {A : Option Addr} {c : Nat} {ns : List Nd} (h : RowN w base A c ns) (hb : ∀ b, base ≤ b → b < w.heap.size → w'.heap[b]? = w.heap[b]?) : RowN w' base A c ns := by
  obtain ⟨cs, h1, h2⟩ := h.row
  refine ⟨⟨cs, ⟨h1.1, ?_⟩, fun j n hj => ?_⟩⟩
  · rcases h1.2 with h3 | ⟨g, cap, cur, hv, hg, hh, r⟩
    · exact .inl h3
    · exact .inr ⟨g, cap, cur, hv, hg, (hb g hg (lt_of_block hh)).trans hh, r⟩
  · obtain ⟨A1, c1, a1, a2, a3, a4⟩ := h2 j n hj
    exact ⟨A1, c1, a1, a2, a3, a4.of_blk (fun b hb' => hb b (a4.blocks b hb').1 (a4.blocks b hb').2)⟩

theorem PsA.step {W3 W5 wi w9 : World} {ns : List Nd} {L : List Int} {k i c' cn : Nat} {An A' : Option Addr} {n : Nd} {ks : List Int} {ob : Obj} (h : PsA W3 W5 ns L k) (hb : Below W5.heap.size W5 wi) (hlO : Lies W5 W3.heap.size #[.slice An ((pickNs ns L).take k).length cn, .int .i64 0] 25) (hAn : ∀ b, blockOf An = some b → W3.heap.size + 1 ≤ b)
    (hk : L[k]? = some (i : Int)) (hn : ns[i]? = some n) (hks : ks = n.kids.map (place L)) (hrow : RowN w9 (W3.heap.size + 1) A' c' ((pickNs ns L).take k ++ [⟨n.kind, n.value, ks⟩])) (hg : (wi.alloc ob).grownBy w9 (blockOf An)) :
    PsA W3 (w9.setCell ⟨W3.heap.size, 0, none⟩ (.slice A' (((pickNs ns L).take k).length + 1) c')) ns L (k + 1) := by
  have h1 := h.size
  have h2 := hb.size
  have h3 := hg.size
  simp only [World.size_alloc] at h3
  have hbi : Below W3.heap.size W3 (wi.alloc ob) := (h.bel.trans (hb.mono (by omega))).alloc (by omega) _
  have l9 : Lies w9 W3.heap.size _ _ := (hg.block W3.heap.size (by simp; omega) (fun e => by have := hAn _ e.symm; omega)).trans ((hlO.below hb (by omega)).alloc ob)
  have l10 := l9.set 0 (.slice A' (((pickNs ns L).take k).length + 1) c')
  simp only [List.setIfInBounds_toArray, List.set_cons_zero] at l10
  refine ⟨(below_grown hbi hg (by simp; omega) (fun b hb' => by have := hAn b hb'; omega)).setCell (p := ⟨W3.heap.size, 0, none⟩) (Nat.le_refl _) _, ⟨A', c', ?_, ?_⟩, by simp; omega⟩
  · rw [pickNs_take hk hn]
    simpa using l10
  · rw [pickNs_take hk hn, ← hks]
    exact hrow.keep (fun b hb' _ => Below.heap_setCell _ _ _ _ (by show b ≠ W3.heap.size; omega))

/-- the memory of its inner loop: kids are added to the new node -/
structure PsM (W2 wi : World) (bM : Nat) (n : Nd) (L : List Int) (j : Nat) (Ak : Option Addr) (ck : Nat) (ks : List Int) : Prop where
  bel : Below bM W2 wi
  lM : Lies wi bM #[.int .i64 n.kind, .int .i64 n.value, .slice Ak ks.length ck] 45
  own : OwnI wi (bM + 1) Ak ck ks
  eq : ks = (n.kids.take j).map (place L)
  size : bM + 1 ≤ wi.heap.size
  le : ks.length ≤ 1000

theorem PsM.start {W7 : World} {bM : Nat} {n : Nd} (L : List Int) (l : Lies W7 bM #[.int .i64 n.kind, .int .i64 n.value, .slice none 0 0] 45) : PsM W7 W7 bM n L 0 none 0 [] :=
  ⟨Below.refl _ _, l, OwnI.empty _ _, by simp, l.lt, by simp⟩

theorem PsM.step {W7 wi w9 : World} {bM : Nat} {n : Nd} {L : List Int} {j : Nat} {Ak A' : Option Addr} {ck c' : Nat} {ks zs : List Int} {y : Int} {ob : Obj} (h : PsM W7 wi bM n L j Ak ck ks) (hy : n.kids[j]? = some y) (hk : n.kids.length ≤ 1000) (hz : zs = ks ++ [place L y]) (hown : OwnI w9 (bM + 1) A' c' zs) (hg : (wi.alloc ob).drew.grownBy w9 (blockOf Ak)) :
    PsM W7 (w9.setCell ⟨bM, 2, none⟩ (.slice A' zs.length c')) bM n L (j + 1) A' c' zs := by
  have hs := h.size
  have hgs := hg.size
  have hgs2 : wi.heap.size + 1 ≤ w9.heap.size := by
    have : (wi.alloc ob).heap.size ≤ w9.heap.size := hgs
    simpa using this
  have hbM : ∀ b, blockOf Ak = some b → bM + 1 ≤ b := fun b hb => (h.own.blocks b hb).1
  have l9 : Lies w9 bM #[.int .i64 n.kind, .int .i64 n.value, .slice Ak ks.length ck] 45 := by
    have h1 := hg.block bM (by show bM < (wi.alloc ob).heap.size; simp; omega) (fun e => by have := hbM bM e.symm; omega)
    have h2 : Lies (wi.alloc ob).drew bM #[.int .i64 n.kind, .int .i64 n.value, .slice Ak ks.length ck] 45 := h.lM.alloc _
    exact h1.trans h2
  have l10 := l9.set 2 (.slice A' zs.length c')
  simp only [List.setIfInBounds_toArray, List.set_cons_succ, List.set_cons_zero] at l10
  have hd : Below bM W7 (wi.alloc ob).drew := (h.bel.alloc (by omega) _).drew
  have hjl := (List.getElem?_eq_some_iff.1 hy).1
  have heq : zs = (n.kids.take (j + 1)).map (place L) := by rw [hz, h.eq, List.take_add_one, hy]; simp
  refine ⟨(below_grown hd hg (by show bM ≤ (wi.alloc ob).heap.size; simp; omega) (fun b hb => by have := hbM b hb; omega)).setCell (p := ⟨bM, 2, none⟩) (Nat.le_refl _) _, l10, hown.of_blk (fun b hb => Below.heap_setCell _ _ _ _ (by show b ≠ bM; have := (hown.blocks b hb).1; omega)), heq, by simp; omega, by rw [heq]; simp; omega⟩

set_option maxRecDepth 100000 in
set_option maxHeartbeats 2000000 in
theorem specPruned_yes (A : Option Addr) (ns : List Nd) (c : Nat) (i : Nat) (w : World) (hr : NdsAt w w.heap.size A ns) (hv : ValidG ns (i : Int)) :
    Calls Try.prog 30 #[.agg #[.slice A ns.length c, .int .i64 (i : Int)]] w (ReadsG w (pickNs ns (reachOf ns i)) 0) := by
  have hB2 : Below w.heap.size w ((w.alloc (.cells #[.slice A ns.length c, .int .i64 (i : Int)] 25)).alloc (.cells #[.slice none 0 0, .int .i64 0] 25)) := ((Below.refl _ _).alloc (Nat.le_refl _) _).alloc (by simp) _
  have lG := (Lies.new w #[.slice A ns.length c, .int .i64 (i : Int)] 25).alloc (.cells #[.slice none 0 0, .int .i64 0] 25)
  have lR := Lies.new (w.alloc (.cells #[.slice A ns.length c, .int .i64 (i : Int)] 25)) #[.slice none 0 0, .int .i64 0] 25
  simp only [World.size_alloc] at lR
  have hr2 := hr.later hB2 (Nat.le_refl _)
  have hi : i < ns.length := by have := hv.root; omega
  have HV := hide hv
  have e0 := lG.cell 0
  have e1 := lG.cell 1
  simp at e0 e1
  clear hr hv
  go_enter Try.func30, Try.ntmps30
  go_wp2_with fail
  generalize hWd : (w.alloc (.cells #[.slice A ns.length c, .int .i64 (i : Int)] 25)).alloc (.cells #[.slice none 0 0, .int .i64 0] 25) = W at hB2 lG lR hr2 e0 e1 ⊢
  have hWs : W.heap.size = w.heap.size + 1 + 1 := by rw [← hWd]; simp
  clear hWd
  have hb1 : Below W.heap.size W (W.alloc (.cells #[] 3)) := (Below.refl _ _).alloc (Nat.le_refl _) _
  have hr3 := hr2.later hb1 (Nat.le_refl _)
  have hB3 := hB2.trans (hb1.mono hB2.size)
  have hI : IntsAt (W.alloc (.cells #[] 3)) (W.alloc (.cells #[] 3)).heap.size (some ⟨W.heap.size, 0, none⟩) [] := (OwnI.bare W).ints (by simp) (by simp)
  rw [show (⟨W.heap.size, 0, none⟩ : Addr) = ⟨w.heap.size + 1 + 1, 0, none⟩ by rw [hWs]] at hI
  have lG1 := lG.below hb1 lG.lt
  have lR1 := lR.below hb1 lR.lt
  clear lG lR hr2 hB2 hb1 hWs
  generalize W.alloc (.cells #[] 3) = w2 at hr3 hB3 hI lG1 lR1 ⊢
  refine (reach_any ns (kidsIn_of_valid HV.out) (fun n hn => (HV.out.nodes n hn).few) HV.out.few A c i (ns.length + 1) i [] (some ⟨w.heap.size + 1 + 1, 0, none⟩) 0 w2 hi (Met.nil ns) hr3 hI (fun e => by cases e) (by simp)).mono ?_
  rintro e w3 ⟨A2, c2, rfl, hb3, hI3, hnil3, hor⟩
  have HP := hide (reach_pickable HV.out)
  have hLd : reachOf ns (i : Int) = dfs ns anyB (ns.length + 1) i [] := by unfold reachOf; rw [if_pos HV.out]
  rw [← hLd] at hI3 ⊢
  generalize hLL : reachOf ns (i : Int) = L at HP hI3 ⊢
  have HLL := hide hLL
  clear hLL
  have lG3 := lG1.below hb3 lG1.lt
  have lR3 := lR1.below hb3 lR1.lt
  have hr4 := hr3.later hb3 (Nat.le_refl _)
  have hB4 := hB3.trans (hb3.mono hB3.size)
  have HLI := hide hI3
  have HR := hide hr4
  have hfew := HP.out.few
  have hS0 : PsA w3 (w3.alloc (.cells #[.slice none 0 0, .int .i64 0] 25)) ns L 0 := ⟨(Below.refl _ _).alloc (Nat.le_refl _) _, ⟨none, 0, Lies.new w3 _ _, RowN.nil _ _⟩, by simp⟩
  have HS0 := hide hS0
  have HG3 := hide lG3
  have HR3 := hide lR3
  have HB4 := hide hB4
  clear hor hnil3 hb3 hI3 hr4 hr3 hI lG1 lR1 hLd hS0 lG3 lR3 hB3 hB4 e0 e1
  go_wp2_with fail
  generalize w3.alloc (.cells #[.slice none 0 0, .int .i64 0] 25) = w4 at HS0 ⊢
  go_loopg [5] L.length (fun gk iv wr => ∃ k : Nat, k ≤ L.length ∧ gk = L.length - k ∧ iv = .int .i64 (k : Int) ∧ PsA w3 wr ns L k)
  case atStart => exact ⟨0, Nat.zero_le _, rfl, rfl, HS0.out⟩
  case round =>
    clear HS0
    obtain ⟨W5, hW5⟩ : ∃ X, X = wr := ⟨_, rfl⟩
    subst hW5
    obtain ⟨k, hk, rfl, rfl, hS⟩ := hrel
    by_cases hlt : k < L.length
    · have HS := hide hS
      obtain ⟨b, off, x, rfl, hbl, hx, hm, hc⟩ := (HLI.out.below hS.bel).at_ hlt
      obtain ⟨hx0, hx1⟩ := HP.out.range x hm
      obtain ⟨q, rfl⟩ := Int.eq_ofNat_of_zero_le hx0
      have hil : q < ns.length := by omega
      obtain ⟨b', off', n, rfl, hbl', hn, _, hnd⟩ := (HR.out.below hS.bel).at_ hil
      obtain ⟨A1, c1, k2, hki, _⟩ := hnd.kids
      have k0 := hnd.kind
      have k1 := hnd.value
      obtain ⟨hk1000, hkin⟩ := HP.out.closed q n hm hn
      have lG5 := HG3.out.below hS.bel HG3.out.lt
      have g0 := lG5.cell 0
      simp at g0
      have HX := hide hx
      have HN := hide hn
      have hi1 : (0 : Int) ≤ (k : Int) := by omega
      have hi2 : (k : Int) < (L.length : Int) := by omega
      have hi3 : (0 : Int) ≤ (q : Int) := by omega
      have hi4 : (q : Int) < (ns.length : Int) := by omega
      have HKI := hide (hki.more (by exact hS.bel.size : w3.heap.size ≤ W5.heap.size))
      have u0 := World.new_ne W5 _ g0
      have u1 := World.new_ne W5 _ hc
      have u2 := World.new_ne W5 _ k0
      clear hx hm hn hkin hnd hki hS lG5 hx0 hx1 hbl hbl'
      go_wp2_with fail
      go_region_held3 (fun w' => w'.cell? ⟨w.heap.size, 0, none⟩ = some (.slice (some ⟨b', off', none⟩) ns.length c) ∧ w'.cell? ⟨b, off + k, none⟩ = some (.int .i64 (q : Int)) ∧ w'.cell? ⟨b', off' + q * 3, none⟩ = some (.int .i64 n.kind) ∧ w'.cell? ⟨b', off' + q * 3 + 1, none⟩ = some (.int .i64 n.value) ∧ w'.cell? ⟨b', off' + q * 3 + 2, none⟩ = some (.slice A1 n.kids.length c1))
        (first
          | (go_split_ands; refine ⟨?_, ?_, ?_, ?_, ?_⟩ <;> assumption)
          | go_keep)
        (fail)
      go_wp2_with fail
      have hb7 : Below W5.heap.size W5 (((W5.alloc (.cells #[.int .i64 n.kind, .int .i64 n.value, .slice A1 n.kids.length c1] 45)).alloc (.cells #[.int .i64 n.kind, .int .i64 n.value, .slice none 0 0] 45)).drew) := (((Below.refl _ _).alloc (Nat.le_refl _) _).alloc (by simp) _).drew
      have lN7 : Lies (((W5.alloc (.cells #[.int .i64 n.kind, .int .i64 n.value, .slice A1 n.kids.length c1] 45)).alloc (.cells #[.int .i64 n.kind, .int .i64 n.value, .slice none 0 0] 45)).drew) W5.heap.size #[.int .i64 n.kind, .int .i64 n.value, .slice A1 n.kids.length c1] 45 := (Lies.new W5 _ _).alloc _
      have lM7 : Lies (((W5.alloc (.cells #[.int .i64 n.kind, .int .i64 n.value, .slice A1 n.kids.length c1] 45)).alloc (.cells #[.int .i64 n.kind, .int .i64 n.value, .slice none 0 0] 45)).drew) (W5.heap.size + 1) #[.int .i64 n.kind, .int .i64 n.value, .slice none 0 0] 45 := by
        have := Lies.new (W5.alloc (.cells #[.int .i64 n.kind, .int .i64 n.value, .slice A1 n.kids.length c1] 45)) #[.int .i64 n.kind, .int .i64 n.value, .slice none 0 0] 45
        simp only [World.size_alloc] at this
        exact this
      generalize ((W5.alloc (.cells #[.int .i64 n.kind, .int .i64 n.value, .slice A1 n.kids.length c1] 45)).alloc (.cells #[.int .i64 n.kind, .int .i64 n.value, .slice none 0 0] 45)).drew = W7 at hb7 lN7 lM7 ⊢
      have HM0 := hide (PsM.start L lM7)
      have HB7 := hide hb7
      have HN7 := hide lN7
      clear hb7 lN7 lM7 k0 k1 k2 hc g0 u0 u1 u2
      go_loopg [8] n.kids.length (fun gk jv wi => ∃ (j : Nat) (Ak : Option Addr) (ck : Nat) (ks : List Int), j ≤ n.kids.length ∧ gk = n.kids.length - j ∧ jv = .int .i64 (j : Int) ∧ PsM W7 wi (W5.heap.size + 1) n L j Ak ck ks)
      case atStart => exact ⟨0, none, 0, [], Nat.zero_le _, rfl, rfl, HM0.out⟩
      case round =>
        clear HM0
        obtain ⟨j, Ak, ck, ks, hj, rfl, rfl, hM⟩ := hrel
        have HM := hide hM
        have hsM := hM.size
        have hBW := hide (HB7.out.trans (hM.bel.mono (by omega)))
        have lN := HN7.out.below hM.bel (by omega)
        have n2 := lN.cell 2
        have m2 := hM.lM.cell 2
        have f2 := hM.lM.frozen 2
        simp at n2 m2
        have hkl := hM.le
        by_cases hlj : j < n.kids.length
        · obtain ⟨b3, off3, y, rfl, hbl3, hy, hym, hcy⟩ := (HKI.out.below hBW.out).at_ hlj
          have HY := hide hy
          have hj1 : (0 : Int) ≤ (j : Int) := by omega
          have hj2 : (j : Int) < (n.kids.length : Int) := by omega
          have HLd : Hid (IntsAt wr.drew wr.drew.heap.size (some ⟨b, off, none⟩) L) := hide (HLI.out.later (HS.out.bel.trans ((hBW.out.mono HS.out.bel.size).drew)) (Nat.le_refl _))
          have hq64 := hide (place_in64 (L := L) (by omega) y)
          have hne : Hid (some (W5.heap.size + 1) ≠ blockOf Ak) := hide (fun e => by have := (HM.out.own.blocks _ e.symm).1; omega)
          have hlt3 : b3 < wr.heap.size := by omega
          have hlt4 : W5.heap.size + 1 < wr.heap.size := by omega
          have hlt5 : W5.heap.size < wr.heap.size := by omega
          clear hy hym hM lN
          go_wp2_with fail
          go_region_law (first
            | (go_simp; go_at_call 37; refine (placeIn_any (some ⟨b, off, none⟩) L c2 y wr.drew HLd.out).mono ?_; rintro e w' ⟨rfl, rfl⟩; try dsimp only)
            | (refine step_append_ints (by rfl) _ _ (by rfl) (W5.heap.size + 1 + 1) Ak ck ks (by rfl) (HM.out.own.alloc _).drew ⟨wr.heap.size, 0, none⟩ 1 [place L y] (by simp) (by rfl) (by have h0 := (IntsAt.lit wr [place L y] (by intro z hz; simp at hz; rw [hz]; exact hq64.out) (by simp)).below (Below.refl _ _).drew; simpa using h0) (by simp; omega) (by simp; omega) ?_; intro zs A' c' w9 hz9 hown9 hg9 hat9
               have t2 : w9.cell? ⟨W5.heap.size + 1, 2, none⟩ = some (.slice Ak ks.length ck) := (hg9.cell_far _ (by simp; omega) hne.out).trans ((World.cell?_alloc_lt _ _ _ (by show W5.heap.size + 1 < wr.heap.size; omega)).trans m2)
               have t3 : w9.frozen? ⟨W5.heap.size + 1, 2, none⟩ = false := (hg9.frozen_far _ (by simp; omega) hne.out).trans ((HM.out.lM.alloc _).frozen 2)))
          all_goals
            have HM1 := hide (HM.out.step HY.out hk1000 hz9.out hown9 hg9)
            clear t2 t3 hown9 hg9 hat9 n2 m2 f2 hcy
            go_wp2
            go_roundg (n.kids.length - (j + 1))
            case measure => omega
            case rel => exact ⟨j + 1, A', c', zs, by omega, rfl, by go_num, HM1.out⟩
        · obtain rfl : j = n.kids.length := by omega
          obtain ⟨An, cn, hlO, hRow⟩ := HS.out.out
          have hlOw := hlO.below hBW.out hlO.lt
          have o0 := hlOw.cell 0
          have o1 := hlOw.frozen 0
          have m0 := hM.lM.cell 0
          have m1 := hM.lM.cell 1
          simp only [List.getElem?_toArray, List.getElem?_cons_zero] at o0
          simp at m0 m1
          have hOlt := hlO.lt
          have hsS := HS.out.size
          have HAn := hide (fun b hb => (hRow.blocks b hb).1 : ∀ b, blockOf An = some b → w3.heap.size + 1 ≤ b)
          have HRow := hide (hRow.below hBW.out)
          have HlO := hide hlO
          have hks : ks = n.kids.map (place L) := by rw [hM.eq, List.take_length]
          have Hks := hide hks
          have HOw := hide (hM.own.lowB (base' := w3.heap.size + 1) (by omega))
          have hne : Hid (some w3.heap.size ≠ blockOf An) := hide (fun e => by have := HAn.out _ e.symm; omega)
          have hll : ((pickNs ns L).take k).length ≤ 1000 := by simp [pickNs_len]; omega
          have hlt6 : w3.heap.size < wr.heap.size := by omega
          clear hlO hRow hks hM lN hlj f2
          generalize hPd : (pickNs ns L).take k = P at o0 HRow HlO hll hlOw ⊢
          have HPd := hide hPd
          clear hPd
          go_wp2_with (at_builtin; refine append_ndK rfl (.tmp 54) (.tmp 56) rfl (w3.heap.size + 1) An cn P rfl (HRow.out.below ((Below.refl _ _).alloc (Nat.le_refl _) _)) wr.heap.size ⟨n.kind, n.value, ks⟩ Ak ck 45 rfl (heap_alloc_new wr _) (HOw.out.alloc _) (by simp; omega) hll ?_; intro A' c' w9 hrow9 hg9; have t2 : w9.cell? ⟨w3.heap.size, 0, none⟩ = some (.slice An P.length cn) := (hg9.cell_far _ (by simp; omega) hne.out).trans ((World.cell?_alloc_lt _ _ _ hlt6).trans o0); have t3 : w9.frozen? ⟨w3.heap.size, 0, none⟩ = false := (hg9.frozen_far _ (by simp; omega) hne.out).trans ((hlOw.alloc _).frozen 0))
          have hN2 := HS.out.step hBW.out (by rw [HPd.out]; exact HlO.out) HAn.out HX.out HN.out Hks.out (by rw [HPd.out]; exact hrow9) hg9
          rw [HPd.out] at hN2
          have HN2 := hide hN2
          clear hN2 t2 t3 hrow9 hg9 o0 o1 m0 m1 m2 n2
          go_wp2
          go_roundg (L.length - (k + 1))
          case measure => omega
          case rel => exact ⟨k + 1, by omega, rfl, by go_num, HN2.out⟩
    · obtain rfl : k = L.length := by omega
      obtain ⟨An, cn, hlO, hRow⟩ := hS.out
      rw [List.take_of_length_le (by rw [pickNs_len]; exact Nat.le_refl _)] at hlO hRow
      have hsS := hS.size
      have hBr := hS.bel
      have hGR := HR3.out.lt
      have lRw := HR3.out.below hS.bel hGR
      have hwf : WfN (pickNs ns L) := by
        intro m hm
        obtain ⟨x, hx, rfl⟩ := List.mem_map.1 hm
        obtain ⟨hx0, hx1⟩ := HP.out.range x hx
        obtain ⟨q, rfl⟩ := Int.eq_ofNat_of_zero_le hx0
        obtain ⟨_, _, n, _, _, hn, _, hnd⟩ := HR.out.at_ (k := q) (by omega)
        rw [pickN_at hn]
        exact ⟨hnd.wfk, hnd.wfv, fun z hz => by
          obtain ⟨y, _, rfl⟩ := List.mem_map.1 hz
          exact place_in64 (by omega) y, by have := (HP.out.closed q n hx hn).1; simp; omega⟩
      have l5 := (lRw.set 0 (.slice An (pickNs ns L).length cn)).set 1 (.int .i64 0)
      simp only [List.setIfInBounds_toArray, List.set_cons_succ, List.set_cons_zero] at l5
      have s0 := l5.cell 0
      have s1 := l5.cell 1
      have q0 := lRw.cell 0
      have q1 := lRw.cell 1
      have f0 := lRw.frozen 0
      have f1 := lRw.frozen 1
      have o0 := hlO.cell 0
      have o1 := hlO.cell 1
      simp only [List.getElem?_toArray, List.getElem?_cons_zero, List.getElem?_cons_succ] at s0 s1 q0 q1 o0 o1
      have hfin : ReadsG w (pickNs ns L) 0 (.returned (.agg #[.slice An (pickNs ns L).length cn, .int .i64 0])) ((W5.setCell ⟨w.heap.size + 1, 0, none⟩ (.slice An (pickNs ns L).length cn)).setCell ⟨w.heap.size + 1, 1, none⟩ (.int .i64 0)) := by
        have hk := hRow.keep (w' := (W5.setCell ⟨w.heap.size + 1, 0, none⟩ (.slice An (pickNs ns L).length cn)).setCell ⟨w.heap.size + 1, 1, none⟩ (.int .i64 0)) (fun b hb _ => (Below.heap_setCell _ _ _ _ (by show b ≠ w.heap.size + 1; omega)).trans (Below.heap_setCell _ _ _ _ (by show b ≠ w.heap.size + 1; omega)))
        exact ⟨An, cn, rfl, hk.low (by omega), hwf, ((HB4.out.trans (hBr.mono HB4.out.size)).setCell (p := ⟨w.heap.size + 1, 0, none⟩) (by show w.heap.size ≤ w.heap.size + 1; omega) _).setCell (p := ⟨w.heap.size + 1, 1, none⟩) (by show w.heap.size ≤ w.heap.size + 1; omega) _⟩
      have HFin := hide hfin
      have hlenP := hide (pickNs_len ns L)
      clear hfin hwf l5 lRw hlO hRow hS hBr hlt
      go_wp2
      refine bodyPost_ret (v := .agg #[.slice An (pickNs ns L).length cn, .int .i64 0]) (by simp [results, Try.results30, go_sem, s0, s1]) rfl ?_
      rw [HLL.out]
      exact HFin.out

end Go.Proofs.Ytkgnijbdbkopkab

namespace Go.Proofs.Ytkgnijbdbkopkab
open Go.RowKit Go.Maps
set_option linter.unusedVariables false

/-- nodes of an equal class are told the same -/
structure Cong (ns : List Nd) (cl : List Int) : Prop where
  len : cl.length = ns.length
  rng : ∀ x : Int, 0 ≤ x → x < ns.length → 0 ≤ look cl x ∧ look cl x < ns.length
  idem : ∀ x : Int, 0 ≤ x → x < ns.length → look cl (look cl x) = look cl x
  same : ∀ (i j : Nat) (n m : Nd), ns[i]? = some n → ns[j]? = some m → look cl (i : Int) = look cl (j : Int) → sigOf cl n = sigOf cl m

theorem cong_cls {ns : List Nd} (hk : KidsIn ns) : Cong ns (clsN ns ns.length) := by
  have hall := cls_all hk 1
  refine ⟨clsN_len _ _, fun x h0 h1 => ?_, fun x h0 h1 => ?_, fun i j n m hn hm h => ?_⟩
  · obtain ⟨i, rfl⟩ := Int.eq_ofNat_of_zero_le h0
    obtain ⟨j, g1, g2, g3⟩ := cls_self (ns := ns) ns.length (show i < ns.length by omega)
    rw [look_at g1]
    omega
  · obtain ⟨i, rfl⟩ := Int.eq_ofNat_of_zero_le h0
    obtain ⟨j, g1, g2, g3⟩ := cls_self (ns := ns) ns.length (show i < ns.length by omega)
    rw [look_at g1, look_at g3]
  · rw [← hall] at h
    exact (finer_eq (cl := clsN ns ns.length) hn hm).1 h

theorem sig_parts {cl : List Int} {n m : Nd} (h : sigOf cl n = sigOf cl m) : n.kind = m.kind ∧ n.value = m.value ∧ n.kids.map (look cl) = m.kids.map (look cl) := by
  unfold sigOf at h
  simp only [Prod.mk.injEq] at h
  exact h

/-- a kid of the one is the kid of the other at the same place -/
theorem sig_kid {cl : List Int} {n m : Nd} (h : sigOf cl n = sigOf cl m) {x : Int} (hx : x ∈ n.kids) : ∃ y ∈ m.kids, look cl y = look cl x := by
  have h3 := (sig_parts h).2.2
  have : look cl x ∈ m.kids.map (look cl) := by rw [← h3]; exact List.mem_map_of_mem hx
  obtain ⟨y, hy, e⟩ := List.mem_map.1 this
  exact ⟨y, hy, e⟩

theorem kidsOf_repl {ns : List Nd} {cl : List Int} {i : Nat} {n : Nd} (h : ns[i]? = some n) : kidsOf (replNs ns cl) (i : Int) = n.kids.map (look cl) := kidsOf_at (replNs_at h)
theorem kindOf_repl {ns : List Nd} {cl : List Int} {i : Nat} {n : Nd} (h : ns[i]? = some n) : kindOf (replNs ns cl) (i : Int) = n.kind := by
  have := kindOf_at (replNs_at (cl := cl) h)
  exact this

/-- a node that is met, and what it is -/
theorem nd_of {ns : List Nd} {x : Int} (h0 : 0 ≤ x) (h1 : x < ns.length) : ∃ (i : Nat) (n : Nd), x = (i : Int) ∧ ns[i]? = some n := in_at ⟨h0, h1⟩

theorem kid_range {ns : List Nd} (hk : KidsIn ns) {i : Nat} {n : Nd} (h : ns[i]? = some n) {x : Int} (hx : x ∈ n.kids) : 0 ≤ x ∧ x < ns.length := hk n (List.mem_of_getElem? h) x hx

/-- a way in the graph of classes is one in the graph, from each node of the class -/
theorem treach_lift {ns : List Nd} {cl : List Int} (hk : KidsIn ns) (hc : Cong ns cl) {i : Nat} {n : Nd} (hi : ns[i]? = some n) {y : Int} (h : TReach (replNs ns cl) (i : Int) y) :
    (0 ≤ y ∧ y < ns.length) ∧ ∀ (a : Nat) (m : Nd), ns[a]? = some m → look cl (a : Int) = look cl (i : Int) → ∃ (b : Nat) (q : Nd), ns[b]? = some q ∧ TReach ns (a : Int) (b : Int) ∧ look cl (b : Int) = look cl y := by
  induction h with
  | kid x hx =>
    rw [kidsOf_repl hi] at hx
    obtain ⟨k, hkm, rfl⟩ := List.mem_map.1 hx
    have hkr := kid_range hk hi hkm
    refine ⟨hc.rng k hkr.1 hkr.2, fun a m ha he => ?_⟩
    obtain ⟨z, hz, ez⟩ := sig_kid (hc.same i a n m hi ha he.symm) hkm
    have hzr := kid_range hk ha hz
    obtain ⟨b, q, rfl, hq⟩ := nd_of hzr.1 hzr.2
    exact ⟨b, q, hq, .kid _ (by rw [kidsOf_at ha]; exact hz), by rw [ez, hc.idem k hkr.1 hkr.2]⟩
  | step y x hy hy2 hx ih =>
    obtain ⟨hyr, ih⟩ := ih
    obtain ⟨j, w, rfl, hj⟩ := nd_of hyr.1 hyr.2
    rw [kidsOf_repl hj] at hx
    rw [kindOf_repl hj] at hy2
    obtain ⟨k, hkm, rfl⟩ := List.mem_map.1 hx
    have hkr := kid_range hk hj hkm
    refine ⟨hc.rng k hkr.1 hkr.2, fun a m ha he => ?_⟩
    obtain ⟨b, q, hq, hr, hbl⟩ := ih a m ha he
    have hs := hc.same j b w q hj hq hbl.symm
    obtain ⟨z, hz, ez⟩ := sig_kid hs hkm
    have hzr := kid_range hk hq hz
    obtain ⟨b', q', rfl, hq'⟩ := nd_of hzr.1 hzr.2
    exact ⟨b', q', hq', .step _ _ hr (by rw [kindOf_at hq, ← (sig_parts hs).1]; exact hy2) (by rw [kidsOf_at hq]; exact hz), by rw [ez, hc.idem k hkr.1 hkr.2]⟩

theorem treach_thru {ns : List Nd} {a b c : Int} (h1 : TReach ns a b) (hb : kindOf ns b = 2) (h2 : TReach ns b c) : TReach ns a c := by
  induction h2 with
  | kid x hx => exact .step _ _ h1 hb hx
  | step y x _ hy2 hx ih => exact .step _ _ ih hy2 hx

/-- tuples that lead to a tuple of their own class lead on for ever -/
theorem treach_none {ns : List Nd} {cl : List Int} {r : Int} (hv : ValidG ns r) (hc : Cong ns cl) {i : Nat} {n : Nd} (hi : ns[i]? = some n) (h2 : n.kind = 2) (ht : TReach (replNs ns cl) (i : Int) (i : Int)) :
    ∀ (M : Nat) (a : Nat) (m : Nd), ns[a]? = some m → look cl (a : Int) = look cl (i : Int) → (List.range ns.length).countP (fun (x : Nat) => tf (TReach ns (a : Int) (x : Int))) ≤ M → False := by
  have hk := validG_kids hv
  have hl := (treach_lift hk hc hi ht).2
  intro M
  induction M with
  | zero =>
    intro a m ha he hM
    obtain ⟨b, q, hq, hr, _⟩ := hl a m ha he
    have hbl := (List.getElem?_eq_some_iff.1 hq).1
    have : 0 < (List.range ns.length).countP (fun (x : Nat) => tf (TReach ns (a : Int) (x : Int))) := List.countP_pos_iff.2 ⟨b, List.mem_range.2 hbl, tf_true hr⟩
    omega
  | succ M ih =>
    intro a m ha he hM
    obtain ⟨b, q, hq, hr, hbe⟩ := hl a m ha he
    have hq2 : q.kind = 2 := by rw [← (sig_parts (hc.same i b n q hi hq hbe.symm)).1]; exact h2
    have hbl := (List.getElem?_eq_some_iff.1 hq).1
    refine ih b q hq hbe ?_
    apply Nat.le_of_lt_succ
    refine Nat.lt_of_lt_of_le ?_ hM
    apply Nat.lt_of_not_le
    intro hle
    have hb := countP_back (List.range ns.length) (p := fun (x : Nat) => tf (TReach ns (b : Int) (x : Int))) (q := fun (x : Nat) => tf (TReach ns (a : Int) (x : Int)))
      (fun x _ hx => tf_true (treach_thru hr (by rw [kindOf_at hq]; exact hq2) (Classical.byContradiction fun hn => by rw [tf_false hn] at hx; cases hx))) hle b (List.mem_range.2 hbl) (tf_true hr)
    refine hv.tuples b q hq hq2 (Classical.byContradiction fun hn => ?_)
    rw [tf_false hn] at hb
    cases hb

theorem dict_repl {ns : List Nd} {cl : List Int} (hc : Cong ns cl) {kids : List Int} (hin : InG ns kids) (hd : DictOk ns kids) : DictOk (replNs ns cl) (kids.map (look cl)) := by
  have back : ∀ (p : Nat) (m : Nd), KidNd (replNs ns cl) (kids.map (look cl)) p m → ∃ n, KidNd ns kids p n ∧ m.kind = n.kind ∧ m.value = n.value := by
    rintro p m ⟨k, h1, h2⟩
    rw [List.getElem?_map] at h1
    cases hx : kids[p]? with
    | none => rw [hx] at h1; cases h1
    | some x =>
      rw [hx] at h1
      have e : look cl x = (k : Int) := by simpa using h1
      have hxr := hin x (List.mem_of_getElem? hx)
      obtain ⟨i, n, rfl, hn⟩ := nd_of hxr.1 hxr.2
      have hkl : k < ns.length := by have := (hc.rng (i : Int) hxr.1 hxr.2).2; omega
      have hq : ns[k]? = some ns[k] := List.getElem?_eq_getElem hkl
      rw [replNs_at hq] at h2
      injection h2 with h2
      have hs := sig_parts (hc.same i k n _ hn hq (by rw [← e, hc.idem _ hxr.1 hxr.2]))
      exact ⟨n, ⟨i, hx, hn⟩, by rw [← h2]; exact hs.1.symm, by rw [← h2]; exact hs.2.1.symm⟩
  refine ⟨by rw [List.length_map]; exact hd.even, fun p m hp hm => ?_, fun p q m n hp hq hlt hm hn => ?_⟩
  · obtain ⟨n, h1, h2, _⟩ := back p m hm
    have := hd.key p n hp h1
    unfold IsKey at this ⊢
    rw [h2]
    exact this
  · obtain ⟨m', h1, h2, h3⟩ := back p m hm
    obtain ⟨n', h4, h5, h6⟩ := back q n hn
    have := hd.diff p q m' n' hp hq hlt h1 h4
    unfold SameKey at this ⊢
    rw [h2, h3, h5, h6]
    exact this

theorem repl_valid {ns : List Nd} {cl : List Int} {r : Int} (hv : ValidG ns r) (hc : Cong ns cl) : ValidG (replNs ns cl) (look cl r) := by
  have hrr := hc.rng r hv.root0 hv.root
  refine ⟨by rw [replNs_len]; exact hv.one, by rw [replNs_len]; exact hv.few, hrr.1, by rw [replNs_len]; exact hrr.2, fun m hm => ?_, fun i m hi hk2 ht => ?_⟩
  · obtain ⟨n, hn, rfl⟩ := List.mem_map.1 hm
    have hok := hv.nodes n hn
    refine ⟨by simpa [replNd] using hok.few, fun y hy => ?_, ?_⟩
    · obtain ⟨k, hk, rfl⟩ := List.mem_map.1 (show y ∈ n.kids.map (look cl) from hy)
      rw [replNs_len]
      exact hc.rng k (hok.inn k hk).1 (hok.inn k hk).2
    · have := hok.kind
      unfold KindOk at this ⊢
      simp only [replNd, List.length_map]
      rcases this with h1 | h1 | h1 | h1 | h1 | h1
      · exact .inl h1
      · exact .inr (.inl h1)
      · exact .inr (.inr (.inl h1))
      · exact .inr (.inr (.inr (.inl h1)))
      · exact .inr (.inr (.inr (.inr (.inl ⟨h1.1, h1.2.1, dict_repl hc hok.inn h1.2.2⟩))))
      · exact .inr (.inr (.inr (.inr (.inr h1))))
  · have hil : i < ns.length := by have := (List.getElem?_eq_some_iff.1 hi).1; rwa [replNs_len] at this
    have hn : ns[i]? = some ns[i] := List.getElem?_eq_getElem hil
    rw [replNs_at hn] at hi
    injection hi with hi
    rw [← hi] at hk2
    exact treach_none hv hc hn hk2 ht _ i _ hn rfl (Nat.le_refl _)

end Go.Proofs.Ytkgnijbdbkopkab
