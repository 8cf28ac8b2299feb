/-
  Lemmas, several texts in one: ClnL, CdtM, CduM, CdvM.
-/
import Derived.Test.YthgklkpfmjgeoaaClnI
import Derived.Test.YthgklkpfmjgeoaaPjAh
import Derived.Test.YthgklkpfmjgeoaaPjAo
import Derived.Test.YthgklkpfmjgeoaaPjAr
namespace Go.Proofs.Ythgklkpfmjgeoaa
open Go.RowKit Go.Maps
set_option linter.unusedVariables false

set_option maxHeartbeats 1000000 in
theorem clonedNodes_any (A : Option Addr) (ns : List Nd) (c : Nat) (w : World) (hr : NdsAt w w.heap.size A ns) (hl : ns.length ≤ 1000) (hk : ∀ n ∈ ns, n.kids.length ≤ 1000) :
    Calls Try.prog 36 #[.slice A ns.length c] w (GivesNs w ns) := by
  have hmk := makeNodesC ns.length hl
  have HR := hide hr
  have HS0 := hide (ClA.start w ns)
  have HK := hide hk
  clear hr hk
  go_enter Try.func36, Try.ntmps36
  go_wp2_with fail
  clear hmk
  generalize hX1 : w.alloc (.cells (madeCells #[.int .i64 0, .int .i64 0, .slice none 0 0] (ns.length * 3)) 43) = X1 at HS0 ⊢
  clear hX1
  go_loopg [11] ns.length (fun gk iv wr => ∃ k : Nat, k ≤ ns.length ∧ gk = ns.length - k ∧ iv = .int .i64 (k : Int) ∧ ClA w wr ns k)
  case atStart => exact ⟨0, Nat.zero_le _, rfl, rfl, HS0.out⟩
  case round =>
    clear HS0
    obtain ⟨k, hk, rfl, rfl, hS⟩ := hrel
    by_cases hlt : k < ns.length
    · obtain ⟨b, off, n, rfl, hbl, hn, hm, hnd⟩ := (HR.out.below hS.bel).at_ hlt
      obtain ⟨A1, c1, k2, hki, hnil⟩ := hnd.kids
      have k0 := hnd.kind
      have k1 := hnd.value
      have HN := hide hn
      have HM := hide (HK.out n hm)
      have HS := hide hS
      have HKI := hide hki
      clear hn hm hnd hS hki hbl
      go_upto_region 5 with fail
      have hB2 : Below wr.heap.size wr (wr.alloc (.cells #[.int .i64 n.kind, .int .i64 n.value, .slice A1 n.kids.length c1] 43)) := (Below.refl _ _).alloc (Nat.le_refl _) _
      have l1 := Lies.new wr #[.int .i64 n.kind, .int .i64 n.value, .slice A1 n.kids.length c1] 43
      generalize wr.alloc (.cells #[.int .i64 n.kind, .int .i64 n.value, .slice A1 n.kids.length c1] 43) = W2 at hB2 l1 ⊢
      have e0 := l1.cell 0
      have e1 := l1.cell 1
      have e2 := l1.cell 2
      simp only [List.getElem?_toArray, List.getElem?_cons_zero, List.getElem?_cons_succ] at e0 e1 e2
      have hwr := HS.out.bel.size
      have HC := hide (clonedNode_any n A1 c1 W2 ((HKI.out.later (Below.refl _ _) hwr).later hB2 (Nat.le_refl _)) hnil HM.out)
      have HB2 := hide hB2
      clear k0 k1 k2 hB2 l1 HKI hnil
      go_wp2_with fail
      refine HC.out.mono ?_
      clear HC
      rintro e wi ⟨Ak, ck, rfl, hown, hbi⟩
      obtain ⟨f, hf⟩ := HS.out.row.row
      have hfw : wi.rowIs w.heap.size 43 (ns.length * 3) f := hf.of_block ((HB2.out.trans (hbi.mono HB2.out.size)).block _ hf.lt)
      have q0 := World.rowIs.cell hfw (i := k * 3) (by omega)
      have q1 := World.rowIs.cell hfw (i := k * 3 + 1) (by omega)
      have q2 := World.rowIs.cell hfw (i := k * 3 + 2) (by omega)
      have p0 := World.rowIs.frozen hfw (k * 3)
      have p1 := World.rowIs.frozen hfw (k * 3 + 1)
      have p2 := World.rowIs.frozen hfw (k * 3 + 2)
      have HB := hide (HS.out.step HN.out HB2.out hbi hown)
      have hk1 : (k : Int) < (ns.length : Int) := by omega
      clear hown hbi hf hfw e0 e1 e2 HB2 HN HM HS
      go_wp2_with fail
      go_roundg (ns.length - (k + 1))
      case measure => omega
      case rel => exact ⟨k + 1, by omega, rfl, by go_num, HB.out⟩
    · obtain rfl : k = ns.length := by omega
      have HS := hide hS
      clear hS hlt
      go_wp2
      have hrow := HS.out.row
      rw [List.take_length] at hrow
      refine bodyPost_ret (v := .slice (some ⟨w.heap.size, 0, none⟩) ns.length ns.length) (by simp [results, Try.results36, go_sem]) rfl ?_
      exact ⟨_, rfl, hrow, HS.out.bel⟩

end Go.Proofs.Ythgklkpfmjgeoaa

namespace Go.Proofs.Ythgklkpfmjgeoaa
open Go.RowKit
set_option linter.unusedVariables false

/-- two nodes are paired by two lists of met nodes: they have the same place, or both are numbers of one value -/
def Paired (ns ms : List Nd) (L M : List Int) (x y : Int) : Prop :=
  (x ∈ L ∧ y ∈ M ∧ place L x = place M y) ∨ (kindOf ns x = 0 ∧ kindOf ms y = 0 ∧ valueOf ns x = valueOf ms y ∧ kidsOf ns x = [] ∧ kidsOf ms y = [])

/-- the nodes met at i are alike, and their kids are paired -/
def GoodAt (ns ms : List Nd) (L M : List Int) (i : Nat) : Prop :=
  ∀ x y : Int, L[i]? = some x → M[i]? = some y → kindOf ns x = kindOf ms y ∧ valueOf ns x = valueOf ms y ∧ (kidsOf ns x).length = (kidsOf ms y).length ∧ ∀ (p : Nat) (a b : Int), (kidsOf ns x)[p]? = some a → (kidsOf ms y)[p]? = some b → Paired ns ms L M a b

theorem place_more {L K : List Int} {x : Int} (h : x ∈ L) : place (L ++ K) x = place L x := by
  rw [place_pos h, place_pos (List.mem_append_left _ h), List.idxOf_append, if_pos h]

theorem Paired.more {ns ms : List Nd} {L M K N : List Int} {x y : Int} (h : Paired ns ms L M x y) : Paired ns ms (L ++ K) (M ++ N) x y := by
  rcases h with ⟨h1, h2, h3⟩ | h
  · exact .inl ⟨List.mem_append_left _ h1, List.mem_append_left _ h2, by rw [place_more h1, place_more h2]; exact h3⟩
  · exact .inr h

theorem GoodAt.more {ns ms : List Nd} {L M K N : List Int} {i : Nat} (h : GoodAt ns ms L M i) (h1 : i < L.length) (h2 : i < M.length) : GoodAt ns ms (L ++ K) (M ++ N) i := by
  intro x y hx hy
  rw [List.getElem?_append_left h1] at hx
  rw [List.getElem?_append_left h2] at hy
  obtain ⟨a, b, c, d⟩ := h x y hx hy
  exact ⟨a, b, c, fun p u v hu hv => (d p u v hu hv).more⟩

/-- nodes that are paired are equal however deep, if all that was met is good -/
theorem paired_eqq {ns ms : List Nd} {L M : List Int} (hk : KidsIn ns) (hl : KidsIn ms) (hlen : L.length = M.length) (hL : ∀ x ∈ L, 0 ≤ x ∧ x < ns.length) (hM : ∀ y ∈ M, 0 ≤ y ∧ y < ms.length) (hg : ∀ i, i < L.length → GoodAt ns ms L M i) :
    ∀ (d : Nat) (x y : Int), 0 ≤ x → x < ns.length → 0 ≤ y → y < ms.length → Paired ns ms L M x y → Eqq ns ms d x y
  | 0, _, _, _, _, _, _, _ => trivial
  | d + 1, x, y, x0, x1, y0, y1, h => by
    obtain ⟨i, n, rfl, hn⟩ := in_at ⟨x0, x1⟩
    obtain ⟨j, m, rfl, hm⟩ := in_at ⟨y0, y1⟩
    refine (eqq_step hn hm d).2 ?_
    rcases h with ⟨h1, h2, h3⟩ | ⟨h1, h2, h3, h4, h5⟩
    · rw [place_pos h1, place_pos h2] at h3
      have e1 := List.getElem?_eq_getElem (List.idxOf_lt_length_of_mem h1)
      have e2 := List.getElem?_eq_getElem (List.idxOf_lt_length_of_mem h2)
      rw [List.getElem_idxOf] at e1 e2
      have h6 : List.idxOf (i : Int) L = List.idxOf (j : Int) M := by omega
      rw [← h6] at e2
      obtain ⟨a, b, c, q⟩ := hg _ (List.idxOf_lt_length_of_mem h1) _ _ e1 e2
      rw [kindOf_at hn, kindOf_at hm] at a
      rw [valueOf_at hn, valueOf_at hm] at b
      rw [kidsOf_at hn, kidsOf_at hm] at c q
      refine ⟨⟨a, b, c⟩, fun p u v hu hv => ?_⟩
      have r1 := hk n (List.mem_of_getElem? hn) u (List.mem_of_getElem? hu)
      have r2 := hl m (List.mem_of_getElem? hm) v (List.mem_of_getElem? hv)
      exact paired_eqq hk hl hlen hL hM hg d u v r1.1 r1.2 r2.1 r2.2 (q p u v hu hv)
    · rw [kindOf_at hn] at h1
      rw [kindOf_at hm] at h2
      rw [valueOf_at hn, valueOf_at hm] at h3
      rw [kidsOf_at hn] at h4
      rw [kidsOf_at hm] at h5
      refine ⟨⟨h1.trans h2.symm, h3, by rw [h4, h5]⟩, fun p u v hu hv => ?_⟩
      rw [h4] at hu
      simp at hu

end Go.Proofs.Ythgklkpfmjgeoaa

namespace Go.Proofs.Ythgklkpfmjgeoaa
open Go.RowKit
set_option linter.unusedVariables false

theorem codL_cons (ns : List Nd) (f : Nat) (x : Int) (xs : List Int) (p : CM) : codL ns f (x :: xs) p = codL ns f xs (cod ns f x p) := rfl

theorem codL_ext {ns : List Nd} {f : Nat} (ih : ∀ (x : Int) (p : CM), ∃ E N, cod ns f x p = (p.1 ++ E, p.2 ++ N)) : ∀ (xs : List Int) (p : CM), ∃ E N, codL ns f xs p = (p.1 ++ E, p.2 ++ N)
  | [], p => ⟨[], [], by simp [codL]⟩
  | x :: xs, p => by
    obtain ⟨E, N, e⟩ := ih x p
    obtain ⟨E2, N2, e2⟩ := codL_ext ih xs (cod ns f x p)
    refine ⟨E ++ E2, N ++ N2, ?_⟩
    rw [codL_cons, e2, e]
    simp

theorem cod_ext (ns : List Nd) : ∀ (f : Nat) (x : Int) (p : CM), ∃ E N, cod ns f x p = (p.1 ++ E, p.2 ++ N)
  | 0, x, p => ⟨[], [], by simp [cod]⟩
  | f + 1, x, p => by
    by_cases h : x ∈ p.2
    · exact ⟨[-1, place p.2 x], [], by rw [cod_seen h]; simp⟩
    · obtain ⟨E, N, e⟩ := codL_ext (cod_ext ns f) (kidsOf ns x) (codPut ns x p)
      rw [cod_new h, e]
      unfold codPut
      by_cases h0 : kindOf ns x = 0
      · exact ⟨[kindOf ns x, valueOf ns x, ((kidsOf ns x).length : Int)] ++ E, N, by simp [h0]⟩
      · exact ⟨[kindOf ns x, valueOf ns x, ((kidsOf ns x).length : Int)] ++ E, [x] ++ N, by simp [h0]⟩

/-- what two runs tell that wrote the same -/
structure Told (ns ms : List Nd) (p q p' q' : CM) : Prop where
  same : p'.1 = q'.1
  len : p'.2.length = q'.2.length
  good : ∀ i, p.2.length ≤ i → i < p'.2.length → GoodAt ns ms p'.2 q'.2 i

/-- what the graphs must be -/
structure Fit (ns : List Nd) : Prop where
  code : CodG ns 6
  few : ns.length ≤ 12
  kinds : ∀ x : Int, 0 ≤ x → x < ns.length → 0 ≤ kindOf ns x
  leaf : ∀ x : Int, 0 ≤ x → x < ns.length → kindOf ns x = 0 → kidsOf ns x = []

theorem told_list {ns ms : List Nd} (hn : Fit ns) (hm : Fit ms) {f : Nat}
    (ih : ∀ (x y : Int) (p q : CM) (t t' : List Int), 0 ≤ x → x < ns.length → 0 ≤ y → y < ms.length → CInv ns p → CInv ms q → ns.length < f + p.2.length → ms.length < f + q.2.length → p.1 = q.1 → p.2.length = q.2.length → (cod ns f x p).1 ++ t = (cod ms f y q).1 ++ t' →
      Told ns ms p q (cod ns f x p) (cod ms f y q) ∧ Paired ns ms (cod ns f x p).2 (cod ms f y q).2 x y) :
    ∀ (xs ys : List Int) (p q : CM) (t t' : List Int), xs.length = ys.length → (∀ x ∈ xs, 0 ≤ x ∧ x < ns.length) → (∀ y ∈ ys, 0 ≤ y ∧ y < ms.length) → CInv ns p → CInv ms q → (xs ≠ [] → ns.length < f + p.2.length ∧ ms.length < f + q.2.length) → p.1 = q.1 → p.2.length = q.2.length → (codL ns f xs p).1 ++ t = (codL ms f ys q).1 ++ t' →
      Told ns ms p q (codL ns f xs p) (codL ms f ys q) ∧ ∀ (j : Nat) (a b : Int), xs[j]? = some a → ys[j]? = some b → Paired ns ms (codL ns f xs p).2 (codL ms f ys q).2 a b
  | [], [], p, q, t, t', _, _, _, hp, hq, _, h1, h2, _ => ⟨⟨h1, h2, fun i a b => by simp [codL] at b; omega⟩, fun j a b ha => by simp at ha⟩
  | [], y :: ys, p, q, t, t', hl, _, _, _, _, _, _, _, _ => by simp at hl
  | x :: xs, [], p, q, t, t', hl, _, _, _, _, _, _, _, _ => by simp at hl
  | x :: xs, y :: ys, p, q, t, t', hl, hx, hy, hp, hq, hf, h1, h2, he => by
    obtain ⟨hf1, hf2⟩ := hf (by simp)
    have hx0 := hx x (by simp)
    have hy0 := hy y (by simp)
    have c1 := coded ns 6 hn.code (by have := hn.few; omega) f x p hp hx0.1 hx0.2 hf1
    have c2 := coded ms 6 hm.code (by have := hm.few; omega) f y q hq hy0.1 hy0.2 hf2
    rw [codL_cons, codL_cons] at he ⊢
    obtain ⟨E, N, e⟩ := codL_ext (cod_ext ns f) xs (cod ns f x p)
    obtain ⟨E2, N2, e2⟩ := codL_ext (cod_ext ms f) ys (cod ms f y q)
    have he2 := he
    rw [e, e2] at he2
    simp only [List.append_assoc] at he2
    obtain ⟨k1, k2⟩ := ih x y p q (E ++ t) (E2 ++ t') hx0.1 hx0.2 hy0.1 hy0.2 hp hq hf1 hf2 h1 h2 he2
    have g1 := c1.grow
    have g2 := c2.grow
    obtain ⟨r1, r2⟩ := told_list hn hm ih xs ys (cod ns f x p) (cod ms f y q) t t' (by simpa using hl) (fun a ha => hx a (by simp [ha])) (fun a ha => hy a (by simp [ha])) c1.inv c2.inv (fun _ => ⟨by omega, by omega⟩) k1.same k1.len he
    refine ⟨⟨r1.same, r1.len, fun i a b => ?_⟩, fun j a b ha hb => ?_⟩
    · rcases Nat.lt_or_ge i (cod ns f x p).2.length with hlt | hge
      · have := k1.good i a hlt
        have h3 := this.more (K := N) (N := N2) hlt (by have := k1.len; omega)
        rw [e, e2]
        exact h3
      · exact r1.good i hge b
    · cases j with
      | zero =>
        simp at ha hb
        subst ha hb
        rw [e, e2]
        exact k2.more
      | succ j => exact r2 j a b (by simpa using ha) (by simpa using hb)

end Go.Proofs.Ythgklkpfmjgeoaa

namespace Go.Proofs.Ythgklkpfmjgeoaa
open Go.RowKit
set_option linter.unusedVariables false

theorem place_last {L : List Int} {x : Int} (h : x ∉ L) : place (L ++ [x]) x = (L.length : Int) := by
  rw [place_pos (by simp), List.idxOf_append, if_neg h]
  simp

theorem told {ns ms : List Nd} (hn : Fit ns) (hm : Fit ms) : ∀ (f : Nat) (x y : Int) (p q : CM) (t t' : List Int), 0 ≤ x → x < ns.length → 0 ≤ y → y < ms.length → CInv ns p → CInv ms q → ns.length < f + p.2.length → ms.length < f + q.2.length → p.1 = q.1 → p.2.length = q.2.length → (cod ns f x p).1 ++ t = (cod ms f y q).1 ++ t' →
      Told ns ms p q (cod ns f x p) (cod ms f y q) ∧ Paired ns ms (cod ns f x p).2 (cod ms f y q).2 x y
  | 0, x, y, p, q, t, t', x0, x1, y0, y1, hp, hq, hf1, hf2, h1, h2, he => by
    have := hp.met.len
    omega
  | f + 1, x, y, p, q, t, t', x0, x1, y0, y1, hp, hq, hf1, hf2, h1, h2, he => by
    have hkx := hn.kinds x x0 x1
    have hky := hm.kinds y y0 y1
    by_cases hx : x ∈ p.2
    · by_cases hy : y ∈ q.2
      · rw [cod_seen hx, cod_seen hy] at he ⊢
        rw [h1] at he
        simp only [List.append_assoc] at he
        have h3 := List.append_cancel_left he
        simp at h3
        exact ⟨⟨by simp [h1, h3.1], h2, fun i a b => by simp at b; omega⟩, .inl ⟨hx, hy, h3.1⟩⟩
      · obtain ⟨E, N, e⟩ := codL_ext (cod_ext ms f) (kidsOf ms y) (codPut ms y q)
        rw [cod_seen hx, cod_new hy, e] at he
        unfold codPut at he
        rw [h1] at he
        simp only [List.append_assoc] at he
        have h3 := List.append_cancel_left he
        simp at h3
        omega
    · obtain ⟨E, N, e⟩ := codL_ext (cod_ext ns f) (kidsOf ns x) (codPut ns x p)
      by_cases hy : y ∈ q.2
      · rw [cod_new hx, cod_seen hy, e] at he
        unfold codPut at he
        rw [h1] at he
        simp only [List.append_assoc] at he
        have h3 := List.append_cancel_left he
        simp at h3
        omega
      · obtain ⟨E2, N2, e2⟩ := codL_ext (cod_ext ms f) (kidsOf ms y) (codPut ms y q)
        rw [cod_new hx, cod_new hy] at he ⊢
        have h3 : kindOf ns x = kindOf ms y ∧ valueOf ns x = valueOf ms y ∧ (kidsOf ns x).length = (kidsOf ms y).length := by
          have he2 := he
          rw [e, e2] at he2
          unfold codPut at he2
          rw [h1] at he2
          simp only [List.append_assoc] at he2
          have h4 := List.append_cancel_left he2
          simp at h4
          exact ⟨h4.1, h4.2.1, by omega⟩
        obtain ⟨k1, k2, k3⟩ := h3
        have hP1 : (codPut ns x p).1 = (codPut ms y q).1 := by unfold codPut; simp [h1, k1, k2, k3]
        by_cases k0 : kindOf ns x = 0
        · have k0' : kindOf ms y = 0 := by omega
          have l1 := hn.leaf x x0 x1 k0
          have l2 := hm.leaf y y0 y1 k0'
          have m1 : (codPut ns x p).2 = p.2 := by unfold codPut; simp [k0]
          have m2 : (codPut ms y q).2 = q.2 := by unfold codPut; simp [k0']
          rw [l1, l2, codL_nil, codL_nil]
          exact ⟨⟨hP1, by rw [m1, m2]; exact h2, fun i a b => by rw [m1] at b; omega⟩, .inr ⟨k0, k0', k2, l1, l2⟩⟩
        · have k0' : ¬ kindOf ms y = 0 := by omega
          have m1 : (codPut ns x p).2 = p.2 ++ [x] := by unfold codPut; simp [k0]
          have m2 : (codPut ms y q).2 = q.2 ++ [y] := by unfold codPut; simp [k0']
          obtain ⟨i, n, rfl, hni⟩ := in_at ⟨x0, x1⟩
          obtain ⟨j, m, rfl, hmj⟩ := in_at ⟨y0, y1⟩
          have c1 := hp.put hn.code hni hx
          have c2 := hq.put hm.code hmj hy
          obtain ⟨r1, r2⟩ := told_list hn hm (fun x y p q t t' a1 a2 a3 a4 a5 a6 a7 a8 a9 b1 b2 => told hn hm f x y p q t t' a1 a2 a3 a4 a5 a6 a7 a8 a9 b1 b2) (kidsOf ns i) (kidsOf ms j) (codPut ns i p) (codPut ms j q) t t' k3 (hn.code.kin.of i) (hm.code.kin.of j) c1 c2 (fun _ => by rw [m1, m2]; simp; omega) hP1 (by rw [m1, m2]; simp [h2]) he
          refine ⟨⟨r1.same, r1.len, fun a ha hb => ?_⟩, ?_⟩
          · rcases Nat.lt_or_ge p.2.length a with hlt | hge
            · exact r1.good a (by rw [m1]; simp; omega) hb
            · obtain rfl : a = p.2.length := by omega
              intro u v hu hv
              rw [e, m1] at hu
              rw [e2, m2, h2] at hv
              simp only [List.append_assoc] at hu hv
              simp at hu hv
              subst hu hv
              exact ⟨k1, k2, k3, fun c u v hu hv => r2 c u v hu hv⟩
          · refine .inl ⟨by rw [e, m1]; simp, by rw [e2, m2]; simp, ?_⟩
            rw [e, e2, m1, m2]
            show place ((p.2 ++ [(i : Int)]) ++ N) i = place ((q.2 ++ [(j : Int)]) ++ N2) j
            rw [place_more (L := p.2 ++ [(i : Int)]) (x := (i : Int)) (by simp), place_more (L := q.2 ++ [(j : Int)]) (x := (j : Int)) (by simp), place_last hx, place_last hy, h2]

theorem fit_of {ns : List Nd} {r : Int} (hv : ValidG ns r) (hwf : Wf ns) : Fit ns := by
  have hg := codG_of_valid hv hwf
  refine ⟨hg, hv.few, fun x h0 h1 => ?_, fun x h0 h1 hk => ?_⟩
  · obtain ⟨i, n, rfl, hn⟩ := in_at ⟨h0, h1⟩
    rw [kindOf_at hn]
    have := (hv.nodes n (List.mem_of_getElem? hn)).kind
    rcases this with h | h | h | h | h | h <;> omega
  · obtain ⟨i, n, rfl, hn⟩ := in_at ⟨h0, h1⟩
    rw [kindOf_at hn] at hk
    rw [kidsOf_at hn]
    exact hg.leaf n (List.mem_of_getElem? hn) hk

/-- graphs with equal codes are equal however deep -/
theorem code_eqq {ns ms : List Nd} {r s : Int} (hv : ValidG ns r) (hw : ValidG ms s) (hwn : Wf ns) (hwm : Wf ms) (h : codeOf ns r = codeOf ms s) : EqqAll ns ms r s := by
  unfold codeOf at h
  rw [if_pos hv, if_pos hw] at h
  have hn := fit_of hv hwn
  have hm := fit_of hw hwm
  have f1 := cod_fuels hn.code (by have := hn.few; omega) (ns.length + 1) r ([], []) (CInv.start _) hv.root0 hv.root (by simp) ms.length
  have f2 := cod_fuels hm.code (by have := hm.few; omega) (ms.length + 1) s ([], []) (CInv.start _) hw.root0 hw.root (by simp) ns.length
  rw [← f1, ← f2, show ms.length + 1 + ns.length = ns.length + 1 + ms.length by omega] at h
  obtain ⟨k1, k2⟩ := told hn hm (ns.length + 1 + ms.length) r s ([], []) ([], []) [] [] hv.root0 hv.root hw.root0 hw.root (CInv.start _) (CInv.start _) (by simp <;> omega) (by simp <;> omega) rfl rfl (by rw [h])
  have c1 := coded ns 6 hn.code (by have := hn.few; omega) (ns.length + 1 + ms.length) r ([], []) (CInv.start _) hv.root0 hv.root (by simp <;> omega)
  have c2 := coded ms 6 hm.code (by have := hm.few; omega) (ns.length + 1 + ms.length) s ([], []) (CInv.start _) hw.root0 hw.root (by simp <;> omega)
  exact fun d => paired_eqq hn.code.kin hm.code.kin k1.len c1.inv.met.range c2.inv.met.range (fun i hi => k1.good i (by simp) hi) d r s hv.root0 hv.root hw.root0 hw.root k2

end Go.Proofs.Ythgklkpfmjgeoaa
