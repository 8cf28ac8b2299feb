/-
  Lemmas, several texts in one: ClnL, CodF, Ord.
-/
import Derived.Test.YtpcfjdhalglebabPjAm
import Derived.Test.YtpcfjdhalglebabPjAj
import Derived.Test.YtpcfjdhalglebabCodI
import Derived.Test.YtpcfjdhalglebabPjAk
namespace Go.Proofs.Ytpcfjdhalglebab
open Go.RowKit Go.Maps
set_option linter.unusedVariables false

set_option maxHeartbeats 1000000 in
theorem clonedNodes_any (A : Option Addr) (ns : List Nd) (c : Nat) (w : World) (hr : NdsAt w w.heap.size A ns) (hl : ns.length ≤ 1000) (hk : ∀ n ∈ ns, n.kids.length ≤ 1000) :
    Calls Try.prog 14 #[.slice A ns.length c] w (GivesNs w ns) := by
  have hmk := makeNodesC ns.length hl
  have HR := hide hr
  have HS0 := hide (ClA.start w ns)
  have HK := hide hk
  clear hr hk
  go_enter Try.func14, Try.ntmps14
  go_wp2_with fail
  clear hmk
  generalize hX1 : w.alloc (.cells (madeCells #[.int .i64 0, .int .i64 0, .slice none 0 0] (ns.length * 3)) 33) = X1 at HS0 ⊢
  clear hX1
  go_loopg [11] ns.length (fun gk iv wr => ∃ k : Nat, k ≤ ns.length ∧ gk = ns.length - k ∧ iv = .int .i64 (k : Int) ∧ ClA w wr ns k)
  case atStart => exact ⟨0, Nat.zero_le _, rfl, rfl, HS0.out⟩
  case round =>
    clear HS0
    obtain ⟨k, hk, rfl, rfl, hS⟩ := hrel
    by_cases hlt : k < ns.length
    · obtain ⟨b, off, n, rfl, hbl, hn, hm, hnd⟩ := (HR.out.below hS.bel).at_ hlt
      obtain ⟨A1, c1, k2, hki, hnil⟩ := hnd.kids
      have k0 := hnd.kind
      have k1 := hnd.value
      have HN := hide hn
      have HM := hide (HK.out n hm)
      have HS := hide hS
      have HKI := hide hki
      clear hn hm hnd hS hki hbl
      go_upto_region 5 with fail
      have hB2 : Below wr.heap.size wr (wr.alloc (.cells #[.int .i64 n.kind, .int .i64 n.value, .slice A1 n.kids.length c1] 33)) := (Below.refl _ _).alloc (Nat.le_refl _) _
      have l1 := Lies.new wr #[.int .i64 n.kind, .int .i64 n.value, .slice A1 n.kids.length c1] 33
      generalize wr.alloc (.cells #[.int .i64 n.kind, .int .i64 n.value, .slice A1 n.kids.length c1] 33) = W2 at hB2 l1 ⊢
      have e0 := l1.cell 0
      have e1 := l1.cell 1
      have e2 := l1.cell 2
      simp only [List.getElem?_toArray, List.getElem?_cons_zero, List.getElem?_cons_succ] at e0 e1 e2
      have hwr := HS.out.bel.size
      have HC := hide (clonedNode_any n A1 c1 W2 ((HKI.out.later (Below.refl _ _) hwr).later hB2 (Nat.le_refl _)) hnil HM.out)
      have HB2 := hide hB2
      clear k0 k1 k2 hB2 l1 HKI hnil
      go_wp2_with fail
      refine HC.out.mono ?_
      clear HC
      rintro e wi ⟨Ak, ck, rfl, hown, hbi⟩
      obtain ⟨f, hf⟩ := HS.out.row.row
      have hfw : wi.rowIs w.heap.size 33 (ns.length * 3) f := hf.of_block ((HB2.out.trans (hbi.mono HB2.out.size)).block _ hf.lt)
      have q0 := World.rowIs.cell hfw (i := k * 3) (by omega)
      have q1 := World.rowIs.cell hfw (i := k * 3 + 1) (by omega)
      have q2 := World.rowIs.cell hfw (i := k * 3 + 2) (by omega)
      have p0 := World.rowIs.frozen hfw (k * 3)
      have p1 := World.rowIs.frozen hfw (k * 3 + 1)
      have p2 := World.rowIs.frozen hfw (k * 3 + 2)
      have HB := hide (HS.out.step HN.out HB2.out hbi hown)
      have hk1 : (k : Int) < (ns.length : Int) := by omega
      clear hown hbi hf hfw e0 e1 e2 HB2 HN HM HS
      go_wp2_with fail
      go_roundg (ns.length - (k + 1))
      case measure => omega
      case rel => exact ⟨k + 1, by omega, rfl, by go_num, HB.out⟩
    · obtain rfl : k = ns.length := by omega
      have HS := hide hS
      clear hS hlt
      go_wp2
      have hrow := HS.out.row
      rw [List.take_length] at hrow
      refine bodyPost_ret (v := .slice (some ⟨w.heap.size, 0, none⟩) ns.length ns.length) (by simp [results, Try.results14, go_sem]) rfl ?_
      exact ⟨_, rfl, hrow, HS.out.bel⟩

end Go.Proofs.Ytpcfjdhalglebab

namespace Go.Proofs.Ytpcfjdhalglebab
open Go.RowKit Go.Maps
set_option linter.unusedVariables false


set_option maxRecDepth 100000 in
set_option maxHeartbeats 2000000 in
theorem codeFroms_any (ns : List Nd) (K : Nat) (hg : CodG ns K) (hl : ns.length ≤ 1048576) (A : Option Addr) (c : Nat) (Ar : Option Addr) (cr : Nat) (roots : List Int) (hM : 3 * roots.length + 3 + 3 * (K * ns.length) ≤ 16000000) (w : World) (hr : NdsAt w w.heap.size A ns)
    (hR : IntsAt w w.heap.size Ar roots) (hin : ∀ x ∈ roots, 0 ≤ x ∧ x < ns.length) :
    Calls Try.prog 44 #[.slice A ns.length c, .slice Ar roots.length cr] w (GivesInts w (codL ns (ns.length + 1) roots ([], [])).1) := by
  have Hg := hide hg
  have hB : Below w.heap.size w ((((w.alloc (.cells #[.slice A ns.length c] 23)).alloc (.cells #[.slice none 0 0] 31)).alloc (.cells #[.map none, .slice none 0 0] 79)).alloc
    (.cells #[.func (.func 54) #[] #[.pointer (some ⟨w.heap.size, 0, none⟩), .pointer (some ⟨w.heap.size + 1 + 1, 0, none⟩), .pointer (some ⟨w.heap.size + 1, 0, none⟩), .pointer (some ⟨w.heap.size + 1 + 1 + 1, 0, none⟩)]] 80)) :=
    ((((Below.refl _ w).alloc (Nat.le_refl _) _).alloc (by simp) _).alloc (by simp <;> omega) _).alloc (by simp <;> omega) _
  have henv : CEnv ((((w.alloc (.cells #[.slice A ns.length c] 23)).alloc (.cells #[.slice none 0 0] 31)).alloc (.cells #[.map none, .slice none 0 0] 79)).alloc
    (.cells #[.func (.func 54) #[] #[.pointer (some ⟨w.heap.size, 0, none⟩), .pointer (some ⟨w.heap.size + 1 + 1, 0, none⟩), .pointer (some ⟨w.heap.size + 1, 0, none⟩), .pointer (some ⟨w.heap.size + 1 + 1 + 1, 0, none⟩)]] 80)) (w.heap.size + 1 + 1 + 1 + 1) w.heap.size (w.heap.size + 1) (w.heap.size + 1 + 1) (w.heap.size + 1 + 1 + 1) A c ns [] [] := by
    refine ⟨?_, ?_, ⟨none, none, 0, none, 0, SetI.start ?_ (by omega), ?_, OwnI.empty _ _, fun g hg => by cases hg⟩, hr.below hB, by omega, by omega, by omega, by omega, by simp⟩
    · exact (((Lies.new w #[.slice A ns.length c] 23).alloc _).alloc _).alloc _
    · have := Lies.new (((w.alloc (.cells #[.slice A ns.length c] 23)).alloc (.cells #[.slice none 0 0] 31)).alloc (.cells #[.map none, .slice none 0 0] 79)) #[.func (.func 54) #[] #[.pointer (some ⟨w.heap.size, 0, none⟩), .pointer (some ⟨w.heap.size + 1 + 1, 0, none⟩), .pointer (some ⟨w.heap.size + 1, 0, none⟩), .pointer (some ⟨w.heap.size + 1 + 1 + 1, 0, none⟩)]] 80
      simpa using this
    · have := (Lies.new ((w.alloc (.cells #[.slice A ns.length c] 23)).alloc (.cells #[.slice none 0 0] 31)) #[.map none, .slice none 0 0] 79).alloc (.cells #[.func (.func 54) #[] #[.pointer (some ⟨w.heap.size, 0, none⟩), .pointer (some ⟨w.heap.size + 1 + 1, 0, none⟩), .pointer (some ⟨w.heap.size + 1, 0, none⟩), .pointer (some ⟨w.heap.size + 1 + 1 + 1, 0, none⟩)]] 80)
      simpa using this
    · have := ((Lies.new (w.alloc (.cells #[.slice A ns.length c] 23)) #[.slice none 0 0] 31).alloc (.cells #[.map none, .slice none 0 0] 79)).alloc (.cells #[.func (.func 54) #[] #[.pointer (some ⟨w.heap.size, 0, none⟩), .pointer (some ⟨w.heap.size + 1 + 1, 0, none⟩), .pointer (some ⟨w.heap.size + 1, 0, none⟩), .pointer (some ⟨w.heap.size + 1 + 1 + 1, 0, none⟩)]] 80)
      simpa using this
  have Henv := hide henv
  have Hin := hide hin
  have hrl : roots.length ≤ 16000000 := by omega
  clear hg henv hr hin
  go_enter Try.func44, Try.ntmps44
  go_wp2_with fail
  generalize ((((w.alloc (.cells #[.slice A ns.length c] 23)).alloc (.cells #[.slice none 0 0] 31)).alloc (.cells #[.map none, .slice none 0 0] 79)).alloc
    (.cells #[.func (.func 54) #[] #[.pointer (some ⟨w.heap.size, 0, none⟩), .pointer (some ⟨w.heap.size + 1 + 1, 0, none⟩), .pointer (some ⟨w.heap.size + 1, 0, none⟩), .pointer (some ⟨w.heap.size + 1 + 1 + 1, 0, none⟩)]] 80)) = W at hB Henv ⊢
  obtain ⟨bn, hbn⟩ : ∃ b, b = w.heap.size := ⟨_, rfl⟩
  rw [← hbn] at Henv ⊢
  have hRW : IntsAt W bn Ar roots := by rw [hbn]; exact hR.below hB
  have HB0 : Hid (Below bn w W) := hide (by rw [hbn]; exact hB)
  have Hbn := hide hbn
  clear hR hB hbn
  go_loopw [9, 13] (fun _ iv wr => ∃ (k : Nat) (P Q : List Int), k ≤ roots.length ∧ iv = .int .i64 (k : Int) ∧ codL ns (ns.length + 1) (roots.take k) ([], []) = (P, Q) ∧ CEnv wr (bn + 1 + 1 + 1 + 1) bn (bn + 1) (bn + 1 + 1) (bn + 1 + 1 + 1) A c ns P Q ∧ Below bn W wr) (fun _ iv _ => roots.length - (intOf iv).toNat)
  case atStart => exact ⟨0, [], [], Nat.zero_le _, rfl, rfl, Henv.out, Below.refl _ _⟩
  case round =>
    clear Henv
    obtain ⟨k, P, Q, hk, rfl, hP, hE, hb⟩ := hrel
    have HP := hide hP
    have HE := hide hE
    clear hP hE
    by_cases hlt : k < roots.length
    · obtain ⟨b, off, x, rfl, hbl, hx, hmem, hcx⟩ := (hRW.below hb).at_ hlt
      obtain ⟨hx0, hx1⟩ := Hin.out x hmem
      have hT : roots.take (k + 1) = roots.take k ++ [x] := by rw [List.take_add_one, hx]; rfl
      have HS : Hid (codL ns (ns.length + 1) (roots.take (k + 1)) ([], []) = cod ns (ns.length + 1) x (P, Q)) := hide (by rw [hT, codL_snoc, HP.out])
      have hall := codedAll ns K Hg.out hl (ns.length + 1) (roots.take k) ([], []) (CInv.start ns) (fun y hy => Hin.out y (List.mem_of_mem_take hy)) (fun _ => by simp)
      rw [HP.out] at hall
      have HI := hide hall.inv
      have hlen := hall.len
      have hml := hall.inv.met.len
      simp only [List.length_nil, Nat.mul_zero, Nat.add_zero, Nat.zero_add, List.length_take] at hlen
      have hMM : P.length + 3 + 3 * (K * (ns.length - Q.length)) ≤ 16000000 := by
        have e1 : K * (ns.length - Q.length) + K * Q.length = K * ns.length := by rw [← Nat.mul_add, Nat.sub_add_cancel hml]
        omega
      obtain ⟨i, rfl⟩ := Int.eq_ofNat_of_zero_le hx0
      have hi : i < ns.length := by omega
      have s0 := HE.out.self.cell 0
      simp at s0
      have hk1 : (0 : Int) ≤ (k : Int) := by omega
      have hk2 : (k : Int) < (roots.length : Int) := by omega
      clear hall hlen hx hmem hT hx0 hx1
      go_wp2_with fail
      refine (codw_any ns K 16000000 Hg.out hl (by omega) _ _ _ _ _ A c (ns.length + 1) i P Q wr hi HI.out HE.out (by omega) hMM).mono ?_
      rintro e w1 ⟨rfl, he, hb1⟩
      have HE1 := hide he
      have hB1 := hb1.below hb (by omega) (by omega) (by omega)
      clear he hb1 s0 hMM hml
      go_wp2
      go_roundw
      case rel => exact ⟨k + 1, _, _, by omega, by go_num, HS.out, HE1.out, hB1⟩
      case measure => simp [intOf]; omega
    · obtain rfl : k = roots.length := by omega
      obtain ⟨m, Am, cm, Ac, cc, _, hcode, hown, _⟩ := HE.out.st
      have z0 := hcode.cell 0
      simp at z0
      rw [List.take_length] at HP
      have Hown := hide hown
      have Hb := hide hb
      clear hcode hown hb
      go_wp2
      go_ret
      have e1 : (codL ns (ns.length + 1) roots ([], [])).1 = P := by rw [HP.out]
      rw [e1]
      exact ⟨Ac, cc, rfl, Hown.out.mono (by rw [← Hbn.out]; omega), by rw [← Hbn.out]; exact HB0.out.trans Hb.out⟩

theorem codL_one (ns : List Nd) (f : Nat) (x : Int) (p : CM) : codL ns f [x] p = cod ns f x p := rfl

end Go.Proofs.Ytpcfjdhalglebab

namespace Go.Proofs.Ytpcfjdhalglebab

/-- each but the first is a kid of one before it, and the first is r -/
structure Ord (ns : List Nd) (r : Int) (L : List Int) : Prop where
  first : ∀ x, L[0]? = some x → x = r
  later : ∀ i x, 0 < i → L[i]? = some x → ∃ k y, k < i ∧ L[k]? = some y ∧ x ∈ kidsOf ns y

theorem Ord.snoc {ns : List Nd} {r x y : Int} {L : List Int} (h : Ord ns r L) (hy : y ∈ L) (hk : x ∈ kidsOf ns y) : Ord ns r (L ++ [x]) := by
  have hl : 0 < L.length := List.length_pos_of_mem hy
  refine ⟨fun z hz => h.first z (by rw [List.getElem?_append_left hl] at hz; exact hz), fun i z hi hz => ?_⟩
  by_cases e : i < L.length
  · rw [List.getElem?_append_left e] at hz
    obtain ⟨k, v, h1, h2, h3⟩ := h.later i z hi hz
    exact ⟨k, v, h1, by rw [List.getElem?_append_left (by omega)]; exact h2, h3⟩
  · have hie : i = L.length := by
      have := (List.getElem?_eq_some_iff.1 hz).1
      simp at this
      omega
    subst hie
    rw [List.getElem?_concat_length] at hz
    injection hz with hz
    subst hz
    obtain ⟨k, hk2, rfl⟩ := List.getElem_of_mem hy
    exact ⟨k, L[k], hk2, by rw [List.getElem?_append_left hk2]; exact List.getElem?_eq_getElem hk2, hk⟩

theorem ord_dfs (ns : List Nd) (ent : Int → Bool) (r : Int) : ∀ (f : Nat) (x y : Int) (L : List Int), Ord ns r L → y ∈ L → x ∈ kidsOf ns y → Ord ns r (dfs ns ent f x L) ∧ ∀ z ∈ L, z ∈ dfs ns ent f x L
  | 0, x, y, L, h, _, _ => ⟨h, fun _ hz => hz⟩
  | f + 1, x, y, L, h, hy, hk => by
    by_cases hs : ent x = false ∨ x ∈ L
    · rw [dfs_stop hs]
      exact ⟨h, fun _ hz => hz⟩
    · have he : ent x = true := by
        cases hx : ent x
        · exact absurd (.inl hx) hs
        · rfl
      rw [dfs_go he (fun hm => hs (.inr hm))]
      have key : ∀ (ks M : List Int), Ord ns r M → x ∈ M → (∀ k ∈ ks, k ∈ kidsOf ns x) → Ord ns r (dfsL ns ent f ks M) ∧ ∀ z ∈ M, z ∈ dfsL ns ent f ks M := by
        intro ks
        induction ks with
        | nil => intro M hM _ _; exact ⟨hM, fun _ hz => hz⟩
        | cons k ks ih =>
          intro M hM hx hks
          rw [dfsL_cons]
          have h1 := ord_dfs ns ent r f k x M hM hx (hks k (by simp))
          have h2 := ih (dfs ns ent f k M) h1.1 (h1.2 x hx) (fun k' hk' => hks k' (by simp [hk']))
          exact ⟨h2.1, fun z hz => h2.2 z (h1.2 z hz)⟩
      have h2 := key (kidsOf ns x) (L ++ [x]) (h.snoc hy hk) (by simp) (fun _ hk' => hk')
      exact ⟨h2.1, fun z hz => h2.2 z (List.mem_append_left _ hz)⟩

/-- the walk from a node in an empty list -/
theorem ord_start (ns : List Nd) (ent : Int → Bool) (r : Int) (f : Nat) (he : ent r = true) : Ord ns r (dfs ns ent (f + 1) r []) := by
  rw [dfs_go he (by simp), List.nil_append]
  have key : ∀ (ks M : List Int), Ord ns r M → r ∈ M → (∀ k ∈ ks, k ∈ kidsOf ns r) → Ord ns r (dfsL ns ent f ks M) := by
    intro ks
    induction ks with
    | nil => intro M hM _ _; exact hM
    | cons k ks ih =>
      intro M hM hx hks
      rw [dfsL_cons]
      have h1 := ord_dfs ns ent r f k r M hM hx (hks k (by simp))
      exact ih (dfs ns ent f k M) h1.1 (h1.2 r hx) (fun k' hk' => hks k' (by simp [hk']))
  refine key (kidsOf ns r) [r] ⟨fun x hx => by simp at hx; exact hx.symm, fun i x hi hx => ?_⟩ (by simp) (fun _ h => h)
  have := (List.getElem?_eq_some_iff.1 hx).1
  simp at this
  omega

/-- all that the law says of the nodes that are reached -/
structure Reached (ns : List Nd) (r : Int) (L : List Int) : Prop where
  met : Met ns L
  closed : ∀ y ∈ L, ∀ k ∈ kidsOf ns y, k ∈ L
  ord : Ord ns r L

theorem reachOf_reached {ns : List Nd} {r : Int} (h : ValidG ns r) : Reached ns r (reachOf ns r) := by
  unfold reachOf
  rw [if_pos h]
  have w := walked ns anyB (kidsIn_of_valid h) (ns.length + 1) r [] (Met.nil ns) h.root0 h.root (by simp)
  exact ⟨w.met, fun y hy k hk => w.closed y hy (by simp) k hk rfl, ord_start ns anyB r ns.length rfl⟩

theorem reachOf_none {ns : List Nd} {r : Int} (h : ¬ ValidG ns r) : reachOf ns r = [] := by
  unfold reachOf
  rw [if_neg h]

theorem reachOf_some {ns : List Nd} {r : Int} (h : ValidG ns r) : 0 < (reachOf ns r).length := by
  unfold reachOf
  rw [if_pos h]
  have w := walked ns anyB (kidsIn_of_valid h) (ns.length + 1) r [] (Met.nil ns) h.root0 h.root (by simp)
  exact List.length_pos_of_mem (w.starts r (by simp) rfl)

end Go.Proofs.Ytpcfjdhalglebab
