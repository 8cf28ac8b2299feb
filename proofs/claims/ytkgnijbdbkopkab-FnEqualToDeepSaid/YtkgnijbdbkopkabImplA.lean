/-
  The program's areNodes, arePairs, keyOf and hasDifferentKeys: what each returns.
-/
import Derived.Test.YtkgnijbdbkopkabPjAr
import Derived.Test.YtkgnijbdbkopkabPjAk
import Derived.Test.YtkgnijbdbkopkabPjAj
namespace Go.Proofs.Ytkgnijbdbkopkab
open Go.RowKit Go.Maps
set_option linter.unusedVariables false

/-- all numbers are among N nodes -/
def Among (N : Nat) (xs : List Int) : Prop := ∀ x ∈ xs, 0 ≤ x ∧ x < N

set_option maxHeartbeats 1000000 in
theorem areNodes_any (A : Option Addr) (xs : List Int) (c : Nat) (N : Nat) (w : World) (h : IntsAt w w.heap.size A xs) (hN : N ≤ 9223372036854775807) :
    Calls Try.prog 19 #[.slice A xs.length c, .int .i64 (N : Int)] w fun e w' => e = .returned (.bool (tf (Among N xs))) ∧ w = w' := by
  have hl := h.len
  go_enter Try.func19, Try.ntmps19
  go_wp2_with fail
  go_loop [9] (fun i => ∃ k : Nat, k ≤ xs.length ∧ i = .int .i64 k ∧ ∀ j x, j < k → xs[j]? = some x → 0 ≤ x ∧ x < N) (fun i => xs.length - (intOf i).toNat)
  case atStart => exact ⟨0, Nat.zero_le _, rfl, fun j x hj => absurd hj (by omega)⟩
  case round =>
    obtain ⟨k, hk, rfl, he0⟩ := hrel
    have he := hide he0
    clear he0
    by_cases hlt : k < xs.length
    · obtain ⟨b, off, x, rfl, hbl, hx, hmem, hc⟩ := h.at_ hlt
      have Hx := hide hx
      clear hx
      by_cases hin : 0 ≤ x ∧ x < N
      · have He : Hid (∀ j y, j < k + 1 → xs[j]? = some y → 0 ≤ y ∧ y < N) := by
          intro j y hj hy
          by_cases e : j = k
          · subst e
            obtain rfl := Option.some.inj (Hx.out.symm.trans hy)
            exact hin
          · exact he.out j y (by omega) hy
        obtain ⟨a1, a2⟩ := hin
        have a3 : x ≤ (N : Int) - 1 := by omega
        clear he hmem
        go_wp2_with fail
        refine (isUpTo_yes x ((N : Int) - 1) w a1 a3).mono ?_
        rintro e w' ⟨rfl, rfl⟩
        go_wp2
        go_round
        case rel => exact ⟨k + 1, by omega, by go_num, He.out⟩
        case measure => simp [intOf]; omega
      · have HF := hide (show tf (Among N xs) = false from tf_false fun hh => hin (hh x hmem))
        have hno : x < 0 ∨ (N : Int) - 1 < x := by omega
        clear he hmem hin
        go_wp2_with fail
        refine (isUpTo_no x ((N : Int) - 1) w hno).mono ?_
        rintro e w' ⟨rfl, rfl⟩
        clear hno
        go_wp2
        go_ret
        exact ⟨ret_bool HF.out.symm, rfl⟩
    · have HF := hide (show tf (Among N xs) = true from tf_true fun x hx => by
        obtain ⟨j, hj, rfl⟩ := List.getElem_of_mem hx
        exact he.out j _ (by omega) (List.getElem?_eq_getElem hj))
      go_wp2
      go_ret
      exact ⟨ret_bool HF.out.symm, rfl⟩

/-- keys and values by turns -/
structure PairsOk (ns : List Nd) (kids : List Int) : Prop where
  even : kids.length % 2 = 0
  key : ∀ p n, p % 2 = 0 → KidNd ns kids p n → IsKey n

set_option maxRecDepth 100000 in
set_option maxHeartbeats 2000000 in
theorem arePairs_even (A : Option Addr) (ns : List Nd) (c : Nat) (A' : Option Addr) (xs : List Int) (c' : Nat) (w : World) (hr : NdsAt w w.heap.size A ns) (hk : IntsAt w w.heap.size A' xs) (hin : InG ns xs) (hsm : xs.length ≤ 1048576) (hev : xs.length % 2 = 0) :
    Calls Try.prog 40 #[.slice A ns.length c, .slice A' xs.length c'] w fun e w' =>
      e = .returned (.bool (tf (PairsOk ns xs))) ∧ w = w' := by
  have hnl := hr.len
  have tev : ((xs.length : Int) % 2 != 0) = false := by rw [bne_eq_false_iff_eq]; omega
  have Hev := hide hev
  clear hev
  go_enter Try.func40, Try.ntmps40
  go_wp2_with fail
  go_loop [5] (fun i => ∃ k : Nat, k ≤ xs.length ∧ k % 2 = 0 ∧ i = .int .i64 k ∧ ∀ p n, p < k → p % 2 = 0 → KidNd ns xs p n → IsKey n) (fun i => xs.length + 2 - (intOf i).toNat)
  case atStart => exact ⟨0, Nat.zero_le _, rfl, rfl, fun p n hp => absurd hp (by omega)⟩
  case round =>
    obtain ⟨k, hkl, hk2, rfl, he0⟩ := hrel
    have he := hide he0
    have Hk2 := hide hk2
    clear he0 hk2
    by_cases hlt : k < xs.length
    · obtain ⟨b, off, b', off', x, nd, rfl, hbl, rfl, hbl', hxl, hcx, hM, hkn, _⟩ := kid_at hr hk hin hlt
      obtain ⟨hm_k, hm_v, ⟨A1, c1, hm_s, hI1, _⟩, hwk, hwv⟩ := hM
      have hk1 : (0 : Int) ≤ (k : Int) := by omega
      have hk3 : (k : Int) < (xs.length : Int) := by omega
      have hx1 : (0 : Int) ≤ (x : Int) := by omega
      have hx3 : (x : Int) < (ns.length : Int) := by omega
      have hle : k + 2 ≤ xs.length := by have := Hev.out; have := Hk2.out; omega
      have Hkn := hide hkn
      clear hkn hwk hwv hI1 hm_s
      by_cases hik : IsKey nd
      · have He : Hid (∀ p n, p < k + 2 → p % 2 = 0 → KidNd ns xs p n → IsKey n) := by
          intro p n hp hp2 hn
          by_cases e : p = k
          · subst e
            obtain rfl := Hkn.out.eq hn
            exact hik
          · exact he.out p n (by have := Hk2.out; omega) hp2 hn
        clear he Hkn
        by_cases h0 : nd.kind = 0
        · have t0 : (nd.kind != 0) = false := by rw [bne_eq_false_iff_eq]; exact h0
          clear hik h0
          go_wp2
          go_round
          case rel => exact ⟨k + 2, by omega, by have := Hk2.out; omega, by go_num, He.out⟩
          case measure => simp [intOf]; omega
        · have t0 : (nd.kind != 0) = true := by rw [bne_iff_ne]; exact h0
          have t1 : (nd.kind != 1) = false := by rw [bne_eq_false_iff_eq]; exact hik.resolve_left h0
          clear hik h0
          go_wp2
          go_round
          case rel => exact ⟨k + 2, by omega, by have := Hk2.out; omega, by go_num, He.out⟩
          case measure => simp [intOf]; omega
      · have HF := hide (show tf (PairsOk ns xs) = false from tf_false fun h => hik (h.key k nd Hk2.out Hkn.out))
        have t0 : (nd.kind != 0) = true := by rw [bne_iff_ne]; exact fun e => hik (.inl e)
        have t1 : (nd.kind != 1) = true := by rw [bne_iff_ne]; exact fun e => hik (.inr e)
        clear hik he Hkn
        go_wp2
        go_ret
        exact ⟨ret_bool HF.out.symm, rfl⟩
    · have HF := hide (show tf (PairsOk ns xs) = true from tf_true ⟨Hev.out, fun p n hp hn => he.out p n (by have := hn.lt; omega) hp hn⟩)
      go_wp2
      go_ret
      exact ⟨ret_bool HF.out.symm, rfl⟩

theorem arePairs_any (A : Option Addr) (ns : List Nd) (c : Nat) (A' : Option Addr) (xs : List Int) (c' : Nat) (w : World) (hr : NdsAt w w.heap.size A ns) (hk : IntsAt w w.heap.size A' xs) (hin : InG ns xs) (hsm : xs.length ≤ 1048576) :
    Calls Try.prog 40 #[.slice A ns.length c, .slice A' xs.length c'] w fun e w' =>
      e = .returned (.bool (tf (PairsOk ns xs))) ∧ w = w' := by
  by_cases hev : xs.length % 2 = 0
  · exact arePairs_even A ns c A' xs c' w hr hk hin hsm hev
  · have HF := hide (show tf (PairsOk ns xs) = false from tf_false fun h => hev h.even)
    have tev : ((xs.length : Int) % 2 != 0) = true := by rw [bne_iff_ne]; omega
    clear hev
    go_enter Try.func40, Try.ntmps40
    go_wp2
    go_ret
    exact ⟨ret_bool HF.out.symm, rfl⟩

set_option maxHeartbeats 400000 in
theorem keyOf_any (k v : Int) (x : Value) (w : World) :
    Calls Try.prog 57 #[.agg #[.int .i64 k, .int .i64 v, x]] w fun e w' => e = .returned (.agg #[.int .i64 k, .int .i64 v]) ∧ Below w.heap.size w w' := by
  go_enter Try.func57, Try.ntmps57
  go_wp2
  refine bodyPost_ret (v := .agg #[.int .i64 k, .int .i64 v]) (by simp [results, Try.results57, go_sem]) rfl ⟨rfl, ?_⟩
  exact ((Below.refl _ _).alloc (Nat.le_refl _) _).alloc (by simp) _

/-- what the loop over the keys has found when it has come to place k -/
structure KInv (ns : List Nd) (kids : List Int) (L : List (Int × Int)) (k : Nat) : Prop where
  even : k % 2 = 0
  le : k ≤ kids.length
  len : L.length * 2 = k
  have_ : ∀ p n, p < k → p % 2 = 0 → KidNd ns kids p n → IsKey n ∧ (n.kind, n.value) ∈ L
  from_ : ∀ x ∈ L, ∃ p n, p < k ∧ p % 2 = 0 ∧ KidNd ns kids p n ∧ (n.kind, n.value) = x
  diff : ∀ p q m n, p < k → p % 2 = 0 → q % 2 = 0 → q < p → KidNd ns kids p m → KidNd ns kids q n → ¬ SameKey m n

theorem KInv.start (ns : List Nd) (kids : List Int) : KInv ns kids [] 0 :=
  ⟨rfl, Nat.zero_le _, rfl, fun p n hp => absurd hp (by omega), fun x hx => (by cases hx), fun p q m n hp => absurd hp (by omega)⟩

theorem KInv.next {ns : List Nd} {kids : List Int} {L : List (Int × Int)} {k : Nat} {n : Nd} (h : KInv ns kids L k) (hev : kids.length % 2 = 0) (hlt : k < kids.length) (hn : KidNd ns kids k n) (hik : IsKey n) (hno : (n.kind, n.value) ∉ L) :
    KInv ns kids (L ++ [(n.kind, n.value)]) (k + 2) := by
  have hk2 := h.even
  have hlen := h.len
  refine ⟨by omega, by omega, by simp; omega, fun p m hp hp2 hm => ?_, fun x hx => ?_, fun p q m m' hp hp2 hq2 hqp hm hm' => ?_⟩
  · by_cases e : p = k
    · subst e
      obtain rfl := hn.eq hm
      exact ⟨hik, by simp⟩
    · have := h.have_ p m (by omega) hp2 hm
      exact ⟨this.1, List.mem_append_left _ this.2⟩
  · rcases List.mem_append.1 hx with hx | hx
    · obtain ⟨p, m, h1, h2, h3, h4⟩ := h.from_ x hx
      exact ⟨p, m, by omega, h2, h3, h4⟩
    · simp at hx
      exact ⟨k, n, by omega, hk2, hn, hx.symm⟩
  · by_cases e : p = k
    · subst e
      obtain rfl := hn.eq hm
      intro hs
      have := (h.have_ q m' hqp hq2 hm').2
      rw [← hs.1, ← hs.2] at this
      exact hno this
    · exact h.diff p q m m' (by omega) hp2 hq2 hqp hm hm'

theorem KInv.clash {ns : List Nd} {kids : List Int} {L : List (Int × Int)} {k : Nat} {n : Nd} (h : KInv ns kids L k) (hn : KidNd ns kids k n) (hin : (n.kind, n.value) ∈ L) : ¬ DictOk ns kids := by
  obtain ⟨q, m, h1, h2, h3, h4⟩ := h.from_ _ hin
  injection h4 with h5 h6
  exact fun hd => hd.diff k q n m h.even h2 h1 hn h3 ⟨h5.symm, h6.symm⟩

theorem KInv.done {ns : List Nd} {kids : List Int} {L : List (Int × Int)} (h : KInv ns kids L kids.length) : DictOk ns kids :=
  ⟨h.even, fun p n hp hn => (h.have_ p n hn.lt hp hn).1, fun p q m n hp hq hqp hm hn => h.diff p q m n hm.lt hp hq hqp hm hn⟩

set_option maxRecDepth 100000 in
set_option maxHeartbeats 4000000 in
theorem hasDifferentKeys_any (A : Option Addr) (ns : List Nd) (c : Nat) (A' : Option Addr) (n : Nd) (c' : Nat) (w : World) (hr : NdsAt w w.heap.size A ns) (hk : IntsAt w w.heap.size A' n.kids) (hin : InG ns n.kids) (hsm : n.kids.length ≤ 1048576) (hp : PairsOk ns n.kids) :
    Calls Try.prog 41 #[.slice A ns.length c, .agg #[.int .i64 n.kind, .int .i64 n.value, .slice A' n.kids.length c']] w fun e w' =>
      e = .returned (.bool (tf (DictOk ns n.kids))) ∧ Below w.heap.size w w' := by
  have hnl := hr.len
  have Hp := hide hp
  have hB : Below w.heap.size w ((w.alloc (.cells #[.int .i64 n.kind, .int .i64 n.value, .slice A' n.kids.length c'] 45)).alloc (.cells #[.map none, .slice none 0 0] 77)) :=
    ((Below.refl _ _).alloc (Nat.le_refl _) _).alloc (by simp) _
  have l1 := (Lies.new w #[.int .i64 n.kind, .int .i64 n.value, .slice A' n.kids.length c'] 45).alloc (.cells #[.map none, .slice none 0 0] 77)
  have l2 := Lies.new (w.alloc (.cells #[.int .i64 n.kind, .int .i64 n.value, .slice A' n.kids.length c'] 45)) #[.map none, .slice none 0 0] 77
  have hr2 := hr.below hB
  have hk2 := hk.below hB
  simp only [World.size_alloc] at l2
  clear hr hk hp
  go_enter Try.func41, Try.ntmps41
  go_wp2_with fail
  generalize hWd : (w.alloc (.cells #[.int .i64 n.kind, .int .i64 n.value, .slice A' n.kids.length c'] 45)).alloc (.cells #[.map none, .slice none 0 0] 77) = W at hB l1 l2 hr2 hk2 ⊢
  have hWs : W.heap.size = w.heap.size + 2 := by rw [← hWd]; simp
  have HWs := hide hWs
  have hs0 : SetK W (w.heap.size + 1) (w.heap.size + 2) none none 0 [] := ⟨l2, World.ownsRow_nil _ _ _ _, .inl ⟨rfl, rfl⟩, by omega, fun p hp => by cases hp⟩
  clear hWd hWs l2
  go_loopw [6] (fun i wr => ∃ (k : Nat) (L : List (Int × Int)) (m : Option Nat) (Am : Option Addr) (cm : Nat), i = .int .i64 k ∧ SetK wr (w.heap.size + 1) (w.heap.size + 2) m Am cm L ∧ Below (w.heap.size + 1) W wr ∧ KInv ns n.kids L k) (fun i _ => n.kids.length + 2 - (intOf i).toNat)
  case atStart => exact ⟨0, [], none, none, 0, rfl, hs0, Below.refl _ _, KInv.start _ _⟩
  case round =>
    clear hs0
    obtain ⟨k, L, m, Am, cm, rfl, hset, hb, hinv⟩ := hrel
    have Hinv := hide hinv
    have hle := hinv.le
    have hLk := hinv.len
    have HLk := hide hLk
    clear hinv hLk
    have e2 := (l1.below hb (by omega)).cell 2
    simp at e2
    have hsz : w.heap.size + 2 ≤ wr.heap.size := by have := hb.size; have := HWs.out; omega
    by_cases hlt : k < n.kids.length
    · obtain ⟨b, off, b', off', x, nd, rfl, hbl, rfl, hbl', hxl, hcx, hM, hkn, _⟩ := kid_at (hr2.below (hb.mono (by omega))) (hk2.below (hb.mono (by omega))) hin hlt
      obtain ⟨hm_k, hm_v, ⟨A1, c1, hm_s, hI1, _⟩, hwk, hwv⟩ := hM
      have hk1 : (0 : Int) ≤ (k : Int) := by omega
      have hk3 : (k : Int) < (n.kids.length : Int) := by omega
      have hx1 : (0 : Int) ≤ (x : Int) := by omega
      have hx3 : (x : Int) < (ns.length : Int) := by omega
      have hik : IsKey nd := Hp.out.key k nd Hinv.out.even hkn
      have Hkn := hide hkn
      have Hwk := hide hwk
      have Hwv := hide hwv
      have Hik := hide hik
      clear hkn hwk hwv hI1 hik
      by_cases hmem : (nd.kind, nd.value) ∈ L
      · have HF := hide (show tf (DictOk ns n.kids) = false from tf_false (Hinv.out.clash Hkn.out hmem))
        go_wp2_with fail
        refine (keyOf_any nd.kind nd.value _ wr).mono ?_
        rintro e w2 ⟨rfl, hb2⟩
        have hsetA := hset.below hb2
        have hbA := hb.trans (hb2.mono (by omega))
        clear hset hb hb2
        go_wp2_with fail
        refine (addK_seen (w.heap.size + 1) (w.heap.size + 2) m Am cm L nd.kind nd.value _ hsetA Hwk.out Hwv.out hmem).mono ?_
        rintro e w' ⟨rfl, hb3⟩
        have hb4 := hbA.trans (hb3.mono (by have := hbA.size; have := HWs.out; omega))
        clear hmem hb3 hsetA
        go_wp2
        go_ret
        exact ⟨ret_bool HF.out.symm, hB.trans (hb4.mono (by omega))⟩
      · have Hn := hide (Hinv.out.next Hp.out.even hlt Hkn.out Hik.out hmem)
        go_wp2_with fail
        refine (keyOf_any nd.kind nd.value _ wr).mono ?_
        rintro e w2 ⟨rfl, hb2⟩
        have hsetA := hset.below hb2
        have hbA := hb.trans (hb2.mono (by omega))
        have hsz2 : w.heap.size + 2 ≤ w2.heap.size := by have := hbA.size; have := HWs.out; omega
        clear hset hb hb2
        go_wp2_with fail
        refine (addK_new (w.heap.size + 1) (w.heap.size + 2) m cm Am L nd.kind nd.value _ hsetA Hwk.out Hwv.out (by omega) hmem (by have := HLk.out; omega)).mono ?_
        rintro e w' ⟨rfl, ⟨m2, A2, c2, hset2⟩, hbut⟩
        have hb4 := hbut.below hbA (Nat.le_refl _) (by omega)
        clear hmem hbut hsetA
        go_wp2
        go_roundw
        case rel => exact ⟨k + 2, L ++ [(nd.kind, nd.value)], m2, A2, c2, by go_num, hset2, hb4, Hn.out⟩
        case measure => simp [intOf]; omega
    · have HF := hide (show tf (DictOk ns n.kids) = true from tf_true (by
        have h := Hinv.out
        have : k = n.kids.length := by omega
        subst this
        exact h.done))
      go_wp2
      go_ret
      exact ⟨ret_bool HF.out.symm, hB.trans (hb.mono (by omega))⟩

end Go.Proofs.Ytkgnijbdbkopkab
