/-
  Lemmas, several texts in one: Tup, SpecB, ChkF, ChkG, ChkD.
-/
import Derived.Test.YtbihgafkmmcjlaaDoorPjAa
import Derived.Test.YtbihgafkmmcjlaaDoorPjAh
import Derived.StillTailTactics
import Derived.Laws.Bits64
namespace Go.Proofs.YtbihgafkmmcjlaaDoor
theorem nodup_le : ∀ (N : Nat) (l : List Int), l.Nodup → (∀ x ∈ l, 0 ≤ x ∧ x < N) → l.length ≤ N
  | 0, l, _, h => by
    cases l with
    | nil => simp
    | cons x l => have := h x (by simp); omega
  | N + 1, l, hd, h => by
    have h1 : (l.erase (N : Int)).length ≤ N := nodup_le N _ (hd.erase _) (fun x hx => by
      have hx2 := (List.Nodup.mem_erase_iff hd).1 hx
      have := h x hx2.2
      have hne := hx2.1
      omega)
    have h2 := List.length_erase (a := (N : Int)) (l := l)
    split at h2 <;> omega
def kidsOf (ns : List Nd) (x : Int) : List Int := ((ns[x.toNat]?).map Nd.kids).getD []
def kindOf (ns : List Nd) (x : Int) : Int := ((ns[x.toNat]?).map Nd.kind).getD (-1)
theorem kidsOf_at {ns : List Nd} {k : Nat} {n : Nd} (h : ns[k]? = some n) : kidsOf ns (k : Int) = n.kids := by
  unfold kidsOf
  rw [Int.toNat_natCast, h]; rfl
theorem kindOf_at {ns : List Nd} {k : Nat} {n : Nd} (h : ns[k]? = some n) : kindOf ns (k : Int) = n.kind := by
  unfold kindOf
  rw [Int.toNat_natCast, h]; rfl
inductive TReach (ns : List Nd) (i : Int) : Int → Prop
  | kid (x : Int) : x ∈ kidsOf ns i → TReach ns i x
  | step (y x : Int) : TReach ns i y → kindOf ns y = 2 → x ∈ kidsOf ns y → TReach ns i x
structure TInv (ns : List Nd) (i : Int) (out list : List Int) (k : Nat) : Prop where
  sound : ∀ x ∈ list, TReach ns i x
  range : ∀ x ∈ list, 0 ≤ x ∧ x < ns.length
  sub : ∀ x ∈ out, x ∈ list
  done : ∀ j x, j < k → list[j]? = some x → x ∈ out
  nodup : out.Nodup
  kids : ∀ x ∈ kidsOf ns i, x ∈ list
  closed : ∀ y ∈ out, kindOf ns y = 2 → ∀ x ∈ kidsOf ns y, x ∈ list
  len : list.length ≤ 6 * (1 + out.length)
theorem TInv.start {ns : List Nd} {i : Int} (h6 : (kidsOf ns i).length ≤ 6) (hr : ∀ x ∈ kidsOf ns i, 0 ≤ x ∧ x < ns.length) : TInv ns i [] (kidsOf ns i) 0 :=
  ⟨fun x hx => .kid x hx, hr, fun x hx => (by cases hx), fun j x hj => absurd hj (by omega), List.nodup_nil, fun x hx => hx, fun y hy => (by cases hy), by simp; omega⟩
theorem TInv.seen {ns : List Nd} {i : Int} {out list : List Int} {k : Nat} {x : Int} (h : TInv ns i out list k) (hx : list[k]? = some x) (hm : x ∈ out) : TInv ns i out list (k + 1) :=
  ⟨h.sound, h.range, h.sub, fun j y hj hy => by
    by_cases e : j = k
    · subst e; rw [hx] at hy; injection hy with hy; subst hy; exact hm
    · exact h.done j y (by omega) hy, h.nodup, h.kids, h.closed, h.len⟩
theorem TInv.outLen {ns : List Nd} {i : Int} {out list : List Int} {k : Nat} (h : TInv ns i out list k) : out.length ≤ ns.length :=
  nodup_le ns.length out h.nodup fun x hx => h.range x (h.sub x hx)
theorem TInv.listLen {ns : List Nd} {i : Int} {out list : List Int} {k : Nat} (h : TInv ns i out list k) (h12 : ns.length ≤ 12) : list.length ≤ 78 := by
  have := h.outLen
  have := h.len
  omega
theorem TInv.leaf {ns : List Nd} {i : Int} {out list : List Int} {k : Nat} {x : Int} (h : TInv ns i out list k) (hx : list[k]? = some x) (hm : x ∉ out) (hk : kindOf ns x ≠ 2) : TInv ns i (out ++ [x]) list (k + 1) := by
  have hmem : x ∈ list := List.mem_of_getElem? hx
  refine ⟨h.sound, h.range, fun y hy => ?_, fun j y hj hy => ?_, ?_, h.kids, fun y hy h2 z hz => ?_, ?_⟩
  · rcases List.mem_append.1 hy with hy | hy
    · exact h.sub y hy
    · simp at hy; subst hy; exact hmem
  · by_cases e : j = k
    · subst e; rw [hx] at hy; injection hy with hy; subst hy; simp
    · exact List.mem_append_left _ (h.done j y (by omega) hy)
  · rw [List.nodup_append]
    exact ⟨h.nodup, by simp, fun a ha b hb => by simp at hb; subst hb; intro e; subst e; exact hm ha⟩
  · rcases List.mem_append.1 hy with hy | hy
    · exact h.closed y hy h2 z hz
    · simp at hy; subst hy; exact absurd h2 hk
  · have := h.len
    simp only [List.length_append, List.length_singleton]
    omega
theorem TInv.tuple {ns : List Nd} {i : Int} {out list : List Int} {k : Nat} {x : Int} (h : TInv ns i out list k) (hx : list[k]? = some x) (hm : x ∉ out) (hk : kindOf ns x = 2) (h6 : (kidsOf ns x).length ≤ 6)
    (hr : ∀ z ∈ kidsOf ns x, 0 ≤ z ∧ z < ns.length) : TInv ns i (out ++ [x]) (list ++ kidsOf ns x) (k + 1) := by
  have hmem : x ∈ list := List.mem_of_getElem? hx
  have hkl : k < list.length := (List.getElem?_eq_some_iff.1 hx).1
  refine ⟨fun y hy => ?_, fun y hy => ?_, fun y hy => ?_, fun j y hj hy => ?_, ?_, fun y hy => List.mem_append_left _ (h.kids y hy), fun y hy h2 z hz => ?_, ?_⟩
  · rcases List.mem_append.1 hy with hy | hy
    · exact h.sound y hy
    · exact .step x y (h.sound x hmem) hk hy
  · rcases List.mem_append.1 hy with hy | hy
    · exact h.range y hy
    · exact hr y hy
  · rcases List.mem_append.1 hy with hy | hy
    · exact List.mem_append_left _ (h.sub y hy)
    · simp at hy; subst hy; exact List.mem_append_left _ hmem
  · rw [List.getElem?_append_left (by omega)] at hy
    by_cases e : j = k
    · subst e; rw [hx] at hy; injection hy with hy; subst hy; simp
    · exact List.mem_append_left _ (h.done j y (by omega) hy)
  · rw [List.nodup_append]
    exact ⟨h.nodup, by simp, fun a ha b hb => by simp at hb; subst hb; intro e; subst e; exact hm ha⟩
  · rcases List.mem_append.1 hy with hy | hy
    · exact List.mem_append_left _ (h.closed y hy h2 z hz)
    · simp at hy; subst hy; exact List.mem_append_right _ hz
  · have := h.len
    simp only [List.length_append, List.length_singleton]
    omega
theorem TInv.all {ns : List Nd} {i : Int} {out list : List Int} (h : TInv ns i out list list.length) (x : Int) : x ∈ out ↔ TReach ns i x := by
  have hall : ∀ y ∈ list, y ∈ out := fun y hy => by
    obtain ⟨j, hj, rfl⟩ := List.getElem_of_mem hy
    exact h.done j _ hj (List.getElem?_eq_getElem hj)
  constructor
  · exact fun hx => h.sound x (h.sub x hx)
  · intro hx
    induction hx with
    | kid x hx => exact hall x (h.kids x hx)
    | step y x _ h2 hx ih => exact hall x (h.closed y ih h2 x hx)
end Go.Proofs.YtbihgafkmmcjlaaDoor

namespace Go.Proofs.YtbihgafkmmcjlaaDoor
open Go.RowKit
def InG (ns : List Nd) (kids : List Int) : Prop := ∀ x ∈ kids, 0 ≤ x ∧ x < ns.length
def KidNd (ns : List Nd) (kids : List Int) (p : Nat) (n : Nd) : Prop := ∃ k : Nat, kids[p]? = some (k : Int) ∧ ns[k]? = some n
structure DictOk (ns : List Nd) (kids : List Int) : Prop where
  even : kids.length % 2 = 0
  key : ∀ p n, p % 2 = 0 → KidNd ns kids p n → IsKey n
  diff : ∀ p q m n, p % 2 = 0 → q % 2 = 0 → q < p → KidNd ns kids p m → KidNd ns kids q n → ¬ SameKey m n
theorem KidNd.eq {ns : List Nd} {kids : List Int} {p : Nat} {m n : Nd} (h : KidNd ns kids p m) (h' : KidNd ns kids p n) : m = n := by
  obtain ⟨k, h1, h2⟩ := h
  obtain ⟨k', h3, h4⟩ := h'
  rw [h1] at h3
  have : k = k' := by injection h3 with h3; omega
  subst this
  rw [h2] at h4
  injection h4
theorem KidNd.lt {ns : List Nd} {kids : List Int} {p : Nat} {n : Nd} (h : KidNd ns kids p n) : p < kids.length := by
  obtain ⟨k, h1, _⟩ := h
  exact (List.getElem?_eq_some_iff.1 h1).1
theorem kid_at {w : World} {B B' : Nat} {A A' : Option Addr} {ns : List Nd} {kids : List Int} (hr : NdsAt w B A ns) (hk : IntsAt w B' A' kids) (hin : InG ns kids) {p : Nat} (hp : p < kids.length) :
    ∃ (b off b' off' k : Nat) (n : Nd), A = some ⟨b, off, none⟩ ∧ b < B ∧ A' = some ⟨b', off', none⟩ ∧ b' < B' ∧ k < ns.length ∧ w.cell? ⟨b', off' + p, none⟩ = some (.int .i64 (k : Int)) ∧ NdAt w B b (off + k * 3) n ∧
      KidNd ns kids p n ∧ n ∈ ns := by
  obtain ⟨b', off', x, rfl, hb', hx, hmem, hc⟩ := hk.at_ hp
  obtain ⟨h0, h1⟩ := hin x hmem
  obtain ⟨k, rfl⟩ := Int.eq_ofNat_of_zero_le h0
  obtain ⟨b, off, n, rfl, hb, hat, hn, hN⟩ := hr.at_ (k := k) (by omega)
  exact ⟨b, off, b', off', k, n, rfl, hb, rfl, hb', by omega, hc, hN, ⟨k, hx, hat⟩, hn⟩
set_option maxRecDepth 100000 in
set_option maxHeartbeats 4000000 in
theorem validDict_any (A : Option Addr) (ns : List Nd) (c : Nat) (r : Int) (A' : Option Addr) (n : Nd) (c' : Nat) (w : World) (hr : NdsAt w w.heap.size A ns) (hk : IntsAt w w.heap.size A' n.kids) (hin : InG ns n.kids) (hsm : n.kids.length ≤ 1048576) :
    Calls Tryd.prog 72 #[.agg #[.slice A ns.length c, .int .i64 r], .agg #[.int .i64 n.kind, .int .i64 n.value, .slice A' n.kids.length c']] w fun e w' =>
      e = .returned (.bool (tf (DictOk ns n.kids))) ∧ Below w.heap.size w w' := by
  have hnl := hr.len
  have hB : Below w.heap.size w ((w.alloc (.cells #[.slice A ns.length c, .int .i64 r] 49)).alloc (.cells #[.int .i64 n.kind, .int .i64 n.value, .slice A' n.kids.length c'] 73)) :=
    ((Below.refl _ _).alloc (Nat.le_refl _) _).alloc (by simp) _
  have l1 := (Lies.new w #[.slice A ns.length c, .int .i64 r] 49).alloc (.cells #[.int .i64 n.kind, .int .i64 n.value, .slice A' n.kids.length c'] 73)
  have l2 := Lies.new (w.alloc (.cells #[.slice A ns.length c, .int .i64 r] 49)) #[.int .i64 n.kind, .int .i64 n.value, .slice A' n.kids.length c'] 73
  have hr2 := hr.later hB (Nat.le_refl _)
  have hk2 := hk.later hB (Nat.le_refl _)
  simp only [World.size_alloc] at l2
  clear hr hk
  go_enter Tryd.func72, Tryd.ntmps72
  go_wp2_with fail
  generalize (w.alloc (.cells #[.slice A ns.length c, .int .i64 r] 49)).alloc (.cells #[.int .i64 n.kind, .int .i64 n.value, .slice A' n.kids.length c'] 73) = W at hB l1 l2 hr2 hk2 ⊢
  have hW1 := l1.lt
  have hW2 := l2.lt
  go_loopw [5] (fun i wr => ∃ k : Nat, k % 2 = 0 ∧ k ≤ n.kids.length + 1 ∧ i = .int .i64 k ∧ Below W.heap.size W wr ∧ (∀ p m, p < k → p % 2 = 0 → KidNd ns n.kids p m → IsKey m) ∧
      (∀ p q m m', p < k → p % 2 = 0 → q % 2 = 0 → q < p → KidNd ns n.kids p m → KidNd ns n.kids q m' → ¬ SameKey m m')) (fun i _ => n.kids.length + 2 - (intOf i).toNat)
  case atStart => exact ⟨0, rfl, Nat.zero_le _, rfl, Below.refl _ _, fun p m hp => absurd hp (by omega), fun p q m m' hp => absurd hp (by omega)⟩
  case round =>
    obtain ⟨k, hk2', hkl, rfl, hb, hkey0, hdiff0⟩ := hrel
    have hkey := hide hkey0
    have hdiff := hide hdiff0
    have hev := hide hk2'
    clear hkey0 hdiff0 hk2'
    have e0 := (l1.below hb hW1).cell 0
    have e2 := (l2.below hb hW2).cell 2
    simp at e0 e2
    by_cases hlt : k < n.kids.length
    · obtain ⟨b, off, b', off', x, m, rfl, hbl, rfl, hbl', hxl, hcx, hM, hkn, _⟩ := kid_at (hr2.below hb) (hk2.below hb) hin hlt
      obtain ⟨hm_k, hm_v, ⟨A1, c1, hm_s, hI1, _⟩, _, _⟩ := hM
      have hk1 : (0 : Int) ≤ (k : Int) := by omega
      have hk3 : (k : Int) < (n.kids.length : Int) := by omega
      have hx1 : (0 : Int) ≤ (x : Int) := by omega
      have hx3 : (x : Int) < (ns.length : Int) := by omega
      have hbd : Below W.heap.size W wr.drew := hb.drew
      go_wp2_with fail
      go_still_tail 9, (by kernel_rfl)
      change wpList _ _ _ _ _ wr.drew
      generalize wr.drew = w2 at hbd ⊢
      clear hb hcx hm_k hm_v hm_s hI1 e0 e2
      go_wp2_with fail
      refine (isKey_any _ m w2).mono ?_
      rintro e w' ⟨rfl, hb3⟩
      have hb4 := hbd.trans (hb3.mono hbd.size)
      clear hbd hb3
      by_cases hik : IsKey m
      · have t := tf_true hik
        rw [t]
        clear t
        go_wp2_with fail
        go_loopw [6] (fun i wr => ∃ j : Nat, j % 2 = 0 ∧ j ≤ k ∧ i = .int .i64 j ∧ Below W.heap.size W wr ∧ (∀ q m', q < j → q % 2 = 0 → KidNd ns n.kids q m' → ¬ SameKey m m')) (fun i _ => k + 2 - (intOf i).toNat)
        case atStart => exact ⟨0, rfl, Nat.zero_le _, rfl, hb4, fun q m' hq => absurd hq (by omega)⟩
        case round =>
          obtain ⟨j, hj2, hjk, rfl, hb5, hne0⟩ := hrel
          have hne := hide hne0
          have hjv := hide hj2
          clear hne0 hj2 hb4
          have e0 := (l1.below hb5 hW1).cell 0
          have e2 := (l2.below hb5 hW2).cell 2
          simp at e0 e2
          by_cases hjlt : j < k
          · obtain ⟨_, _, _, _, x1, _, he1, _, he2, _, hxl1, hcx1, hM1, hkn1, _⟩ := kid_at (hr2.below hb5) (hk2.below hb5) hin hlt
            obtain ⟨_, _, _, _, y, m2, he3, _, he4, _, hyl, hcy, hM2, hkn2, _⟩ := kid_at (hr2.below hb5) (hk2.below hb5) hin (p := j) (by omega)
            simp only [Option.some.injEq, Addr.mk.injEq, and_true] at he1 he2 he3 he4
            obtain ⟨rfl, rfl⟩ := he1
            obtain ⟨rfl, rfl⟩ := he2
            obtain ⟨rfl, rfl⟩ := he3
            obtain ⟨rfl, rfl⟩ := he4
            obtain rfl := hkn.eq hkn1
            obtain ⟨hm_k, hm_v, ⟨A1, c1, hm_s, hI1, _⟩, _, _⟩ := hM1
            obtain ⟨hn_k, hn_v, ⟨A2, c2, hn_s, hI2, _⟩, _, _⟩ := hM2
            have hj1 : (0 : Int) ≤ (j : Int) := by omega
            have hj3 : (j : Int) < (n.kids.length : Int) := by omega
            have hxx1 : (0 : Int) ≤ (x1 : Int) := by omega
            have hxx3 : (x1 : Int) < (ns.length : Int) := by omega
            have hy1 : (0 : Int) ≤ (y : Int) := by omega
            have hy3 : (y : Int) < (ns.length : Int) := by omega
            have hbd : Below W.heap.size W wr.drew := hb5.drew
            go_wp2_with fail
            go_still_tail 18, (by kernel_rfl)
            change wpList _ _ _ _ _ wr.drew
            generalize wr.drew = w3 at hbd ⊢
            clear hb5 hcx1 hcy hm_k hm_v hm_s hI1 hn_k hn_v hn_s hI2 e0 e2
            go_wp2_with fail
            refine (sameKey_any _ _ m m2 w3).mono ?_
            rintro e w' ⟨rfl, hb3⟩
            have hb4 := hbd.trans (hb3.mono hbd.size)
            clear hbd hb3
            by_cases hsk : SameKey m m2
            · have t := tf_true hsk
              rw [t]
              clear t
              have HF := hide (show tf (DictOk ns n.kids) = false from tf_false fun h => h.diff k j m m2 hev.out hjv.out hjlt hkn hkn2 hsk)
              go_wp2
              go_ret
              exact ⟨ret_bool HF.out.symm, hB.trans (hb4.mono hB.size)⟩
            · have t := tf_false hsk
              rw [t]
              clear t
              have hne2 : ∀ q m', q < j + 2 → q % 2 = 0 → KidNd ns n.kids q m' → ¬ SameKey m m' := by
                intro q m' hq hq2 hqn
                by_cases e : q = j
                · subst e
                  obtain rfl := hkn2.eq hqn
                  exact hsk
                · exact hne.out q m' (by have := hjv.out; omega) hq2 hqn
              have Hne := hide hne2
              have hj5 : j + 2 ≤ k := by have := hjv.out; have := hev.out; omega
              clear hne2 hne
              go_wp2
              go_roundw
              case rel => exact ⟨j + 2, by have := hjv.out; omega, hj5, by go_num, hb4, Hne.out⟩
              case measure => simp [intOf]; omega
          · obtain rfl : j = k := by omega
            clear hjlt e0 e2
            go_wp2
            go_roundw
            case rel => exact ⟨j + 2, by have := hev.out; omega, by omega, by go_num, hb5, fun p m' hp hp2 hpn => by
                by_cases e : p = j
                · subst e
                  obtain rfl := hkn.eq hpn
                  exact hik
                · exact hkey.out p m' (by have := hjv.out; omega) hp2 hpn, fun p q m1 m2 hp hp2 hq2 hqp h1 h2 => by
                by_cases e : p = j
                · subst e
                  obtain rfl := hkn.eq h1
                  exact hne.out q m2 hqp hq2 h2
                · exact hdiff.out p q m1 m2 (by have := hjv.out; omega) hp2 hq2 hqp h1 h2⟩
            case measure => simp [intOf]; omega
      · have t := tf_false hik
        rw [t]
        clear t
        have HF := hide (show tf (DictOk ns n.kids) = false from tf_false fun h => hik (h.key k m hev.out hkn))
        go_wp2
        go_ret
        exact ⟨ret_bool HF.out.symm, hB.trans (hb4.mono hB.size)⟩
    · by_cases hmod : n.kids.length % 2 = 0
      · have HF := hide (show tf (DictOk ns n.kids) = true from tf_true ⟨hmod, fun p m hp hn => hkey.out p m (by have := hn.lt; omega) hp hn, fun p q m m' hp hq hqp h1 h2 => hdiff.out p q m m' (by have := h1.lt; omega) hp hq hqp h1 h2⟩)
        have t : ((n.kids.length : Int) % 2 == 0) = true := by rw [beq_iff_eq]; omega
        clear hmod
        go_wp2
        go_ret
        exact ⟨ret_bool HF.out.symm, hB.trans (hb.mono hB.size)⟩
      · have HF := hide (show tf (DictOk ns n.kids) = false from tf_false fun h => hmod h.even)
        have t : ((n.kids.length : Int) % 2 == 0) = false := by rw [beq_eq_false_iff_ne]; omega
        clear hmod
        go_wp2
        go_ret
        exact ⟨ret_bool HF.out.symm, hB.trans (hb.mono hB.size)⟩
end Go.Proofs.YtbihgafkmmcjlaaDoor

namespace Go.Proofs.YtbihgafkmmcjlaaDoor
open Go.RowKit
set_option linter.unusedVariables false
theorem TurnsSb.behind {w W : World} {base q off : Nat} {p : ShPtr} {t : Shp} {e : Ending} {w' : World} (hb : Below w.heap.size w W) (hq : q < w.heap.size) (h : TurnsSb W base q off p t e w') : TurnsSb w base q off p t e w' := by
  obtain ⟨he, p', h1, h2⟩ := h
  exact ⟨he, p', h1, (SbFr.of_below hb hq).trans h2⟩
theorem TurnsSb.mk' {w W w' : World} {base q off : Nat} {p p' : ShPtr} {s t : Shp} (hb : Below w.heap.size w W) (hq : q < w.heap.size) (h : SbAt w' base q off p' t ∧ SbFr W w' q off p p') : TurnsSb w base q off p t (.returned (.tuple #[])) w' :=
  ⟨rfl, p', h.1, (SbFr.of_below hb hq).trans h.2⟩
def IsNewOp (c k : Int) : Prop := (c = 0 ∧ k = 0) ∨ (c = 1 ∧ k = 1) ∨ (c = 3 ∧ k = 2) ∨ (c = 4 ∧ k = 2) ∨ (c = 5 ∧ k = 2) ∨ (c = 6 ∧ k = 2) ∨ (c = 7 ∧ k = 3) ∨ (c = 10 ∧ k = 4) ∨ (c = 13 ∧ k = 5)
def IsIdleOp (c : Int) : Prop := c = 8 ∨ c = 9 ∨ c = 11 ∨ c = 12 ∨ c = 17 ∨ c = 18
set_option maxRecDepth 100000 in
set_option maxHeartbeats 4000000 in
theorem act_new (q base off : Nat) (p : ShPtr) (s : Shp) (cd ar k : Int) (w : World) (h : SbAt w base q off p s) (hs : s.Small) (hbase : base ≤ w.heap.size) (hc : IsNewOp cd k) :
    Calls Tryd.prog 30 #[.pointer (some ⟨q, off, none⟩), .agg #[.int .i64 cd, .int .i64 ar]] w (TurnsSb w base q off p (s.push k)) := by
  have htl := hs.t
  have hlt := h.lt
  have hk : In64 k := by constructor <;> (rcases hc with h | h | h | h | h | h | h | h | h <;> omega)
  have hB := hide ((Below.refl w.heap.size w).alloc (Nat.le_refl _) (.cells #[.int .i64 cd, .int .i64 ar] 42))
  have lo := Lies.new w #[.int .i64 cd, .int .i64 ar] 42
  have h2 := h.alloc (.cells #[.int .i64 cd, .int .i64 ar] 42)
  have HC := hide (pushNew_any q base off p s k _ h2 hs (by simp; omega) hk)
  obtain ⟨e0, e1, e2, e3, e4, f0, f1, f2, f3, f4⟩ := h2.c
  have d0 := lo.cell 0
  have d1 := lo.cell 1
  simp only [jD, jE, jF] at d0 d1
  clear h hs h2 lo hk
  rcases hc with ⟨rfl, rfl⟩ | ⟨rfl, rfl⟩ | ⟨rfl, rfl⟩ | ⟨rfl, rfl⟩ | ⟨rfl, rfl⟩ | ⟨rfl, rfl⟩ | ⟨rfl, rfl⟩ | ⟨rfl, rfl⟩ | ⟨rfl, rfl⟩
  all_goals
    go_enter Tryd.func30, Tryd.ntmps30
    go_upto_region 1 with fail
    generalize w.alloc (.cells #[.int .i64 _, .int .i64 ar] 42) = W at hB HC e0 e1 e2 e3 e4 f0 f1 f2 f3 f4 d0 d1 ⊢
    go_wp2_with fail
    refine HC.out.mono ?_
    clear HC
    rintro e w' hE
    have hE2 := hE.behind hB.out hlt
    obtain ⟨rfl, hE3⟩ := hE
    have HE := hide hE2
    clear hE2 hE3
    go_wp2
    go_end0
    exact HE.out
set_option maxRecDepth 100000 in
set_option maxHeartbeats 4000000 in
theorem act_idle (q base off : Nat) (p : ShPtr) (s : Shp) (cd ar : Int) (w : World) (h : SbAt w base q off p s) (hs : s.Small) (hbase : base ≤ w.heap.size) (hc : IsIdleOp cd) :
    Calls Tryd.prog 30 #[.pointer (some ⟨q, off, none⟩), .agg #[.int .i64 cd, .int .i64 ar]] w (TurnsSb w base q off p s) := by
  have htl := hs.t
  have hlt := h.lt
  have hB := hide ((Below.refl w.heap.size w).alloc (Nat.le_refl _) (.cells #[.int .i64 cd, .int .i64 ar] 42))
  have lo := Lies.new w #[.int .i64 cd, .int .i64 ar] 42
  have h2 := h.alloc (.cells #[.int .i64 cd, .int .i64 ar] 42)
  have H2 := hide h2
  obtain ⟨e0, e1, e2, e3, e4, f0, f1, f2, f3, f4⟩ := h2.c
  have d0 := lo.cell 0
  have d1 := lo.cell 1
  simp only [jD, jE, jF] at d0 d1
  clear h hs h2 lo
  rcases hc with rfl | rfl | rfl | rfl | rfl | rfl
  all_goals
    go_enter Tryd.func30, Tryd.ntmps30
    go_upto_region 1 with fail
    generalize w.alloc (.cells #[.int .i64 _, .int .i64 ar] 42) = W at hB H2 e0 e1 e2 e3 e4 f0 f1 f2 f3 f4 d0 d1 ⊢
    go_wp2
    go_end0
    exact TurnsSb.mk' (s := s) hB.out hlt ⟨H2.out, SbFr.refl _ _ _ _⟩
set_option maxRecDepth 100000 in
set_option maxHeartbeats 4000000 in
theorem act_stop (q base off : Nat) (p : ShPtr) (s : Shp) (ar : Int) (w : World) (h : SbAt w base q off p s) (hs : s.Small) (hbase : base ≤ w.heap.size) :
    Calls Tryd.prog 30 #[.pointer (some ⟨q, off, none⟩), .agg #[.int .i64 19, .int .i64 ar]] w (TurnsSb w base q off p { s with done := true }) := by
  have htl := hs.t
  have hlt := h.lt
  have hB := hide ((Below.refl w.heap.size w).alloc (Nat.le_refl _) (.cells #[.int .i64 19, .int .i64 ar] 42))
  have lo := Lies.new w #[.int .i64 19, .int .i64 ar] 42
  have h2 := h.alloc (.cells #[.int .i64 19, .int .i64 ar] 42)
  have H2 := hide h2
  obtain ⟨e0, e1, e2, e3, e4, f0, f1, f2, f3, f4⟩ := h2.c
  have d0 := lo.cell 0
  have d1 := lo.cell 1
  simp only [jD, jE, jF] at d0 d1
  clear h hs h2 lo
  go_enter Tryd.func30, Tryd.ntmps30
  go_upto_region 1 with fail
  generalize w.alloc (.cells #[.int .i64 19, .int .i64 ar] 42) = W at hB H2 e0 e1 e2 e3 e4 f0 f1 f2 f3 f4 d0 d1 ⊢
  go_wp2
  go_end0
  exact TurnsSb.mk' (s := s) hB.out hlt H2.out.stop
end Go.Proofs.YtbihgafkmmcjlaaDoor

namespace Go.Proofs.YtbihgafkmmcjlaaDoor
open Go.RowKit
set_option linter.unusedVariables false
set_option maxRecDepth 100000 in
set_option maxHeartbeats 4000000 in
theorem act_mark (q base off : Nat) (p : ShPtr) (s : Shp) (ar : Int) (w : World) (h : SbAt w base q off p s) (hs : s.Small) (hbase : base ≤ w.heap.size) :
    Calls Tryd.prog 30 #[.pointer (some ⟨q, off, none⟩), .agg #[.int .i64 2, .int .i64 ar]] w (TurnsSb w base q off p { s with stack := s.stack ++ [-1] }) := by
  have htl := hs.t
  have hlt := h.lt
  have hB := hide ((Below.refl w.heap.size w).alloc (Nat.le_refl _) (.cells #[.int .i64 2, .int .i64 ar] 42))
  have lo := Lies.new w #[.int .i64 2, .int .i64 ar] 42
  have h2 := h.alloc (.cells #[.int .i64 2, .int .i64 ar] 42)
  have hbW : base ≤ (w.alloc (.cells #[.int .i64 2, .int .i64 ar] 42)).heap.size := by simp; omega
  have H2 := hide h2
  obtain ⟨e0, e1, e2, e3, e4, f0, f1, f2, f3, f4⟩ := h2.c
  have d0 := lo.cell 0
  have d1 := lo.cell 1
  simp only [jD, jE, jF] at d0 d1
  have hm : In64 (-1) := by constructor <;> omega
  clear h hs h2 lo
  go_enter Tryd.func30, Tryd.ntmps30
  go_upto_region 1 with fail
  generalize w.alloc (.cells #[.int .i64 2, .int .i64 ar] 42) = W at hB H2 hbW e0 e1 e2 e3 e4 f0 f1 f2 f3 f4 d0 d1 ⊢
  go_wp2_with (at_builtin; refine append_ints rfl (.tmp 27) (.tmp 28) rfl base p.S p.c3 s.stack rfl (H2.out.own.t.alloc _) _ _ 1 [(-1 : Int)] rfl (fun e => by cases e) (IntsAt.oneN _ W.heap.size (-1) hm rfl) (by simp <;> omega) (by simp <;> omega) ?_; intro zs A5 c5 w5 hz5 ho5 hg5 ha5; obtain ⟨x0, x1, x2, x3, x4, m0, m1, m2, m3, m4⟩ := H2.out.c.ofB (H2.out.grownB hg5 H2.out.off_.t); have S5 := hide (H2.out.pushT ho5 hg5 ha5))
  have hp : ({ s with stack := zs } : Shp) = { s with stack := s.stack ++ [-1] } := by rw [hz5.out]
  have h6 := S5.out
  rw [hp] at h6
  go_end0
  exact TurnsSb.mk' (s := s) hB.out hlt h6
set_option maxRecDepth 100000 in
set_option maxHeartbeats 4000000 in
theorem act_state (q base off : Nat) (p : ShPtr) (s : Shp) (ar : Int) (w : World) (h : SbAt w base q off p s) (hs : s.Small) (hbase : base ≤ w.heap.size) (h0 : 0 ≤ s.thing 0) :
    Calls Tryd.prog 30 #[.pointer (some ⟨q, off, none⟩), .agg #[.int .i64 14, .int .i64 ar]] w (TurnsSb w base q off p { s with full := s.full.set (s.thing 0).toNat true }) := by
  have htl := hs.t
  have hlt := h.lt
  have hB := hide ((Below.refl w.heap.size w).alloc (Nat.le_refl _) (.cells #[.int .i64 14, .int .i64 ar] 42))
  have lo := Lies.new w #[.int .i64 14, .int .i64 ar] 42
  have h2 := h.alloc (.cells #[.int .i64 14, .int .i64 ar] 42)
  have H2 := hide h2
  have hth := (hs.ok.thing 0).2
  have hfl := hs.ok.fl
  have hpos : 0 < s.stack.length := by
    by_cases hp : 0 < s.stack.length
    · exact hp
    · rw [Shp.thing_none (by omega)] at h0; omega
  obtain ⟨n, hn⟩ : ∃ n, s.stack.length = n + 1 := ⟨s.stack.length - 1, by omega⟩
  obtain ⟨x, hx⟩ : ∃ x, s.stack[n]? = some x := ⟨_, List.getElem?_eq_getElem (by omega)⟩
  have hxt : s.thing 0 = x := by
    unfold Shp.thing
    rw [if_pos hpos, show s.stack.length - 1 - 0 = n by omega, List.getD_eq_getElem?_getD, hx]; rfl
  rw [hxt] at h0 hth ⊢
  obtain ⟨j, rfl⟩ := Int.eq_ofNat_of_zero_le h0
  have hjf : j < s.full.length := by omega
  obtain ⟨gs, hS, hs1, hs2, hcx, _⟩ := h2.own.t.atJ hx
  obtain ⟨y, hy⟩ : ∃ y, s.full[j]? = some y := ⟨_, List.getElem?_eq_getElem hjf⟩
  obtain ⟨gf, hF, hf1, hf2, hcf, hff⟩ := h2.own.f.atJ hy
  clear hy
  obtain ⟨e0, e1, e2, e3, e4, f0, f1, f2, f3, f4⟩ := h2.c
  rw [hS] at e2
  rw [hF] at e1
  have d0 := lo.cell 0
  have d1 := lo.cell 1
  simp only [jD, jE, jF] at d0 d1
  have hn1 : (s.stack.length : Int) - 1 = (n : Int) := by omega
  have hn0 : (0 : Int) ≤ (n : Int) := by omega
  have hn2 : (n : Int) < (s.stack.length : Int) := by omega
  have hj0 : (0 : Int) ≤ (j : Int) := by omega
  have hj1 : (j : Int) < (s.full.length : Int) := by omega
  have HC := hide (H2.out.drew.fill (a := j) hF)
  rw [Int.toNat_natCast]
  clear h hs h2 lo hx hxt hn h0 hth hfl hjf hS hF
  go_enter Tryd.func30, Tryd.ntmps30
  go_upto_region 1 with fail
  generalize w.alloc (.cells #[.int .i64 14, .int .i64 ar] 42) = W at hB H2 HC e0 e1 e2 e3 e4 f0 f1 f2 f3 f4 d0 d1 hcx hcf hff hs2 hf2 ⊢
  go_wp2_with fail
  go_still_tail 12, (by kernel_rfl)
  go_wp2
  go_end0
  exact TurnsSb.mk' (s := s) hB.out.drew hlt HC.out
set_option maxRecDepth 100000 in
set_option maxHeartbeats 4000000 in
theorem act_put (q base off : Nat) (p : ShPtr) (s : Shp) (ar : Nat) (w : World) (h : SbAt w base q off p s) (hs : s.Small) (hbase : base ≤ w.heap.size) (har : ar < 20) (hpos : 0 < s.stack.length) :
    Calls Tryd.prog 30 #[.pointer (some ⟨q, off, none⟩), .agg #[.int .i64 15, .int .i64 (ar : Int)]] w (TurnsSb w base q off p { s with memo := s.memo.set ar (s.thing 0) }) := by
  have htl := hs.t
  have hlt := h.lt
  have hB := hide ((Below.refl w.heap.size w).alloc (Nat.le_refl _) (.cells #[.int .i64 15, .int .i64 (ar : Int)] 42))
  have lo := Lies.new w #[.int .i64 15, .int .i64 (ar : Int)] 42
  have h2 := h.alloc (.cells #[.int .i64 15, .int .i64 (ar : Int)] 42)
  have H2 := hide h2
  have hml := hs.ok.ml
  obtain ⟨n, hn⟩ : ∃ n, s.stack.length = n + 1 := ⟨s.stack.length - 1, by omega⟩
  obtain ⟨x, hx⟩ : ∃ x, s.stack[n]? = some x := ⟨_, List.getElem?_eq_getElem (by omega)⟩
  have hxt : s.thing 0 = x := by
    unfold Shp.thing
    rw [if_pos hpos, show s.stack.length - 1 - 0 = n by omega, List.getD_eq_getElem?_getD, hx]; rfl
  rw [hxt]
  obtain ⟨gs, hS, hs1, hs2, hcx, _⟩ := h2.own.t.atJ hx
  obtain ⟨y, hy⟩ : ∃ y, s.memo[ar]? = some y := ⟨_, List.getElem?_eq_getElem (by omega)⟩
  obtain ⟨gm, hM, hm1, hm2, hcm, hfm⟩ := h2.own.m.atJ hy
  clear hy
  obtain ⟨e0, e1, e2, e3, e4, f0, f1, f2, f3, f4⟩ := h2.c
  rw [hS] at e2
  rw [hM] at e3
  have d0 := lo.cell 0
  have d1 := lo.cell 1
  simp only [jD, jE, jF] at d0 d1
  have hn1 : (s.stack.length : Int) - 1 = (n : Int) := by omega
  have hn0 : (0 : Int) ≤ (n : Int) := by omega
  have hn2 : (n : Int) < (s.stack.length : Int) := by omega
  have hj0 : (0 : Int) ≤ (ar : Int) := by omega
  have hj1 : (ar : Int) < (s.memo.length : Int) := by omega
  have HC := hide (H2.out.drew.putM (a := ar) hM x)
  clear h hs h2 lo hx hxt hn hml hS hM
  go_enter Tryd.func30, Tryd.ntmps30
  go_upto_region 1 with fail
  generalize w.alloc (.cells #[.int .i64 15, .int .i64 (ar : Int)] 42) = W at hB H2 HC e0 e1 e2 e3 e4 f0 f1 f2 f3 f4 d0 d1 hcx hcm hfm hs2 hm2 ⊢
  go_wp2_with fail
  go_still_tail 14, (by kernel_rfl)
  go_wp2
  go_end0
  exact TurnsSb.mk' (s := s) hB.out.drew hlt HC.out
set_option maxRecDepth 100000 in
set_option maxHeartbeats 4000000 in
theorem act_get (q base off : Nat) (p : ShPtr) (s : Shp) (ar : Nat) (w : World) (h : SbAt w base q off p s) (hs : s.Small) (hbase : base ≤ w.heap.size) (har : ar < 20) :
    Calls Tryd.prog 30 #[.pointer (some ⟨q, off, none⟩), .agg #[.int .i64 16, .int .i64 (ar : Int)]] w (TurnsSb w base q off p { s with stack := s.stack ++ [s.memo.getD ar 0] }) := by
  have htl := hs.t
  have hlt := h.lt
  have hB := hide ((Below.refl w.heap.size w).alloc (Nat.le_refl _) (.cells #[.int .i64 16, .int .i64 (ar : Int)] 42))
  have lo := Lies.new w #[.int .i64 16, .int .i64 (ar : Int)] 42
  have h2 := h.alloc (.cells #[.int .i64 16, .int .i64 (ar : Int)] 42)
  have hbW : base ≤ (w.alloc (.cells #[.int .i64 16, .int .i64 (ar : Int)] 42)).heap.size := by simp; omega
  have H2 := hide h2
  have hml := hs.ok.ml
  obtain ⟨x, hx⟩ : ∃ x, s.memo[ar]? = some x := ⟨_, List.getElem?_eq_getElem (by omega)⟩
  have hgd : s.memo.getD ar 0 = x := by rw [List.getD_eq_getElem?_getD, hx]; rfl
  have hx64 : In64 x := hs.m64 x (List.mem_of_getElem? hx)
  rw [hgd]
  obtain ⟨gm, hM, hm1, hm2, hcm, hfm⟩ := h2.own.m.atJ hx
  obtain ⟨e0, e1, e2, e3, e4, f0, f1, f2, f3, f4⟩ := h2.c
  rw [hM] at e3
  have d0 := lo.cell 0
  have d1 := lo.cell 1
  simp only [jD, jE, jF] at d0 d1
  have hj0 : (0 : Int) ≤ (ar : Int) := by omega
  have hj1 : (ar : Int) < (s.memo.length : Int) := by omega
  clear h hs h2 hx hgd hml hM
  go_enter Tryd.func30, Tryd.ntmps30
  go_upto_region 1 with fail
  have lo2 := hide lo
  clear lo
  generalize w.alloc (.cells #[.int .i64 16, .int .i64 (ar : Int)] 42) = W at hB H2 hbW e0 e1 e2 e3 e4 f0 f1 f2 f3 f4 d0 d1 hcm hfm hm2 lo2 ⊢
  have hlit := hide (show IntsAt (W.alloc (.cells #[.int .i64 x] 3)).drew (W.alloc (.cells #[.int .i64 x] 3)).drew.heap.size (some ⟨W.heap.size, 0, none⟩) [x] from by
    have h0 := (IntsAt.lit W [x] (by intro v hv; simp at hv; rw [hv]; exact hx64) (by simp)).below (Below.refl _ _).drew
    simpa using h0)
  have e2a := (H2.out.alloc (.cells #[.int .i64 x] 3)).c.c2
  go_wp2_with fail
  go_region_law (first
    | (refine step_append_ints (by rfl) _ _ (by rfl) base p.S p.c3 s.stack (by rfl) ((H2.out.own.t.alloc _).drew) ⟨W.heap.size, 0, none⟩ 1 [x] (by simp) (by rfl) hlit.out (by simp; omega) (by simp; omega) ?_; intro zs A' c' w1 hz ho1 hg1 ha1; have HP := hide (H2.out.pushT ho1 (grown_undrew hg1) ha1); obtain ⟨g0, g1, g2, g3, g4, k0, k1, k2, k3, k4⟩ := H2.out.c.ofB (H2.out.grownB (grown_undrew hg1) H2.out.off_.t)))
  all_goals
    have hp : ({ s with stack := zs } : Shp) = { s with stack := s.stack ++ [x] } := by rw [hz.out]
    have h6 := HP.out
    rw [hp] at h6
    have H6 := hide h6
    clear h6 hp hz ho1 hg1 ha1 HP
    go_wp2
    go_end0
    exact TurnsSb.mk' (s := s) hB.out hlt H6.out
end Go.Proofs.YtbihgafkmmcjlaaDoor

namespace Go.Proofs.YtbihgafkmmcjlaaDoor
open Go.RowKit
set_option linter.unusedVariables false
theorem and_i64 (a b : Nat) (ha : a < 1000) : bits .and .i64 (a : Int) (b % 1000 : Nat) = ((a &&& (b % 1000) : Nat) : Int) := by
  have hb : b % 1000 < 1000 := Nat.mod_lt _ (by omega)
  have hx : a &&& (b % 1000) ≤ a := Nat.and_le_left
  have h1 : (BitVec.ofInt 64 (a : Int)).toNat = a := by
    rw [BitVec.ofInt_natCast, BitVec.toNat_ofNat]; exact Nat.mod_eq_of_lt (by omega)
  have h2 : (BitVec.ofInt 64 ((b % 1000 : Nat) : Int)).toNat = b % 1000 := by
    rw [BitVec.ofInt_natCast, BitVec.toNat_ofNat]; exact Nat.mod_eq_of_lt (by omega)
  show IntKind.i64.wrap ((BitVec.ofInt 64 (a : Int) &&& BitVec.ofInt 64 ((b % 1000 : Nat) : Int)).toNat : Int) = _
  rw [BitVec.toNat_and, h1, h2, IntKind.wrap_i64]
  omega
theorem and_small {a b : Nat} (ha : a < 1000) (hb : b < 1000) : bits .and .i64 (a : Int) (b : Int) = ((a &&& b : Nat) : Int) := by
  have := and_i64 a b ha
  rwa [Nat.mod_eq_of_lt hb] at this
set_option maxRecDepth 100000 in
set_option maxHeartbeats 4000000 in
theorem within_any (v0 v1 v2 n0 n1 n2 : Nat) (w : World) (hv0 : v0 < 1000) (hv1 : v1 < 1000) (hv2 : v2 < 1000) (hn0 : n0 < 1000) (hn1 : n1 < 1000) (hn2 : n2 < 1000) :
    Calls Tryd.prog 45 #[.agg #[.int .i64 (v0 : Int), .int .i64 (v1 : Int), .int .i64 (v2 : Int)], .agg #[.int .i64 (n0 : Int), .int .i64 (n1 : Int), .int .i64 (n2 : Int)]] w (GivesV w (v0 &&& n0) (v1 &&& n1) (v2 &&& n2)) := by
  have a0 := and_small hv0 hn0
  have a1 := and_small hv1 hn1
  have a2 := and_small hv2 hn2
  have hB : Below w.heap.size w (((w.alloc (.cells #[.int .i64 (v0 : Int), .int .i64 (v1 : Int), .int .i64 (v2 : Int)] 78)).alloc (.cells #[.int .i64 (n0 : Int), .int .i64 (n1 : Int), .int .i64 (n2 : Int)] 78)).alloc (.cells #[.int .i64 0, .int .i64 0, .int .i64 0] 78)) := (((Below.refl _ _).alloc (Nat.le_refl _) _).alloc (by simp) _).alloc (by simp; omega) _
  have l1 := ((Lies.new w #[.int .i64 (v0 : Int), .int .i64 (v1 : Int), .int .i64 (v2 : Int)] 78).alloc (.cells #[.int .i64 (n0 : Int), .int .i64 (n1 : Int), .int .i64 (n2 : Int)] 78)).alloc (.cells #[.int .i64 0, .int .i64 0, .int .i64 0] 78)
  have l2 := (Lies.new (w.alloc (.cells #[.int .i64 (v0 : Int), .int .i64 (v1 : Int), .int .i64 (v2 : Int)] 78)) #[.int .i64 (n0 : Int), .int .i64 (n1 : Int), .int .i64 (n2 : Int)] 78).alloc (.cells #[.int .i64 0, .int .i64 0, .int .i64 0] 78)
  have l3 := Lies.new ((w.alloc (.cells #[.int .i64 (v0 : Int), .int .i64 (v1 : Int), .int .i64 (v2 : Int)] 78)).alloc (.cells #[.int .i64 (n0 : Int), .int .i64 (n1 : Int), .int .i64 (n2 : Int)] 78)) #[.int .i64 0, .int .i64 0, .int .i64 0] 78
  simp only [World.size_alloc] at l2 l3
  have A0 := hide a0
  have A1 := hide a1
  have A2 := hide a2
  have HB := hide hB
  clear hB a0 a1 a2 hv0 hv1 hv2 hn0 hn1 hn2
  generalize hk0 : v0 &&& n0 = k0 at A0 ⊢
  generalize hk1 : v1 &&& n1 = k1 at A1 ⊢
  generalize hk2 : v2 &&& n2 = k2 at A2 ⊢
  clear hk0 hk1 hk2
  go_enter Tryd.func45, Tryd.ntmps45
  go_upto_region 1 with fail
  generalize ((w.alloc (.cells #[.int .i64 (v0 : Int), .int .i64 (v1 : Int), .int .i64 (v2 : Int)] 78)).alloc (.cells #[.int .i64 (n0 : Int), .int .i64 (n1 : Int), .int .i64 (n2 : Int)] 78)).alloc (.cells #[.int .i64 0, .int .i64 0, .int .i64 0] 78) = W at l1 l2 l3 HB ⊢
  go_wp2_with fail
  go_loopw [6] (fun iv wr => ∃ (k : Nat) (x0 x1 x2 : Int), iv = .int .i64 (k : Int) ∧ k ≤ 3 ∧ Lies wr w.heap.size #[.int .i64 x0, .int .i64 x1, .int .i64 x2] 78 ∧ Lies wr (w.heap.size + 1) #[.int .i64 (n0 : Int), .int .i64 (n1 : Int), .int .i64 (n2 : Int)] 78 ∧ Lies wr (w.heap.size + 1 + 1) #[.int .i64 0, .int .i64 0, .int .i64 0] 78 ∧ Below w.heap.size w wr ∧ x0 = (if 0 < k then (k0 : Int) else v0) ∧ x1 = (if 1 < k then (k1 : Int) else v1) ∧ x2 = (if 2 < k then (k2 : Int) else v2)) (fun iv _ => 3 - (intOf iv).toNat)
  case atStart => exact ⟨0, v0, v1, v2, rfl, by omega, l1, l2, l3, HB.out, by simp, by simp, by simp⟩
  case round =>
    obtain ⟨k, x0, x1, x2, rfl, hk, l1, l2, l3, hB, hx0, hx1, hx2⟩ := hrel
    have HBr := hide hB
    have p0 := l1.cell 0
    have p1 := l1.cell 1
    have p2 := l1.cell 2
    have q0 := l2.cell 0
    have q1 := l2.cell 1
    have q2 := l2.cell 2
    have f0 := l1.frozen 0
    have f1 := l1.frozen 1
    have f2 := l1.frozen 2
    simp only [jD, jE, jF] at p0 p1 p2 q0 q1 q2
    match k, hk with
    | 0, _ =>
      simp at hx0 hx1 hx2
      subst hx0 hx1 hx2
      have aa := A0.out
      have m1 : Lies wr.drew w.heap.size _ _ := l1
      have pd := p0
      have fd := f0
      have HL1 := hide (l1.set 0 (.int .i64 (k0 : Int)))
      have HL2 := hide l2
      have HL3 := hide l3
      clear l1 l2 l3 hB
      rw [show ((0 : Nat) : Int) = 0 from rfl]
      go_wp2_with fail
      go_still_tail 8, (by kernel_rfl)
      change wpList _ _ _ _ _ wr.drew
      have pd' : wr.drew.cell? ⟨w.heap.size, 0, none⟩ = some (.int .i64 (v0 : Int)) := pd
      have fd' : wr.drew.frozen? ⟨w.heap.size, 0, none⟩ = false := fd
      have HL1' : Hid (Lies (wr.drew.setCell ⟨w.heap.size, 0, none⟩ (.int .i64 (k0 : Int))) w.heap.size _ _) := HL1
      have HL2' : Hid (Lies (wr.drew.setCell ⟨w.heap.size, 0, none⟩ (.int .i64 (k0 : Int))) (w.heap.size + 1) _ _) := hide (Lies.far (w := wr.drew) HL2.out (by show w.heap.size + 1 ≠ w.heap.size; omega) _)
      have HL3' : Hid (Lies (wr.drew.setCell ⟨w.heap.size, 0, none⟩ (.int .i64 (k0 : Int))) (w.heap.size + 1 + 1) _ _) := hide (Lies.far (w := wr.drew) HL3.out (by show w.heap.size + 1 + 1 ≠ w.heap.size; omega) _)
      have HB' := hide ((HBr.out.drew).setCell (p := ⟨w.heap.size, 0, none⟩) (Nat.le_refl _) (.int .i64 (k0 : Int)))
      clear HL1 HL2 HL3 HBr m1 p0 p1 p2 q0 q1 q2 f0 f1 f2 pd fd
      generalize wr.drew = w2 at pd' fd' HL1' HL2' HL3' HB' ⊢
      go_wp2
      go_roundw
      case rel => exact ⟨0 + 1, _, _, _, by go_num, by omega, by have h := HL1'.out; simp only [jA, jB] at h; exact h, HL2'.out, HL3'.out, HB'.out, by simp, by simp, by simp⟩
      case measure => simp [intOf]
    | 1, _ =>
      simp at hx0 hx1 hx2
      subst hx0 hx1 hx2
      have aa := A1.out
      have m1 : Lies wr.drew w.heap.size _ _ := l1
      have pd := p1
      have fd := f1
      have HL1 := hide (l1.set 1 (.int .i64 (k1 : Int)))
      have HL2 := hide l2
      have HL3 := hide l3
      clear l1 l2 l3 hB
      rw [show ((1 : Nat) : Int) = 1 from rfl]
      go_wp2_with fail
      go_still_tail 8, (by kernel_rfl)
      change wpList _ _ _ _ _ wr.drew
      have pd' : wr.drew.cell? ⟨w.heap.size, 1, none⟩ = some (.int .i64 (v1 : Int)) := pd
      have fd' : wr.drew.frozen? ⟨w.heap.size, 1, none⟩ = false := fd
      have HL1' : Hid (Lies (wr.drew.setCell ⟨w.heap.size, 1, none⟩ (.int .i64 (k1 : Int))) w.heap.size _ _) := HL1
      have HL2' : Hid (Lies (wr.drew.setCell ⟨w.heap.size, 1, none⟩ (.int .i64 (k1 : Int))) (w.heap.size + 1) _ _) := hide (Lies.far (w := wr.drew) HL2.out (by show w.heap.size + 1 ≠ w.heap.size; omega) _)
      have HL3' : Hid (Lies (wr.drew.setCell ⟨w.heap.size, 1, none⟩ (.int .i64 (k1 : Int))) (w.heap.size + 1 + 1) _ _) := hide (Lies.far (w := wr.drew) HL3.out (by show w.heap.size + 1 + 1 ≠ w.heap.size; omega) _)
      have HB' := hide ((HBr.out.drew).setCell (p := ⟨w.heap.size, 1, none⟩) (Nat.le_refl _) (.int .i64 (k1 : Int)))
      clear HL1 HL2 HL3 HBr m1 p0 p1 p2 q0 q1 q2 f0 f1 f2 pd fd
      generalize wr.drew = w2 at pd' fd' HL1' HL2' HL3' HB' ⊢
      go_wp2
      go_roundw
      case rel => exact ⟨1 + 1, _, _, _, by go_num, by omega, by have h := HL1'.out; simp only [jA, jB, jC] at h; exact h, HL2'.out, HL3'.out, HB'.out, by simp, by simp, by simp⟩
      case measure => simp [intOf]
    | 2, _ =>
      simp at hx0 hx1 hx2
      subst hx0 hx1 hx2
      have aa := A2.out
      have m1 : Lies wr.drew w.heap.size _ _ := l1
      have pd := p2
      have fd := f2
      have HL1 := hide (l1.set 2 (.int .i64 (k2 : Int)))
      have HL2 := hide l2
      have HL3 := hide l3
      clear l1 l2 l3 hB
      rw [show ((2 : Nat) : Int) = 2 from rfl]
      go_wp2_with fail
      go_still_tail 8, (by kernel_rfl)
      change wpList _ _ _ _ _ wr.drew
      have pd' : wr.drew.cell? ⟨w.heap.size, 2, none⟩ = some (.int .i64 (v2 : Int)) := pd
      have fd' : wr.drew.frozen? ⟨w.heap.size, 2, none⟩ = false := fd
      have HL1' : Hid (Lies (wr.drew.setCell ⟨w.heap.size, 2, none⟩ (.int .i64 (k2 : Int))) w.heap.size _ _) := HL1
      have HL2' : Hid (Lies (wr.drew.setCell ⟨w.heap.size, 2, none⟩ (.int .i64 (k2 : Int))) (w.heap.size + 1) _ _) := hide (Lies.far (w := wr.drew) HL2.out (by show w.heap.size + 1 ≠ w.heap.size; omega) _)
      have HL3' : Hid (Lies (wr.drew.setCell ⟨w.heap.size, 2, none⟩ (.int .i64 (k2 : Int))) (w.heap.size + 1 + 1) _ _) := hide (Lies.far (w := wr.drew) HL3.out (by show w.heap.size + 1 + 1 ≠ w.heap.size; omega) _)
      have HB' := hide ((HBr.out.drew).setCell (p := ⟨w.heap.size, 2, none⟩) (Nat.le_refl _) (.int .i64 (k2 : Int)))
      clear HL1 HL2 HL3 HBr m1 p0 p1 p2 q0 q1 q2 f0 f1 f2 pd fd
      generalize wr.drew = w2 at pd' fd' HL1' HL2' HL3' HB' ⊢
      go_wp2
      go_roundw
      case rel => exact ⟨2 + 1, _, _, _, by go_num, by omega, by have h := HL1'.out; simp only [jA, jB, jC] at h; exact h, HL2'.out, HL3'.out, HB'.out, by simp, by simp, by simp⟩
      case measure => simp [intOf]
    | 3, _ =>
      simp at hx0 hx1 hx2
      subst hx0 hx1 hx2
      have lf := lies3_set l3 (.int .i64 (k0 : Int)) (.int .i64 (k1 : Int)) (.int .i64 (k2 : Int))
      have s0 := lf.cell 0
      have s1 := lf.cell 1
      have s2 := lf.cell 2
      have r0 := l3.cell 0
      have r1 := l3.cell 1
      have r2 := l3.cell 2
      have g0 := l3.frozen 0
      have g1 := l3.frozen 1
      have g2 := l3.frozen 2
      simp only [jD, jE, jF] at s0 s1 s2 r0 r1 r2
      have HB2 := hide (((HBr.out.setCell (p := ⟨w.heap.size + 1 + 1, 0, none⟩) (by show w.heap.size ≤ w.heap.size + 1 + 1; omega) (.int .i64 (k0 : Int))).setCell (p := ⟨w.heap.size + 1 + 1, 1, none⟩) (by show w.heap.size ≤ w.heap.size + 1 + 1; omega) (.int .i64 (k1 : Int))).setCell (p := ⟨w.heap.size + 1 + 1, 2, none⟩) (by show w.heap.size ≤ w.heap.size + 1 + 1; omega) (.int .i64 (k2 : Int)))
      clear l1 l2 l3 lf hB HBr
      rw [show ((3 : Nat) : Int) = 3 from rfl]
      go_wp2
      refine bodyPost_ret (v := .agg #[.int .i64 (k0 : Int), .int .i64 (k1 : Int), .int .i64 (k2 : Int)]) (by simp [results, Tryd.results45, go_sem, s0, s1, s2]) rfl ?_
      exact ⟨rfl, HB2.out⟩
end Go.Proofs.YtbihgafkmmcjlaaDoor
