/-
  Lemmas, several texts in one: One, SpecA, SpecB, SpecD, WatM.
-/
import Derived.Test.YthckkpbjpgfdcabDoorPjAd
import Derived.StillTailTactics
import Derived.Test.YthckkpbjpgfdcabDoorPjAg
import Derived.Test.YthckkpbjpgfdcabDoorPjAc
import Derived.Deep.QuietTactic
import Derived.BigQuiet
import Derived.Test.YthckkpbjpgfdcabDoorPjAf
import Derived.Test.YthckkpbjpgfdcabDoorPjAb
namespace Go.Proofs.YthckkpbjpgfdcabDoor
open Go.RowKit
set_option linter.unusedVariables false
structure Grew (g : Nat) (w w' : World) : Prop where
  os : w'.os = w.os
  tape : w'.tape = w.tape
  output : w'.output = w.output
  size : w.heap.size ≤ w'.heap.size
  block : ∀ k, k < w.heap.size → k ≠ g → w'.heap[k]? = w.heap[k]?
theorem Grew.refl (g : Nat) (w : World) : Grew g w w := ⟨rfl, rfl, rfl, Nat.le_refl _, fun _ _ _ => rfl⟩
theorem Grew.trans {g : Nat} {a b c : World} (h : Grew g a b) (k : Grew g b c) : Grew g a c :=
  ⟨k.os.trans h.os, k.tape.trans h.tape, k.output.trans h.output, Nat.le_trans h.size k.size, fun j hj hn => (k.block j (Nat.lt_of_lt_of_le hj h.size) hn).trans (h.block j hj hn)⟩
theorem Grew.of_turn {g : Nat} {w w' : World} (h : Turn g w w') : Grew g w w' := ⟨h.os, h.tape, h.output, by rw [h.size]; exact Nat.le_refl _, fun k _ hk => h.block k hk⟩
theorem Grew.of_below {g : Nat} {w w' : World} (h : Below w.heap.size w w') : Grew g w w' := ⟨h.os, h.tape, h.output, h.size, fun k hk _ => h.block k hk⟩
theorem Grew.below {g B : Nat} {w0 w w' : World} (h : Grew g w w') (hb : Below B w0 w) (hg : B ≤ g) (hB : B ≤ w.heap.size) : Below B w0 w' :=
  hb.trans ⟨h.os, h.tape, h.output, h.size, fun k hk => h.block k (by omega) (by omega)⟩
theorem Rd.below {w w' : World} {rb : Nat} {A : Option Addr} {n c p : Nat} (h : Rd w rb A n c p) (hb : Below w.heap.size w w') : Rd w' rb A n c p :=
  ⟨h.box.below hb h.box.lt, h.bytes.later (hb.mono (Nat.le_of_lt h.box.lt)), h.few⟩
theorem Grew.cell {g : Nat} {w w' : World} (h : Grew g w w') {b o : Nat} (h1 : b < w.heap.size) (h2 : b ≠ g) : w'.cell? ⟨b, o, none⟩ = w.cell? ⟨b, o, none⟩ := World.cell?_of_block (w := w) (h.block b h1 h2)
theorem Lies.grew {g b : Nat} {w w' : World} {cs : Array Value} {t : TypeId} (h : Lies w b cs t) (hg : Grew g w w') (h2 : b ≠ g) : Lies w' b cs t := (hg.block b h.lt h2).trans h
def Chosen (rb : Nat) (A : Option Addr) (n c p : Nat) (xs : List Int) (w : World) (e : Ending) (w' : World) : Prop :=
  (∃ x ∈ xs, e = .returned (.int .i64 x)) ∧ Rd w' rb A n c (p + 1) ∧ Turn rb w w'
set_option maxHeartbeats 1000000 in
theorem one_any (rb : Nat) (A : Option Addr) (n c p g l c2 : Nat) (xs : List Int) (w : World) (h : Rd w rb A n c p) (hp : p < 1000000) (hl : xs.length = l) (h1 : 1 ≤ l) (h2 : l ≤ 100) (hg : g ≠ rb) (hc : ∀ k x, xs[k]? = some x → w.cell? ⟨g, k, none⟩ = some (.int .i64 x)) :
    Calls Tryd.prog 25 #[.pointer (some ⟨rb, 0, none⟩), .slice (some ⟨g, 0, none⟩) l c2] w (Chosen rb A n c p xs w) := by
  have HC := hide hc
  have Hl := hide hl
  clear hc hl
  go_enter Tryd.func25, Tryd.ntmps25
  go_wp2_with fail
  refine (pick_any rb A n c p (l : Int) w h hp (by omega)).mono ?_
  rintro e w' ⟨⟨x, rfl, hx, _⟩, hr, ht⟩
  have hxl : (x : Int) < (l : Int) := hx (by omega)
  have hx0 : (0 : Int) ≤ (x : Int) := by omega
  obtain ⟨y, hy⟩ : ∃ y, xs[x]? = some y := ⟨_, List.getElem?_eq_getElem (by have := Hl.out; omega)⟩
  have hcell : w'.cell? ⟨g, x, none⟩ = some (.int .i64 y) := (World.cell?_of_block (w := w) (ht.block g hg)).trans (HC.out x y hy)
  have hfin : Hid (Chosen rb A n c p xs w (.returned (.int .i64 y)) w') := ⟨⟨y, List.mem_of_getElem? hy, rfl⟩, hr, ht⟩
  clear hr ht hx hy
  go_wp2
  go_ret
  exact hfin.out
end Go.Proofs.YthckkpbjpgfdcabDoor

namespace Go.Proofs.YthckkpbjpgfdcabDoor
open Go.RowKit
def IsKey (n : Nd) : Prop := n.kind = 0 ∨ n.kind = 1
set_option maxHeartbeats 400000 in
theorem isKey_any (v : Value) (n : Nd) (w : World) :
    Calls Tryd.prog 56 #[.agg #[.int .i64 n.kind, .int .i64 n.value, v]] w fun e w' => e = .returned (.bool (tf (IsKey n))) ∧ Below w.heap.size w w' := by
  by_cases h0 : n.kind = 0
  · have HF := hide (show tf (IsKey n) = true from tf_true (.inl h0))
    have t : (n.kind == 0) = true := by simpa using h0
    clear h0
    go_enter Tryd.func56, Tryd.ntmps56
    go_wp2
    go_ret
    exact ⟨ret_bool HF.out.symm, (Below.refl _ _).alloc (Nat.le_refl _) _⟩
  · by_cases h1 : n.kind = 1
    · have HF := hide (show tf (IsKey n) = true from tf_true (.inr h1))
      have t : (n.kind == 0) = false := by simpa using h0
      have t1 : (n.kind == 1) = true := by simpa using h1
      clear h0 h1
      go_enter Tryd.func56, Tryd.ntmps56
      go_wp2
      go_ret
      exact ⟨ret_bool HF.out.symm, (Below.refl _ _).alloc (Nat.le_refl _) _⟩
    · have HF := hide (show tf (IsKey n) = false from tf_false (fun h => h.elim h0 h1))
      have t : (n.kind == 0) = false := by simpa using h0
      have t1 : (n.kind == 1) = false := by simpa using h1
      clear h0 h1
      go_enter Tryd.func56, Tryd.ntmps56
      go_wp2
      go_ret
      exact ⟨ret_bool HF.out.symm, (Below.refl _ _).alloc (Nat.le_refl _) _⟩
def SameKey (m n : Nd) : Prop := m.kind = n.kind ∧ m.value = n.value
set_option maxHeartbeats 400000 in
theorem sameKey_any (v v' : Value) (m n : Nd) (w : World) :
    Calls Tryd.prog 74 #[.agg #[.int .i64 m.kind, .int .i64 m.value, v], .agg #[.int .i64 n.kind, .int .i64 n.value, v']] w fun e w' => e = .returned (.bool (tf (SameKey m n))) ∧ Below w.heap.size w w' := by
  by_cases h0 : m.kind = n.kind
  · by_cases h1 : m.value = n.value
    · have HF := hide (show tf (SameKey m n) = true from tf_true ⟨h0, h1⟩)
      have t : (m.kind == n.kind) = true := by simpa using h0
      have t1 : (m.value == n.value) = true := by simpa using h1
      clear h0 h1
      go_enter Tryd.func74, Tryd.ntmps74
      go_wp2
      go_ret
      exact ⟨ret_bool HF.out.symm, ((Below.refl _ _).alloc (Nat.le_refl _) _).alloc (by simp) _⟩
    · have HF := hide (show tf (SameKey m n) = false from tf_false (fun h => h1 h.2))
      have t : (m.kind == n.kind) = true := by simpa using h0
      have t1 : (m.value == n.value) = false := by simpa using h1
      clear h0 h1
      go_enter Tryd.func74, Tryd.ntmps74
      go_wp2
      go_ret
      exact ⟨ret_bool HF.out.symm, ((Below.refl _ _).alloc (Nat.le_refl _) _).alloc (by simp) _⟩
  · have HF := hide (show tf (SameKey m n) = false from tf_false (fun h => h0 h.1))
    have t : (m.kind == n.kind) = false := by simpa using h0
    clear h0
    go_enter Tryd.func74, Tryd.ntmps74
    go_wp2
    go_ret
    exact ⟨ret_bool HF.out.symm, ((Below.refl _ _).alloc (Nat.le_refl _) _).alloc (by simp) _⟩
end Go.Proofs.YthckkpbjpgfdcabDoor

namespace Go.Proofs.YthckkpbjpgfdcabDoor
open Go.RowKit
def InG (ns : List Nd) (kids : List Int) : Prop := ∀ x ∈ kids, 0 ≤ x ∧ x < ns.length
def KidNd (ns : List Nd) (kids : List Int) (p : Nat) (n : Nd) : Prop := ∃ k : Nat, kids[p]? = some (k : Int) ∧ ns[k]? = some n
structure DictOk (ns : List Nd) (kids : List Int) : Prop where
  even : kids.length % 2 = 0
  key : ∀ p n, p % 2 = 0 → KidNd ns kids p n → IsKey n
  diff : ∀ p q m n, p % 2 = 0 → q % 2 = 0 → q < p → KidNd ns kids p m → KidNd ns kids q n → ¬ SameKey m n
theorem KidNd.eq {ns : List Nd} {kids : List Int} {p : Nat} {m n : Nd} (h : KidNd ns kids p m) (h' : KidNd ns kids p n) : m = n := by
  obtain ⟨k, h1, h2⟩ := h
  obtain ⟨k', h3, h4⟩ := h'
  rw [h1] at h3
  have : k = k' := by injection h3 with h3; omega
  subst this
  rw [h2] at h4
  injection h4
theorem KidNd.lt {ns : List Nd} {kids : List Int} {p : Nat} {n : Nd} (h : KidNd ns kids p n) : p < kids.length := by
  obtain ⟨k, h1, _⟩ := h
  exact (List.getElem?_eq_some_iff.1 h1).1
theorem kid_at {w : World} {B B' : Nat} {A A' : Option Addr} {ns : List Nd} {kids : List Int} (hr : NdsAt w B A ns) (hk : IntsAt w B' A' kids) (hin : InG ns kids) {p : Nat} (hp : p < kids.length) :
    ∃ (b off b' off' k : Nat) (n : Nd), A = some ⟨b, off, none⟩ ∧ b < B ∧ A' = some ⟨b', off', none⟩ ∧ b' < B' ∧ k < ns.length ∧ w.cell? ⟨b', off' + p, none⟩ = some (.int .i64 (k : Int)) ∧ NdAt w B b (off + k * 3) n ∧
      KidNd ns kids p n ∧ n ∈ ns := by
  obtain ⟨b', off', x, rfl, hb', hx, hmem, hc⟩ := hk.at_ hp
  obtain ⟨h0, h1⟩ := hin x hmem
  obtain ⟨k, rfl⟩ := Int.eq_ofNat_of_zero_le h0
  obtain ⟨b, off, n, rfl, hb, hat, hn, hN⟩ := hr.at_ (k := k) (by omega)
  exact ⟨b, off, b', off', k, n, rfl, hb, rfl, hb', by omega, hc, hN, ⟨k, hx, hat⟩, hn⟩
set_option maxRecDepth 100000 in
set_option maxHeartbeats 4000000 in
theorem validDict_any (A : Option Addr) (ns : List Nd) (c : Nat) (r : Int) (A' : Option Addr) (n : Nd) (c' : Nat) (w : World) (hr : NdsAt w w.heap.size A ns) (hk : IntsAt w w.heap.size A' n.kids) (hin : InG ns n.kids) (hsm : n.kids.length ≤ 1048576) :
    Calls Tryd.prog 73 #[.agg #[.slice A ns.length c, .int .i64 r], .agg #[.int .i64 n.kind, .int .i64 n.value, .slice A' n.kids.length c']] w fun e w' =>
      e = .returned (.bool (tf (DictOk ns n.kids))) ∧ Below w.heap.size w w' := by
  have hnl := hr.len
  have hB : Below w.heap.size w ((w.alloc (.cells #[.slice A ns.length c, .int .i64 r] 52)).alloc (.cells #[.int .i64 n.kind, .int .i64 n.value, .slice A' n.kids.length c'] 71)) :=
    ((Below.refl _ _).alloc (Nat.le_refl _) _).alloc (by simp) _
  have l1 := (Lies.new w #[.slice A ns.length c, .int .i64 r] 52).alloc (.cells #[.int .i64 n.kind, .int .i64 n.value, .slice A' n.kids.length c'] 71)
  have l2 := Lies.new (w.alloc (.cells #[.slice A ns.length c, .int .i64 r] 52)) #[.int .i64 n.kind, .int .i64 n.value, .slice A' n.kids.length c'] 71
  have hr2 := hr.later hB (Nat.le_refl _)
  have hk2 := hk.later hB (Nat.le_refl _)
  simp only [World.size_alloc] at l2
  clear hr hk
  go_enter Tryd.func73, Tryd.ntmps73
  go_wp2_with fail
  generalize (w.alloc (.cells #[.slice A ns.length c, .int .i64 r] 52)).alloc (.cells #[.int .i64 n.kind, .int .i64 n.value, .slice A' n.kids.length c'] 71) = W at hB l1 l2 hr2 hk2 ⊢
  have hW1 := l1.lt
  have hW2 := l2.lt
  go_loopw [5] (fun i wr => ∃ k : Nat, k % 2 = 0 ∧ k ≤ n.kids.length + 1 ∧ i = .int .i64 k ∧ Below W.heap.size W wr ∧ (∀ p m, p < k → p % 2 = 0 → KidNd ns n.kids p m → IsKey m) ∧
      (∀ p q m m', p < k → p % 2 = 0 → q % 2 = 0 → q < p → KidNd ns n.kids p m → KidNd ns n.kids q m' → ¬ SameKey m m')) (fun i _ => n.kids.length + 2 - (intOf i).toNat)
  case atStart => exact ⟨0, rfl, Nat.zero_le _, rfl, Below.refl _ _, fun p m hp => absurd hp (by omega), fun p q m m' hp => absurd hp (by omega)⟩
  case round =>
    obtain ⟨k, hk2', hkl, rfl, hb, hkey0, hdiff0⟩ := hrel
    have hkey := hide hkey0
    have hdiff := hide hdiff0
    have hev := hide hk2'
    clear hkey0 hdiff0 hk2'
    have e0 := (l1.below hb hW1).cell 0
    have e2 := (l2.below hb hW2).cell 2
    simp at e0 e2
    by_cases hlt : k < n.kids.length
    · obtain ⟨b, off, b', off', x, m, rfl, hbl, rfl, hbl', hxl, hcx, hM, hkn, _⟩ := kid_at (hr2.below hb) (hk2.below hb) hin hlt
      obtain ⟨hm_k, hm_v, ⟨A1, c1, hm_s, hI1, _⟩, _, _⟩ := hM
      have hk1 : (0 : Int) ≤ (k : Int) := by omega
      have hk3 : (k : Int) < (n.kids.length : Int) := by omega
      have hx1 : (0 : Int) ≤ (x : Int) := by omega
      have hx3 : (x : Int) < (ns.length : Int) := by omega
      have hbd : Below W.heap.size W wr.drew := hb.drew
      go_wp2_with fail
      go_still_tail 9, (by kernel_rfl)
      change wpList _ _ _ _ _ wr.drew
      generalize wr.drew = w2 at hbd ⊢
      clear hb hcx hm_k hm_v hm_s hI1 e0 e2
      go_wp2_with fail
      refine (isKey_any _ m w2).mono ?_
      rintro e w' ⟨rfl, hb3⟩
      have hb4 := hbd.trans (hb3.mono hbd.size)
      clear hbd hb3
      by_cases hik : IsKey m
      · have t := tf_true hik
        rw [t]
        clear t
        go_wp2_with fail
        go_loopw [6] (fun i wr => ∃ j : Nat, j % 2 = 0 ∧ j ≤ k ∧ i = .int .i64 j ∧ Below W.heap.size W wr ∧ (∀ q m', q < j → q % 2 = 0 → KidNd ns n.kids q m' → ¬ SameKey m m')) (fun i _ => k + 2 - (intOf i).toNat)
        case atStart => exact ⟨0, rfl, Nat.zero_le _, rfl, hb4, fun q m' hq => absurd hq (by omega)⟩
        case round =>
          obtain ⟨j, hj2, hjk, rfl, hb5, hne0⟩ := hrel
          have hne := hide hne0
          have hjv := hide hj2
          clear hne0 hj2 hb4
          have e0 := (l1.below hb5 hW1).cell 0
          have e2 := (l2.below hb5 hW2).cell 2
          simp at e0 e2
          by_cases hjlt : j < k
          · obtain ⟨_, _, _, _, x1, _, he1, _, he2, _, hxl1, hcx1, hM1, hkn1, _⟩ := kid_at (hr2.below hb5) (hk2.below hb5) hin hlt
            obtain ⟨_, _, _, _, y, m2, he3, _, he4, _, hyl, hcy, hM2, hkn2, _⟩ := kid_at (hr2.below hb5) (hk2.below hb5) hin (p := j) (by omega)
            simp only [Option.some.injEq, Addr.mk.injEq, and_true] at he1 he2 he3 he4
            obtain ⟨rfl, rfl⟩ := he1
            obtain ⟨rfl, rfl⟩ := he2
            obtain ⟨rfl, rfl⟩ := he3
            obtain ⟨rfl, rfl⟩ := he4
            obtain rfl := hkn.eq hkn1
            obtain ⟨hm_k, hm_v, ⟨A1, c1, hm_s, hI1, _⟩, _, _⟩ := hM1
            obtain ⟨hn_k, hn_v, ⟨A2, c2, hn_s, hI2, _⟩, _, _⟩ := hM2
            have hj1 : (0 : Int) ≤ (j : Int) := by omega
            have hj3 : (j : Int) < (n.kids.length : Int) := by omega
            have hxx1 : (0 : Int) ≤ (x1 : Int) := by omega
            have hxx3 : (x1 : Int) < (ns.length : Int) := by omega
            have hy1 : (0 : Int) ≤ (y : Int) := by omega
            have hy3 : (y : Int) < (ns.length : Int) := by omega
            have hbd : Below W.heap.size W wr.drew := hb5.drew
            go_wp2_with fail
            go_still_tail 18, (by kernel_rfl)
            change wpList _ _ _ _ _ wr.drew
            generalize wr.drew = w3 at hbd ⊢
            clear hb5 hcx1 hcy hm_k hm_v hm_s hI1 hn_k hn_v hn_s hI2 e0 e2
            go_wp2_with fail
            refine (sameKey_any _ _ m m2 w3).mono ?_
            rintro e w' ⟨rfl, hb3⟩
            have hb4 := hbd.trans (hb3.mono hbd.size)
            clear hbd hb3
            by_cases hsk : SameKey m m2
            · have t := tf_true hsk
              rw [t]
              clear t
              have HF := hide (show tf (DictOk ns n.kids) = false from tf_false fun h => h.diff k j m m2 hev.out hjv.out hjlt hkn hkn2 hsk)
              go_wp2
              go_ret
              exact ⟨ret_bool HF.out.symm, hB.trans (hb4.mono hB.size)⟩
            · have t := tf_false hsk
              rw [t]
              clear t
              have hne2 : ∀ q m', q < j + 2 → q % 2 = 0 → KidNd ns n.kids q m' → ¬ SameKey m m' := by
                intro q m' hq hq2 hqn
                by_cases e : q = j
                · subst e
                  obtain rfl := hkn2.eq hqn
                  exact hsk
                · exact hne.out q m' (by have := hjv.out; omega) hq2 hqn
              have Hne := hide hne2
              have hj5 : j + 2 ≤ k := by have := hjv.out; have := hev.out; omega
              clear hne2 hne
              go_wp2
              go_roundw
              case rel => exact ⟨j + 2, by have := hjv.out; omega, hj5, by go_num, hb4, Hne.out⟩
              case measure => simp [intOf]; omega
          · obtain rfl : j = k := by omega
            clear hjlt e0 e2
            go_wp2
            go_roundw
            case rel => exact ⟨j + 2, by have := hev.out; omega, by omega, by go_num, hb5, fun p m' hp hp2 hpn => by
                by_cases e : p = j
                · subst e
                  obtain rfl := hkn.eq hpn
                  exact hik
                · exact hkey.out p m' (by have := hjv.out; omega) hp2 hpn, fun p q m1 m2 hp hp2 hq2 hqp h1 h2 => by
                by_cases e : p = j
                · subst e
                  obtain rfl := hkn.eq h1
                  exact hne.out q m2 hqp hq2 h2
                · exact hdiff.out p q m1 m2 (by have := hjv.out; omega) hp2 hq2 hqp h1 h2⟩
            case measure => simp [intOf]; omega
      · have t := tf_false hik
        rw [t]
        clear t
        have HF := hide (show tf (DictOk ns n.kids) = false from tf_false fun h => hik (h.key k m hev.out hkn))
        go_wp2
        go_ret
        exact ⟨ret_bool HF.out.symm, hB.trans (hb4.mono hB.size)⟩
    · by_cases hmod : n.kids.length % 2 = 0
      · have HF := hide (show tf (DictOk ns n.kids) = true from tf_true ⟨hmod, fun p m hp hn => hkey.out p m (by have := hn.lt; omega) hp hn, fun p q m m' hp hq hqp h1 h2 => hdiff.out p q m m' (by have := h1.lt; omega) hp hq hqp h1 h2⟩)
        have t : ((n.kids.length : Int) % 2 == 0) = true := by rw [beq_iff_eq]; omega
        clear hmod
        go_wp2
        go_ret
        exact ⟨ret_bool HF.out.symm, hB.trans (hb.mono hB.size)⟩
      · have HF := hide (show tf (DictOk ns n.kids) = false from tf_false fun h => hmod h.even)
        have t : ((n.kids.length : Int) % 2 == 0) = false := by rw [beq_eq_false_iff_ne]; omega
        clear hmod
        go_wp2
        go_ret
        exact ⟨ret_bool HF.out.symm, hB.trans (hb.mono hB.size)⟩
end Go.Proofs.YthckkpbjpgfdcabDoor

namespace Go.Proofs.YthckkpbjpgfdcabDoor
open Go.RowKit
set_option linter.unusedVariables false
def GivesReach (w : World) (ns : List Nd) (i : Int) (e : Ending) (w' : World) : Prop :=
  ∃ A c out, e = .returned (.slice A out.length c) ∧ OwnI w' w.heap.size A c out ∧ Below w.heap.size w w' ∧ (∀ x, x ∈ out ↔ TReach ns i x) ∧ (∀ x ∈ out, 0 ≤ x ∧ x < ns.length) ∧ out.length ≤ ns.length
def KidsOk (ns : List Nd) : Prop := ns.length ≤ 12 ∧ ∀ n ∈ ns, n.kids.length ≤ 6 ∧ ∀ x ∈ n.kids, 0 ≤ x ∧ x < ns.length
theorem in64_of_range {ns : List Nd} {out : List Int} (h12 : ns.length ≤ 12) (h : ∀ x ∈ out, 0 ≤ x ∧ x < ns.length) : ∀ x ∈ out, In64 x := fun x hx => by
  have := h x hx
  constructor <;> omega
set_option maxRecDepth 100000 in
set_option maxHeartbeats 4000000 in
theorem tupleReach_any (A : Option Addr) (ns : List Nd) (c : Nat) (r : Int) (i : Nat) (w : World) (hr : NdsAt w w.heap.size A ns) (hko : KidsOk ns) (hi : i < ns.length) :
    Calls Tryd.prog 67 #[.agg #[.slice A ns.length c, .int .i64 r], .int .i64 (i : Int)] w (GivesReach w ns i) := by
  obtain ⟨h12, hkids0⟩ := hko
  have hkids := hide hkids0
  clear hkids0
  have hB : Below w.heap.size w ((w.alloc (.cells #[.slice A ns.length c, .int .i64 r] 52)).alloc (.cells #[] 3)) := ((Below.refl _ _).alloc (Nat.le_refl _) _).alloc (by simp) _
  have l1 := (Lies.new w #[.slice A ns.length c, .int .i64 r] 52).alloc (.cells #[] 3)
  have hr2 := hr.below hB
  have hbare := OwnI.bare (w.alloc (.cells #[.slice A ns.length c, .int .i64 r] 52))
  simp only [World.size_alloc] at hbare
  clear hr
  have hi1 : (0 : Int) ≤ (i : Int) := by omega
  have hi2 : (i : Int) < (ns.length : Int) := by omega
  obtain ⟨b, off, n, rfl, hbl, hat, hmem, hN⟩ := hr2.at_ hi
  obtain ⟨hn_k, hn_v, ⟨A1, c1, hn_s, hI1', hnil1⟩, _, _⟩ := hN
  have hI1 := hI1'.more hB.size
  clear hI1'
  obtain ⟨hkn, hkr0⟩ := hkids.out n hmem
  have hkr := hide hkr0
  have hki := hide (kidsOf_at hat)
  clear hat hmem hn_k hn_v hkr0
  go_enter Tryd.func67, Tryd.ntmps67
  go_wp2_with fail
  generalize hWd : (w.alloc (.cells #[.slice (some ⟨b, off, none⟩) ns.length c, .int .i64 r] 52)).alloc (.cells #[] 3) = W at hB l1 hr2 hbl hn_s hI1 hbare ⊢
  have hWs : w.heap.size + 2 = W.heap.size := by rw [← hWd]; simp
  have HWs := hide hWs
  clear hWd hWs
  refine (copyInts_any A1 n.kids c1 W hI1 hnil1 (by omega)).mono ?_
  rintro e w1 ⟨Al, cl, rfl, hlist, hb1⟩
  go_wp2_with fail
  go_loopw [5, 6, 7] (fun o l iv wr => ∃ (out list : List Int) (Ao Al : Option Addr) (co cl k : Nat), o = .slice Ao out.length co ∧ l = .slice Al list.length cl ∧ iv = .int .i64 k ∧ k ≤ list.length ∧
      OwnI wr (w.heap.size + 1) Ao co out ∧ OwnI wr (w.heap.size + 1) Al cl list ∧ Below (w.heap.size + 1) W wr ∧ (∀ g, blockOf Ao = some g → blockOf Al ≠ some g) ∧ TInv ns i out list k) (fun _ _ iv _ => 79 - (intOf iv).toNat)
  case atStart =>
    refine ⟨[], n.kids, _, Al, _, cl, 0, rfl, rfl, rfl, Nat.zero_le _, hbare.below hb1, hlist.mono (by have := HWs.out; omega), hb1.mono (by have := HWs.out; omega), ?_, ?_⟩
    · intro g hg hg2
      simp [blockOf] at hg
      have := hlist.blocks g hg2
      have := HWs.out
      omega
    · have := TInv.start (ns := ns) (i := i) (by rw [hki.out]; exact hkn) (by rw [hki.out]; exact hkr.out)
      rw [hki.out] at this
      exact this
  case round =>
    obtain ⟨out, list, Ao, Al', co, cl', k, rfl, rfl, rfl, hkl, hout, hli, hb, hap0, hinv⟩ := hrel
    clear hlist hbare hb1 hn_s hI1
    have hap := hide hap0
    clear hap0
    have hsz : w.heap.size + 2 ≤ wr.heap.size := by have := hb.size; have := HWs.out; omega
    have Hinv := hide hinv
    have hk78 := hinv.listLen h12
    have ho12 := hinv.outLen
    have wfo : ∀ x ∈ out, In64 x := in64_of_range h12 fun x hx => hinv.range x (hinv.sub x hx)
    have wfl : ∀ x ∈ list, In64 x := in64_of_range h12 hinv.range
    have hio := hout.ints wfo (by omega)
    have hil := hli.ints wfl (by omega)
    have Wfo := hide wfo
    have Wfl := hide wfl
    clear hinv wfo wfl
    have l1r := l1.below hb (by omega)
    have e0 := l1r.cell 0
    simp at e0
    by_cases hlt : k < list.length
    · obtain ⟨b2, off2, x, rfl, hbl2, hx, hxm, hcx⟩ := hil.at_ hlt
      obtain ⟨hx0, hx1⟩ := Hinv.out.range x hxm
      obtain ⟨y, rfl⟩ := Int.eq_ofNat_of_zero_le hx0
      have Hx := hide hx
      clear hx hxm
      have hk1 : (0 : Int) ≤ (k : Int) := by omega
      have hk2 : (k : Int) < (list.length : Int) := by omega
      go_wp2_with fail
      refine (placeIn_any Ao out co y wr hio).mono ?_
      rintro e w' ⟨rfl, rfl⟩
      by_cases hmem : (y : Int) ∈ out
      · have hp := place_lt hmem
        have hd : decide (place out y < 0) = false := by simp; omega
        generalize place out y = pl at hp hd ⊢
        have Hn := hide (Hinv.out.seen Hx.out hmem)
        clear hmem
        go_wp2
        go_roundw
        case rel => exact ⟨out, list, Ao, _, co, cl', k + 1, rfl, rfl, by go_num, by omega, hout, hli, hb, hap.out, Hn.out⟩
        case measure => simp [intOf]; omega
      · rw [place_neg hmem]
        have hIone := IntsAt.one wr y (by constructor <;> omega)
        go_wp2_with (at_builtin; refine append_ints rfl (.tmp 29) (.tmp 34) rfl (w.heap.size + 1) Ao co out rfl (hout.alloc _) (wr.heap.size + 1) _ 1 [(y : Int)] rfl (fun e => by cases e) hIone (by simp; omega) (by simp; omega) ?_; intro zs A' c' w2 hz hown2 hg2 hat2)
        have hb2 : Below (w.heap.size + 1) W w2 := below_grown (hb.alloc (by omega) _) hg2 (by simp; omega) (fun k hk => (hout.blocks k hk).1)
        have hli2 : OwnI w2 (w.heap.size + 1) (some ⟨b2, off2, none⟩) cl' list := (hli.alloc _).kept hg2 (.inr (fun e => hap.out b2 (by rw [← e]; simp [blockOf]) (by simp [blockOf])))
        have hap2 : Hid (∀ g, blockOf A' = some g → blockOf (some (⟨b2, off2, none⟩ : Addr)) ≠ some g) := by
          intro g hg e
          rcases hat2 with h | h
          · exact hap.out g (by rw [← h]; exact hg) e
          · simp only [World.size_alloc] at h
            have := hli.blocks b2 (by simp [blockOf])
            rw [hg] at h
            simp [blockOf] at e h
            omega
        clear hat2 hg2 hio hIone hap hout hli hil e0 l1r
        have hil2 := hli2.ints Wfl.out (by omega)
        have e0 := (l1.below hb2 (by omega)).cell 0
        simp at e0
        obtain ⟨_, _, _, he2, _, hx2, _, hcx2⟩ := hil2.at_ hlt
        simp only [Option.some.injEq, Addr.mk.injEq, and_true] at he2
        obtain ⟨rfl, rfl⟩ := he2
        obtain rfl := Option.some.inj (hx2.symm.trans Hx.out)
        obtain ⟨b3, off3, m, he3, hbl3, hat3, hmm, hM⟩ := (hr2.below (hb2.mono (by omega))).at_ (k := y) (by omega)
        simp only [Option.some.injEq, Addr.mk.injEq, and_true] at he3
        obtain ⟨rfl, rfl⟩ := he3
        obtain ⟨hm_k, hm_v, ⟨A2, c2, hm_s, hI2', hnil2⟩, _, _⟩ := hM
        have hI2 := hI2'.more (show w.heap.size ≤ w2.heap.size by have := hB.size; have := hb2.size; omega)
        clear hI2'
        obtain ⟨hkm, hkr0'⟩ := hkids.out m hmm
        have hkr2 := hide hkr0'
        have hkk := hide (kindOf_at hat3)
        have hkk2 := hide (kidsOf_at hat3)
        clear hx2 hat3 hmm hkr0' hm_v hcx
        have hy1 : (0 : Int) ≤ (y : Int) := by omega
        have hb3 : Below (w.heap.size + 1) W w2.drew := hb2.drew
        have hown3 := hown2.drew
        have hli3 := hli2.drew
        have hI3 : IntsAt w2.drew w2.drew.heap.size A2 m.kids := hI2.later (Below.refl _ _).drew (Nat.le_refl _)
        have f0 : w2.drew.cell? ⟨w.heap.size, 0, none⟩ = some (.slice (some ⟨b, off, none⟩) ns.length c) := e0
        have f1 : w2.drew.cell? ⟨b2, off2 + k, none⟩ = some (.int .i64 (y : Int)) := hcx2
        have f2 : w2.drew.cell? ⟨b, off + y * 3 + 2, none⟩ = some (.slice A2 m.kids.length c2) := hm_s
        have f3 : w2.drew.cell? ⟨b, off + y * 3, none⟩ = some (.int .i64 m.kind) := hm_k
        by_cases h2 : m.kind = 2
        · have t2 : (m.kind == 2) = true := by rw [beq_iff_eq]; exact h2
          have Hn := hide (Hinv.out.tuple Hx.out hmem (by rw [hkk.out]; exact h2) (by rw [hkk2.out]; exact hkm) (by rw [hkk2.out]; exact hkr2.out))
          clear hmem h2
          go_wp2_with fail
          go_still_tail 9, (by kernel_rfl)
          change wpList _ _ _ _ _ w2.drew
          generalize w2.drew = w3 at hb3 hown3 hli3 hI3 f0 f1 f2 f3 ⊢
          clear hb2 hown2 hli2 hI2 e0 hcx2 hm_s hm_k hil2
          have hb4 : Below (w.heap.size + 1) W w3.drew := hb3.drew
          have hown4 := hown3.drew
          have hli4 := hli3.drew
          have hI4 : IntsAt w3.drew w3.drew.heap.size A2 m.kids := hI3.later (Below.refl _ _).drew (Nat.le_refl _)
          go_wp2_with fail
          go_still_tail 10, (by kernel_rfl)
          change wpList _ _ _ _ _ w3.drew
          generalize w3.drew = w4 at hb4 hown4 hli4 hI4 ⊢
          clear hb3 hown3 hli3 hI3 f0 f1 f2 f3
          go_wp2_with (at_builtin; refine append_ints rfl (.tmp 46) (.tmp 55) rfl (w.heap.size + 1) _ cl' list rfl hli4 _ A2 c2 m.kids rfl hnil2 hI4 (by omega) (by have := hb4.size; have := HWs.out; omega) ?_; intro ls Al2 cl2 w5 hls hown5 hg5 hat5)
          go_roundw
          case rel =>
            refine ⟨zs, ls, A', Al2, c', cl2, k + 1, rfl, rfl, by go_num, ?_, ?_, hown5, ?_, ?_, ?_⟩
            · rw [hls.out]; simp; omega
            · exact hown4.kept hg5 (by
                cases hA : blockOf A' with
                | none => exact .inl rfl
                | some g => exact .inr (fun e => hap2.out g hA e.symm))
            · exact below_grown hb4 hg5 (by have := hb4.size; have := HWs.out; omega) (fun k hk => (hli4.blocks k hk).1)
            · intro g hg e
              rcases hat5 with h | h
              · exact hap2.out g hg (by rw [← h]; exact e)
              · rw [h] at e
                have := hown4.blocks g hg
                simp at e
                omega
            · rw [hz.out, hls.out, ← hkk2.out]
              exact Hn.out
          case measure => simp [intOf]; omega
        · have t2 : (m.kind == 2) = false := by rw [beq_eq_false_iff_ne]; exact h2
          have Hn := hide (Hinv.out.leaf Hx.out hmem (by rw [hkk.out]; exact h2))
          clear hmem h2
          go_wp2_with fail
          go_still_tail 9, (by kernel_rfl)
          change wpList _ _ _ _ _ w2.drew
          generalize w2.drew = w3 at hb3 hown3 hli3 ⊢
          clear hb2 hown2 hli2 hI2 e0 hcx2 hm_s hm_k hil2 f0 f1 f2 f3
          go_wp2
          go_roundw
          case rel => exact ⟨zs, list, A', _, c', cl', k + 1, rfl, rfl, by go_num, by omega, hown3, hli3, hb3, hap2.out, by rw [hz.out]; exact Hn.out⟩
          case measure => simp [intOf]; omega
    · obtain rfl : k = list.length := by omega
      have HF := hide Hinv.out.all
      have HR := hide (show ∀ x ∈ out, 0 ≤ x ∧ x < (ns.length : Int) from fun x hx => Hinv.out.range x (Hinv.out.sub x hx))
      clear hlt hil hio
      go_wp2
      go_ret
      exact ⟨Ao, co, out, rfl, hout.mono (by omega), hB.trans (hb.mono (by omega)), HF.out, HR.out, ho12⟩
end Go.Proofs.YthckkpbjpgfdcabDoor

namespace Go.Proofs.YthckkpbjpgfdcabDoor
open Go.RowKit
set_option linter.unusedVariables false
theorem runShp_snoc {s t : Shp} {l : List Od} {o : Od} (h : (runShp s l).2 = l.length) (hs : stepShp (runShp s l).1 o = some t) : runShp s (l ++ [o]) = (t, l.length + 1) := by
  induction l generalizing s with
  | nil =>
    rw [runShp_end] at hs
    rw [List.nil_append, runShp_go hs, runShp_end]
    rfl
  | cons x l ih =>
    cases hx : stepShp s x with
    | none =>
      rw [runShp_stop hx] at h
      simp at h
    | some u =>
      rw [runShp_go hx] at h hs
      simp at h hs
      rw [List.cons_append, runShp_go hx, ih h hs]
      rfl
noncomputable def stk (os : List Od) (j : Nat) : List Int := (runShp Shp.new (os.take j)).1.stack
theorem run_take {os : List Od} {k : Nat} {s t : Shp} {o : Od} (h : runShp Shp.new (os.take k) = (s, k)) (hk : k < os.length) (ho : os[k]? = some o) (hs : stepShp s o = some t) : runShp Shp.new (os.take (k + 1)) = (t, k + 1) := by
  have hl : (os.take k).length = k := by simp; omega
  have e : os.take (k + 1) = os.take k ++ [o] := by
    rw [List.take_add_one, ho]; rfl
  rw [e]
  have := runShp_snoc (s := Shp.new) (t := t) (l := os.take k) (o := o) (by rw [h, hl]) (by rw [h]; exact hs)
  rw [this, hl]
structure Came (os : List Od) (R : Shp × Nat) (k : Nat) (s : Shp) : Prop where
  le : k ≤ os.length
  ok : s.Ok
  kl : s.kinds.length ≤ k
  tl : s.stack.length ≤ k
  tk : runShp Shp.new (os.take k) = (s, k)
  r : R = ((runShp s (os.drop k)).1, k + (runShp s (os.drop k)).2)
theorem Came.start (os : List Od) : Came os (runShp Shp.new os) 0 Shp.new :=
  ⟨Nat.zero_le _, Shp.new_ok, Nat.zero_le _, Nat.zero_le _, rfl, by simp⟩
theorem Came.small {os : List Od} {R : Shp × Nat} {k : Nat} {s : Shp} (h : Came os R k s) (hl : os.length ≤ 300) : s.Small := ⟨by have := h.kl; have := h.le; omega, by have := h.tl; have := h.le; omega, h.ok⟩
theorem Came.stop {os : List Od} {R : Shp × Nat} {k : Nat} {s : Shp} {o : Od} (h : Came os R k s) (ho : os[k]? = some o) (hs : stepFree s o = none) : R = (s, k) := by
  rw [h.r, drop_at ho, runShp_stop (stepShp_none hs)]
  rfl
theorem Came.all {os : List Od} {R : Shp × Nat} {s : Shp} (h : Came os R os.length s) : R = (s, os.length) := by
  rw [h.r, List.drop_length, runShp_end]
  rfl
theorem Came.next {os : List Od} {R : Shp × Nat} {k : Nat} {s t : Shp} {o : Od} (h : Came os R k s) (hl : os.length ≤ 300) (ho : os[k]? = some o) (hok : OdOk o) (hs : stepFree s o = some t) : Came os R (k + 1) t ∧ t.stack = stk os (k + 1) := by
  have hk := (List.getElem?_eq_some_iff.1 ho).1
  obtain ⟨h1, h2, h3, _⟩ := stepFree_ok h.ok hs hok.get
  have hkl := h.kl
  have htl := h.tl
  have hst : stepShp s o = some t := stepShp_of hs ⟨by omega, by omega⟩
  have htk := run_take h.tk hk ho hst
  refine ⟨⟨hk, h1, by omega, by omega, htk, ?_⟩, by unfold stk; rw [htk]⟩
  rw [h.r, drop_at ho, runShp_go hst]
  simp only [Prod.mk.injEq, true_and]
  omega
structure WFr (w w' : World) (D : Nat → Prop) : Prop where
  os : w'.os = w.os
  tape : w'.tape = w.tape
  output : w'.output = w.output
  size : w.heap.size ≤ w'.heap.size
  blk : ∀ k, k < w.heap.size → ¬ D k → w'.heap[k]? = w.heap[k]?
theorem WFr.refl (w : World) (D : Nat → Prop) : WFr w w D := ⟨rfl, rfl, rfl, Nat.le_refl _, fun _ _ _ => rfl⟩
theorem WFr.of_below {w w' : World} (D : Nat → Prop) (h : Below w.heap.size w w') : WFr w w' D := ⟨h.os, h.tape, h.output, h.size, fun k hk _ => h.block k hk⟩
theorem WFr.below {w w' : World} (h : WFr w w' (fun _ => False)) : Below w.heap.size w w' := ⟨h.os, h.tape, h.output, h.size, fun k hk => h.blk k hk (fun h => h)⟩
structure Watcher (f : Nat) (caps : Array Value) (os : List Od) (J : Nat → (Nat → Prop) → World → Prop) : Prop where
  kept : ∀ k D W W', J k D W → (∀ b, D b → W'.heap[b]? = W.heap[b]?) → W.heap.size ≤ W'.heap.size → J k D W'
  lt : ∀ k D W, J k D W → ∀ b, D b → b < W.heap.size
def Watched (W : World) (k : Nat) (D : Nat → Prop) (J : Nat → (Nat → Prop) → World → Prop) (e : Ending) (W' : World) : Prop := e = .returned (.tuple #[]) ∧ ∃ D', J k D' W' ∧ (∀ b, b < W.heap.size → D' b → D b) ∧ WFr W W' D
structure WatS (w wr : World) (D0 : Nat → Prop) (q q2 : Nat) (p : ShPtr) (s : Shp) (k : Nat) (D : Nat → Prop) (J : Nat → (Nat → Prop) → World → Prop) : Prop where
  sb : SbAt wr w.heap.size q 0 p s
  res : Lies wr q2 zero5 39
  off2 : p.Off q2
  ne : q ≠ q2
  h1 : w.heap.size ≤ q
  h2 : w.heap.size ≤ q2
  j : J k D wr
  dq : ∀ b, D b → b ≠ q ∧ b ≠ q2 ∧ p.Off b
  d0 : ∀ b, b < w.heap.size → D b → D0 b
  fr : WFr w wr D0
section
variable {w wr w' : World} {D0 D : Nat → Prop} {q q2 k f : Nat} {p p' : ShPtr} {s t : Shp} {J : Nat → (Nat → Prop) → World → Prop} {caps : Array Value} {os : List Od}
theorem WatS.below (h : WatS w wr D0 q q2 p s k D J) (hw : Watcher f caps os J) (hb : Below wr.heap.size wr w') : WatS w w' D0 q q2 p s k D J :=
  ⟨h.sb.below hb, h.res.below hb h.res.lt, h.off2, h.ne, h.h1, h.h2, hw.kept _ _ _ _ h.j (fun b hd => hb.block b (hw.lt _ _ _ h.j b hd)) hb.size, h.dq, h.d0,
    ⟨hb.os.trans h.fr.os, hb.tape.trans h.fr.tape, hb.output.trans h.fr.output, Nat.le_trans h.fr.size hb.size, fun b hb1 hb2 => (hb.block b (Nat.lt_of_lt_of_le hb1 h.fr.size)).trans (h.fr.blk b hb1 hb2)⟩⟩
theorem WatS.step (h : WatS w wr D0 q q2 p s k D J) (hw : Watcher f caps os J) (hs : SbAt w' w.heap.size q 0 p' t) (hf : SbFr wr w' q 0 p p') : WatS w w' D0 q q2 p' t k D J := by
  have hd : ∀ b, D b → w'.heap[b]? = wr.heap[b]? := fun b hb => hf.blk b (hw.lt _ _ _ h.j b hb) (h.dq b hb).1 (h.dq b hb).2.2
  refine ⟨hs, (hf.blk q2 h.res.lt h.ne.symm h.off2).trans h.res, hf.offs q2 h.res.lt h.off2, h.ne, h.h1, h.h2, hw.kept _ _ _ _ h.j hd hf.size, fun b hb => ⟨(h.dq b hb).1, (h.dq b hb).2.1, hf.offs b (hw.lt _ _ _ h.j b hb) (h.dq b hb).2.2⟩, h.d0, ?_⟩
  have hb := hf.below h.sb (Nat.le_refl _) h.h1
  exact ⟨hb.os.trans h.fr.os, hb.tape.trans h.fr.tape, hb.output.trans h.fr.output, Nat.le_trans h.fr.size hb.size, fun b hb1 hb2 => (hb.block b hb1).trans (h.fr.blk b hb1 hb2)⟩
theorem WatS.watched (h : WatS w wr D0 q q2 p s k D J) (hw : Watcher f caps os J) {k' : Nat} {D' : Nat → Prop} (hJ : J k' D' w') (hd : ∀ b, b < wr.heap.size → D' b → D b) (hf : WFr wr w' D) : WatS w w' D0 q q2 p s k' D' J := by
  have hk : ∀ b, b < wr.heap.size → ¬ D b → w'.heap[b]? = wr.heap[b]? := hf.blk
  have hnq : ¬ D q := fun hd => (h.dq q hd).1 rfl
  have hnq2 : ¬ D q2 := fun hd => (h.dq q2 hd).2.1 rfl
  have hown : ShOwn w' w.heap.size p s := ⟨h.sb.own.k.ofB fun g hg => hk g (h.sb.own.k.blocks g hg).2 (fun hd => (h.dq g hd).2.2.k hg), h.sb.own.f.ofB fun g hg => hk g (h.sb.own.f.blocks g hg).2 (fun hd => (h.dq g hd).2.2.f hg),
    h.sb.own.t.ofB fun g hg => hk g (h.sb.own.t.blocks g hg).2 (fun hd => (h.dq g hd).2.2.t hg), h.sb.own.m.ofB fun g hg => hk g (h.sb.own.m.blocks g hg).2 (fun hd => (h.dq g hd).2.2.m hg), h.sb.own.kf, h.sb.own.kt, h.sb.own.km, h.sb.own.ft, h.sb.own.fm, h.sb.own.tm⟩
  refine ⟨⟨h.sb.c.ofB (hk q h.sb.lt hnq), hown, h.sb.off_, Nat.lt_of_lt_of_le h.sb.lt hf.size⟩, (hk q2 h.res.lt hnq2).trans h.res, h.off2, h.ne, h.h1, h.h2, hJ, fun b hb => ?_, fun b hb1 hb2 => h.d0 b hb1 (hd b (Nat.lt_of_lt_of_le hb1 h.fr.size) hb2), ?_⟩
  · by_cases hl : b < wr.heap.size
    · exact h.dq b (hd b hl hb)
    · have h1 := h.sb.lt
      have h2 := h.res.lt
      exact ⟨by omega, by omega, h.sb.own.off (.inr (by omega))⟩
  · exact ⟨hf.os.trans h.fr.os, hf.tape.trans h.fr.tape, hf.output.trans h.fr.output, Nat.le_trans h.fr.size hf.size, fun b hb1 hb2 => (hk b (Nat.lt_of_lt_of_le hb1 h.fr.size) (fun hd => hb2 (h.d0 b hb1 hd))).trans (h.fr.blk b hb1 hb2)⟩
end
def GivesWat (w : World) (D0 : Nat → Prop) (J : Nat → (Nat → Prop) → World → Prop) (r : Shp × Nat) (e : Ending) (w' : World) : Prop :=
  ∃ p D, e = .returned (.tuple #[shVal p r.1, .int .i64 (r.2 : Int)]) ∧ ShOwn w' w.heap.size p r.1 ∧ J r.2 D w' ∧ (∀ b, D b → p.Off b) ∧ (∀ b, b < w.heap.size → D b → D0 b) ∧ WFr w w' D0
end Go.Proofs.YthckkpbjpgfdcabDoor
