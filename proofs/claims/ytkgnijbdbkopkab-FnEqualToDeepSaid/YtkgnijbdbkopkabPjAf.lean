/-
  Lemmas, several texts in one: EqvM, AlkI.
-/
import Derived.Test.YtkgnijbdbkopkabPjAb
import Derived.Test.YtkgnijbdbkopkabMem
import Derived.Deep.LoopGhost
import Derived.Deep.QuietTactic
import Derived.Deep.Cut
import Derived.BigQuiet
namespace Go.Proofs.Ytkgnijbdbkopkab
open Go.RowKit
set_option linter.unusedVariables false

/-- the number at a place of a list -/
def look (cl : List Int) (x : Int) : Int := (cl[x.toNat]?).getD 0
theorem look_at {cl : List Int} {i : Nat} {v : Int} (h : cl[i]? = some v) : look cl (i : Int) = v := by
  unfold look
  rw [Int.toNat_natCast, h]
  rfl

/-- what one depth more tells of a node -/
def sigOf (cl : List Int) (n : Nd) : Int × Int × List Int := (n.kind, n.value, n.kids.map (look cl))
def sigs (ns : List Nd) (cl : List Int) : List (Int × Int × List Int) := ns.map (sigOf cl)

/-- the classes of one depth more -/
def finer (ns : List Nd) (cl : List Int) : List Int := (sigs ns cl).map fun s => (((sigs ns cl).idxOf s : Nat) : Int)

/-- the classes up to a depth -/
def clsN (ns : List Nd) : Nat → List Int
  | 0 => List.replicate ns.length 0
  | d + 1 => finer ns (clsN ns d)

theorem finer_len (ns : List Nd) (cl : List Int) : (finer ns cl).length = ns.length := by simp [finer, sigs]
theorem clsN_len (ns : List Nd) : ∀ d, (clsN ns d).length = ns.length
  | 0 => by simp [clsN]
  | d + 1 => finer_len _ _

theorem sigs_at {ns : List Nd} {cl : List Int} {i : Nat} {n : Nd} (h : ns[i]? = some n) : (sigs ns cl)[i]? = some (sigOf cl n) := by
  unfold sigs
  rw [List.getElem?_map, h]
  rfl

theorem finer_at {ns : List Nd} {cl : List Int} {i : Nat} {n : Nd} (h : ns[i]? = some n) : (finer ns cl)[i]? = some (((sigs ns cl).idxOf (sigOf cl n) : Nat) : Int) := by
  unfold finer
  rw [List.getElem?_map, sigs_at h]
  rfl

theorem idxOf_le {α : Type} [BEq α] [LawfulBEq α] {l : List α} {i : Nat} {a : α} (h : l[i]? = some a) : l.idxOf a ≤ i := by
  rcases Nat.lt_or_ge i (l.idxOf a) with h1 | h1
  · have := List.not_of_lt_findIdx (xs := l) (p := (· == a)) (i := i) (by simpa [List.idxOf] using h1)
    obtain ⟨hl, he⟩ := List.getElem?_eq_some_iff.1 h
    simp [he] at this
  · exact h1

theorem idxOf_at {α : Type} [BEq α] [LawfulBEq α] {l : List α} {a : α} (h : a ∈ l) : l[l.idxOf a]? = some a := by
  have h1 := List.idxOf_lt_length_of_mem h
  rw [List.getElem?_eq_getElem h1, List.getElem_idxOf h1]

/-- the class of a node: the first one that is told the same -/
theorem finer_first {ns : List Nd} {cl : List Int} {i j : Nat} {n m : Nd} (hi : ns[i]? = some n) (hj : ns[j]? = some m) (hs : sigOf cl m = sigOf cl n) (hf : ∀ k q, k < j → ns[k]? = some q → sigOf cl q ≠ sigOf cl n) : (finer ns cl)[i]? = some (j : Int) := by
  rw [finer_at hi]
  congr 2
  have h1 : (sigs ns cl).idxOf (sigOf cl n) ≤ j := idxOf_le (by rw [sigs_at hj, hs])
  rcases Nat.lt_or_ge ((sigs ns cl).idxOf (sigOf cl n)) j with h2 | h2
  · have h3 := idxOf_at (l := sigs ns cl) (a := sigOf cl n) (List.mem_of_getElem? (sigs_at hi))
    have hl := (List.getElem?_eq_some_iff.1 hj).1
    have hk : ns[(sigs ns cl).idxOf (sigOf cl n)]? = some ns[(sigs ns cl).idxOf (sigOf cl n)] := List.getElem?_eq_getElem (by omega)
    have h4 := sigs_at (cl := cl) hk
    rw [h3] at h4
    exact absurd (Option.some.inj h4).symm (hf _ _ h2 hk)
  · omega

theorem finer_eq {ns : List Nd} {cl : List Int} {i j : Nat} {n m : Nd} (hi : ns[i]? = some n) (hj : ns[j]? = some m) : look (finer ns cl) i = look (finer ns cl) j ↔ sigOf cl n = sigOf cl m := by
  rw [look_at (finer_at hi), look_at (finer_at hj)]
  constructor
  · intro h
    have h1 := idxOf_at (l := sigs ns cl) (a := sigOf cl n) (List.mem_of_getElem? (sigs_at hi))
    have h2 := idxOf_at (l := sigs ns cl) (a := sigOf cl m) (List.mem_of_getElem? (sigs_at hj))
    rw [show (sigs ns cl).idxOf (sigOf cl n) = (sigs ns cl).idxOf (sigOf cl m) by omega, h2] at h1
    exact (Option.some.inj h1).symm
  · intro h; rw [h]

theorem map_eq_of {f g : Int → Int} : ∀ (xs ys : List Int), (∀ a ∈ xs, ∀ b ∈ ys, f a = f b → g a = g b) → xs.map f = ys.map f → xs.map g = ys.map g
  | [], [], _, _ => rfl
  | [], y :: ys, _, h => by simp at h
  | x :: xs, [], _, h => by simp at h
  | x :: xs, y :: ys, hf, h => by
    simp only [List.map_cons, List.cons.injEq] at h ⊢
    exact ⟨hf x (by simp) y (by simp) h.1, map_eq_of xs ys (fun a ha b hb => hf a (List.mem_cons_of_mem _ ha) b (List.mem_cons_of_mem _ hb)) h.2⟩

theorem sig_of {c1 c0 : List Int} {n m : Nd} (hf : ∀ a ∈ n.kids, ∀ b ∈ m.kids, look c1 a = look c1 b → look c0 a = look c0 b) (h : sigOf c1 n = sigOf c1 m) : sigOf c0 n = sigOf c0 m := by
  unfold sigOf at h ⊢
  simp only [Prod.mk.injEq] at h ⊢
  exact ⟨h.1, h.2.1, map_eq_of _ _ hf h.2.2⟩

theorem look_zero (ns : List Nd) (x : Int) : look (clsN ns 0) x = 0 := by
  unfold look clsN
  rw [List.getElem?_replicate]
  split <;> rfl

theorem in_at {ns : List Nd} {x : Int} (h : 0 ≤ x ∧ x < ns.length) : ∃ (i : Nat) (n : Nd), x = (i : Int) ∧ ns[i]? = some n := by
  obtain ⟨i, rfl⟩ := Int.eq_ofNat_of_zero_le h.1
  exact ⟨i, _, rfl, List.getElem?_eq_getElem (by omega)⟩

/-- nodes that are told the same up to a depth are so up to less -/
theorem cls_mono {ns : List Nd} (hk : KidsIn ns) : ∀ (d : Nat) (x y : Int), 0 ≤ x ∧ x < ns.length → 0 ≤ y ∧ y < ns.length → look (clsN ns (d + 1)) x = look (clsN ns (d + 1)) y → look (clsN ns d) x = look (clsN ns d) y
  | 0, x, y, _, _, _ => by rw [look_zero, look_zero]
  | d + 1, x, y, hx, hy, h => by
    obtain ⟨i, n, rfl, hn⟩ := in_at hx
    obtain ⟨j, m, rfl, hm⟩ := in_at hy
    have h1 := (finer_eq (cl := clsN ns (d + 1)) hn hm).1 h
    exact (finer_eq (cl := clsN ns d) hn hm).2 (sig_of (fun a ha b hb => cls_mono hk d a b (hk n (List.mem_of_getElem? hn) a ha) (hk m (List.mem_of_getElem? hm) b hb)) h1)

theorem clsN_in (ns : List Nd) : ∀ (d : Nat), ∀ x ∈ clsN ns d, 0 ≤ x ∧ (x < ns.length ∨ x = 0)
  | 0, x, hx => by
    unfold clsN at hx
    have := List.eq_of_mem_replicate hx
    omega
  | d + 1, x, hx => by
    unfold clsN finer at hx
    obtain ⟨s, hs, rfl⟩ := List.mem_map.1 hx
    have := List.idxOf_lt_length_of_mem hs
    simp [sigs] at this
    simp [sigs]
    omega

/-- the class of a node is no greater than it, and is its own class -/
theorem cls_self {ns : List Nd} (d : Nat) {i : Nat} (hi : i < ns.length) : ∃ j : Nat, (clsN ns d)[i]? = some (j : Int) ∧ j ≤ i ∧ (clsN ns d)[j]? = some (j : Int) := by
  cases d with
  | zero =>
    refine ⟨0, ?_, Nat.zero_le _, ?_⟩
    · unfold clsN; rw [List.getElem?_replicate, if_pos hi]; rfl
    · unfold clsN; rw [List.getElem?_replicate, if_pos (by omega)]; rfl
  | succ d =>
    have hn : ns[i]? = some ns[i] := List.getElem?_eq_getElem hi
    have h1 := finer_at (cl := clsN ns d) hn
    have h2 := idxOf_at (l := sigs ns (clsN ns d)) (a := sigOf (clsN ns d) ns[i]) (List.mem_of_getElem? (sigs_at hn))
    have h3 := idxOf_le (sigs_at (cl := clsN ns d) hn)
    refine ⟨_, h1, h3, ?_⟩
    have hm : ns[(sigs ns (clsN ns d)).idxOf (sigOf (clsN ns d) ns[i])]? = some ns[(sigs ns (clsN ns d)).idxOf (sigOf (clsN ns d) ns[i])] := List.getElem?_eq_getElem (by omega)
    have h4 := finer_at (cl := clsN ns d) hm
    have h5 := sigs_at (cl := clsN ns d) hm
    rw [h2] at h5
    rw [← Option.some.inj h5] at h4
    exact h4

/-- the nodes that are the first ones of their classes -/
def reps (ns : List Nd) (d : Nat) : Nat := (List.range ns.length).countP (fun (i : Nat) => decide (look (clsN ns d) (i : Int) = (i : Int)))

theorem countP_back {p q : Nat → Bool} : ∀ (l : List Nat), (∀ x ∈ l, p x = true → q x = true) → l.countP q ≤ l.countP p → ∀ x ∈ l, q x = true → p x = true
  | [], _, _, x, hx, _ => by simp at hx
  | y :: l, hpq, hc, x, hx, hq => by
    have hle := List.countP_mono_left (l := l) (p := p) (q := q) (fun z hz => hpq z (List.mem_cons_of_mem _ hz))
    rw [List.countP_cons, List.countP_cons] at hc
    have hy := hpq y (by simp)
    have hy2 : q y = true → p y = true := by
      intro h
      rw [if_pos h] at hc
      cases hp : p y
      · rw [hp] at hc
        simp at hc
        omega
      · rfl
    have hc2 : l.countP q ≤ l.countP p := by
      cases hp : p y <;> cases hq2 : q y
      · rw [hp, hq2] at hc; simpa using hc
      · rw [hy2 hq2] at hp; cases hp
      · rw [hy hp] at hq2; cases hq2
      · rw [hp, hq2] at hc; simpa using hc
    rcases List.mem_cons.1 hx with rfl | hx
    · exact hy2 hq
    · exact countP_back l (fun z hz => hpq z (List.mem_cons_of_mem _ hz)) hc2 x hx hq

theorem rep_stays {ns : List Nd} (hk : KidsIn ns) {d i : Nat} (hi : i < ns.length) (h : look (clsN ns d) i = i) : look (clsN ns (d + 1)) i = i := by
  obtain ⟨j, h1, h2, h3⟩ := cls_self (d + 1) hi
  have e : look (clsN ns (d + 1)) i = look (clsN ns (d + 1)) j := by rw [look_at h1, look_at h3]
  have := cls_mono hk d i j (by omega) (by omega) e
  obtain ⟨j2, g1, g2, g3⟩ := cls_self d (show j < ns.length by omega)
  rw [h, look_at g1] at this
  rw [look_at h1]
  omega

theorem cls_stable {ns : List Nd} (hk : KidsIn ns) {d : Nat} (h : reps ns (d + 1) ≤ reps ns d) : clsN ns (d + 1) = clsN ns d := by
  have hb := countP_back (List.range ns.length) (p := fun (i : Nat) => decide (look (clsN ns d) (i : Int) = (i : Int))) (q := fun (i : Nat) => decide (look (clsN ns (d + 1)) (i : Int) = (i : Int)))
    (fun x hx hp => by simp at hx hp ⊢; exact rep_stays hk hx hp) h
  apply List.ext_getElem?
  intro i
  by_cases hi : i < ns.length
  · obtain ⟨j, h1, h2, h3⟩ := cls_self (d + 1) hi
    obtain ⟨j2, g1, g2, g3⟩ := cls_self d hi
    have e : look (clsN ns (d + 1)) i = look (clsN ns (d + 1)) j := by rw [look_at h1, look_at h3]
    have hm := cls_mono hk d i j (by omega) (by omega) e
    have hj := hb j (by simp; omega) (by simp; exact look_at h3)
    simp at hj
    rw [look_at g1, hj] at hm
    rw [h1, g1, hm]
  · rw [List.getElem?_eq_none (by rw [clsN_len]; omega), List.getElem?_eq_none (by rw [clsN_len]; omega)]

theorem cls_stays {ns : List Nd} {d : Nat} (h : clsN ns (d + 1) = clsN ns d) : ∀ k, clsN ns (d + k) = clsN ns d
  | 0 => rfl
  | k + 1 => by
    have := cls_stays h k
    show finer ns (clsN ns (d + k)) = _
    rw [this]
    exact h

theorem cls_ends {ns : List Nd} (hk : KidsIn ns) : ∀ d, (∃ e, e < d ∧ clsN ns (e + 1) = clsN ns e) ∨ d + 1 ≤ reps ns d ∨ ns.length = 0
  | 0 => by
    rcases Nat.eq_zero_or_pos ns.length with h0 | h0
    · exact .inr (.inr h0)
    · refine .inr (.inl ?_)
      unfold reps
      apply Nat.succ_le_of_lt
      rw [List.countP_pos_iff]
      exact ⟨0, by simpa using h0, by simp [look_zero]⟩
  | d + 1 => by
    rcases cls_ends hk d with ⟨e, he, hs⟩ | h | h
    · exact .inl ⟨e, by omega, hs⟩
    · by_cases hs : reps ns (d + 1) ≤ reps ns d
      · exact .inl ⟨d, by omega, cls_stable hk hs⟩
      · exact .inr (.inl (by omega))
    · exact .inr (.inr h)

/-- as many depths as there are nodes are enough -/
theorem cls_all {ns : List Nd} (hk : KidsIn ns) (k : Nat) : clsN ns (ns.length + k) = clsN ns ns.length := by
  rcases cls_ends hk ns.length with ⟨e, he, hs⟩ | h | h
  · have h1 := cls_stays hs (ns.length - e + k)
    have h2 := cls_stays hs (ns.length - e)
    rw [show e + (ns.length - e + k) = ns.length + k by omega] at h1
    rw [show e + (ns.length - e) = ns.length by omega] at h2
    rw [h1, h2]
  · exfalso
    have : reps ns ns.length ≤ ns.length := by
      unfold reps
      exact Nat.le_trans (List.countP_le_length) (by simp)
    omega
  · have hnil : ns = [] := List.eq_nil_of_length_eq_zero h
    subst hnil
    have : ∀ d, clsN [] d = [] := fun d => List.eq_nil_of_length_eq_zero (clsN_len [] d)
    rw [this, this]

end Go.Proofs.Ytkgnijbdbkopkab

namespace Go.Proofs.Ytkgnijbdbkopkab
open Go.RowKit
set_option linter.unusedVariables false

theorem look_cell {w : World} {b o : Nat} {cl : List Int} {x : Int} (h : IntsAt w w.heap.size (some ⟨b, o, none⟩) cl) (h0 : 0 ≤ x) (h1 : x < cl.length) : ∃ i : Nat, x = (i : Int) ∧ w.cell? ⟨b, o + i, none⟩ = some (.int .i64 (look cl x)) := by
  obtain ⟨i, rfl⟩ := Int.eq_ofNat_of_zero_le h0
  obtain ⟨b', o', u, e1, _, hu, _, hc⟩ := h.at_ (k := i) (by omega)
  injection e1 with e1
  injection e1 with e2 e3
  subst e2 e3
  exact ⟨i, rfl, by rw [look_at hu]; exact hc⟩

set_option maxHeartbeats 1000000 in
theorem oneClass_any (bc : Nat) (Ac : Option Addr) (cl : List Int) (cc : Nat) (x y : Int) (w : World) (hb : w.cell? ⟨bc, 0, none⟩ = some (.slice Ac cl.length cc)) (hC : IntsAt w w.heap.size Ac cl) (hx : 0 ≤ x ∧ x < cl.length) (hy : 0 ≤ y ∧ y < cl.length) :
    Calls Try.prog 51 #[.int .i64 x, .int .i64 y, .pointer (some ⟨bc, 0, none⟩)] w fun e w' => e = .returned (.bool (tf (look cl x = look cl y))) ∧ Below w.heap.size w w' := by
  obtain ⟨b, o, z, rfl, _⟩ := hC.at_ (k := 0) (by omega)
  obtain ⟨i, rfl, hi⟩ := look_cell hC hx.1 hx.2
  obtain ⟨j, rfl, hj⟩ := look_cell hC hy.1 hy.2
  have x0 := hx.1
  have x1 := hx.2
  have y0 := hy.1
  have y1 := hy.2
  clear hx hy hC
  generalize look cl (i : Int) = u at hi ⊢
  generalize look cl (j : Int) = v at hj ⊢
  by_cases huv : u = v
  · have HF := hide (show tf (u = v) = true from tf_true huv)
    have t : (u == v) = true := by simpa using huv
    clear huv
    go_enter Try.func51, Try.ntmps51
    go_wp2_with fail
    go_quiet (fail)
    go_wp2
    go_ret
    exact ⟨ret_bool HF.out.symm, below_drewN (Below.refl _ _) _⟩
  · have HF := hide (show tf (u = v) = false from tf_false huv)
    have t : (u == v) = false := by simpa using huv
    clear huv
    go_enter Try.func51, Try.ntmps51
    go_wp2_with fail
    go_quiet (fail)
    go_wp2
    go_ret
    exact ⟨ret_bool HF.out.symm, below_drewN (Below.refl _ _) _⟩

theorem map_eq_iff {f : Int → Int} {xs ys : List Int} (hl : xs.length = ys.length) : xs.map f = ys.map f ↔ ∀ (j : Nat) (x y : Int), xs[j]? = some x → ys[j]? = some y → f x = f y := by
  constructor
  · intro h j x y hx hy
    have := congrArg (fun l => l[j]?) h
    simp only [List.getElem?_map, hx, hy, Option.map_some] at this
    injection this
  · intro h
    apply List.ext_getElem?
    intro j
    rw [List.getElem?_map, List.getElem?_map]
    by_cases hj : j < xs.length
    · have hx : xs[j]? = some xs[j] := List.getElem?_eq_getElem hj
      have hy : ys[j]? = some ys[j] := List.getElem?_eq_getElem (by omega)
      rw [hx, hy]
      simp only [Option.map_some]
      rw [h j _ _ hx hy]
    · rw [List.getElem?_eq_none (by omega), List.getElem?_eq_none (by omega)]

set_option maxRecDepth 100000 in
set_option maxHeartbeats 1000000 in
theorem equalFunc_any (bc : Nat) (Ac : Option Addr) (cl : List Int) (cc : Nat) (A A' : Option Addr) (xs ys : List Int) (c c' : Nat) (w : World) (hb : w.cell? ⟨bc, 0, none⟩ = some (.slice Ac cl.length cc)) (hbc : bc < w.heap.size) (hC : IntsAt w w.heap.size Ac cl)
    (h : IntsAt w w.heap.size A xs) (h' : IntsAt w w.heap.size A' ys) (hx : ∀ x ∈ xs, 0 ≤ x ∧ x < cl.length) (hy : ∀ x ∈ ys, 0 ≤ x ∧ x < cl.length) :
    Calls Try.prog 52 #[.slice A xs.length c, .slice A' ys.length c', .func (.func 51) #[] #[.pointer (some ⟨bc, 0, none⟩)]] w fun e w' => e = .returned (.bool (tf (xs.map (look cl) = ys.map (look cl)))) ∧ Below w.heap.size w w' := by
  have hl := h.len
  have Hb := hide hb
  have HC := hide hC
  have H := hide h
  have H' := hide h'
  have HX := hide hx
  have HY := hide hy
  clear hb hC h h' hx hy
  by_cases hne : xs.length = ys.length
  · have hb0 : ((xs.length : Int) != (ys.length : Int)) = false := by simp [hne]
    have HM := hide (map_eq_iff (f := look cl) hne)
    have Hne := hide hne
    clear hne
    go_enter Try.func52, Try.ntmps52
    go_wp2_with fail
    go_loopg [7, 8, 9, 17] xs.length (fun gk _ _ _ i wr => ∃ k : Nat, k ≤ xs.length ∧ gk = xs.length - k ∧ i = .int .i64 k ∧ Below w.heap.size w wr ∧ ∀ (j : Nat) (x y : Int), j < k → xs[j]? = some x → ys[j]? = some y → look cl x = look cl y)
    case atStart => exact ⟨0, Nat.zero_le _, rfl, rfl, Below.refl _ _, fun j x y hj => absurd hj (by omega)⟩
    case round =>
      obtain ⟨k, hk, rfl, rfl, hb, he0⟩ := hrel
      have he := hide he0
      have HB := hide hb
      clear he0 hb
      by_cases hlt : k < xs.length
      · obtain ⟨b, off, x, rfl, hbl, hx, hxm, hcx⟩ := (H.out.below HB.out).at_ hlt
        obtain ⟨b', off', y, rfl, hbl', hy, hym, hcy⟩ := (H'.out.below HB.out).at_ (k := k) (by have := Hne.out; omega)
        have Hx := hide hx
        have Hy := hide hy
        have hk1 : (0 : Int) ≤ (k : Int) := by omega
        have hk2 : (k : Int) < (xs.length : Int) := by omega
        have hk3 : (k : Int) < (ys.length : Int) := by have := Hne.out; omega
        have hcall := oneClass_any bc Ac cl cc x y wr ((HB.out.cell (p := ⟨bc, 0, none⟩) hbc).trans Hb.out) (HC.out.later HB.out (Nat.le_refl _)) (HX.out x hxm) (HY.out y hym)
        have Hcall := hide hcall
        clear hx hy hxm hym hcall hbl hbl'
        by_cases hxy : look cl x = look cl y
        · have HXY := hide hxy
          rw [tf_true hxy] at Hcall
          clear hxy
          go_wp2_with fail
          refine Hcall.out.mono ?_
          rintro e w2 ⟨rfl, hb2⟩
          have HB2 := hide (HB.out.trans (hb2.mono HB.out.size))
          clear hb2 Hcall hcx hcy
          go_wp2
          go_roundg (xs.length - (k + 1))
          case measure => omega
          case rel => exact ⟨k + 1, by omega, rfl, by go_num, HB2.out, fun j a b hj ha hb => by
            by_cases e : j = k
            · subst e
              rw [Hx.out] at ha
              rw [Hy.out] at hb
              injection ha with ha
              injection hb with hb
              rw [← ha, ← hb]
              exact HXY.out
            · exact he.out j a b (by omega) ha hb⟩
        · have HF := hide (show tf (xs.map (look cl) = ys.map (look cl)) = false from tf_false fun h => hxy (HM.out.1 h k x y Hx.out Hy.out))
          rw [tf_false hxy] at Hcall
          clear hxy
          go_wp2_with fail
          refine Hcall.out.mono ?_
          rintro e w2 ⟨rfl, hb2⟩
          have HB2 := hide (HB.out.trans (hb2.mono HB.out.size))
          clear hb2 Hcall hcx hcy
          go_wp2
          go_ret
          exact ⟨ret_bool HF.out.symm, HB2.out⟩
      · obtain rfl : k = xs.length := by omega
        have HF := hide (show tf (xs.map (look cl) = ys.map (look cl)) = true from tf_true (HM.out.2 fun j x y hx hy => he.out j x y (List.getElem?_eq_some_iff.1 hx).1 hx hy))
        have hk3 : decide ((xs.length : Int) < (xs.length : Int)) = false := by simp
        go_wp2
        go_ret
        exact ⟨ret_bool HF.out.symm, HB.out⟩
  · have hb0 : ((xs.length : Int) != (ys.length : Int)) = true := bne_iff_ne.2 (by omega)
    have HF := hide (show tf (xs.map (look cl) = ys.map (look cl)) = false from tf_false fun h => hne (by have := congrArg List.length h; simpa using this))
    clear hne
    go_enter Try.func52, Try.ntmps52
    go_wp2
    go_ret
    exact ⟨ret_bool HF.out.symm, Below.refl _ _⟩

set_option maxRecDepth 100000 in
set_option maxHeartbeats 1000000 in
theorem areAlike_any (A A' : Option Addr) (m n : Nd) (c c' : Nat) (Ac : Option Addr) (cl : List Int) (cc : Nat) (w : World) (hC : IntsAt w w.heap.size Ac cl) (hm : IntsAt w w.heap.size A m.kids) (hn : IntsAt w w.heap.size A' n.kids) (hx : ∀ x ∈ m.kids, 0 ≤ x ∧ x < cl.length) (hy : ∀ x ∈ n.kids, 0 ≤ x ∧ x < cl.length) :
    Calls Try.prog 31 #[.agg #[.int .i64 m.kind, .int .i64 m.value, .slice A m.kids.length c], .agg #[.int .i64 n.kind, .int .i64 n.value, .slice A' n.kids.length c'], .slice Ac cl.length cc] w fun e w' => e = .returned (.bool (tf (sigOf cl m = sigOf cl n))) ∧ Below w.heap.size w w' := by
  have hB : Below w.heap.size w (((w.alloc (.cells #[.int .i64 m.kind, .int .i64 m.value, .slice A m.kids.length c] 45)).alloc (.cells #[.int .i64 n.kind, .int .i64 n.value, .slice A' n.kids.length c'] 45)).alloc (.cells #[.slice Ac cl.length cc] 37)) := (((Below.refl _ _).alloc (Nat.le_refl _) _).alloc (by simp) _).alloc (by simp; omega) _
  have l1 := ((Lies.new w #[.int .i64 m.kind, .int .i64 m.value, .slice A m.kids.length c] 45).alloc (.cells #[.int .i64 n.kind, .int .i64 n.value, .slice A' n.kids.length c'] 45)).alloc (.cells #[.slice Ac cl.length cc] 37)
  have l2 := (Lies.new (w.alloc (.cells #[.int .i64 m.kind, .int .i64 m.value, .slice A m.kids.length c] 45)) #[.int .i64 n.kind, .int .i64 n.value, .slice A' n.kids.length c'] 45).alloc (.cells #[.slice Ac cl.length cc] 37)
  have l3 := Lies.new ((w.alloc (.cells #[.int .i64 m.kind, .int .i64 m.value, .slice A m.kids.length c] 45)).alloc (.cells #[.int .i64 n.kind, .int .i64 n.value, .slice A' n.kids.length c'] 45)) #[.slice Ac cl.length cc] 37
  simp only [World.size_alloc] at l2 l3
  have HC := hide (hC.later hB (Nat.le_refl _))
  have Hm := hide (hm.later hB (Nat.le_refl _))
  have Hn := hide (hn.later hB (Nat.le_refl _))
  have HX := hide hx
  have HY := hide hy
  clear hC hm hn hx hy
  go_enter Try.func31, Try.ntmps31
  go_upto_region 1 with fail
  generalize ((w.alloc (.cells #[.int .i64 m.kind, .int .i64 m.value, .slice A m.kids.length c] 45)).alloc (.cells #[.int .i64 n.kind, .int .i64 n.value, .slice A' n.kids.length c'] 45)).alloc (.cells #[.slice Ac cl.length cc] 37) = W at hB l1 l2 l3 HC Hm Hn ⊢
  have a0 := l1.cell 0
  have a1 := l1.cell 1
  have a2 := l1.cell 2
  have b0 := l2.cell 0
  have b1 := l2.cell 1
  have b2 := l2.cell 2
  have c0 := l3.cell 0
  simp only [List.getElem?_toArray, List.getElem?_cons_zero, List.getElem?_cons_succ] at a0 a1 a2 b0 b1 b2 c0
  have HB := hide hB
  have hl3 := l3.lt
  clear l1 l2 l3 hB
  by_cases h0 : m.kind = n.kind
  · have t0 : (m.kind == n.kind) = true := by simpa using h0
    by_cases h1 : m.value = n.value
    · have t1 : (m.value == n.value) = true := by simpa using h1
      have HF := hide (show tf (sigOf cl m = sigOf cl n) = tf (m.kids.map (look cl) = n.kids.map (look cl)) from tf_congr (by unfold sigOf; simp [h0, h1]))
      clear h0 h1
      go_wp2_with fail
      refine (equalFunc_any (w.heap.size + 1 + 1) Ac cl cc A A' m.kids n.kids c c' W c0 hl3 HC.out Hm.out Hn.out HX.out HY.out).mono ?_
      rintro e w2 ⟨rfl, hb2⟩
      have HB2 := hide (HB.out.trans (hb2.mono HB.out.size))
      clear hb2 a0 a1 a2 b0 b1 b2 c0
      go_wp2
      go_ret
      exact ⟨ret_bool HF.out.symm, HB2.out⟩
    · have t1 : (m.value == n.value) = false := by simpa using h1
      have HF := hide (show tf (sigOf cl m = sigOf cl n) = false from tf_false fun h => h1 (by unfold sigOf at h; simp only [Prod.mk.injEq] at h; exact h.2.1))
      clear h0 h1
      go_wp2
      go_ret
      exact ⟨ret_bool HF.out.symm, HB.out⟩
  · have t0 : (m.kind == n.kind) = false := by simpa using h0
    have HF := hide (show tf (sigOf cl m = sigOf cl n) = false from tf_false fun h => h0 (by unfold sigOf at h; simp only [Prod.mk.injEq] at h; exact h.1))
    clear h0
    go_wp2
    go_ret
    exact ⟨ret_bool HF.out.symm, HB.out⟩

end Go.Proofs.Ytkgnijbdbkopkab
