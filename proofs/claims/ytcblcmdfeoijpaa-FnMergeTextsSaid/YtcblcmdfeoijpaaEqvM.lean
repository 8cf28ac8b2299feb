/-
  Classes of equal nodes, from depth to depth. Mathematics only.
-/
import Derived.Test.YtcblcmdfeoijpaaPjAd
import Derived.Test.YtcblcmdfeoijpaaPjAe
namespace Go.Proofs.Ytcblcmdfeoijpaa
open Go.RowKit
set_option linter.unusedVariables false

/-- the number at a place of a list -/
def look (cl : List Int) (x : Int) : Int := (cl[x.toNat]?).getD 0
theorem look_at {cl : List Int} {i : Nat} {v : Int} (h : cl[i]? = some v) : look cl (i : Int) = v := by
  unfold look
  rw [Int.toNat_natCast, h]
  rfl

/-- what one depth more tells of a node -/
def sigOf (cl : List Int) (n : Nd) : Int × Int × List Int := (n.kind, n.value, n.kids.map (look cl))
def sigs (ns : List Nd) (cl : List Int) : List (Int × Int × List Int) := ns.map (sigOf cl)

/-- the classes of one depth more -/
def finer (ns : List Nd) (cl : List Int) : List Int := (sigs ns cl).map fun s => (((sigs ns cl).idxOf s : Nat) : Int)

/-- the classes up to a depth -/
def clsN (ns : List Nd) : Nat → List Int
  | 0 => List.replicate ns.length 0
  | d + 1 => finer ns (clsN ns d)

theorem finer_len (ns : List Nd) (cl : List Int) : (finer ns cl).length = ns.length := by simp [finer, sigs]
theorem clsN_len (ns : List Nd) : ∀ d, (clsN ns d).length = ns.length
  | 0 => by simp [clsN]
  | d + 1 => finer_len _ _

theorem sigs_at {ns : List Nd} {cl : List Int} {i : Nat} {n : Nd} (h : ns[i]? = some n) : (sigs ns cl)[i]? = some (sigOf cl n) := by
  unfold sigs
  rw [List.getElem?_map, h]
  rfl

theorem finer_at {ns : List Nd} {cl : List Int} {i : Nat} {n : Nd} (h : ns[i]? = some n) : (finer ns cl)[i]? = some (((sigs ns cl).idxOf (sigOf cl n) : Nat) : Int) := by
  unfold finer
  rw [List.getElem?_map, sigs_at h]
  rfl

theorem idxOf_le {α : Type} [BEq α] [LawfulBEq α] {l : List α} {i : Nat} {a : α} (h : l[i]? = some a) : l.idxOf a ≤ i := by
  rcases Nat.lt_or_ge i (l.idxOf a) with h1 | h1
  · have := List.not_of_lt_findIdx (xs := l) (p := (· == a)) (i := i) (by simpa [List.idxOf] using h1)
    obtain ⟨hl, he⟩ := List.getElem?_eq_some_iff.1 h
    simp [he] at this
  · exact h1

theorem idxOf_at {α : Type} [BEq α] [LawfulBEq α] {l : List α} {a : α} (h : a ∈ l) : l[l.idxOf a]? = some a := by
  have h1 := List.idxOf_lt_length_of_mem h
  rw [List.getElem?_eq_getElem h1, List.getElem_idxOf h1]

/-- the class of a node: the first one that is told the same -/
theorem finer_first {ns : List Nd} {cl : List Int} {i j : Nat} {n m : Nd} (hi : ns[i]? = some n) (hj : ns[j]? = some m) (hs : sigOf cl m = sigOf cl n) (hf : ∀ k q, k < j → ns[k]? = some q → sigOf cl q ≠ sigOf cl n) : (finer ns cl)[i]? = some (j : Int) := by
  rw [finer_at hi]
  congr 2
  have h1 : (sigs ns cl).idxOf (sigOf cl n) ≤ j := idxOf_le (by rw [sigs_at hj, hs])
  rcases Nat.lt_or_ge ((sigs ns cl).idxOf (sigOf cl n)) j with h2 | h2
  · have h3 := idxOf_at (l := sigs ns cl) (a := sigOf cl n) (List.mem_of_getElem? (sigs_at hi))
    have hl := (List.getElem?_eq_some_iff.1 hj).1
    have hk : ns[(sigs ns cl).idxOf (sigOf cl n)]? = some ns[(sigs ns cl).idxOf (sigOf cl n)] := List.getElem?_eq_getElem (by omega)
    have h4 := sigs_at (cl := cl) hk
    rw [h3] at h4
    exact absurd (Option.some.inj h4).symm (hf _ _ h2 hk)
  · omega

theorem finer_eq {ns : List Nd} {cl : List Int} {i j : Nat} {n m : Nd} (hi : ns[i]? = some n) (hj : ns[j]? = some m) : look (finer ns cl) i = look (finer ns cl) j ↔ sigOf cl n = sigOf cl m := by
  rw [look_at (finer_at hi), look_at (finer_at hj)]
  constructor
  · intro h
    have h1 := idxOf_at (l := sigs ns cl) (a := sigOf cl n) (List.mem_of_getElem? (sigs_at hi))
    have h2 := idxOf_at (l := sigs ns cl) (a := sigOf cl m) (List.mem_of_getElem? (sigs_at hj))
    rw [show (sigs ns cl).idxOf (sigOf cl n) = (sigs ns cl).idxOf (sigOf cl m) by omega, h2] at h1
    exact (Option.some.inj h1).symm
  · intro h; rw [h]

theorem map_eq_of {f g : Int → Int} : ∀ (xs ys : List Int), (∀ a ∈ xs, ∀ b ∈ ys, f a = f b → g a = g b) → xs.map f = ys.map f → xs.map g = ys.map g
  | [], [], _, _ => rfl
  | [], y :: ys, _, h => by simp at h
  | x :: xs, [], _, h => by simp at h
  | x :: xs, y :: ys, hf, h => by
    simp only [List.map_cons, List.cons.injEq] at h ⊢
    exact ⟨hf x (by simp) y (by simp) h.1, map_eq_of xs ys (fun a ha b hb => hf a (List.mem_cons_of_mem _ ha) b (List.mem_cons_of_mem _ hb)) h.2⟩

theorem sig_of {c1 c0 : List Int} {n m : Nd} (hf : ∀ a ∈ n.kids, ∀ b ∈ m.kids, look c1 a = look c1 b → look c0 a = look c0 b) (h : sigOf c1 n = sigOf c1 m) : sigOf c0 n = sigOf c0 m := by
  unfold sigOf at h ⊢
  simp only [Prod.mk.injEq] at h ⊢
  exact ⟨h.1, h.2.1, map_eq_of _ _ hf h.2.2⟩

theorem look_zero (ns : List Nd) (x : Int) : look (clsN ns 0) x = 0 := by
  unfold look clsN
  rw [List.getElem?_replicate]
  split <;> rfl

theorem in_at {ns : List Nd} {x : Int} (h : 0 ≤ x ∧ x < ns.length) : ∃ (i : Nat) (n : Nd), x = (i : Int) ∧ ns[i]? = some n := by
  obtain ⟨i, rfl⟩ := Int.eq_ofNat_of_zero_le h.1
  exact ⟨i, _, rfl, List.getElem?_eq_getElem (by omega)⟩

/-- nodes that are told the same up to a depth are so up to less -/
theorem cls_mono {ns : List Nd} (hk : KidsIn ns) : ∀ (d : Nat) (x y : Int), 0 ≤ x ∧ x < ns.length → 0 ≤ y ∧ y < ns.length → look (clsN ns (d + 1)) x = look (clsN ns (d + 1)) y → look (clsN ns d) x = look (clsN ns d) y
  | 0, x, y, _, _, _ => by rw [look_zero, look_zero]
  | d + 1, x, y, hx, hy, h => by
    obtain ⟨i, n, rfl, hn⟩ := in_at hx
    obtain ⟨j, m, rfl, hm⟩ := in_at hy
    have h1 := (finer_eq (cl := clsN ns (d + 1)) hn hm).1 h
    exact (finer_eq (cl := clsN ns d) hn hm).2 (sig_of (fun a ha b hb => cls_mono hk d a b (hk n (List.mem_of_getElem? hn) a ha) (hk m (List.mem_of_getElem? hm) b hb)) h1)

theorem clsN_in (ns : List Nd) : ∀ (d : Nat), ∀ x ∈ clsN ns d, 0 ≤ x ∧ (x < ns.length ∨ x = 0)
  | 0, x, hx => by
    unfold clsN at hx
    have := List.eq_of_mem_replicate hx
    omega
  | d + 1, x, hx => by
    unfold clsN finer at hx
    obtain ⟨s, hs, rfl⟩ := List.mem_map.1 hx
    have := List.idxOf_lt_length_of_mem hs
    simp [sigs] at this
    simp [sigs]
    omega

/-- the class of a node is no greater than it, and is its own class -/
theorem cls_self {ns : List Nd} (d : Nat) {i : Nat} (hi : i < ns.length) : ∃ j : Nat, (clsN ns d)[i]? = some (j : Int) ∧ j ≤ i ∧ (clsN ns d)[j]? = some (j : Int) := by
  cases d with
  | zero =>
    refine ⟨0, ?_, Nat.zero_le _, ?_⟩
    · unfold clsN; rw [List.getElem?_replicate, if_pos hi]; rfl
    · unfold clsN; rw [List.getElem?_replicate, if_pos (by omega)]; rfl
  | succ d =>
    have hn : ns[i]? = some ns[i] := List.getElem?_eq_getElem hi
    have h1 := finer_at (cl := clsN ns d) hn
    have h2 := idxOf_at (l := sigs ns (clsN ns d)) (a := sigOf (clsN ns d) ns[i]) (List.mem_of_getElem? (sigs_at hn))
    have h3 := idxOf_le (sigs_at (cl := clsN ns d) hn)
    refine ⟨_, h1, h3, ?_⟩
    have hm : ns[(sigs ns (clsN ns d)).idxOf (sigOf (clsN ns d) ns[i])]? = some ns[(sigs ns (clsN ns d)).idxOf (sigOf (clsN ns d) ns[i])] := List.getElem?_eq_getElem (by omega)
    have h4 := finer_at (cl := clsN ns d) hm
    have h5 := sigs_at (cl := clsN ns d) hm
    rw [h2] at h5
    rw [← Option.some.inj h5] at h4
    exact h4

/-- the nodes that are the first ones of their classes -/
def reps (ns : List Nd) (d : Nat) : Nat := (List.range ns.length).countP (fun (i : Nat) => decide (look (clsN ns d) (i : Int) = (i : Int)))

theorem countP_back {p q : Nat → Bool} : ∀ (l : List Nat), (∀ x ∈ l, p x = true → q x = true) → l.countP q ≤ l.countP p → ∀ x ∈ l, q x = true → p x = true
  | [], _, _, x, hx, _ => by simp at hx
  | y :: l, hpq, hc, x, hx, hq => by
    have hle := List.countP_mono_left (l := l) (p := p) (q := q) (fun z hz => hpq z (List.mem_cons_of_mem _ hz))
    rw [List.countP_cons, List.countP_cons] at hc
    have hy := hpq y (by simp)
    have hy2 : q y = true → p y = true := by
      intro h
      rw [if_pos h] at hc
      cases hp : p y
      · rw [hp] at hc
        simp at hc
        omega
      · rfl
    have hc2 : l.countP q ≤ l.countP p := by
      cases hp : p y <;> cases hq2 : q y
      · rw [hp, hq2] at hc; simpa using hc
      · rw [hy2 hq2] at hp; cases hp
      · rw [hy hp] at hq2; cases hq2
      · rw [hp, hq2] at hc; simpa using hc
    rcases List.mem_cons.1 hx with rfl | hx
    · exact hy2 hq
    · exact countP_back l (fun z hz => hpq z (List.mem_cons_of_mem _ hz)) hc2 x hx hq

theorem rep_stays {ns : List Nd} (hk : KidsIn ns) {d i : Nat} (hi : i < ns.length) (h : look (clsN ns d) i = i) : look (clsN ns (d + 1)) i = i := by
  obtain ⟨j, h1, h2, h3⟩ := cls_self (d + 1) hi
  have e : look (clsN ns (d + 1)) i = look (clsN ns (d + 1)) j := by rw [look_at h1, look_at h3]
  have := cls_mono hk d i j (by omega) (by omega) e
  obtain ⟨j2, g1, g2, g3⟩ := cls_self d (show j < ns.length by omega)
  rw [h, look_at g1] at this
  rw [look_at h1]
  omega

theorem cls_stable {ns : List Nd} (hk : KidsIn ns) {d : Nat} (h : reps ns (d + 1) ≤ reps ns d) : clsN ns (d + 1) = clsN ns d := by
  have hb := countP_back (List.range ns.length) (p := fun (i : Nat) => decide (look (clsN ns d) (i : Int) = (i : Int))) (q := fun (i : Nat) => decide (look (clsN ns (d + 1)) (i : Int) = (i : Int)))
    (fun x hx hp => by simp at hx hp ⊢; exact rep_stays hk hx hp) h
  apply List.ext_getElem?
  intro i
  by_cases hi : i < ns.length
  · obtain ⟨j, h1, h2, h3⟩ := cls_self (d + 1) hi
    obtain ⟨j2, g1, g2, g3⟩ := cls_self d hi
    have e : look (clsN ns (d + 1)) i = look (clsN ns (d + 1)) j := by rw [look_at h1, look_at h3]
    have hm := cls_mono hk d i j (by omega) (by omega) e
    have hj := hb j (by simp; omega) (by simp; exact look_at h3)
    simp at hj
    rw [look_at g1, hj] at hm
    rw [h1, g1, hm]
  · rw [List.getElem?_eq_none (by rw [clsN_len]; omega), List.getElem?_eq_none (by rw [clsN_len]; omega)]

theorem cls_stays {ns : List Nd} {d : Nat} (h : clsN ns (d + 1) = clsN ns d) : ∀ k, clsN ns (d + k) = clsN ns d
  | 0 => rfl
  | k + 1 => by
    have := cls_stays h k
    show finer ns (clsN ns (d + k)) = _
    rw [this]
    exact h

theorem cls_ends {ns : List Nd} (hk : KidsIn ns) : ∀ d, (∃ e, e < d ∧ clsN ns (e + 1) = clsN ns e) ∨ d + 1 ≤ reps ns d ∨ ns.length = 0
  | 0 => by
    rcases Nat.eq_zero_or_pos ns.length with h0 | h0
    · exact .inr (.inr h0)
    · refine .inr (.inl ?_)
      unfold reps
      apply Nat.succ_le_of_lt
      rw [List.countP_pos_iff]
      exact ⟨0, by simpa using h0, by simp [look_zero]⟩
  | d + 1 => by
    rcases cls_ends hk d with ⟨e, he, hs⟩ | h | h
    · exact .inl ⟨e, by omega, hs⟩
    · by_cases hs : reps ns (d + 1) ≤ reps ns d
      · exact .inl ⟨d, by omega, cls_stable hk hs⟩
      · exact .inr (.inl (by omega))
    · exact .inr (.inr h)

/-- as many depths as there are nodes are enough -/
theorem cls_all {ns : List Nd} (hk : KidsIn ns) (k : Nat) : clsN ns (ns.length + k) = clsN ns ns.length := by
  rcases cls_ends hk ns.length with ⟨e, he, hs⟩ | h | h
  · have h1 := cls_stays hs (ns.length - e + k)
    have h2 := cls_stays hs (ns.length - e)
    rw [show e + (ns.length - e + k) = ns.length + k by omega] at h1
    rw [show e + (ns.length - e) = ns.length by omega] at h2
    rw [h1, h2]
  · exfalso
    have : reps ns ns.length ≤ ns.length := by
      unfold reps
      exact Nat.le_trans (List.countP_le_length) (by simp)
    omega
  · have hnil : ns = [] := List.eq_nil_of_length_eq_zero h
    subst hnil
    have : ∀ d, clsN [] d = [] := fun d => List.eq_nil_of_length_eq_zero (clsN_len [] d)
    rw [this, this]

end Go.Proofs.Ytcblcmdfeoijpaa
