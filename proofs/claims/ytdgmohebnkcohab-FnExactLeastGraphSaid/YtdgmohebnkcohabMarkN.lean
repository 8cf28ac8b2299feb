/-
  The marking functions markNodeS and heldNodeS of nodes of the call's own.
-/
import Derived.Test.YtdgmohebnkcohabPjAb
import Derived.Test.YtdgmohebnkcohabPjAe
import Derived.Test.YtdgmohebnkcohabPjAf
namespace Go.Proofs.Ytdgmohebnkcohab
open Go.RowKit
set_option linter.unusedVariables false

/-- nodes that are marked from k on -/
def marksN : Int → List Nd → List Nd
  | _, [] => []
  | k, n :: ns => ⟨k, k + 1, marks (k + 1 + 1) n.kids.length⟩ :: marksN (k + 1 + 1 + (n.kids.length : Int)) ns

/-- the first number behind these marks -/
def marksEnd : Int → List Nd → Int
  | k, [] => k
  | k, n :: ns => marksEnd (k + 1 + 1 + (n.kids.length : Int)) ns

theorem marksN_len : ∀ (k : Int) (ns : List Nd), (marksN k ns).length = ns.length
  | _, [] => rfl
  | k, n :: ns => by show (marksN _ ns).length + 1 = _; rw [marksN_len]; rfl

theorem marksN_snoc : ∀ (k : Int) (ns : List Nd) (n : Nd), marksN k (ns ++ [n]) = marksN k ns ++ [⟨marksEnd k ns, marksEnd k ns + 1, marks (marksEnd k ns + 1 + 1) n.kids.length⟩]
  | _, [], _ => rfl
  | k, m :: ns, n => by
    show _ :: marksN _ (ns ++ [n]) = _
    rw [marksN_snoc]
    rfl

theorem marksEnd_snoc : ∀ (k : Int) (ns : List Nd) (n : Nd), marksEnd k (ns ++ [n]) = marksEnd k ns + 1 + 1 + (n.kids.length : Int)
  | _, [], _ => rfl
  | k, m :: ns, n => by
    show marksEnd _ (ns ++ [n]) = _
    rw [marksEnd_snoc]
    rfl

theorem marksEnd_grows : ∀ (k : Int) (ns : List Nd), k ≤ marksEnd k ns
  | _, [] => Int.le_refl _
  | k, n :: ns => by
    have := marksEnd_grows (k + 1 + 1 + (n.kids.length : Int)) ns
    show k ≤ marksEnd _ ns
    omega

theorem marksN_at : ∀ (k : Int) (ns : List Nd) {j : Nat} {n : Nd}, ns[j]? = some n → (marksN k ns)[j]? = some ⟨marksEnd k (ns.take j), marksEnd k (ns.take j) + 1, marks (marksEnd k (ns.take j) + 1 + 1) n.kids.length⟩
  | _, [], j, n, h => by simp at h
  | k, m :: ns, 0, n, h => by
    simp at h
    subst h
    rfl
  | k, m :: ns, j + 1, n, h => by
    show (marksN _ ns)[j]? = _
    rw [marksN_at _ ns (by simpa using h)]
    rfl

theorem take_snoc {α : Type} {l : List α} {j : Nat} {x : α} (h : l[j]? = some x) : l.take (j + 1) = l.take j ++ [x] := by
  rw [List.take_add_one, h]; rfl

theorem mix_set {ms ns : List Nd} {j : Nat} {n m : Nd} (hj : ns[j]? = some n) (hm : ms.length = j) : (ms ++ ns.drop j).set j m = (ms ++ [m]) ++ ns.drop (j + 1) := by
  rw [drop_at hj, List.set_append_right _ _ (by omega), hm, Nat.sub_self]
  simp

theorem mix_at {ms ns : List Nd} {j : Nat} {n : Nd} (hj : ns[j]? = some n) (hm : ms.length = j) : (ms ++ ns.drop j)[j]? = some n := by
  rw [List.getElem?_append_right (by omega), hm, Nat.sub_self, List.getElem?_drop]
  exact hj

theorem SmallN.end_ {ns : List Nd} (h : SmallN ns) (k : Int) (j : Nat) : marksEnd k (ns.take j) ≤ k + 2002 * (j : Int) := by
  induction j with
  | zero => simp [marksEnd]
  | succ j ih =>
    cases hx : ns[j]? with
    | none =>
      rw [List.take_add_one, hx]
      simp
      omega
    | some n =>
      rw [take_snoc hx, marksEnd_snoc]
      have := h.kids n (List.mem_of_getElem? hx)
      omega

set_option maxHeartbeats 400000 in
theorem markNodeS_nil (c : Nat) (k0 : Int) (w : World) :
    Calls Try.prog 20 #[.slice none 0 c, .int .i64 k0] w fun e w' => e = .returned (.int .i64 k0) ∧ w = w' := by
  go_enter Try.func20, Try.ntmps20
  go_wp2_with fail
  refine wp_loop_rounds 1 ?_
  rw [rounds_succ]
  go_wp2
  go_ret
  exact ⟨rfl, rfl⟩

set_option maxRecDepth 100000 in
set_option maxHeartbeats 2000000 in
theorem markNodeS_row (lo hi g cap : Nat) (ns : List Nd) (c : Nat) (k0 : Int) (w : World) (h : OwnRow w lo hi g cap ns) (hs : SmallN ns) (hk0 : 0 ≤ k0) (hk1 : k0 ≤ 1000) :
    Calls Try.prog 20 #[.slice (some ⟨g, 0, none⟩) ns.length c, .int .i64 k0] w fun e w' => e = .returned (.int .i64 (marksEnd k0 ns)) ∧ OwnRow w' lo hi g cap (marksN k0 ns) ∧ Only lo hi w w' := by
  have hlen := hs.len
  have hcap := h.le
  have hg1 := h.hlo
  have hg2 := h.hhi
  go_enter Try.func20, Try.ntmps20
  go_wp2_with fail
  go_loopw [1, 5] (fun kv iv wr => ∃ j : Nat, j ≤ ns.length ∧ iv = .int .i64 j ∧ kv = .int .i64 (marksEnd k0 (ns.take j)) ∧ OwnRow wr lo hi g cap (marksN k0 (ns.take j) ++ ns.drop j) ∧ Only lo hi w wr) (fun _ iv _ => ns.length - (intOf iv).toNat)
  case atStart => exact ⟨0, Nat.zero_le _, rfl, rfl, h, Only.refl _ _ _⟩
  case round =>
    obtain ⟨j, hj, rfl, rfl, hr, ho⟩ := hrel
    clear h
    by_cases hlt : j < ns.length
    · have hat : ns[j]? = some ns[j] := List.getElem?_eq_getElem hlt
      have hkl := hs.kids _ (List.getElem_mem hlt)
      generalize ns[j] = n at hat hkl
      have hml : (marksN k0 (ns.take j)).length = j := by rw [marksN_len, List.length_take]; omega
      have he1 := hs.end_ k0 j
      have he0 := marksEnd_grows k0 (ns.take j)
      have HE := hide (show marksEnd k0 (ns.take (j + 1)) = marksEnd k0 (ns.take j) + 1 + 1 + (n.kids.length : Int) by rw [take_snoc hat, marksEnd_snoc])
      have HM := hide (show ∀ m : Nd, m = ⟨marksEnd k0 (ns.take j), marksEnd k0 (ns.take j) + 1, marks (marksEnd k0 (ns.take j) + 1 + 1) n.kids.length⟩ → (marksN k0 (ns.take j) ++ ns.drop j).set j m = marksN k0 (ns.take (j + 1)) ++ ns.drop (j + 1) from fun m hm => by
        rw [mix_set hat hml, take_snoc hat, marksN_snoc, hm])
      have hat2 := mix_at hat hml
      generalize marksN k0 (ns.take j) ++ ns.drop j = ms at hr hat2 HM
      generalize marksEnd k0 (ns.take j) = kc at he0 he1 HE HM ⊢
      obtain ⟨f, hf⟩ := hr.row
      have hcl := hr.le
      have hjm := (List.getElem?_eq_some_iff.1 hat2).1
      have a0 := World.rowIs.cell hf (i := j * 3) (by omega)
      have a1 := World.rowIs.cell hf (i := j * 3 + 1) (by omega)
      have b0 := World.rowIs.frozen hf (j * 3)
      have b1 := World.rowIs.frozen hf (j * 3 + 1)
      have hr2 := hr.set2 hat2 kc (kc + 1)
      have ho2 := (ho.setCell (p := ⟨g, j * 3, none⟩) hg1 hg2 (.int .i64 kc)).setCell (p := ⟨g, j * 3 + 1, none⟩) hg1 hg2 (.int .i64 (kc + 1))
      have hat3 : (ms.set j ⟨kc, kc + 1, n.kids⟩)[j]? = some ⟨kc, kc + 1, n.kids⟩ := by rw [List.getElem?_set, if_pos rfl, if_pos hjm]
      obtain ⟨Aj, cj, h1, h2, h3⟩ := (hr2.nd j _ hat3).kids
      simp only at h1 h2
      have HR := hide hr2
      have HO := hide ho2
      have Hat3 := hide hat3
      have H1 := hide h1
      have H3 := hide h3
      have hkc : kc ≤ 4611686018427387000 := by omega
      have hkc0 : 0 ≤ kc := by omega
      have hkc9 : kc + 1 + 1 ≤ 1048576 := by omega
      have hkz : 0 ≤ kc + 1 + 1 := by omega
      clear hr ho hf hr2 ho2 hat hat2 hat3 h3 he0 he1 hml
      go_wp2_with fail
      refine (markIntS_own lo Aj cj n.kids (kc + 1 + 1) _ h2 hkz hkc9 (by omega)).mono ?_
      rintro e w2 ⟨rfl, hown2, hO⟩
      have hbA : ∀ b, blockOf Aj = some b → lo ≤ b ∧ b < hi := fun b hb => ⟨(h2.blocks b hb).1, (H3.out b hb).1⟩
      have HO2 := hide (HO.out.trans (hO lo hi hbA))
      have hr3 := HR.out.setKids (w' := w2) Hat3.out H1.out (marks_len (kc + 1 + 1) n.kids.length) hown2 (fun b hb => by
        cases hA : blockOf Aj with
        | none => exact (hO b b (fun q hq => by rw [hA] at hq; cases hq)).block b (by omega)
        | some q => exact (hO q (q + 1) (fun q' hq' => by rw [hA] at hq'; injection hq' with hq'; omega)).block b (by have : b ≠ q := fun e => hb (by rw [hA, e]); omega))
      have hss : (ms.set j ⟨kc, kc + 1, n.kids⟩).set j ⟨kc, kc + 1, marks (kc + 1 + 1) n.kids.length⟩ = ms.set j ⟨kc, kc + 1, marks (kc + 1 + 1) n.kids.length⟩ := by rw [List.set_set]
      simp only at hr3
      rw [hss, HM.out _ rfl] at hr3
      have HR3 := hide hr3
      clear hr3 hown2 hO hbA h1 h2 a0 a1 b0 b1 hss
      go_wp2
      go_roundw
      case rel => exact ⟨j + 1, by omega, by go_num, by rw [HE.out], HR3.out, HO2.out⟩
      case measure => simp [intOf]; omega
    · obtain rfl : j = ns.length := by omega
      rw [List.take_length, List.drop_length, List.append_nil] at hr
      rw [List.take_length]
      clear hlt
      generalize hed : marksEnd k0 ns = ke
      have HED := hide hed
      have HR := hide hr
      clear hed hr
      go_wp2
      go_ret
      exact ⟨ret_int HED.out.symm, HR.out, ho⟩

theorem markNodeS_own (lo hi : Nat) (A : Option Addr) (c : Nat) (ns : List Nd) (k0 : Int) (w : World) (h : OwnNs w lo hi A c ns) (hs : SmallN ns) (hk0 : 0 ≤ k0) (hk1 : k0 ≤ 1000) :
    Calls Try.prog 20 #[.slice A ns.length c, .int .i64 k0] w fun e w' => e = .returned (.int .i64 (marksEnd k0 ns)) ∧ OwnNs w' lo hi A c (marksN k0 ns) ∧ Only lo hi w w' := by
  rcases h with ⟨rfl, rfl, rfl⟩ | ⟨g, rfl, h⟩
  · refine (markNodeS_nil 0 k0 w).mono fun e w' ⟨he, hw⟩ => ?_
    subst hw
    exact ⟨he, .inl ⟨rfl, rfl, rfl⟩, Only.refl _ _ _⟩
  · exact (markNodeS_row lo hi g c ns c k0 w h hs hk0 hk1).mono fun e w' ⟨he, hr, ho⟩ => ⟨he, .inr ⟨g, rfl, hr⟩, ho⟩

theorem marksN_wf {ns : List Nd} {k : Int} (hs : SmallN ns) (hk0 : 0 ≤ k) (hk1 : k ≤ 1000) : WfN (marksN k ns) := by
  intro m hm
  obtain ⟨j, hj, rfl⟩ := List.getElem_of_mem hm
  rw [marksN_len] at hj
  have hat : ns[j]? = some ns[j] := List.getElem?_eq_getElem hj
  have hkl := hs.kids _ (List.getElem_mem hj)
  have h2 := marksN_at k ns hat
  have he := hs.end_ k j
  have h0 := marksEnd_grows k (ns.take j)
  have hl := hs.len
  rw [List.getElem?_eq_getElem (by rw [marksN_len]; exact hj)] at h2
  injection h2 with h2
  rw [h2]
  refine ⟨⟨by simp only; omega, by simp only; omega⟩, ⟨by simp only; omega, by simp only; omega⟩, fun x hx => ?_, by simp only [marks_len]; omega⟩
  obtain ⟨i, hi, rfl⟩ := List.mem_map.1 hx
  have := List.mem_range.1 hi
  constructor <;> omega

set_option maxRecDepth 100000 in
set_option maxHeartbeats 2000000 in
theorem heldNodeS_any (A : Option Addr) (ns : List Nd) (c : Nat) (k0 : Int) (w : World) (h : NdsAt w w.heap.size A (marksN k0 ns)) (hs : SmallN ns) (hk0 : 0 ≤ k0) (hk1 : k0 ≤ 1000) :
    Calls Try.prog 21 #[.slice A ns.length c, .int .i64 k0] w fun e w' => e = .returned (.int .i64 (marksEnd k0 ns)) ∧ w = w' := by
  have hlen := hs.len
  go_enter Try.func21, Try.ntmps21
  go_wp2_with fail
  go_loop [1, 5] (fun kv iv => ∃ j : Nat, j ≤ ns.length ∧ iv = .int .i64 j ∧ kv = .int .i64 (marksEnd k0 (ns.take j))) (fun _ iv => ns.length - (intOf iv).toNat)
  case atStart => exact ⟨0, Nat.zero_le _, rfl, rfl⟩
  case round =>
    obtain ⟨j, hj, rfl, rfl⟩ := hrel
    by_cases hlt : j < ns.length
    · have hat : ns[j]? = some ns[j] := List.getElem?_eq_getElem hlt
      have hkl := hs.kids _ (List.getElem_mem hlt)
      generalize ns[j] = n at hat hkl
      have he1 := hs.end_ k0 j
      have he0 := marksEnd_grows k0 (ns.take j)
      have HE := hide (show marksEnd k0 (ns.take (j + 1)) = marksEnd k0 (ns.take j) + 1 + 1 + (n.kids.length : Int) by rw [take_snoc hat, marksEnd_snoc])
      obtain ⟨b, off, m, rfl, hbl, hx, _, hN⟩ := h.at_ (k := j) (by rw [marksN_len]; exact hlt)
      rw [marksN_at k0 ns hat] at hx
      obtain rfl := Option.some.inj hx
      generalize marksEnd k0 (ns.take j) = kc at he0 he1 HE hN ⊢
      obtain ⟨h1, h2, ⟨A1, c1, h3, h4, _⟩, _, _⟩ := hN
      simp only [marks_len] at h1 h2 h3 h4
      have t : (kc != kc) = false := by simp
      have t1 : ((kc + 1) != (kc + 1)) = false := by simp
      have hkc : kc ≤ 4611686018427387000 := by omega
      have hkc0 : 0 ≤ kc := by omega
      have hj1 : (0 : Int) ≤ (j : Int) := by omega
      have hj2 : (j : Int) < (ns.length : Int) := by omega
      have hd : decide (kc + 1 + 1 + (n.kids.length : Int) < 0) = false := by simp; omega
      clear hx hat he0 he1
      go_wp2_with fail
      refine (heldIntS_any A1 n.kids.length c1 (kc + 1 + 1) w h4 (by omega) (by omega) (by omega)).mono ?_
      rintro e w' ⟨rfl, rfl⟩
      go_wp2
      go_round
      case rel => exact ⟨j + 1, by omega, by go_num, by rw [HE.out]⟩
      case measure => simp [intOf]; omega
    · obtain rfl : j = ns.length := by omega
      rw [List.take_length]
      clear hlt
      generalize hed : marksEnd k0 ns = ke
      have HED := hide hed
      clear hed
      go_wp2
      go_ret
      exact ⟨ret_int HED.out.symm, rfl⟩

end Go.Proofs.Ytdgmohebnkcohab
