/-
  Lemmas, several texts in one: Dfs, SpecO, EgI, Wat, ShO, CutI.
-/
import Derived.Test.YtbihgafkmmcjlaaDoorPjAi
import Derived.Test.YtbihgafkmmcjlaaDoorPjAf
import Derived.Test.YtbihgafkmmcjlaaDoorPjAj
import Derived.Test.YtbihgafkmmcjlaaDoorPjAg
import Derived.Deep.Cut
import Derived.Test.YtbihgafkmmcjlaaDoorPjAl
import Derived.Test.YtbihgafkmmcjlaaDoorPjAk
import Derived.Deep.LoopGhost
import Derived.Test.YtbihgafkmmcjlaaDoorPjAe
namespace Go.Proofs.YtbihgafkmmcjlaaDoor
def dfs (ns : List Nd) (ent : Int → Bool) : Nat → Int → List Int → List Int
  | 0, _, L => L
  | f + 1, x, L => if ent x = false ∨ x ∈ L then L else (kidsOf ns x).foldl (fun M k => dfs ns ent f k M) (L ++ [x])
def dfsL (ns : List Nd) (ent : Int → Bool) (f : Nat) (xs : List Int) (L : List Int) : List Int := xs.foldl (fun M k => dfs ns ent f k M) L
theorem dfs_stop {ns : List Nd} {ent : Int → Bool} {f : Nat} {x : Int} {L : List Int} (h : ent x = false ∨ x ∈ L) : dfs ns ent (f + 1) x L = L := by
  rw [dfs, if_pos h]
theorem dfs_go {ns : List Nd} {ent : Int → Bool} {f : Nat} {x : Int} {L : List Int} (h1 : ent x = true) (h2 : x ∉ L) : dfs ns ent (f + 1) x L = dfsL ns ent f (kidsOf ns x) (L ++ [x]) := by
  rw [dfs, if_neg (by simp [h1, h2])]
  rfl
theorem dfsL_cons (ns : List Nd) (ent : Int → Bool) (f : Nat) (x : Int) (xs L : List Int) : dfsL ns ent f (x :: xs) L = dfsL ns ent f xs (dfs ns ent f x L) := rfl
def KidsIn (ns : List Nd) : Prop := ∀ n ∈ ns, ∀ x ∈ n.kids, 0 ≤ x ∧ x < ns.length
theorem KidsIn.of {ns : List Nd} (h : KidsIn ns) (x : Int) : ∀ k ∈ kidsOf ns x, 0 ≤ k ∧ k < ns.length := by
  intro k hk
  unfold kidsOf at hk
  cases hn : ns[x.toNat]? with
  | none => rw [hn] at hk; simp at hk
  | some n =>
    rw [hn] at hk
    exact h n (List.mem_of_getElem? hn) k (by simpa using hk)
structure Met (ns : List Nd) (L : List Int) : Prop where
  nodup : L.Nodup
  range : ∀ x ∈ L, 0 ≤ x ∧ x < ns.length
theorem Met.nil (ns : List Nd) : Met ns [] := ⟨List.nodup_nil, fun x hx => by cases hx⟩
theorem Met.len {ns : List Nd} {L : List Int} (h : Met ns L) : L.length ≤ ns.length := nodup_le _ _ h.nodup h.range
theorem Met.snoc {ns : List Nd} {L : List Int} {x : Int} (h : Met ns L) (hx : 0 ≤ x ∧ x < ns.length) (hno : x ∉ L) : Met ns (L ++ [x]) := by
  refine ⟨?_, fun y hy => ?_⟩
  · rw [List.nodup_append]
    exact ⟨h.nodup, by simp, fun a ha b hb => by simp at hb; subst hb; intro e; subst e; exact hno ha⟩
  · rcases List.mem_append.1 hy with hy | hy
    · exact h.range y hy
    · simp at hy; subst hy; exact hx
structure Walked (ns : List Nd) (ent : Int → Bool) (xs : List Int) (L R : List Int) : Prop where
  met : Met ns R
  sub : ∀ y ∈ L, y ∈ R
  len : L.length ≤ R.length
  starts : ∀ x ∈ xs, ent x = true → x ∈ R
  closed : ∀ y ∈ R, y ∉ L → ∀ k ∈ kidsOf ns y, ent k = true → k ∈ R
  from_ : ∀ y ∈ R, y ∈ L ∨ (ent y = true ∧ (y ∈ xs ∨ ∃ z ∈ R, z ∉ L ∧ y ∈ kidsOf ns z))
theorem walkedL (ns : List Nd) (ent : Int → Bool) (f : Nat)
    (ih : ∀ (x : Int) (L : List Int), Met ns L → 0 ≤ x → x < ns.length → ns.length < f + L.length → Walked ns ent [x] L (dfs ns ent f x L)) :
    ∀ (xs : List Int) (L : List Int), Met ns L → (∀ x ∈ xs, 0 ≤ x ∧ x < ns.length) → ns.length < f + L.length → Walked ns ent xs L (dfsL ns ent f xs L)
  | [], L, hL, _, _ => ⟨hL, fun y hy => hy, Nat.le_refl _, fun x hx => (by cases hx), fun y hy hno => absurd hy hno, fun y hy => .inl hy⟩
  | x :: xs, L, hL, hx, hf => by
    have h1 := ih x L hL (hx x (by simp)).1 (hx x (by simp)).2 hf
    have h2 := walkedL ns ent f ih xs (dfs ns ent f x L) h1.met (fun y hy => hx y (by simp [hy])) (by have := h1.len; omega)
    rw [dfsL_cons]
    refine ⟨h2.met, fun y hy => h2.sub y (h1.sub y hy), Nat.le_trans h1.len h2.len, fun y hy he => ?_, fun y hy hno k hk he => ?_, fun y hy => ?_⟩
    · rcases List.mem_cons.1 hy with rfl | hy
      · exact h2.sub _ (h1.starts _ (by simp) he)
      · exact h2.starts y hy he
    · by_cases hm : y ∈ dfs ns ent f x L
      · exact h2.sub _ (h1.closed y hm hno k hk he)
      · exact h2.closed y hy hm k hk he
    · rcases h2.from_ y hy with h | ⟨he, h | ⟨z, hz, hzn, hk⟩⟩
      · rcases h1.from_ y h with h | ⟨he, h | ⟨z, hz, hzn, hk⟩⟩
        · exact .inl h
        · exact .inr ⟨he, .inl (by simp at h; simp [h])⟩
        · exact .inr ⟨he, .inr ⟨z, h2.sub z hz, hzn, hk⟩⟩
      · exact .inr ⟨he, .inl (by simp [h])⟩
      · exact .inr ⟨he, .inr ⟨z, hz, fun h => hzn (h1.sub z h), hk⟩⟩
theorem walked (ns : List Nd) (ent : Int → Bool) (hk : KidsIn ns) : ∀ (f : Nat) (x : Int) (L : List Int), Met ns L → 0 ≤ x → x < ns.length → ns.length < f + L.length → Walked ns ent [x] L (dfs ns ent f x L)
  | 0, x, L, hL, _, _, hf => by have := hL.len; omega
  | f + 1, x, L, hL, h0, h1, hf => by
    by_cases hs : ent x = false ∨ x ∈ L
    · rw [dfs_stop hs]
      exact ⟨hL, fun y hy => hy, Nat.le_refl _, fun y hy he => by
        simp at hy
        subst hy
        rcases hs with h | h
        · rw [h] at he; cases he
        · exact h, fun y hy hno => absurd hy hno, fun y hy => .inl hy⟩
    · have he : ent x = true := by
        cases h : ent x
        · exact absurd (.inl h) hs
        · rfl
      have hno : x ∉ L := fun h => hs (.inr h)
      rw [dfs_go he hno]
      have h := walkedL ns ent f (walked ns ent hk f) (kidsOf ns x) (L ++ [x]) (hL.snoc ⟨h0, h1⟩ hno) (hk.of x) (by simp; omega)
      refine ⟨h.met, fun y hy => h.sub y (List.mem_append_left _ hy), by have := h.len; simp at this; omega, fun y hy _ => ?_, fun y hy hyn k hkk hek => ?_, fun y hy => ?_⟩
      · simp at hy
        subst hy
        exact h.sub y (by simp)
      · by_cases hyx : y = x
        · subst hyx
          exact h.starts k hkk hek
        · exact h.closed y hy (by simp [hyn, hyx]) k hkk hek
      · by_cases hyL : y ∈ L
        · exact .inl hyL
        · refine .inr ?_
          by_cases hyx : y = x
          · subst hyx
            exact ⟨he, .inl (by simp)⟩
          · rcases h.from_ y hy with hm | ⟨hey, hm | ⟨z, hz, hzn, hm⟩⟩
            · exact absurd hm (by simp [hyL, hyx])
            · exact ⟨hey, .inr ⟨x, h.sub x (by simp), hno, hm⟩⟩
            · exact ⟨hey, .inr ⟨z, hz, fun hzL => hzn (List.mem_append_left _ hzL), hm⟩⟩
def isTup (ns : List Nd) (x : Int) : Bool := kindOf ns x == 2
end Go.Proofs.YtbihgafkmmcjlaaDoor

namespace Go.Proofs.YtbihgafkmmcjlaaDoor
open Go.RowKit
set_option linter.unusedVariables false
set_option maxHeartbeats 1000000 in
theorem specValidOps_any (A : Option Addr) (os : List Od) (c : Nat) (w : World) (h : OpsAt w w.heap.size A os) :
    Calls Tryd.prog 16 #[.slice A os.length c] w fun e w' => e = .returned (.bool (tf (OpsOk os))) ∧ Below w.heap.size w w' := by
  have hl := h.len
  go_enter Tryd.func16, Tryd.ntmps16
  go_wp2_with fail
  go_loopw [3] (fun i wr => ∃ k : Nat, k ≤ os.length ∧ i = .int .i64 k ∧ Below w.heap.size w wr ∧ ∀ j x, j < k → os[j]? = some x → OdOk x) (fun i _ => os.length - (intOf i).toNat)
  case atStart => exact ⟨0, Nat.zero_le _, rfl, Below.refl _ _, fun j _ hj => absurd hj (by omega)⟩
  case round =>
    obtain ⟨k, hk, rfl, hb, he0⟩ := hrel
    have he := hide he0
    clear he0
    by_cases hlt : k < os.length
    · obtain ⟨b, off, x, rfl, hbl, hx, hmem, hc0, hc1⟩ := (h.below hb).at_ hlt
      have Hx := hide hx
      clear hx
      by_cases hin : OdOk x
      · have He : Hid (∀ j y, j < k + 1 → os[j]? = some y → OdOk y) := by
          intro j y hj hy
          by_cases e : j = k
          · subst e
            have := Hx.out.symm.trans hy
            injection this with this
            subst this
            exact hin
          · exact he.out j y (by omega) hy
        have ht := hide (show tf (OdOk x) = true from tf_true hin)
        clear he hmem hin
        go_wp2_with fail
        refine (validOp_any x _).mono ?_
        rintro e w' ⟨rfl, hb2⟩
        rw [ht.out]
        go_wp2
        go_roundw
        case rel => exact ⟨k + 1, by omega, by go_num, hb.trans (hb2.mono hb.size), He.out⟩
        case measure => simp [intOf]; omega
      · have HF := hide (show tf (OpsOk os) = false from tf_false fun hall => hin (hall.2 x hmem))
        have ht := hide (show tf (OdOk x) = false from tf_false hin)
        clear he hmem hin
        go_wp2_with fail
        refine (validOp_any x _).mono ?_
        rintro e w' ⟨rfl, hb2⟩
        rw [ht.out]
        go_wp2
        go_ret
        exact ⟨ret_bool HF.out.symm, hb.trans (hb2.mono hb.size)⟩
    · obtain rfl : k = os.length := by omega
      have hall : ∀ x ∈ os, OdOk x := fun x hx => by
        obtain ⟨j, hj, rfl⟩ := List.getElem_of_mem hx
        exact he.out j _ hj (List.getElem?_eq_getElem hj)
      by_cases h3 : os.length ≤ 300
      · have HF := hide (show tf (OpsOk os) = true from tf_true ⟨h3, hall⟩)
        have d : decide ((os.length : Int) ≤ 300) = true := by simp; omega
        clear hlt hall
        go_wp2
        go_ret
        exact ⟨ret_bool HF.out.symm, hb⟩
      · have HF := hide (show tf (OpsOk os) = false from tf_false fun hh => h3 hh.1)
        have d : decide ((os.length : Int) ≤ 300) = false := by simp; omega
        clear hlt hall
        go_wp2
        go_ret
        exact ⟨ret_bool HF.out.symm, hb⟩
end Go.Proofs.YtbihgafkmmcjlaaDoor

namespace Go.Proofs.YtbihgafkmmcjlaaDoor
open Go.RowKit
set_option linter.unusedVariables false
theorem marks_minus {s : Shp} (h : s.Ok) : (∃ x ∈ s.stack, x < 0) ↔ (-1 : Int) ∈ s.stack :=
  ⟨fun ⟨x, hx, hn⟩ => (by have := h.st x hx; have e : x = -1 := by omega
                          rw [← e]; exact hx), fun hm => ⟨-1, hm, by omega⟩⟩
theorem opBox {w : World} {g : Nat} {a b : Value} {t : TypeId} (h : Lies w g #[a, b] t) (v0 v1 : Value) :
    ((w.setCell ⟨g, 0, none⟩ v0).setCell ⟨g, 1, none⟩ v1).cell? ⟨g, 0, none⟩ = some v0 ∧ ((w.setCell ⟨g, 0, none⟩ v0).setCell ⟨g, 1, none⟩ v1).cell? ⟨g, 1, none⟩ = some v1 := by
  have h2 := (h.set 0 v0).set 1 v1
  simp only [jA, jC, jB] at h2
  exact ⟨h2.cell 0, h2.cell 1⟩
set_option maxRecDepth 100000 in
set_option maxHeartbeats 1000000 in
theorem endingOp_any (q base off : Nat) (p : ShPtr) (s : Shp) (w : World) (h : SbAt w base q off p s) (hs : s.Small) (hok : s.Ok) :
    Calls Tryd.prog 14 #[.pointer (some ⟨q, off, none⟩)] w fun e w' => e = .returned (.agg #[.int .i64 (endOp s.stack).code, .int .i64 (endOp s.stack).arg]) ∧ Below w.heap.size w w' := by
  have hB0 := (Below.refl w.heap.size w).alloc (Nat.le_refl _) (.cells #[.int .i64 0, .int .i64 0] 42)
  have HB := hide hB0
  have L0 := hide (Lies.new w #[.int .i64 0, .int .i64 0] 42)
  have H2 := hide (h.alloc (.cells #[.int .i64 0, .int .i64 0] 42))
  obtain ⟨e0, e1, e2, e3, e4, f0, f1, f2, f3, f4⟩ := H2.out.c
  have hI := (H2.out.own.at_ hs).t
  have HC := hide (containsI_any p.S s.stack p.c3 (-1) _ hI)
  have hlen := hs.t
  obtain ⟨b, hb⟩ : ∃ b, tf ((-1 : Int) ∈ s.stack) = b := ⟨_, rfl⟩
  have hE : endOp s.stack = if b = true then ⟨3, 0⟩ else if 1 < s.stack.length then ⟨6, 0⟩ else if s.stack.length = 0 then ⟨4, 0⟩ else ⟨19, 0⟩ := by
    unfold endOp
    by_cases hm : ∃ x ∈ s.stack, x < 0
    · have hbt : b = true := by rw [← hb]; exact tf_true ((marks_minus hok).1 hm)
      rw [if_pos hm, if_pos hbt]
    · have hbf : ¬ b = true := by rw [← hb, tf_false (fun hh => hm ((marks_minus hok).2 hh))]; decide
      rw [if_neg hm, if_neg hbf]
  rw [hb] at HC
  have HE := hide hE
  clear h hs hok hB0 hI hb hE
  go_enter Tryd.func14, Tryd.ntmps14
  go_upto_region 1 with fail
  generalize w.alloc (.cells #[.int .i64 0, .int .i64 0] 42) = W at HB L0 H2 HC e0 e1 e2 e3 e4 f0 f1 f2 f3 f4 ⊢
  have b0 := L0.out.cell 0
  have b1 := L0.out.cell 1
  have g0 := L0.out.frozen 0
  have g1 := L0.out.frozen 1
  simp only [jD, jE, jF] at b0 b1
  have HX := fun (k : Int) => opBox L0.out (.int .i64 k) (.int .i64 0)
  have HY := fun (k : Int) => (HB.out.setCell (p := ⟨w.heap.size, 0, none⟩) (Nat.le_refl _) (.int .i64 k)).setCell (p := ⟨w.heap.size, 1, none⟩) (Nat.le_refl _) (.int .i64 0)
  have HYY := hide HY
  have HXX := hide HX
  clear HX HY
  go_wp2_with fail
  refine HC.out.mono ?_
  rintro e w' ⟨rfl, rfl⟩
  clear HC
  cases b
  · by_cases h1 : 1 < s.stack.length
    · have h1' : (1 : Int) < (s.stack.length : Int) := by omega
      obtain ⟨s0, s1⟩ := HXX.out 6
      go_wp2
      refine bodyPost_ret (v := .agg #[.int .i64 6, .int .i64 0]) (by simp [results, Tryd.results14, go_sem, s0, s1]) rfl ?_
      exact ⟨by rw [HE.out, if_neg (by decide), if_pos h1], HYY.out 6⟩
    · have h1' : ¬ (1 : Int) < (s.stack.length : Int) := by omega
      by_cases h0 : s.stack.length = 0
      · have d0 : ((s.stack.length : Int) == 0) = true := by rw [h0]; rfl
        have H0 := hide h0
        clear h0
        obtain ⟨s0, s1⟩ := HXX.out 4
        go_wp2
        refine bodyPost_ret (v := .agg #[.int .i64 4, .int .i64 0]) (by simp [results, Tryd.results14, go_sem, s0, s1]) rfl ?_
        exact ⟨by rw [HE.out, if_neg (by decide), if_neg h1, if_pos H0.out], HYY.out 4⟩
      · have d0 : ((s.stack.length : Int) == 0) = false := by rw [beq_eq_false_iff_ne]; omega
        obtain ⟨s0, s1⟩ := HXX.out 19
        go_wp2
        refine bodyPost_ret (v := .agg #[.int .i64 19, .int .i64 0]) (by simp [results, Tryd.results14, go_sem, s0, s1]) rfl ?_
        exact ⟨by rw [HE.out, if_neg (by decide), if_neg h1, if_neg h0], HYY.out 19⟩
  · obtain ⟨s0, s1⟩ := HXX.out 3
    go_wp2
    refine bodyPost_ret (v := .agg #[.int .i64 3, .int .i64 0]) (by simp [results, Tryd.results14, go_sem, s0, s1]) rfl ?_
    exact ⟨by rw [HE.out, if_pos (by first | rfl | trivial)], HYY.out 3⟩
end Go.Proofs.YtbihgafkmmcjlaaDoor

namespace Go.Proofs.YtbihgafkmmcjlaaDoor
open Go.RowKit
set_option linter.unusedVariables false
theorem WFr.belowB {w w' : World} {D : Nat → Prop} {B : Nat} (h : WFr w w' D) (hB : ∀ b, D b → B ≤ b) (hw : B ≤ w.heap.size) : Below B w w' :=
  ⟨h.os, h.tape, h.output, h.size, fun k hk => h.blk k (Nat.lt_of_lt_of_le hk hw) (fun hd => by have := hB k hd; omega)⟩
theorem WatS.done {w wr : World} {D0 D : Nat → Prop} {q q2 k f : Nat} {p : ShPtr} {s : Shp} {J : Nat → (Nat → Prop) → World → Prop} {caps : Array Value} {os : List Od} (v0 v1 v2 v3 v4 : Value) (h : WatS w wr D0 q q2 p s k D J) (hw : Watcher f caps os J) :
    ShOwn (set5 wr q2 v0 v1 v2 v3 v4) w.heap.size p s ∧ J k D (set5 wr q2 v0 v1 v2 v3 v4) ∧ (∀ b, D b → p.Off b) ∧ (∀ b, b < w.heap.size → D b → D0 b) ∧ WFr w (set5 wr q2 v0 v1 v2 v3 v4) D0 := by
  refine ⟨h.sb.own.set5 h.off2, hw.kept _ _ _ _ h.j (fun b hd => set5_block (h.dq b hd).2.1) (by rw [set5_size]; exact Nat.le_refl _), fun b hd => (h.dq b hd).2.2, h.d0, ?_⟩
  have hb := set5_below (v0 := v0) (v1 := v1) (v2 := v2) (v3 := v3) (v4 := v4) (Below.refl q2 wr) (Nat.le_refl _)
  exact ⟨hb.os.trans h.fr.os, hb.tape.trans h.fr.tape, hb.output.trans h.fr.output, Nat.le_trans h.fr.size hb.size, fun b hb1 hb2 => (hb.block b (by have := h.h2; omega)).trans (h.fr.blk b hb1 hb2)⟩
set_option maxRecDepth 100000 in
set_option maxHeartbeats 4000000 in
theorem watched_any (A : Option Addr) (os : List Od) (c B : Nat) (f : Nat) (caps : Array Value) (J : Nat → (Nat → Prop) → World → Prop) (D0 : Nat → Prop) (w : World) (h : OpsAt w B A os) (hF : FormsAt w B) (hN : NeedsAt w B) (hok : OpsOk os)
    (hB : B ≤ w.heap.size) (hD : ∀ b, D0 b → B ≤ b) (hW : Watcher f caps os J) (hJ : J 0 D0 w) (hent : ∀ (args : Array Value) (W : World), (callFunc f args).run Tryd.prog W = .ok (.enter f args) W)
    (hcall : ∀ (k : Nat) (D : Nat → Prop) (W : World) (Ap : Option Addr) (cp : Nat), k < os.length → J k D W → IntsAt W W.heap.size Ap (stk os (k + 1)) → (∀ b, blockOf Ap = some b → ¬ D b) → Calls Tryd.prog f (#[.slice Ap (stk os (k + 1)).length cp] ++ caps) W (Watched W (k + 1) D J)) :
    Calls Tryd.prog 25 #[.slice A os.length c, .func (.func f) #[] caps] w (GivesWat w D0 J (runShp Shp.new os)) := by
  obtain ⟨hl3, hall⟩ := hok
  have Hok := hide hall
  have hok2 := hide (show OpsOk os from ⟨hl3, hall⟩)
  obtain ⟨R, hR⟩ : ∃ R, R = runShp Shp.new os := ⟨_, rfl⟩
  have HC0 := hide (Came.start os)
  rw [← hR] at HC0 ⊢
  clear hR hall
  have HW := hide hW
  have HJ := hide hJ
  have HD := hide hD
  have HCall := hide hcall
  have hB0 := (Below.refl w.heap.size w).alloc (Nat.le_refl _) (.cells zero5 38)
  have HB0 := hide hB0
  have L0 := hide (Lies.new w zero5 38)
  have h1 := h.later (hB0.mono hB) hB
  have hF1 := hF.later (hB0.mono hB) hB
  have HV := hide (implValidOps_any A os c _ h1 hF1)
  have hq2 : w.heap.size < (w.alloc (.cells zero5 38)).heap.size := by simp
  have Ht := hide (show tf (OpsOk os) = true from tf_true hok2.out)
  clear hW hJ hD hcall hB0 h1 hF1
  go_enter Tryd.func25, Tryd.ntmps25
  go_upto_region 1 with fail
  unfold zero5 at HB0 L0 HV hq2
  generalize w.alloc (.cells #[.slice none 0 0, .slice none 0 0, .slice none 0 0, .slice none 0 0, .bool false] 38) = W0 at HB0 L0 HV hq2 ⊢
  go_wp2_with fail
  refine HV.out.mono ?_
  rw [Ht.out]
  clear HV
  rintro e w1 ⟨rfl, hb1⟩
  have HB1 := hide (HB0.out.trans (hb1.mono (by omega)))
  have hq21 : w.heap.size < w1.heap.size := Nat.lt_of_lt_of_le hq2 hb1.size
  have L1 := hide (Lies.below (show Lies W0 w.heap.size zero5 38 from L0.out) hb1 hq2)
  clear hb1 HB0 L0 hq2
  go_wp2_with fail
  refine (implNewShapes_any w1).mono ?_
  rintro e w2 ⟨p1, rfl, ho1, hb2⟩
  obtain ⟨s0, hs0⟩ : ∃ s, s = Shp.new := ⟨_, rfl⟩
  have Hs0 := hide hs0
  rw [← hs0] at ho1 HC0 ⊢
  clear hs0
  have hsz := hb2.size
  have HS0 := hide (show WatS w (w2.alloc (.cells (shCells p1 s0) 38)) D0 w2.heap.size w.heap.size p1 s0 0 D0 J from by
    have hbw : Below w.heap.size w w2 := HB1.out.trans (hb2.mono (by omega))
    have hbx : Below w.heap.size w (w2.alloc (.cells (shCells p1 s0) 38)) := hbw.alloc (by omega) _
    have hlt := HW.out.lt _ _ _ HJ.out
    refine ⟨(ShBox.new (ho1.mono (by omega))).sb, (L1.out.below hb2 hq21).alloc _, ho1.off (.inl hq21), by omega, by omega, Nat.le_refl _, HW.out.kept _ _ _ _ HJ.out (fun b hd => hbx.block b (hlt b hd)) hbx.size, fun b hd => ?_, fun b _ hd => hd, WFr.of_below _ hbx⟩
    have := hlt b hd
    exact ⟨by omega, by omega, ho1.off (.inl (by omega))⟩)
  have hw1 : w.heap.size < w2.heap.size := by omega
  clear ho1 hb2 L1 HB1 HJ
  simp only [shVal, shCells] at HS0 ⊢
  go_upto_region 4 with fail
  generalize w2.alloc (.cells #[.slice p1.K s0.kinds.length p1.c1, .slice p1.F s0.full.length p1.c2, .slice p1.S s0.stack.length p1.c3, .slice p1.M s0.memo.length p1.c4, .bool s0.done] 38) = w3 at HS0 ⊢
  generalize w2.heap.size = q at HS0 hw1 ⊢
  generalize hQ2 : w.heap.size = q2 at hw1 ⊢
  have HQ2 := hide hQ2
  rw [hQ2] at HS0
  clear hQ2 hq21 hsz
  go_wp2_with fail
  go_loopg [16] os.length (fun gk iv wr => ∃ (k : Nat) (p : ShPtr) (s : Shp) (D : Nat → Prop), gk = os.length - k ∧ iv = .int .i64 (k : Int) ∧ WatS w wr D0 q q2 p s k D J ∧ Came os R k s)
  case atStart => exact ⟨0, p1, s0, D0, rfl, rfl, HS0.out, HC0.out⟩
  case round =>
    clear HS0 HC0
    obtain ⟨k, p, s, D, rfl, rfl, hS, hC⟩ := hrel
    have HS := hide hS
    have HC := hide hC
    have hk := hC.le
    clear hS hC
    by_cases hlt : k < os.length
    · have Hbel := HS.out.fr.belowB HD.out hB
      obtain ⟨b, off, o, rfl, hbl, hx, hmem, hc0, hc1⟩ := (h.below Hbel).at_ hlt
      have HO := Hok.out o hmem
      have Hod := hide HO
      obtain ⟨cd, ar⟩ := o
      obtain ⟨⟨ho1, ho2⟩, ho3, ho4⟩ := (OdOk.iff _).1 HO
      simp only at hc0 hc1 ho1 ho2 ho3 ho4
      clear HO
      obtain ⟨cn, rfl⟩ := Int.eq_ofNat_of_zero_le ho1
      have hcn : cn < 20 := by omega
      have har : cn = 15 ∨ cn = 16 → 0 ≤ ar ∧ ar < 20 := fun hh => ⟨ho3, by rcases hh with rfl | rfl <;> simp [argTop, argMost] at ho4 <;> omega⟩
      have Hx := hide hx
      have hk1 : (0 : Int) ≤ (k : Int) := by omega
      have hk2 : (k : Int) < (os.length : Int) := by omega
      have hB2 := hide (Hbel.alloc (Nat.le_trans hB Hbel.size) (.cells #[.int .i64 (cn : Int), .int .i64 ar] 42))
      have lo := Lies.new wr #[.int .i64 (cn : Int), .int .i64 ar] 42
      have HS2 := hide (HS.out.below HW.out ((Below.refl _ _).alloc (Nat.le_refl _) (.cells #[.int .i64 (cn : Int), .int .i64 ar] 42)))
      clear hx hmem ho1 ho2 ho3 ho4 Hbel HS
      go_upto_region 7 with fail
      generalize wr.alloc (.cells #[.int .i64 (cn : Int), .int .i64 ar] 42) = X at hB2 lo HS2 ⊢
      have d0 := lo.cell 0
      have d1 := lo.cell 1
      simp only [jD, jE, jF] at d0 d1
      clear lo hc0 hc1
      have Hsm := hide (HC.out.small hl3)
      have hbX : w.heap.size ≤ X.heap.size := HS2.out.fr.size
      have HFX := hide (hF.later hB2.out hB)
      have HNX := hide (hN.later hB2.out hB)
      cases hst : stepFree s ⟨(cn : Int), ar⟩ with
      | none =>
        have hRe := HC.out.stop Hx.out hst
        go_wp2_with fail
        refine (step_no q w.heap.size 0 p s cn ar X HS2.out.sb Hsm.out hbX HFX.out HNX.out hcn har hst).mono ?_
        rintro e wn ⟨rfl, pn, hSn, hFn⟩
        have HSn := hide (HS2.out.step HW.out hSn hFn)
        clear hSn hFn HS2 hst
        obtain ⟨e0, e1, e2, e3, e4, _, _, _, _, _⟩ := HSn.out.sb.c
        obtain ⟨r0, r1, r2, r3, r4, f0, f1, f2, f3, f4, s0, s1, s2, s3, s4⟩ := (Lies.set5 (show Lies wn q2 #[.slice none 0 0, .slice none 0 0, .slice none 0 0, .slice none 0 0, .bool false] 38 from HSn.out.res) (.slice pn.K s.kinds.length pn.c1) (.slice pn.F s.full.length pn.c2) (.slice pn.S s.stack.length pn.c3) (.slice pn.M s.memo.length pn.c4) (.bool s.done)).1
        simp only [Nat.zero_add] at e0 e1 e2 e3 e4
        have HRe := hide hRe
        clear hRe
        go_wp2
        refine bodyPost_ret (v := .tuple #[shVal pn s, .int .i64 (k : Int)]) (by simp [shVal, shCells, results, Tryd.results25, go_sem, s0, s1, s2, s3, s4]) rfl ?_
        rw [HRe.out]
        exact ⟨pn, D, rfl, HSn.out.done _ _ _ _ _ HW.out⟩
      | some t =>
        obtain ⟨hC2, hts⟩ := HC.out.next hl3 Hx.out Hod.out hst
        go_wp2_with fail
        refine (step_yes q w.heap.size 0 p s t cn ar X HS2.out.sb Hsm.out hbX HFX.out HNX.out hcn har hst).mono ?_
        rintro e wn ⟨rfl, pn, hSn, hFn⟩
        have HSn := hide (HS2.out.step HW.out hSn hFn)
        have hcc := HCall.out k D wn pn.S pn.c3 hlt HSn.out.j (by rw [← hts]; exact (HSn.out.sb.own.at_ (hC2.small hl3)).t) (fun b hb hd => (HSn.out.dq b hd).2.2.t hb)
        rw [← hts] at hcc
        have HCC := hide hcc
        have HC2 := hide hC2
        have e2 := HSn.out.sb.c.c2
        simp only [Nat.zero_add] at e2
        clear hSn hFn HS2 hst hcc hts hC2
        go_wp2_with fail
        refine HCC.out.mono ?_
        clear HCC
        rintro e w5 ⟨rfl, D', hJ', hd', hf'⟩
        have HS5 := hide (HSn.out.watched HW.out hJ' hd' hf')
        clear hJ' hd' hf' HSn
        go_wp2
        go_roundg (os.length - (k + 1))
        case measure => omega
        case rel => exact ⟨k + 1, pn, t, D', rfl, by go_num, HS5.out, HC2.out⟩
    · obtain rfl : k = os.length := by omega
      have hRe := HC.out.all
      obtain ⟨pn, hpn⟩ : ∃ p', p' = p := ⟨_, rfl⟩
      subst hpn
      obtain ⟨wn, hwn⟩ : ∃ w', w' = wr := ⟨_, rfl⟩
      subst hwn
      have HSn := HS
      obtain ⟨e0, e1, e2, e3, e4, _, _, _, _, _⟩ := HSn.out.sb.c
      obtain ⟨r0, r1, r2, r3, r4, f0, f1, f2, f3, f4, s0, s1, s2, s3, s4⟩ := (Lies.set5 (show Lies wn q2 #[.slice none 0 0, .slice none 0 0, .slice none 0 0, .slice none 0 0, .bool false] 38 from HSn.out.res) (.slice pn.K s.kinds.length pn.c1) (.slice pn.F s.full.length pn.c2) (.slice pn.S s.stack.length pn.c3) (.slice pn.M s.memo.length pn.c4) (.bool s.done)).1
      simp only [Nat.zero_add] at e0 e1 e2 e3 e4
      have HRe := hide hRe
      clear hRe
      go_wp2
      refine bodyPost_ret (v := .tuple #[shVal pn s, .int .i64 (os.length : Int)]) (by simp [shVal, shCells, results, Tryd.results25, go_sem, s0, s1, s2, s3, s4]) rfl ?_
      rw [HRe.out]
      exact ⟨pn, D, rfl, HSn.out.done _ _ _ _ _ HW.out⟩
end Go.Proofs.YtbihgafkmmcjlaaDoor

namespace Go.Proofs.YtbihgafkmmcjlaaDoor
open Go.RowKit
set_option linter.unusedVariables false
set_option maxRecDepth 100000 in
set_option maxHeartbeats 1000000 in
theorem noWatch_any (A : Option Addr) (xs : List Int) (c : Nat) (w : World) : Calls Tryd.prog 26 #[.slice A xs.length c] w fun e w' => e = .returned (.tuple #[]) ∧ w = w' := by
  go_enter Tryd.func26, Tryd.ntmps26
  go_wp2
  go_end0
  exact ⟨rfl, rfl⟩
theorem enter_no (args : Array Value) (W : World) : (callFunc 26 args).run Tryd.prog W = .ok (.enter 26 args) W := by
  kernel_rfl
theorem watched_no (A : Option Addr) (os : List Od) (c : Nat) (w : World) (h : OpsAt w w.heap.size A os) (hF : FormsAt w w.heap.size) (hN : NeedsAt w w.heap.size) (hok : OpsOk os) :
    Calls Tryd.prog 25 #[.slice A os.length c, .func (.func 26) #[] #[]] w (GivesRun w (runShp Shp.new os)) := by
  refine (watched_any A os c w.heap.size 26 #[] (fun _ D _ => ∀ b, ¬ D b) (fun _ => False) w h hF hN hok (Nat.le_refl _) (fun b hb => hb.elim) ⟨fun k D W W' hJ _ _ => hJ, fun k D W hJ b hb => (hJ b hb).elim⟩ (fun b hb => hb) enter_no (fun k D W Ap cp hk hJ hI hA => ?_)).mono fun e w' hE => ?_
  · refine (noWatch_any Ap _ cp W).mono ?_
    rintro e W' ⟨rfl, rfl⟩
    exact ⟨rfl, D, hJ, fun b _ hb => hb, WFr.refl _ _⟩
  · obtain ⟨p, D, rfl, ho, hJ, _, _, hf⟩ := hE
    exact ⟨p, rfl, ho, hf.below⟩
set_option maxRecDepth 100000 in
set_option maxHeartbeats 1000000 in
theorem implShapesOf_ok (A : Option Addr) (os : List Od) (c : Nat) (w : World) (h : OpsAt w w.heap.size A os) (hF : FormsAt w w.heap.size) (hN : NeedsAt w w.heap.size) (hok : OpsOk os) :
    Calls Tryd.prog 13 #[.slice A os.length c] w (GivesRun w (runShp Shp.new os)) := by
  have hB0 := (Below.refl w.heap.size w).alloc (Nat.le_refl _) (.cells zero5 38)
  have HB0 := hide hB0
  have L0 := hide (Lies.new w zero5 38)
  have HC := hide (watched_no A os c _ (h.later hB0 (Nat.le_refl _)) (hF.later hB0 (Nat.le_refl _)) (hN.later hB0 (Nat.le_refl _)) hok)
  obtain ⟨R, hR⟩ : ∃ R, R = runShp Shp.new os := ⟨_, rfl⟩
  rw [← hR] at HC ⊢
  clear hB0 hR
  obtain ⟨s, n⟩ := R
  go_enter Tryd.func13, Tryd.ntmps13
  go_upto_region 1 with fail
  unfold zero5 at HB0 L0 HC
  have hlt := L0.out.lt
  generalize w.alloc (.cells #[.slice none 0 0, .slice none 0 0, .slice none 0 0, .slice none 0 0, .bool false] 38) = W at HB0 L0 HC hlt ⊢
  go_wp2_with (go_at_call 25; refine HC.out.mono ?_; rintro e w2 ⟨p, rfl, ho, hb⟩; simp only [shVal, shCells]; have hS := Lies.below L0.out hb hlt; obtain ⟨⟨r0, r1, r2, r3, r4, f0, f1, f2, f3, f4, s0, s1, s2, s3, s4⟩, hlf⟩ := Lies.set5 hS (.slice p.K s.kinds.length p.c1) (.slice p.F s.full.length p.c2) (.slice p.S s.stack.length p.c3) (.slice p.M s.memo.length p.c4) (.bool s.done); have HS := hide hS; clear hS; have HO := hide (And.intro ho hb); clear ho hb hlf)
  refine bodyPost_ret (v := .tuple #[shVal p s, .int .i64 (n : Int)]) (by simp [shVal, shCells, results, Tryd.results13, go_sem, s0, s1, s2, s3, s4]) rfl ?_
  obtain ⟨ho, hb⟩ := HO.out
  have hsz := HB0.out.size
  exact ⟨p, rfl, (ho.set5 (ho.off (.inl hlt))).mono hsz, set5_below (HB0.out.trans (hb.mono hsz)) (Nat.le_refl _)⟩
set_option maxRecDepth 100000 in
set_option maxHeartbeats 1000000 in
theorem implShapesOf_bad (A : Option Addr) (os : List Od) (c : Nat) (w : World) (h : OpsAt w w.heap.size A os) (hF : FormsAt w w.heap.size) (hok : ¬ OpsOk os) :
    Calls Tryd.prog 13 #[.slice A os.length c] w (GivesNoRun w) := by
  have hB0 := (Below.refl w.heap.size w).alloc (Nat.le_refl _) (.cells zero5 38)
  have HB0 := hide hB0
  have L0 := hide (Lies.new w zero5 38)
  have HC := hide (watched_bad A os c (.func (.func 26) #[] #[]) _ (h.later hB0 (Nat.le_refl _)) (hF.later hB0 (Nat.le_refl _)) hok)
  clear hB0 hok
  go_enter Tryd.func13, Tryd.ntmps13
  go_upto_region 1 with fail
  unfold zero5 at HB0 L0 HC
  have hlt := L0.out.lt
  generalize w.alloc (.cells #[.slice none 0 0, .slice none 0 0, .slice none 0 0, .slice none 0 0, .bool false] 38) = W at HB0 L0 HC hlt ⊢
  go_wp2_with (go_at_call 25; refine HC.out.mono ?_; rintro e w2 ⟨rfl, hb⟩; simp only [shVal, shCells, ShPtr.nil, Shp.zero, List.length_nil]; have hS := Lies.below L0.out hb hlt; obtain ⟨⟨r0, r1, r2, r3, r4, f0, f1, f2, f3, f4, s0, s1, s2, s3, s4⟩, hlf⟩ := Lies.set5 hS (.slice none 0 0) (.slice none 0 0) (.slice none 0 0) (.slice none 0 0) (.bool false); have HB := hide (set5_below (v0 := .slice none 0 0) (v1 := .slice none 0 0) (v2 := .slice none 0 0) (v3 := .slice none 0 0) (v4 := .bool false) (HB0.out.trans (hb.mono HB0.out.size)) (Nat.le_refl _)); clear hS hb hlf)
  refine bodyPost_ret (v := .tuple #[shVal ShPtr.nil Shp.zero, .int .i64 (-1)]) (by simp [shVal, shCells, ShPtr.nil, Shp.zero, results, Tryd.results13, go_sem, s0, s1, s2, s3, s4]) rfl ?_
  exact ⟨rfl, HB.out⟩
end Go.Proofs.YtbihgafkmmcjlaaDoor

namespace Go.Proofs.YtbihgafkmmcjlaaDoor
open Go.RowKit
set_option linter.unusedVariables false
set_option maxRecDepth 100000 in
set_option maxHeartbeats 1000000 in
theorem implCutOps_any (A : Option Addr) (os : List Od) (c : Nat) (w : World) (h : OpsAt w w.heap.size A os) (hnil : A = none → c = 0) (hcap : os.length ≤ c) (hF : FormsAt w w.heap.size) (hN : NeedsAt w w.heap.size) :
    Calls Tryd.prog 8 #[.slice A os.length c] w (GivesOw w (cutOf os)) := by
  by_cases hok : OpsOk os
  · have HC := hide (implShapesOf_ok A os c w h hF hN hok)
    have hn := (runNew_le hok.2).2.2
    have hl := hok.1
    rw [cutOf_ok hok]
    obtain ⟨R, hR⟩ : ∃ R, R = runShp Shp.new os := ⟨_, rfl⟩
    rw [← hR] at HC hn ⊢
    clear hR
    obtain ⟨s0, n⟩ := R
    simp only at hn ⊢
    have HT : Hid ((os.take n).length = n) := hide (by simp; omega)
    have Hnil := hide hnil
    have Hop := hide h
    have hn1 : ((n : Int) == -1) = false := by rw [beq_eq_false_iff_ne]; omega
    have hnc : (n : Int) ≤ (c : Int) := by omega
    clear h hF hN hok hnil
    go_enter Tryd.func8, Tryd.ntmps8
    go_wp2_with fail
    refine HC.out.mono ?_
    clear HC
    rintro e w1 ⟨p, rfl, ho, hb1⟩
    have HB := hide (hb1.alloc hb1.size (.cells (shCells p s0) 38))
    clear ho hb1
    simp only [shVal, shCells] at HB ⊢
    go_wp2_with fail
    generalize w1.alloc (.cells #[.slice p.K s0.kinds.length p.c1, .slice p.F s0.full.length p.c2, .slice p.S s0.stack.length p.c3, .slice p.M s0.memo.length p.c4, .bool s0.done] 38) = W at HB ⊢
    have HD := cloneO_any A (os.take n) c W ((Hop.out.begin n).later HB.out (Nat.le_refl _)) Hnil.out (by simp; omega)
    rw [HT.out] at HD
    refine HD.mono ?_
    clear HD
    rintro e w2 ⟨A2, c2, rfl, ho2, hb2⟩
    have HO := hide (ho2.mono HB.out.size)
    have HB2 := hide (HB.out.trans (hb2.mono HB.out.size))
    clear ho2 hb2
    go_wp2
    go_ret
    exact ⟨A2, c2, congrArg (fun k => Ending.returned (Value.slice A2 k c2)) HT.out.symm, HO.out, HB2.out⟩
  · have HC := hide (implShapesOf_bad A os c w h hF hok)
    rw [cutOf_no hok]
    clear h hF hok hN hnil
    go_enter Tryd.func8, Tryd.ntmps8
    go_wp2_with fail
    refine HC.out.mono ?_
    clear HC
    rintro e w1 ⟨rfl, hb1⟩
    have HB := hide (hb1.alloc hb1.size (.cells (shCells ShPtr.nil Shp.zero) 38))
    clear hb1
    simp only [shVal, shCells, ShPtr.nil, Shp.zero, List.length_nil] at HB ⊢
    go_wp2
    go_ret
    exact ⟨none, 0, rfl, OwnO.empty _ _, HB.out⟩
end Go.Proofs.YtbihgafkmmcjlaaDoor
