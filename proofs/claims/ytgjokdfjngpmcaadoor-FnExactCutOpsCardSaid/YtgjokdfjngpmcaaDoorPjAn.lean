/-
  Lemmas, several texts in one: RunM, Rep, WatB, ClnO.
-/
import Derived.Test.YtgjokdfjngpmcaaDoorPjAg
import Derived.Test.YtgjokdfjngpmcaaDoorPjAa
import Derived.Test.YtgjokdfjngpmcaaDoorPjAl
import Derived.Laws.CopyOwn
import Derived.Laws.OwnMore
import Derived.Deep.RegionLaw
import Derived.Deep.LoopGhost
import Derived.Deep.Cut
import Derived.Test.YtgjokdfjngpmcaaDoorShpR
namespace Go.Proofs.YtgjokdfjngpmcaaDoor
open Go.RowKit
set_option linter.unusedVariables false

/-- shapes in the box q, and the box q2 for what comes back -/
structure RunS (w wr : World) (q q2 : Nat) (p : ShPtr) (s : Shp) : Prop where
  bel : Below w.heap.size w wr
  box : Lies wr q (shCells p s) 34
  res : Lies wr q2 zero5 34
  own : ShOwn wr w.heap.size p s
  off : p.Off q
  off2 : p.Off q2
  h1 : w.heap.size ≤ q
  h2 : w.heap.size ≤ q2
  ne : q ≠ q2

theorem RunS.below {w wr w' : World} {q q2 : Nat} {p : ShPtr} {s : Shp} (h : RunS w wr q q2 p s) (hb : Below wr.heap.size wr w') : RunS w w' q q2 p s :=
  ⟨h.bel.trans (hb.mono h.bel.size), h.box.below hb h.box.lt, h.res.below hb h.res.lt, h.own.below hb, h.off, h.off2, h.h1, h.h2, h.ne⟩

/-- what runShapes hands back -/
def GivesRun (w : World) (r : Shp × Nat) (e : Ending) (w' : World) : Prop := ∃ p, e = .returned (.tuple #[shVal p r.1, .int .i64 (r.2 : Int)]) ∧ ShOwn w' w.heap.size p r.1 ∧ Below w.heap.size w w'

/-- the box is written anew, with shapes in newer memory -/
theorem RunS.next {w Y : World} {q q2 lo : Nat} {p p' : ShPtr} {s t : Shp} (h : RunS w Y q q2 p s) (ho : ShOwn Y lo p' t) (hq : q < lo) (hq2 : q2 < lo) :
    RunS w (set5 Y q (.slice p'.K t.kinds.length p'.c1) (.slice p'.F t.full.length p'.c2) (.slice p'.S t.stack.length p'.c3) (.slice p'.M t.memo.length p'.c4) (.bool t.done)) q q2 p' t := by
  have o1 : p'.Off q := ho.off (.inl hq)
  have o2 : p'.Off q2 := ho.off (.inl hq2)
  have hw := h.h1
  exact ⟨set5_below h.bel h.h1, (Lies.set5 h.box _ _ _ _ _).2, (set5_block h.ne.symm).trans h.res, (ho.mono (by omega)).set5 o1, o1, o2, h.h1, h.h2, h.ne⟩

/-- another box is written -/
theorem RunS.side {w Y : World} {q q2 nb : Nat} {p : ShPtr} {s : Shp} {v0 v1 v2 v3 v4 : Value} (h : RunS w Y q q2 p s) (ho : p.Off nb) (hw : w.heap.size ≤ nb) (hq : q ≠ nb) (hq2 : q2 ≠ nb) : RunS w (set5 Y nb v0 v1 v2 v3 v4) q q2 p s :=
  ⟨set5_below h.bel hw, (set5_block hq).trans h.box, (set5_block hq2).trans h.res, h.own.set5 ho, h.off, h.off2, h.h1, h.h2, h.ne⟩

/-- the memory behind a step that was tried -/
structure RunN (w Y : World) (q q2 : Nat) (p : ShPtr) (s : Shp) (nb : Nat) (p5 : ShPtr) (s5 : Shp) (ok : Bool) (r : Option Shp) : Prop where
  run : RunS w Y q q2 p s
  box : Lies Y nb (shCells p5 s5) 34
  good : ∀ t, r = some t → ok = true ∧ s5 = t ∧ ∃ lo, ShOwn Y lo p5 t ∧ q < lo ∧ q2 < lo
  bad : r = none → ok = false

/-- the box of what came back is written -/
theorem RunN.mk' {w Y : World} {q q2 nb lo : Nat} {p p5 : ShPtr} {s s5 : Shp} {ok : Bool} {r : Option Shp} (h : RunS w Y q q2 p s) (hz : Lies Y nb #[.slice none 0 0, .slice none 0 0, .slice none 0 0, .slice none 0 0, .bool false] 34)
    (ho : p.Off nb) (hw : w.heap.size ≤ nb) (hq : q ≠ nb) (hq2 : q2 ≠ nb) (hl : q < lo) (hl2 : q2 < lo) (hg : ∀ t, r = some t → ok = true ∧ s5 = t ∧ ShOwn Y lo p5 t ∧ p5.Off nb) (hb : r = none → ok = false) :
    RunN w (set5 Y nb (.slice p5.K s5.kinds.length p5.c1) (.slice p5.F s5.full.length p5.c2) (.slice p5.S s5.stack.length p5.c3) (.slice p5.M s5.memo.length p5.c4) (.bool s5.done)) q q2 p s nb p5 s5 ok r :=
  ⟨h.side ho hw hq hq2, (Lies.set5 hz _ _ _ _ _).2, fun t ht => by
    obtain ⟨h1, h2, h3, h4⟩ := hg t ht
    exact ⟨h1, h2, lo, h3.set5 h4, hl, hl2⟩, hb⟩

/-- what a drawn statement that steps shapes holds: the box, and the order's two cells -/
def HeldR (q b i : Nat) (cs : Array Value) (u v : Value) (w' : World) : Prop := Lies w' q cs 34 ∧ w'.cell? ⟨b, i, none⟩ = some u ∧ w'.cell? ⟨b, i + 1, none⟩ = some v

theorem HeldR.below {q b i B : Nat} {cs : Array Value} {u v : Value} {X w' : World} (h : HeldR q b i cs u v X) (hb : Below B X w') (hq : q < B) (hbB : b < B) : HeldR q b i cs u v w' :=
  ⟨h.1.below hb hq, (hb.cell (p := ⟨b, i, none⟩) hbB).trans h.2.1, (hb.cell (p := ⟨b, i + 1, none⟩) hbB).trans h.2.2⟩
theorem HeldR.set5 {q b i nb : Nat} {cs : Array Value} {u v v0 v1 v2 v3 v4 : Value} {X : World} (h : HeldR q b i cs u v X) (hq : q ≠ nb) (hbB : b ≠ nb) : HeldR q b i cs u v (set5 X nb v0 v1 v2 v3 v4) :=
  ⟨(set5_block hq).trans h.1, (World.cell?_of_block (w := X) (set5_block hbB)).trans h.2.1, (World.cell?_of_block (w := X) (set5_block hbB)).trans h.2.2⟩

end Go.Proofs.YtgjokdfjngpmcaaDoor

namespace Go.Proofs.YtgjokdfjngpmcaaDoor
open Go.RowKit
set_option linter.unusedVariables false

set_option maxRecDepth 100000 in
set_option maxHeartbeats 1000000 in
theorem mul64_one (w : World) : Calls Tryd.prog 46 #[.int .u64 1, .int .u64 20] w fun e w' => e = .returned (.tuple #[.int .u64 0, .int .u64 20]) ∧ w = w' := by
  go_enter Tryd.func46, Tryd.ntmps46
  go_wp2
  go_ret2
  exact ⟨rfl, rfl⟩

set_option maxRecDepth 100000 in
set_option maxHeartbeats 1000000 in
theorem mul_one' (w : World) : Calls Tryd.prog 40 #[.int .u64 1, .int .u64 20] w fun e w' => e = .returned (.tuple #[.int .u64 0, .int .u64 20]) ∧ w = w' := by
  go_enter Tryd.func40, Tryd.ntmps40
  go_wp2_with (go_at_call 46; refine (mul64_one _).mono ?_; rintro e w' ⟨rfl, rfl⟩)
  go_ret2
  exact ⟨rfl, rfl⟩

/-- k numbers x, and zeros behind them -/
def rowL (x : Int) (k : Nat) : List Value := List.replicate k (.int .i64 x) ++ List.replicate (20 - k) (.int .i64 0)
theorem rowL_len (x : Int) {k : Nat} (h : k ≤ 20) : (rowL x k).length = 20 := by unfold rowL; simp; omega
theorem rowL_splice (x : Int) {k m : Nat} (h : k + m ≤ 20) : splice (rowL x k) k (List.replicate m (.int .i64 x)) = rowL x (k + m) := by
  unfold splice rowL
  rw [List.take_left' (by simp), List.length_replicate, List.drop_append, List.drop_eq_nil_of_le (by simp), List.nil_append, List.length_replicate, List.drop_replicate, ← List.append_assoc, List.replicate_append_replicate]
  congr 2
  omega
theorem rowL_at (x : Int) {k j : Nat} (h : j < k) : (rowL x k)[j]? = some (.int .i64 x) := by
  unfold rowL
  rw [List.getElem?_append_left (by simpa using h), List.getElem?_replicate, if_pos h]

theorem made20 (x : Int) : madeCells (Value.int .i64 0).cells (20 * 1) = (rowL x 0).toArray := by
  apply Array.ext'
  rw [show (Value.int .i64 0).cells = #[.int .i64 0] from rfl, toList_madeCells_one]
  rfl

theorem LieL.cell {w : World} {g : Nat} {L : List Value} {t : TypeId} (h : w.heap[g]? = some (.cells L.toArray t (0, 0))) {j : Nat} {v : Value} (hj : L[j]? = some v) : w.cell? ⟨g, j, none⟩ = some v := by
  have := Lies.cell h j
  rw [this]
  simpa using hj

theorem rowL_src {w : World} {g k m : Nat} {x : Int} {t : TypeId} (h : w.heap[g]? = some (.cells (rowL x k).toArray t (0, 0))) (hm : m ≤ k) : ∀ j v, (List.replicate m (Value.int .i64 x))[j]? = some v → w.drew.cell? ((⟨g, 0, none⟩ : Addr).add j) = some v := by
  intro j v hv
  rw [List.getElem?_replicate] at hv
  split at hv
  · next hj =>
    have hadd : (⟨g, 0, none⟩ : Addr).add j = ⟨g, j, none⟩ := by
      unfold Addr.add
      split
      · rename_i h0; subst h0; rfl
      · simp
    rw [hadd]
    rw [← hv]
    exact LieL.cell (w := w) h (rowL_at x (by omega))
  · cases hv

set_option maxRecDepth 100000 in
set_option maxHeartbeats 1000000 in
theorem repeat_20 (b : Nat) (x : Int) (c : Nat) (w : World) (hb : b < w.heap.size) (hx : w.cell? ⟨b, 0, none⟩ = some (.int .i64 x)) (hx64 : In64 x) :
    Calls Tryd.prog 36 #[.slice (some ⟨b, 0, none⟩) 1 c, .int .i64 20] w (GivesInts w (List.replicate 20 x)) := by
  obtain ⟨R, hR⟩ : ∃ R, R = List.replicate 20 x := ⟨_, rfl⟩
  rw [← hR]
  have HR := hide hR
  clear hR
  have hmk : ∀ w' : World, (Instr.makeSlice 31 (.int .i64 20) (.int .i64 20)).run Tryd.prog w' = .ok (.slice (some ⟨w'.heap.size, 0, none⟩) 20 20) (w'.alloc (.cells (rowL x 0).toArray 3)) := fun w' =>
    (run_make_rows 31 3 (.int .i64 0) 1 8 Tryd.underlying31 infoI .i64 .i64 20 (by omega) (by omega) w').trans (by rw [made20 x])
  go_enter Tryd.func36, Tryd.ntmps36
  go_upto_region 7 with (go_at_call 40; refine (mul_one' _).mono ?_; rintro e w' ⟨rfl, rfl⟩)
  have hlie : (w.alloc (.cells (rowL x 0).toArray 3)).heap[w.heap.size]? = some (.cells (rowL x 0).toArray 3 (0, 0)) := heap_alloc_new w _
  have hB0 := (Below.refl w.heap.size w).alloc (Nat.le_refl _) (.cells (rowL x 0).toArray 3)
  have hx2 := (hB0.cell (p := ⟨b, 0, none⟩) hb).trans hx
  have HL0 := hide hlie
  have HB0 := hide hB0
  clear hlie hB0 hmk
  generalize w.alloc (.cells (rowL x 0).toArray 3) = W at HL0 HB0 hx2 ⊢
  generalize hG : w.heap.size = g at HL0 ⊢
  have HG := hide hG
  clear hG hx
  have hc1 : ∀ j v, [Value.int .i64 x][j]? = some v → W.cell? ((⟨b, 0, none⟩ : Addr).add j) = some v := by
    intro j v hv
    match j, hv with
    | 0, hv =>
      simp at hv
      subst hv
      exact hx2
  have hc2 : 0 + [Value.int .i64 x].length ≤ (rowL x 0).length := by rw [rowL_len x (by omega)]; simp
  have hc3 : ∀ v ∈ [Value.int .i64 x], v.oneCell' = true := by intro v hv; simp at hv; subst hv; rfl
  have HC1 := hide hc1
  have HC3 := hide hc3
  clear hc1 hc3
  go_upto_region 8 with (with_reducible refine wpList_copy_splice rfl (.tmp 31) (.tmp 32) 31 31 rfl 3 Tryd.underlying31 (by kernel_rfl) (some ⟨g, 0, none⟩) (some ⟨b, 0, none⟩) 20 20 1 c rfl rfl g 0 (rowL x 0) 3 HL0.out [.int .i64 x] rfl (fun _ => ⟨rfl, _, rfl, HC1.out⟩) hc2 HC3.out w.heap.size w HB0.out (by rw [HG.out]; exact Nat.le_refl _) ?_; intro w2 hL2 hB2)
  have HL2 := hide (show w2.heap[g]? = some (.cells (rowL x 1).toArray 3 (0, 0)) from by
    have h := hL2.out
    rw [show splice (rowL x 0) 0 [Value.int .i64 x] = rowL x (0 + 1) from rowL_splice x (k := 0) (m := 1) (by omega)] at h
    exact h)
  clear hL2 HL0 HB0 hc2 HC1 HC3 hx2
  have HB2 := hide hB2
  clear hB2
  go_wp2_with fail
  go_loopg [8] 19 (fun gk nv wr => ∃ k : Nat, 1 ≤ k ∧ k ≤ 20 ∧ gk = 20 - k ∧ nv = .int .i64 (k : Int) ∧ wr.heap[g]? = some (.cells (rowL x k).toArray 3 (0, 0)) ∧ Below w.heap.size w wr)
  case atStart => exact ⟨1, by omega, by omega, by omega, by go_num, HL2.out, HB2.out⟩
  case round =>
    clear HL2 HB2
    obtain ⟨k, hk1, hk2, rfl, rfl, hL, hB⟩ := hrel
    have HL := hide hL
    have HB := hide hB
    clear hL hB
    by_cases hlt : k < 20
    · have hlt2 : (k : Int) < 20 := by omega
      have hk0 : (0 : Int) ≤ (k : Int) := by omega
      have hle2 : (k : Int) ≤ 20 := by omega
      have hn20 : ¬ k = 20 := by omega
      have hn20' : ¬ 20 = k := by omega
      obtain ⟨d, hd⟩ : ∃ d, 20 - k = d := ⟨_, rfl⟩
      obtain ⟨m, hm⟩ : ∃ m, min k d = m := ⟨_, rfl⟩
      have Hm := hide hm
      have hm1 : 1 ≤ m := by omega
      have hm2 : m ≤ k := by omega
      have hm3 : m ≤ d := by omega
      clear hm
      have hkd1 : k + d ≤ 20 := by omega
      have hkd2 : 20 ≤ k + d := by omega
      have hwr : IntKind.i64.wrap ((k : Int) + (m : Int)) = (k : Int) + (m : Int) := by rw [IntKind.wrap_i64]; omega
      go_wp2_with fail
      go_region_law (first
        | (refine step_copy_splice (by rfl) (.tmp 41) (.tmp 44) 31 31 (by rfl) 3 Tryd.underlying31 (by kernel_rfl) (some ⟨g, k, none⟩) (some ⟨g, 0, none⟩) d d k 20 (by simp [Act.eval, Act.put]) (by simp [Act.eval, Act.put]) g k (rowL x k) 3 HL.out (List.replicate m (.int .i64 x)) (by rw [List.length_replicate]; exact Hm.out.symm) (fun _ => ⟨rfl, _, rfl, rowL_src HL.out hm2⟩) (by rw [rowL_len x (by omega)]; simp; omega) (by intro v hv; rw [List.eq_of_mem_replicate hv]; rfl) w.heap.size w HB.out.drew (by rw [HG.out]; exact Nat.le_refl _) ?_; intro w3 hL3 hB3))
      all_goals
        have HL3 := hide (show w3.heap[g]? = some (.cells (rowL x (k + m)).toArray 3 (0, 0)) from by
          have h := hL3.out
          rw [rowL_splice x (by omega)] at h
          exact h)
        have HB3 := hide hB3
        clear hL3 hB3 hd hwr
        go_wp2
        go_roundg (20 - (k + m))
        case measure => omega
        case rel => exact ⟨k + m, by omega, by omega, rfl, by go_num, HL3.out, HB3.out⟩
    · obtain rfl : k = 20 := by omega
      rw [show ((20 : Nat) : Int) = 20 from rfl]
      go_wp2
      go_ret
      rw [HR.out]
      exact ⟨some ⟨g, 0, none⟩, 20, rfl, ⟨⟨by simp, .inr ⟨g, 20, (rowL x 20).toArray, rfl, by rw [HG.out]; exact Nat.le_refl _, HL.out, by simp, by unfold maxLen; omega, by simp [rowL], by simp [rowL]⟩⟩⟩, HB.out⟩

end Go.Proofs.YtgjokdfjngpmcaaDoor

namespace Go.Proofs.YtgjokdfjngpmcaaDoor
open Go.RowKit
set_option linter.unusedVariables false

/-- no valid program -/
def GivesNoRun (w : World) (e : Ending) (w' : World) : Prop := e = .returned (.tuple #[shVal ShPtr.nil Shp.zero, .int .i64 (-1)]) ∧ Below w.heap.size w w'

set_option maxRecDepth 100000 in
set_option maxHeartbeats 1000000 in
theorem watched_bad (A : Option Addr) (os : List Od) (c : Nat) (v : Value) (w : World) (h : OpsAt w w.heap.size A os) (hF : FormsAt w w.heap.size) (hok : ¬ OpsOk os) :
    Calls Tryd.prog 21 #[.slice A os.length c, v] w (GivesNoRun w) := by
  have hB0 := (Below.refl w.heap.size w).alloc (Nat.le_refl _) (.cells zero5 34)
  have HB0 := hide hB0
  have L0 := hide (Lies.new w zero5 34)
  have HV := hide (implValidOps_any A os c _ (h.later hB0 (Nat.le_refl _)) (hF.later hB0 (Nat.le_refl _)))
  have Ht := hide (show tf (OpsOk os) = false from tf_false hok)
  clear hok hB0
  go_enter Tryd.func21, Tryd.ntmps21
  go_upto_region 1 with fail
  unfold zero5 at HB0 L0 HV
  have hlt := L0.out.lt
  generalize w.alloc (.cells #[.slice none 0 0, .slice none 0 0, .slice none 0 0, .slice none 0 0, .bool false] 34) = W at HB0 L0 HV hlt ⊢
  go_wp2_with fail
  refine HV.out.mono ?_
  rw [Ht.out]
  rintro e w2 ⟨rfl, hb⟩
  have hS := Lies.below L0.out hb hlt
  obtain ⟨⟨r0, r1, r2, r3, r4, f0, f1, f2, f3, f4, s0, s1, s2, s3, s4⟩, _⟩ := Lies.set5 hS (.slice none 0 0) (.slice none 0 0) (.slice none 0 0) (.slice none 0 0) (.bool false)
  have HB := hide (set5_below (v0 := .slice none 0 0) (v1 := .slice none 0 0) (v2 := .slice none 0 0) (v3 := .slice none 0 0) (v4 := .bool false) (HB0.out.trans (hb.mono HB0.out.size)) (Nat.le_refl _))
  clear hS hb HB0 L0 HV
  go_wp2
  refine bodyPost_ret (v := .tuple #[shVal ShPtr.nil Shp.zero, .int .i64 (-1)]) (by simp [shVal, shCells, ShPtr.nil, Shp.zero, results, Tryd.results21, go_sem, s0, s1, s2, s3, s4]) rfl ?_
  exact ⟨rfl, HB.out⟩

end Go.Proofs.YtgjokdfjngpmcaaDoor

namespace Go.Proofs.YtgjokdfjngpmcaaDoor
open Go.RowKit
set_option linter.unusedVariables false

set_option maxHeartbeats 1000000 in
theorem cloneO_any (A : Option Addr) (os : List Od) (c : Nat) (w : World) (h : OpsAt w w.heap.size A os) (hnil : A = none → c = 0) (hl : os.length ≤ 1000) :
    Calls Tryd.prog 15 #[.slice A os.length c] w (GivesOw w os) := by
  cases A with
  | none =>
    have hos : os = [] := by
      cases os with
      | nil => rfl
      | cons o os =>
        obtain ⟨b, off, e, _⟩ := h.row (by simp)
        cases e
    have hq := fun W : World => Go.Lib.run_eql_slice_nil (P := Tryd.prog) W 24 38 none 0 0 0 0 Tryd.underlying24
    subst hos
    obtain rfl := hnil rfl
    clear h hnil
    show Calls _ _ #[.slice none 0 0] _ _
    go_enter Tryd.func15, Tryd.ntmps15
    go_wp2
    go_ret
    exact ⟨none, 0, rfl, OwnO.empty _ _, Below.refl _ _⟩
  | some ad =>
    have hq := fun W : World => Go.Lib.run_eql_slice_nil (P := Tryd.prog) W 24 38 (some ad) os.length c 0 0 Tryd.underlying24
    have HO := hide (OwnO.bare w)
    have HB := hide ((Below.refl w.heap.size w).alloc (Nat.le_refl _) (.cells #[] 38))
    have HA := hide (h.below HB.out)
    clear h
    go_enter Tryd.func15, Tryd.ntmps15
    go_wp2_with (at_builtin; refine append_ops rfl (.tmp 5) (.tmp 6) rfl w.heap.size _ 0 [] rfl HO.out w.heap.size (some ad) c os rfl (fun e => by cases e) HA.out (by simp; omega) HB.out.size ?_; intro zs A5 c5 w5 e5 own5 hg5 _; have HG5 := hide hg5; have HO5 := hide own5; clear hg5 own5)
    go_ret
    have e6 : zs = os := by rw [e5.out, List.nil_append]
    subst e6
    exact ⟨A5, c5, rfl, HO5.out, below_grown HB.out HG5.out HB.out.size (fun q hq => (HO.out.blocks q hq).1)⟩

end Go.Proofs.YtgjokdfjngpmcaaDoor
