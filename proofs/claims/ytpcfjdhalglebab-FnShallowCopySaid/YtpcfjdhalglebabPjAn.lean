/-
  Lemmas, several texts in one: KeyI, Keys, IsqM, HerI, ClaD.
-/
import Derived.Test.YtpcfjdhalglebabPjAa
import Derived.DeepKeys4
import Derived.Maps.OwnSet
import Derived.WalkSpells
import Derived.StillTailTactics
import Derived.Deep.QuietTactic
import Derived.BigQuiet
import Derived.Deep.RegionLaw
import Derived.Deep.AppendLies
import Derived.Test.YtpcfjdhalglebabIso
import Derived.Test.YtpcfjdhalglebabPjAl
import Derived.Test.YtpcfjdhalglebabPjAk
import Derived.IntWalk
import Derived.Deep.Cut
import Derived.Test.YtpcfjdhalglebabClaI
namespace Go.Proofs.Ytpcfjdhalglebab
open Go.RowKit Go.Maps

theorem laidOutP : laidOutB Try.prog = true := by kernel_rfl
theorem cellsI : Try.prog.cellsOf 3 = 1 := by kernel_rfl
theorem lawI : Keyed Try.prog 3 := int_keyed Try.underlying3
theorem wf_of_in64 {x : Int} (h : In64 x) : (Lit.int .i64 x).wf = true := WalkArith.wf_i64 h
theorem keyOf_i {x : Int} (h : In64 x) : keyOf Try.prog 3 (.int .i64 x) = some (.int .i64 x) := keyOf_int_mk Try.underlying3 (wf_of_in64 h)
theorem zeroI (w : World) : (zeroValue 3).run Try.prog w = .ok (.int .i64 0) w := by kernel_rfl

/-- but for block g nothing below base has turned -/
structure But (base g : Nat) (w w' : World) : Prop where
  os : w'.os = w.os
  tape : w'.tape = w.tape
  output : w'.output = w.output
  size : w.heap.size ≤ w'.heap.size
  block : ∀ k, k < base → k ≠ g → w'.heap[k]? = w.heap[k]?

theorem But.below {base g B : Nat} {w0 w w' : World} (h : But base g w w') (hb : Below B w0 w) (hg : B ≤ g) (hB : B ≤ base) : Below B w0 w' :=
  hb.trans ⟨h.os, h.tape, h.output, h.size, fun k hk => h.block k (by omega) (by omega)⟩

theorem But.trans {base g : Nat} {a b c : World} (h : But base g a b) (k : But base g b c) : But base g a c :=
  ⟨k.os.trans h.os, k.tape.trans h.tape, k.output.trans h.output, Nat.le_trans h.size k.size, fun j hj hjg => (k.block j hj hjg).trans (h.block j hj hjg)⟩

theorem But.of_below {base g : Nat} {w w' : World} (h : Below w.heap.size w w') (hb : base ≤ w.heap.size) : But base g w w' :=
  ⟨h.os, h.tape, h.output, h.size, fun j hj _ => h.block j (by omega)⟩

end Go.Proofs.Ytpcfjdhalglebab

namespace Go.Proofs.Ytpcfjdhalglebab
open Go.RowKit Go.Maps

theorem rowK : 73 < Try.prog.types.size := of_decide_eq_true (by kernel_rfl)
theorem lawK : Keyed Try.prog 73 := Keyed.of_law (deep_law_laid laidOutP (m := 2) (by omega) rowK (by kernel_rfl) (by kernel_rfl))
theorem typeK : Try.prog.keyType 73 = true := by kernel_rfl
theorem cellsK : Try.prog.cellsOf 73 = 2 := by kernel_rfl

def keyLit (k v : Int) : Lit := .string (keyBytes [.int .i64 k, .int .i64 v])

theorem size_succ : ∃ m, Try.prog.types.size + 1 = m + 3 := ⟨Try.prog.types.size - 2, by have := rowK; omega⟩

theorem lits_int {x : Int} (h : In64 x) (m : Nat) : Try.prog.keyLits (m + 1) 3 [.int .i64 x] = some [.int .i64 x] := by
  unfold Program.keyLits
  simp only [Try.underlying3]
  rw [if_pos ⟨trivial, wf_of_in64 h⟩]

theorem lits_key {k v : Int} (hk : In64 k) (hv : In64 v) (m : Nat) : Try.prog.keyLits (m + 2) 73 [.int .i64 k, .int .i64 v] = some [.int .i64 k, .int .i64 v] := by
  unfold Program.keyLits
  simp only [Try.underlying73]
  rw [if_pos ⟨cellsK.symm, by decide +kernel⟩]
  simp [cellsI, lits_int hk, lits_int hv]

theorem keyOf_key {k v : Int} (hk : In64 k) (hv : In64 v) : keyOf Try.prog 73 (.agg #[.int .i64 k, .int .i64 v]) = some (keyLit k v) := by
  have hf : (Value.agg #[.int .i64 k, .int .i64 v]).formed Try.prog 73 = true := by
    unfold Value.formed
    simp only [Try.underlying73, cellsK]
    rfl
  obtain ⟨m, hm⟩ := size_succ
  unfold keyOf
  simp only [Try.underlying73, typeK, hf, Bool.and_self, if_true, hm]
  rw [show (Value.agg #[.int .i64 k, .int .i64 v]).cells.toList = [.int .i64 k, .int .i64 v] from rfl, lits_key hk hv (m + 1)]
  rfl

theorem keyLit_inj {k v k' v' : Int} (hk : In64 k) (hv : In64 v) (hk' : In64 k') (hv' : In64 v') (h : keyLit k v = keyLit k' v') : k = k' ∧ v = v' := by
  have h1 := keyOf_key hk hv
  rw [h] at h1
  have := lawK.inj h1 (keyOf_key hk' hv')
  simp at this
  exact this

end Go.Proofs.Ytpcfjdhalglebab

namespace Go.Proofs.Ytpcfjdhalglebab
open Go.RowKit
set_option linter.unusedVariables false

theorem Iso.eqq {ns ms : List Nd} {D : Int → Prop} {g : Int → Int} (h : Iso ns ms D g) : ∀ (d : Nat) (x : Int), D x → Eqq ns ms d x (g x)
  | 0, _, _ => trivial
  | d + 1, x, hx => by
    obtain ⟨i, n, rfl, h1, h2⟩ := h.get hx
    obtain ⟨g0, g1⟩ := h.rng _ hx
    obtain ⟨j, hj⟩ := Int.eq_ofNat_of_zero_le g0
    rw [hj, Int.toNat_natCast] at h2
    rw [hj]
    refine (eqq_step h1 h2 d).2 ⟨⟨rfl, rfl, by simp⟩, fun p a b ha hb => ?_⟩
    rw [List.getElem?_map, ha] at hb
    obtain rfl := Option.some.inj hb
    exact Iso.eqq h d a (h.closed i n hx h1 a (List.mem_of_getElem? ha))

theorem Iso.eqAll {ns ms : List Nd} {D : Int → Prop} {g : Int → Int} (h : Iso ns ms D g) {x : Int} (hx : D x) : EqqAll ns ms x (g x) := fun d => h.eqq d x hx

end Go.Proofs.Ytpcfjdhalglebab

namespace Go.Proofs.Ytpcfjdhalglebab
open Go.RowKit Go.Maps
set_option linter.unusedVariables false

set_option maxHeartbeats 1000000 in
theorem haveEqualRoots_any (A B C : Option Addr) (nl ml ca cb cc : Nat) (r s : Int) (cls : List Int) (w : World) (hC : IntsAt w w.heap.size C cls) (hr0 : 0 ≤ r) (hr1 : r < cls.length) (hs0 : 0 ≤ s) (hs1 : nl + s < cls.length) (hl : cls.length ≤ 1000) :
    Calls Try.prog 26 #[.agg #[.slice A nl ca, .int .i64 r], .agg #[.slice B ml cb, .int .i64 s], .slice C cls.length cc] w fun e w' => e = .returned (.bool (decide (look cls r = look cls ((nl : Int) + s)))) ∧ Below w.heap.size w w' := by
  obtain ⟨i, rfl⟩ := Int.eq_ofNat_of_zero_le hr0
  obtain ⟨j, rfl⟩ := Int.eq_ofNat_of_zero_le hs0
  obtain ⟨b, off, x, rfl, hbl, hx, _, cx⟩ := hC.at_ (k := i) (by omega)
  obtain ⟨b2, off2, y, hb2, _, hy, _, cy⟩ := hC.at_ (k := nl + j) (by omega)
  injection hb2 with hb2
  injection hb2 with e1 e2 _
  subst e1
  subst e2
  have hB2 : Below w.heap.size w ((w.alloc (.cells #[.slice A nl ca, .int .i64 (i : Int)] 25)).alloc (.cells #[.slice B ml cb, .int .i64 (j : Int)] 25)) := ((Below.refl _ _).alloc (Nat.le_refl _) _).alloc (by simp) _
  have lA := (Lies.new w #[.slice A nl ca, .int .i64 (i : Int)] 25).alloc (.cells #[.slice B ml cb, .int .i64 (j : Int)] 25)
  have lB := Lies.new (w.alloc (.cells #[.slice A nl ca, .int .i64 (i : Int)] 25)) #[.slice B ml cb, .int .i64 (j : Int)] 25
  simp only [World.size_alloc] at lB
  have hx2 : look cls (i : Int) = x := look_at hx
  have hy2 : look cls ((nl : Int) + (j : Int)) = y := by
    have := look_at hy
    rwa [Int.natCast_add] at this
  have cx := (hB2.cell (p := ⟨b, off + i, none⟩) hbl).trans cx
  have cy := (hB2.cell (p := ⟨b, off + (nl + j), none⟩) hbl).trans cy
  have H1 := hide hx2
  have H2 := hide hy2
  clear hC hx hy hx2 hy2
  go_enter Try.func26, Try.ntmps26
  go_upto_region 1 with fail
  generalize (w.alloc (.cells #[.slice A nl ca, .int .i64 (i : Int)] 25)).alloc (.cells #[.slice B ml cb, .int .i64 (j : Int)] 25) = W at hB2 lA lB cx cy ⊢
  have e0 := lA.cell 0
  have e1 := lA.cell 1
  have d1 := lB.cell 1
  simp only [List.getElem?_toArray, List.getElem?_cons_zero, List.getElem?_cons_succ] at e0 e1 d1
  have HB := hide hB2
  have q1 : (0 : Int) ≤ (i : Int) := by omega
  have q2 : (i : Int) < (cls.length : Int) := by omega
  have q3 : (0 : Int) ≤ (nl : Int) + (j : Int) := by omega
  have q4 : (nl : Int) + (j : Int) < (cls.length : Int) := by omega
  have q5 : IntKind.i64.wrap ((nl : Int) + (j : Int)) = (nl : Int) + (j : Int) := by rw [IntKind.wrap_i64]; omega
  have q6 : ((nl : Int) + (j : Int)).toNat = nl + j := by omega
  clear lA lB hB2
  go_quiet (fail)
  go_wp2
  go_ret
  exact ⟨ret_bool (by rw [H1.out, H2.out]; first | rfl | simp), below_drewN HB.out _⟩

end Go.Proofs.Ytpcfjdhalglebab

namespace Go.Proofs.Ytpcfjdhalglebab
open Go.RowKit Go.Maps
set_option linter.unusedVariables false

set_option maxHeartbeats 1000000 in
theorem deepClasses_any (A : Option Addr) (ns : List Nd) (c : Nat) (w : World) (hr : NdsAt w w.heap.size A ns) (hK : KidsIn ns) (hn : ns.length ≤ 1000) (hc : ns.length ≤ c) :
    Calls Try.prog 24 #[.slice A ns.length c] w (GivesInts w (clsN ns ns.length)) := by
  have HC := hide (classesUpTo_any A ns c ns.length w hr hK hn hn hc)
  clear hr hK
  generalize clsN ns ns.length = R at HC ⊢
  go_enter Try.func24, Try.ntmps24
  go_wp2_with fail
  refine HC.out.mono ?_
  rintro e w2 ⟨Ag, cg, rfl, ho, hb⟩
  have H := hide (And.intro ho hb)
  clear ho hb
  go_wp2
  go_ret
  exact ⟨Ag, cg, rfl, H.out.1, H.out.2⟩

end Go.Proofs.Ytpcfjdhalglebab
