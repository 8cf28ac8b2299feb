/-
  Lemmas, several texts in one: EqdM, EqdB, HerI.
-/
import Derived.Test.YtbpjoiccjpiknaaPjAc
import Derived.Test.YtbpjoiccjpiknaaPjAh
import Derived.Test.YtbpjoiccjpiknaaRowN
import Derived.Test.YtbpjoiccjpiknaaPjAa
import Derived.IntWalk
import Derived.Deep.Cut
import Derived.Deep.QuietTactic
import Derived.BigQuiet
namespace Go.Proofs.Ytbpjoiccjpiknaa
open Go.RowKit Go.Maps
set_option linter.unusedVariables false

theorem joinNs_kids {ns ms : List Nd} (hn : KidsIn ns) (hm : KidsIn ms) : KidsIn (joinNs ns ms) := by
  intro n h k hk
  rw [joinNs_len]
  unfold joinNs at h
  rcases List.mem_append.1 h with h | h
  · have := hn n h k hk
    omega
  · obtain ⟨m, h1, rfl⟩ := List.mem_map.1 h
    obtain ⟨x, h2, rfl⟩ := List.mem_map.1 (show k ∈ m.kids.map (fun k => (ns.length : Int) + k) from hk)
    have := hm m h1 x h2
    omega

/-- the roots are in one class up to a depth -/
def RootsEq (ns : List Nd) (r : Int) (ms : List Nd) (s : Int) (d : Nat) : Prop := look (clsN (joinNs ns ms) d) r = look (clsN (joinNs ns ms) d) ((ns.length : Int) + s)
/-- the roots of valid graphs are equal however deep -/
def EqDeepG (ns : List Nd) (r : Int) (ms : List Nd) (s : Int) : Prop := ValidG ns r ∧ ValidG ms s ∧ RootsEq ns r ms s (joinNs ns ms).length
/-- .. up to a depth -/
def EqToG (ns : List Nd) (r : Int) (ms : List Nd) (s d : Int) : Prop := ValidG ns r ∧ ValidG ms s ∧ 0 ≤ d ∧ d ≤ 8 ∧ RootsEq ns r ms s d.toNat

theorem RootsEq.tf_def (ns : List Nd) (r : Int) (ms : List Nd) (s : Int) (d : Nat) : decide (look (clsN (joinNs ns ms) d) r = look (clsN (joinNs ns ms) d) ((ns.length : Int) + s)) = tf (RootsEq ns r ms s d) := by
  by_cases h : RootsEq ns r ms s d
  · rw [tf_true h]; exact decide_eq_true h
  · rw [tf_false h]; exact decide_eq_false h

theorem joined_small {ns ms : List Nd} {r s : Int} (hv : ValidG ns r) (hw : ValidG ms s) : (joinNs ns ms).length ≤ 24 := by
  have := hv.few
  have := hw.few
  rw [joinNs_len]
  omega

end Go.Proofs.Ytbpjoiccjpiknaa

namespace Go.Proofs.Ytbpjoiccjpiknaa
open Go.RowKit Go.Maps
set_option linter.unusedVariables false

theorem validG_bounds {ns : List Nd} {r : Int} (hv : ValidG ns r) : ns.length ≤ 12 ∧ (∀ n ∈ ns, n.kids.length ≤ 1000 ∧ ∀ k ∈ n.kids, 0 ≤ k ∧ k ≤ 1000000) := by
  refine ⟨hv.few, fun n hn => ⟨by have := (hv.nodes n hn).few; omega, fun k hk => ?_⟩⟩
  have h1 := validG_kids hv n hn k hk
  have h2 := hv.few
  omega

theorem RowN.wfJ {ns ms : List Nd} {r s : Int} {w : World} {B B2 : Nat} {A A2 : Option Addr} (hv : ValidG ns r) (hw : ValidG ms s) (h1 : NdsAt w B A ns) (h2 : NdsAt w B2 A2 ms) : WfN (joinNs ns ms) := by
  have w1 := h1.wf
  have w2 := h2.wf
  intro n hn
  unfold joinNs at hn
  rcases List.mem_append.1 hn with hn | hn
  · exact w1 n hn
  · obtain ⟨m, hm, rfl⟩ := List.mem_map.1 hn
    obtain ⟨a1, a2, a3, a4⟩ := w2 m hm
    refine ⟨a1, a2, fun x hx => ?_, by simpa [shiftNd] using a4⟩
    obtain ⟨k, hk, rfl⟩ := List.mem_map.1 (show x ∈ m.kids.map (fun k => (ns.length : Int) + k) from hx)
    have h3 := (validG_bounds hw).2 m hm
    have h4 := h3.2 k hk
    have h5 := hv.few
    constructor <;> omega

theorem RowN.capJ {w : World} {base : Nat} {A : Option Addr} {c : Nat} {ns : List Nd} (h : RowN w base A c ns) : ns.length ≤ c := by
  obtain ⟨cs, h1, _⟩ := h.row
  rcases h1.2 with ⟨_, h2⟩ | ⟨g, cap, cur, hv, _, _, hle, _⟩
  · omega
  · injection hv with _ _ hv
    omega

end Go.Proofs.Ytbpjoiccjpiknaa

namespace Go.Proofs.Ytbpjoiccjpiknaa
open Go.RowKit Go.Maps
set_option linter.unusedVariables false

set_option maxHeartbeats 1000000 in
theorem haveEqualRoots_any (A B C : Option Addr) (nl ml ca cb cc : Nat) (r s : Int) (cls : List Int) (w : World) (hC : IntsAt w w.heap.size C cls) (hr0 : 0 ≤ r) (hr1 : r < cls.length) (hs0 : 0 ≤ s) (hs1 : nl + s < cls.length) (hl : cls.length ≤ 1000) :
    Calls Try.prog 17 #[.agg #[.slice A nl ca, .int .i64 r], .agg #[.slice B ml cb, .int .i64 s], .slice C cls.length cc] w fun e w' => e = .returned (.bool (decide (look cls r = look cls ((nl : Int) + s)))) ∧ Below w.heap.size w w' := by
  obtain ⟨i, rfl⟩ := Int.eq_ofNat_of_zero_le hr0
  obtain ⟨j, rfl⟩ := Int.eq_ofNat_of_zero_le hs0
  obtain ⟨b, off, x, rfl, hbl, hx, _, cx⟩ := hC.at_ (k := i) (by omega)
  obtain ⟨b2, off2, y, hb2, _, hy, _, cy⟩ := hC.at_ (k := nl + j) (by omega)
  injection hb2 with hb2
  injection hb2 with e1 e2 _
  subst e1
  subst e2
  have hB2 : Below w.heap.size w ((w.alloc (.cells #[.slice A nl ca, .int .i64 (i : Int)] 29)).alloc (.cells #[.slice B ml cb, .int .i64 (j : Int)] 29)) := ((Below.refl _ _).alloc (Nat.le_refl _) _).alloc (by simp) _
  have lA := (Lies.new w #[.slice A nl ca, .int .i64 (i : Int)] 29).alloc (.cells #[.slice B ml cb, .int .i64 (j : Int)] 29)
  have lB := Lies.new (w.alloc (.cells #[.slice A nl ca, .int .i64 (i : Int)] 29)) #[.slice B ml cb, .int .i64 (j : Int)] 29
  simp only [World.size_alloc] at lB
  have hx2 : look cls (i : Int) = x := look_at hx
  have hy2 : look cls ((nl : Int) + (j : Int)) = y := by
    have := look_at hy
    rwa [Int.natCast_add] at this
  have cx := (hB2.cell (p := ⟨b, off + i, none⟩) hbl).trans cx
  have cy := (hB2.cell (p := ⟨b, off + (nl + j), none⟩) hbl).trans cy
  have H1 := hide hx2
  have H2 := hide hy2
  clear hC hx hy hx2 hy2
  go_enter Try.func17, Try.ntmps17
  go_upto_region 1 with fail
  generalize (w.alloc (.cells #[.slice A nl ca, .int .i64 (i : Int)] 29)).alloc (.cells #[.slice B ml cb, .int .i64 (j : Int)] 29) = W at hB2 lA lB cx cy ⊢
  have e0 := lA.cell 0
  have e1 := lA.cell 1
  have d1 := lB.cell 1
  simp only [List.getElem?_toArray, List.getElem?_cons_zero, List.getElem?_cons_succ] at e0 e1 d1
  have HB := hide hB2
  have q1 : (0 : Int) ≤ (i : Int) := by omega
  have q2 : (i : Int) < (cls.length : Int) := by omega
  have q3 : (0 : Int) ≤ (nl : Int) + (j : Int) := by omega
  have q4 : (nl : Int) + (j : Int) < (cls.length : Int) := by omega
  have q5 : IntKind.i64.wrap ((nl : Int) + (j : Int)) = (nl : Int) + (j : Int) := by rw [IntKind.wrap_i64]; omega
  have q6 : ((nl : Int) + (j : Int)).toNat = nl + j := by omega
  clear lA lB hB2
  go_quiet (fail)
  go_wp2
  go_ret
  exact ⟨ret_bool (by rw [H1.out, H2.out]; first | rfl | simp), below_drewN HB.out _⟩

end Go.Proofs.Ytbpjoiccjpiknaa
