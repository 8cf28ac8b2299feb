/-
  Lemmas, several texts in one: InpM, CngE, HerI.
-/
import Derived.Test.YtcblcmdfeoijpaaPjAj
import Derived.Test.YtcblcmdfeoijpaaPjAl
import Derived.Test.YtcblcmdfeoijpaaPjAb
import Derived.Test.YtcblcmdfeoijpaaPjAm
import Derived.Test.YtcblcmdfeoijpaaPjAn
import Derived.Test.YtcblcmdfeoijpaaPjAa
import Derived.IntWalk
import Derived.Deep.Cut
import Derived.Deep.QuietTactic
import Derived.BigQuiet
namespace Go.Proofs.Ytcblcmdfeoijpaa
open Go.RowKit Go.Maps
set_option linter.unusedVariables false

/-- a node of which the first k kids are written -/
def halfK (cl : List Int) (ks : List Int) (k : Nat) : List Int := (ks.take k).map (look cl) ++ ks.drop k
theorem halfK_len (cl ks : List Int) (k : Nat) : (halfK cl ks k).length = ks.length := by
  unfold halfK
  simp
  omega
theorem halfK_zero (cl ks : List Int) : halfK cl ks 0 = ks := by simp [halfK]
theorem halfK_all (cl ks : List Int) : halfK cl ks ks.length = ks.map (look cl) := by simp [halfK]
theorem halfK_at {cl ks : List Int} {k : Nat} {x : Int} (h : ks[k]? = some x) : (halfK cl ks k)[k]? = some x := by
  have hk := (List.getElem?_eq_some_iff.1 h).1
  unfold halfK
  rw [List.getElem?_append_right (by simp; omega)]
  simp only [List.length_map, List.length_take]
  rw [Nat.min_eq_left (by omega), Nat.sub_self, List.getElem?_drop, Nat.add_zero, h]
theorem halfK_set {cl ks : List Int} {k : Nat} {x : Int} (h : ks[k]? = some x) : (halfK cl ks k).set k (look cl x) = halfK cl ks (k + 1) := by
  have hk := (List.getElem?_eq_some_iff.1 h).1
  have hd : ks.drop k = x :: ks.drop (k + 1) := drop_at h
  have hl : ((ks.take k).map (look cl)).length = k := by simp; omega
  unfold halfK
  rw [List.set_append, if_neg (by omega), hl, Nat.sub_self, hd, List.set_cons_zero, List.take_add_one, h]
  simp

/-- the nodes when those before i are written, and the first k kids of i -/
def stNd (cl : List Int) (i k j : Nat) (n : Nd) : Nd := if j < i then replNd cl n else if j = i then ⟨n.kind, n.value, halfK cl n.kids k⟩ else n
def stN (ns : List Nd) (cl : List Int) (i k : Nat) : List Nd := ns.mapIdx (stNd cl i k)
theorem stN_len (ns : List Nd) (cl : List Int) (i k : Nat) : (stN ns cl i k).length = ns.length := by simp [stN]
theorem stN_get (ns : List Nd) (cl : List Int) (i k j : Nat) : (stN ns cl i k)[j]? = (ns[j]?).map (stNd cl i k j) := by
  unfold stN
  rw [List.getElem?_mapIdx]
theorem stN_at {ns : List Nd} {cl : List Int} {i k : Nat} {n : Nd} (h : ns[i]? = some n) : (stN ns cl i k)[i]? = some ⟨n.kind, n.value, halfK cl n.kids k⟩ := by
  rw [stN_get, h]
  simp [stNd]
theorem stN_zero (ns : List Nd) (cl : List Int) : stN ns cl 0 0 = ns := by
  apply List.ext_getElem?
  intro j
  rw [stN_get]
  cases h : ns[j]? with
  | none => rfl
  | some n =>
    simp only [Option.map_some, stNd, Nat.not_lt_zero, if_false, halfK_zero]
    split <;> rfl
theorem stN_all (ns : List Nd) (cl : List Int) (k : Nat) : stN ns cl ns.length k = replNs ns cl := by
  apply List.ext_getElem?
  intro j
  rw [stN_get]
  unfold replNs
  rw [List.getElem?_map]
  cases h : ns[j]? with
  | none => rfl
  | some n =>
    have := (List.getElem?_eq_some_iff.1 h).1
    simp only [Option.map_some, stNd, if_pos this]
theorem stN_next {ns : List Nd} {cl : List Int} {i : Nat} {n : Nd} (h : ns[i]? = some n) : stN ns cl i n.kids.length = stN ns cl (i + 1) 0 := by
  apply List.ext_getElem?
  intro j
  rw [stN_get, stN_get]
  cases hj : ns[j]? with
  | none => rfl
  | some m =>
    simp only [Option.map_some, stNd, halfK_zero]
    by_cases h1 : j < i
    · rw [if_pos h1, if_pos (by omega)]
    · by_cases h2 : j = i
      · subst h2
        rw [h] at hj
        injection hj with hj
        subst hj
        rw [if_neg h1, if_pos rfl, if_pos (by omega), halfK_all]
        rfl
      · rw [if_neg h1, if_neg h2, if_neg (by omega)]
        split <;> rfl
theorem stN_set {ns : List Nd} {cl : List Int} {i k : Nat} {n : Nd} {x : Int} (h : ns[i]? = some n) (hx : n.kids[k]? = some x) : (stN ns cl i k).set i ⟨n.kind, n.value, (halfK cl n.kids k).set k (look cl x)⟩ = stN ns cl i (k + 1) := by
  apply List.ext_getElem?
  intro j
  have hi := (List.getElem?_eq_some_iff.1 h).1
  rw [List.getElem?_set, stN_get, stN_get]
  by_cases e : i = j
  · subst e
    rw [if_pos rfl, if_pos (by rw [stN_len]; exact hi), h, halfK_set hx]
    simp [stNd]
  · rw [if_neg e]
    cases hj : ns[j]? with
    | none => rfl
    | some m =>
      simp only [Option.map_some, stNd]
      by_cases h1 : j < i
      · rw [if_pos h1, if_pos h1]
      · rw [if_neg h1, if_neg h1, if_neg (by omega), if_neg (by omega)]

/-- the memory: old memory stays; the graph's box; its row -/
structure InpA (w wr : World) (hi gr cap q : Nat) (ns : List Nd) (cl : List Int) (r : Int) (i k : Nat) : Prop where
  bel : Below w.heap.size w wr
  box : Lies wr q #[.slice (some ⟨gr, 0, none⟩) ns.length cap, .int .i64 r] 25
  row : OwnRow wr w.heap.size hi gr cap (stN ns cl i k)
  hq : hi ≤ q

theorem InpA.below {w wr w' : World} {hi gr cap q i k : Nat} {ns : List Nd} {cl : List Int} {r : Int} (h : InpA w wr hi gr cap q ns cl r i k) (hb : Below wr.heap.size wr w') : InpA w w' hi gr cap q ns cl r i k :=
  ⟨h.bel.trans (hb.mono h.bel.size), h.box.below hb h.box.lt, h.row.kept (fun b _ hb2 => hb.block b (by have := h.box.lt; have := h.hq; omega)), h.hq⟩

theorem InpA.next {w wr : World} {hi gr cap q i : Nat} {ns : List Nd} {cl : List Int} {r : Int} {n : Nd} (hn : ns[i]? = some n) (h : InpA w wr hi gr cap q ns cl r i n.kids.length) : InpA w wr hi gr cap q ns cl r (i + 1) 0 :=
  ⟨h.bel, h.box, by rw [← stN_next hn]; exact h.row, h.hq⟩

/-- the kids of the node i -/
theorem InpA.kids {w wr : World} {hi gr cap q i k : Nat} {ns : List Nd} {cl : List Int} {r : Int} {n : Nd} (hn : ns[i]? = some n) (h : InpA w wr hi gr cap q ns cl r i k) :
    ∃ (A : Option Addr) (c : Nat), wr.cell? ⟨gr, i * 3 + 2, none⟩ = some (.slice A n.kids.length c) ∧ OwnI wr w.heap.size A c (halfK cl n.kids k) ∧ ∀ b, blockOf A = some b → b < hi ∧ b ≠ gr := by
  obtain ⟨A, c, h1, h2, h3⟩ := (h.row.nd i _ (stN_at hn)).kids
  simp only [halfK_len] at h1
  exact ⟨A, c, h1, h2, h3⟩

/-- a kid is written -/
theorem InpA.store {w wr : World} {hi gr cap q i k b c : Nat} {ns : List Nd} {cl : List Int} {r : Int} {n : Nd} {x : Int} (h : InpA w wr hi gr cap q ns cl r i k) (hn : ns[i]? = some n) (hx : n.kids[k]? = some x)
    (hc : wr.cell? ⟨gr, i * 3 + 2, none⟩ = some (.slice (some ⟨b, 0, none⟩) n.kids.length c)) (ho : OwnI wr w.heap.size (some ⟨b, 0, none⟩) c (halfK cl n.kids k)) (hb : b < hi) :
    InpA w (wr.setCell ⟨b, k, none⟩ (.int .i64 (look cl x))) hi gr cap q ns cl r i (k + 1) := by
  have hbl := (ho.blocks b rfl).1
  refine ⟨h.bel.setCell (p := ⟨b, k, none⟩) hbl _, h.box.far (p := ⟨b, k, none⟩) (by have := h.hq; show q ≠ b; omega) _, ?_, h.hq⟩
  have hs := ho.setAt k (look cl x)
  have h2 := h.row.setKids (w' := wr.setCell ⟨b, k, none⟩ (.int .i64 (look cl x))) (stN_at hn) (cj := c) (Aj := some ⟨b, 0, none⟩) (ks := (halfK cl n.kids k).set k (look cl x)) (by simp only [halfK_len]; exact hc) (by simp) hs (fun q hq => Below.heap_setCell _ _ _ _ (by intro e; exact hq (by rw [e]; rfl)))
  simp only at h2
  rw [stN_set hn hx] at h2
  exact h2

theorem OwnNs.rowI {w : World} {lo hi : Nat} {A : Option Addr} {c : Nat} {ns : List Nd} (h : OwnNs w lo hi A c ns) (hne : 0 < ns.length) : ∃ g, A = some ⟨g, 0, none⟩ ∧ OwnRow w lo hi g c ns := by
  rcases h with ⟨_, _, h⟩ | h
  · subst h; simp at hne
  · exact h

end Go.Proofs.Ytcblcmdfeoijpaa

namespace Go.Proofs.Ytcblcmdfeoijpaa
open Go.RowKit
set_option linter.unusedVariables false

theorem repl_eqq {ns : List Nd} {cl : List Int} (hk : KidsIn ns) (hc : Cong ns cl) : ∀ (d : Nat) (i j : Nat), i < ns.length → j < ns.length → look cl (i : Int) = look cl (j : Int) → Eqq (replNs ns cl) ns d (i : Int) (j : Int)
  | 0, _, _, _, _, _ => trivial
  | d + 1, i, j, hi, hj, h => by
    have hn : ns[i]? = some ns[i] := List.getElem?_eq_getElem hi
    have hm : ns[j]? = some ns[j] := List.getElem?_eq_getElem hj
    have hs := hc.same i j _ _ hn hm h
    obtain ⟨s1, s2, s3⟩ := sig_parts hs
    refine (eqq_step (replNs_at hn) hm d).2 ⟨⟨s1, s2, by have := congrArg List.length s3; simpa [replNd] using this⟩, fun p a b ha hb => ?_⟩
    have ha' : (ns[i].kids.map (look cl))[p]? = some a := ha
    rw [s3, List.getElem?_map, hb] at ha'
    obtain rfl := Option.some.inj ha'
    have hbr := hk _ (List.getElem_mem hj) b (List.mem_of_getElem? hb)
    obtain ⟨b0, hb0⟩ := Int.eq_ofNat_of_zero_le hbr.1
    subst hb0
    have hlr := hc.rng (b0 : Int) hbr.1 hbr.2
    obtain ⟨a0, ha0⟩ := Int.eq_ofNat_of_zero_le hlr.1
    rw [ha0]
    exact repl_eqq hk hc d a0 b0 (by omega) (by omega) (by rw [← ha0, hc.idem _ hbr.1 hbr.2])

theorem repl_eqAll {ns : List Nd} {cl : List Int} (hk : KidsIn ns) (hc : Cong ns cl) {x : Int} (x0 : 0 ≤ x) (x1 : x < ns.length) : EqqAll (replNs ns cl) ns (look cl x) x := fun d => by
  obtain ⟨i, rfl⟩ := Int.eq_ofNat_of_zero_le x0
  have hlr := hc.rng (i : Int) x0 x1
  obtain ⟨j, hj⟩ := Int.eq_ofNat_of_zero_le hlr.1
  rw [hj]
  exact repl_eqq hk hc d j i (by omega) (by omega) (by rw [← hj, hc.idem _ x0 x1])

/-- what is reached in it are nodes that stay as they are -/
theorem repl_reached {ns : List Nd} {cl : List Int} {r : Int} (hv : ValidG ns r) (hc : Cong ns cl) {L : List Int} (hR : Reached (replNs ns cl) (look cl r) L) : ∀ x ∈ L, (0 ≤ x ∧ x < ns.length) ∧ look cl x = x := by
  intro x hx
  have hxr := hR.met.range x hx
  rw [replNs_len] at hxr
  refine ⟨hxr, ?_⟩
  obtain ⟨k, hk, e⟩ := List.getElem_of_mem hx
  have hat : L[k]? = some x := by rw [List.getElem?_eq_getElem hk, e]
  rcases Nat.eq_zero_or_pos k with h0 | h0
  · subst h0
    rw [hR.ord.first x hat]
    exact hc.idem r hv.root0 hv.root
  · obtain ⟨m, y, hm, hy, hin⟩ := hR.ord.later k x h0 hat
    have hyr := hR.met.range y (List.mem_of_getElem? hy)
    rw [replNs_len] at hyr
    obtain ⟨i, n, rfl, hn⟩ := nd_of hyr.1 hyr.2
    rw [kidsOf_repl hn] at hin
    obtain ⟨z, hz, rfl⟩ := List.mem_map.1 hin
    have hzr := validG_kids hv n (List.mem_of_getElem? hn) z hz
    exact hc.idem z hzr.1 hzr.2

theorem repl_repl {ns : List Nd} {cl : List Int} (hk : KidsIn ns) (hc : Cong ns cl) : replNs (replNs ns cl) cl = replNs ns cl := by
  unfold replNs
  rw [List.map_map]
  apply List.map_congr_left
  intro n hn
  unfold replNd
  simp only [Function.comp, List.map_map, Nd.mk.injEq, true_and]
  apply List.map_congr_left
  intro x hx
  have := hk n hn x hx
  exact hc.idem x this.1 this.2

end Go.Proofs.Ytcblcmdfeoijpaa

namespace Go.Proofs.Ytcblcmdfeoijpaa
open Go.RowKit Go.Maps
set_option linter.unusedVariables false

set_option maxHeartbeats 1000000 in
theorem haveEqualRoots_any (A B C : Option Addr) (nl ml ca cb cc : Nat) (r s : Int) (cls : List Int) (w : World) (hC : IntsAt w w.heap.size C cls) (hr0 : 0 ≤ r) (hr1 : r < cls.length) (hs0 : 0 ≤ s) (hs1 : nl + s < cls.length) (hl : cls.length ≤ 1000) :
    Calls Try.prog 26 #[.agg #[.slice A nl ca, .int .i64 r], .agg #[.slice B ml cb, .int .i64 s], .slice C cls.length cc] w fun e w' => e = .returned (.bool (decide (look cls r = look cls ((nl : Int) + s)))) ∧ Below w.heap.size w w' := by
  obtain ⟨i, rfl⟩ := Int.eq_ofNat_of_zero_le hr0
  obtain ⟨j, rfl⟩ := Int.eq_ofNat_of_zero_le hs0
  obtain ⟨b, off, x, rfl, hbl, hx, _, cx⟩ := hC.at_ (k := i) (by omega)
  obtain ⟨b2, off2, y, hb2, _, hy, _, cy⟩ := hC.at_ (k := nl + j) (by omega)
  injection hb2 with hb2
  injection hb2 with e1 e2 _
  subst e1
  subst e2
  have hB2 : Below w.heap.size w ((w.alloc (.cells #[.slice A nl ca, .int .i64 (i : Int)] 25)).alloc (.cells #[.slice B ml cb, .int .i64 (j : Int)] 25)) := ((Below.refl _ _).alloc (Nat.le_refl _) _).alloc (by simp) _
  have lA := (Lies.new w #[.slice A nl ca, .int .i64 (i : Int)] 25).alloc (.cells #[.slice B ml cb, .int .i64 (j : Int)] 25)
  have lB := Lies.new (w.alloc (.cells #[.slice A nl ca, .int .i64 (i : Int)] 25)) #[.slice B ml cb, .int .i64 (j : Int)] 25
  simp only [World.size_alloc] at lB
  have hx2 : look cls (i : Int) = x := look_at hx
  have hy2 : look cls ((nl : Int) + (j : Int)) = y := by
    have := look_at hy
    rwa [Int.natCast_add] at this
  have cx := (hB2.cell (p := ⟨b, off + i, none⟩) hbl).trans cx
  have cy := (hB2.cell (p := ⟨b, off + (nl + j), none⟩) hbl).trans cy
  have H1 := hide hx2
  have H2 := hide hy2
  clear hC hx hy hx2 hy2
  go_enter Try.func26, Try.ntmps26
  go_upto_region 1 with fail
  generalize (w.alloc (.cells #[.slice A nl ca, .int .i64 (i : Int)] 25)).alloc (.cells #[.slice B ml cb, .int .i64 (j : Int)] 25) = W at hB2 lA lB cx cy ⊢
  have e0 := lA.cell 0
  have e1 := lA.cell 1
  have d1 := lB.cell 1
  simp only [List.getElem?_toArray, List.getElem?_cons_zero, List.getElem?_cons_succ] at e0 e1 d1
  have HB := hide hB2
  have q1 : (0 : Int) ≤ (i : Int) := by omega
  have q2 : (i : Int) < (cls.length : Int) := by omega
  have q3 : (0 : Int) ≤ (nl : Int) + (j : Int) := by omega
  have q4 : (nl : Int) + (j : Int) < (cls.length : Int) := by omega
  have q5 : IntKind.i64.wrap ((nl : Int) + (j : Int)) = (nl : Int) + (j : Int) := by rw [IntKind.wrap_i64]; omega
  have q6 : ((nl : Int) + (j : Int)).toNat = nl + j := by omega
  clear lA lB hB2
  go_quiet (fail)
  go_wp2
  go_ret
  exact ⟨ret_bool (by rw [H1.out, H2.out]; first | rfl | simp), below_drewN HB.out _⟩

end Go.Proofs.Ytcblcmdfeoijpaa
