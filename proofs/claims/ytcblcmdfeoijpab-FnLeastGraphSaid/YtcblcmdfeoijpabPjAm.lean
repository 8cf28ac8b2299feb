/-
  Lemmas, several texts in one: RewI, Reach2, EqnM, CodG.
-/
import Derived.Deep.Cut
import Derived.Test.YtcblcmdfeoijpabPjAh
import Derived.Test.YtcblcmdfeoijpabPjAa
import Derived.Deep.LoopGhost
import Derived.Test.YtcblcmdfeoijpabPjAk
import Derived.Test.YtcblcmdfeoijpabPjAl
namespace Go.Proofs.Ytcblcmdfeoijpab
open Go.RowKit
set_option linter.unusedVariables false

set_option maxRecDepth 100000 in
set_option maxHeartbeats 2000000 in
theorem rewired_any (F : Nat) (binds caps : Array Value) (g : Int → Int) (n : Nd) (A : Option Addr) (c : Nat) (w : World) (hI : IntsAt w w.heap.size A n.kids) (hk : n.kids.length ≤ 1000) (h64 : ∀ k ∈ n.kids, In64 (g k))
    (hent : ∀ (args : Array Value) (W : World), (callFunc F args).run Try.prog W = .ok (.enter F args) W)
    (hcall : ∀ (k : Int) (W : World), Below w.heap.size w W → k ∈ n.kids → Calls Try.prog F (binds ++ #[.int .i64 k] ++ caps) W fun e w' => e = .returned (.int .i64 (g k)) ∧ W = w') :
    Calls Try.prog 31 #[.agg #[.int .i64 n.kind, .int .i64 n.value, .slice A n.kids.length c], .func (.func F) binds caps] w (GivesNd w n.kind n.value (n.kids.map g)) := by
  have hB : Below w.heap.size w ((w.alloc (.cells #[.int .i64 n.kind, .int .i64 n.value, .slice A n.kids.length c] 41)).alloc (.cells #[.int .i64 0, .int .i64 0, .slice none 0 0] 41)) := ((Below.refl _ _).alloc (Nat.le_refl _) _).alloc (by simp) _
  have l1 := (Lies.new w #[.int .i64 n.kind, .int .i64 n.value, .slice A n.kids.length c] 41).alloc (.cells #[.int .i64 0, .int .i64 0, .slice none 0 0] 41)
  have l2 := Lies.new (w.alloc (.cells #[.int .i64 n.kind, .int .i64 n.value, .slice A n.kids.length c] 41)) #[.int .i64 0, .int .i64 0, .slice none 0 0] 41
  simp only [World.size_alloc] at l2
  have HC := hide hcall
  have H64 := hide h64
  have HI := hide hI
  clear hcall h64 hI
  go_enter Try.func31, Try.ntmps31
  go_upto_region 2 with fail
  generalize (w.alloc (.cells #[.int .i64 n.kind, .int .i64 n.value, .slice A n.kids.length c] 41)).alloc (.cells #[.int .i64 0, .int .i64 0, .slice none 0 0] 41) = W at hB l1 l2 ⊢
  have HL1 := hide l1
  have HL2 := hide l2
  have HB := hide hB
  have hW1 : w.heap.size < W.heap.size := l1.lt
  have hW2 : w.heap.size + 1 < W.heap.size := l2.lt
  have q2 := l1.cell 2
  simp at q2
  clear l1 l2 hB
  go_wp2_with fail
  go_loopw [5, 11] (fun sv jv wr => ∃ (j : Nat) (Ak : Option Addr) (ck : Nat) (ks : List Int), j ≤ n.kids.length ∧ sv = .slice Ak ks.length ck ∧ jv = .int .i64 (j : Int) ∧ Hid (ks = (n.kids.take j).map g) ∧ OwnI wr W.heap.size Ak ck ks ∧ Below W.heap.size W wr) (fun _ jv _ => n.kids.length - (intOf jv).toNat)
  case atStart => exact ⟨0, none, 0, [], Nat.zero_le _, rfl, rfl, hide rfl, OwnI.empty _ _, Below.refl _ _⟩
  case round =>
    clear q2
    obtain ⟨j, Ak, ck, ks, hj, rfl, rfl, hks, hown, hb⟩ := hrel
    have hksl : ks.length ≤ 1000 := by rw [hks.out]; simp; omega
    have hsz := hb.size
    have Hown := hide hown
    have Hb := hide hb
    clear hown hb
    by_cases hlj : j < n.kids.length
    · obtain ⟨b, off, y, rfl, hbl, hy, hym, hcy⟩ := (HI.out.below (HB.out.trans (Hb.out.mono HB.out.size))).at_ hlj
      have HY := hide hy
      have hp64 := H64.out y hym
      have HCy := hide (HC.out y wr (HB.out.trans (Hb.out.mono HB.out.size)) hym)
      have hj1 : (0 : Int) ≤ (j : Int) := by omega
      have hj2 : (j : Int) < (n.kids.length : Int) := by omega
      clear hy hym hbl
      generalize hq : g y = q at hp64 HCy
      have Hq := hide hq
      clear hq
      go_wp2_with fail
      refine HCy.out.mono ?_
      rintro e w' ⟨rfl, rfl⟩
      clear HCy hcy
      go_wp2_with (at_builtin; refine append_ints rfl (.tmp 15) (.tmp 19) rfl W.heap.size Ak ck ks rfl (Hown.out.alloc _) (wr.heap.size + 1) _ 1 [q] rfl (fun e => by cases e) (IntsAt.one wr q hp64) (by simp <;> omega) (by simp <;> omega) ?_; intro zs A3 c3 w5 hz hown5 hg5 _)
      go_roundw
      case rel => exact ⟨j + 1, A3, c3, zs, by omega, rfl, by go_num, hide (by rw [hz.out, hks.out, List.take_add_one, HY.out, ← Hq.out]; simp), hown5, below_grown (Hb.out.alloc hsz _) hg5 (by simp; omega) (fun q hq => (Hown.out.blocks q hq).1)⟩
      case measure => simp [intOf]; omega
    · obtain rfl : j = n.kids.length := by omega
      rw [List.take_length] at hks
      have l3 := HL1.out.below Hb.out hW1
      have m0 := l3.cell 0
      have m1 := l3.cell 1
      simp at m0 m1
      have l4 := HL2.out.below Hb.out hW2
      have l5 := ((l4.set 0 (.int .i64 n.kind)).set 1 (.int .i64 n.value)).set 2 (.slice Ak ks.length ck)
      simp only [List.setIfInBounds_toArray, List.set_cons_succ, List.set_cons_zero] at l5
      have s0 := l5.cell 0
      have s1 := l5.cell 1
      have s2 := l5.cell 2
      have p0 := l4.cell 0
      have p1 := l4.cell 1
      have p2 := l4.cell 2
      have f0 := l4.frozen 0
      have f1 := l4.frozen 1
      have f2 := l4.frozen 2
      simp only [List.getElem?_toArray, List.getElem?_cons_zero, List.getElem?_cons_succ] at s0 s1 s2 p0 p1 p2
      have HF := hide (show OwnI (((wr.setCell ⟨w.heap.size + 1, 0, none⟩ (.int .i64 n.kind)).setCell ⟨w.heap.size + 1, 1, none⟩ (.int .i64 n.value)).setCell ⟨w.heap.size + 1, 2, none⟩ (.slice Ak ks.length ck)) W.heap.size Ak ck ks from Hown.out.of_blk (fun b hb => by
        have := (Hown.out.blocks b hb).1
        rw [Below.heap_setCell _ _ _ _ (by show b ≠ w.heap.size + 1; omega), Below.heap_setCell _ _ _ _ (by show b ≠ w.heap.size + 1; omega), Below.heap_setCell _ _ _ _ (by show b ≠ w.heap.size + 1; omega)]))
      have HBF := hide ((((HB.out.trans (Hb.out.mono HB.out.size)).setCell (p := ⟨w.heap.size + 1, 0, none⟩) (by show w.heap.size ≤ w.heap.size + 1; omega) (.int .i64 n.kind)).setCell (p := ⟨w.heap.size + 1, 1, none⟩) (by show w.heap.size ≤ w.heap.size + 1; omega) (.int .i64 n.value)).setCell (p := ⟨w.heap.size + 1, 2, none⟩) (by show w.heap.size ≤ w.heap.size + 1; omega) (.slice Ak ks.length ck))
      clear l3 l4 l5 hlj
      go_wp2
      refine bodyPost_ret (v := .agg #[.int .i64 n.kind, .int .i64 n.value, .slice Ak ks.length ck]) (by simp [results, Try.results31, go_sem, s0, s1, s2]) rfl ?_
      have e1 : n.kids.map g = ks := hks.out.symm
      rw [e1]
      exact ⟨Ak, ck, rfl, HF.out.mono (by omega), HBF.out⟩

end Go.Proofs.Ytcblcmdfeoijpab

namespace Go.Proofs.Ytcblcmdfeoijpab
open Go.RowKit
set_option linter.unusedVariables false

theorem reach_any (ns : List Nd) (hk : KidsIn ns) (h6 : ∀ n ∈ ns, n.kids.length ≤ 6) (h12 : ns.length ≤ 12) (A : Option Addr) (c : Nat) (r : Int) : ∀ (f i : Nat) (L : List Int) (A2 : Option Addr) (c2 : Nat) (w : World), i < ns.length → Met ns L → NdsAt w w.heap.size A ns → IntsAt w w.heap.size A2 L → (A2 = none → c2 = 0) → ns.length < f + L.length →
    Calls Try.prog 58 #[.agg #[.slice A ns.length c, .int .i64 r], .int .i64 (i : Int), .slice A2 L.length c2] w (GivesReachI w A2 c2 L (dfs ns anyB f i L))
  | 0, _, _, _, _, _, _, hL, _, _, _, hf => by have := hL.len; omega
  | f + 1, i, L, A2, c2, w, hi, hL, hr, hI, hn, hf => reach1_any ns hk h6 h12 A c r f (fun i L A2 c2 w h1 h2 h3 h4 h5 h6' => reach_any ns hk h6 h12 A c r f i L A2 c2 w h1 h2 h3 h4 h5 h6') i L A2 c2 w hi hL hr hI hn hf

end Go.Proofs.Ytcblcmdfeoijpab

namespace Go.Proofs.Ytcblcmdfeoijpab
open Go.RowKit Go.Maps
set_option linter.unusedVariables false

/-- nodes of two graphs that are equal up to a depth -/
def EqN (ns ms : List Nd) (d : Nat) (x y : Int) : Prop := look (clsN (joinNs ns ms) d) x = look (clsN (joinNs ns ms) d) ((ns.length : Int) + y)

theorem eqN_zero (ns ms : List Nd) (x y : Int) : EqN ns ms 0 x y := by
  unfold EqN
  rw [look_zero, look_zero]

theorem eqN_step {ns ms : List Nd} {i j : Nat} {n m : Nd} (hn : ns[i]? = some n) (hm : ms[j]? = some m) (d : Nat) :
    EqN ns ms (d + 1) (i : Int) (j : Int) ↔ Alike n m ∧ ∀ (p : Nat) (a b : Int), n.kids[p]? = some a → m.kids[p]? = some b → EqN ns ms d a b := by
  have hil := (List.getElem?_eq_some_iff.1 hn).1
  have h1 : (joinNs ns ms)[i]? = some n := by
    unfold joinNs
    rw [List.getElem?_append_left hil]; exact hn
  have h2 : (joinNs ns ms)[ns.length + j]? = some (shiftNd ns.length m) := by
    unfold joinNs
    rw [List.getElem?_append_right (by omega), show ns.length + j - ns.length = j by omega, List.getElem?_map, hm]
    rfl
  have h3 := finer_eq (cl := clsN (joinNs ns ms) d) h1 h2
  rw [Int.natCast_add] at h3
  refine Iff.trans h3 ⟨fun h => ?_, fun h => ?_⟩
  · obtain ⟨⟨a1, a2, a3⟩, h5⟩ := alike_sig h
    refine ⟨⟨a1, a2, by simpa [shiftNd] using a3⟩, fun p a b ha hb => h5 p a ((ns.length : Int) + b) ha (by unfold shiftNd; rw [List.getElem?_map, hb]; rfl)⟩
  · obtain ⟨⟨a1, a2, a3⟩, h5⟩ := h
    refine sig_alike ⟨a1, a2, by simpa [shiftNd] using a3⟩ (fun p a b ha hb => ?_)
    unfold shiftNd at hb
    rw [List.getElem?_map] at hb
    obtain ⟨b', hb', rfl⟩ := Option.map_eq_some_iff.1 hb
    exact h5 p a b' ha hb'

end Go.Proofs.Ytcblcmdfeoijpab

namespace Go.Proofs.Ytcblcmdfeoijpab
open Go.RowKit Go.Maps
set_option linter.unusedVariables false

theorem cod_grows {ns : List Nd} : ∀ (f : Nat) (x : Int) (p : CM), ∃ l, (cod ns f x p).1 = p.1 ++ l
  | 0, _, _ => ⟨[], by simp [cod]⟩
  | f + 1, x, p => by
    by_cases hs : x ∈ p.2
    · rw [cod_seen hs]
      exact ⟨_, rfl⟩
    · rw [cod_new hs]
      have key : ∀ (xs : List Int) (q : CM), ∃ l, (codL ns f xs q).1 = q.1 ++ l := by
        intro xs
        induction xs with
        | nil => intro q; exact ⟨[], by simp [codL]⟩
        | cons a xs ih =>
          intro q
          obtain ⟨l1, h1⟩ := cod_grows f a q
          obtain ⟨l2, h2⟩ := ih (cod ns f a q)
          refine ⟨l1 ++ l2, ?_⟩
          show (codL ns f xs (cod ns f a q)).1 = _
          rw [h2, h1, List.append_assoc]
      obtain ⟨l, h⟩ := key (kidsOf ns x) (codPut ns x p)
      refine ⟨[kindOf ns x, valueOf ns x, ((kidsOf ns x).length : Int)] ++ l, ?_⟩
      rw [h]
      unfold codPut
      simp

end Go.Proofs.Ytcblcmdfeoijpab
