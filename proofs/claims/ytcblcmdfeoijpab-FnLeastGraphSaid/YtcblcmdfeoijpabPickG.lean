/-
  The program's pickedGraph: the graph of some nodes, in their order, in memory of its own.
-/
import Derived.Test.YtcblcmdfeoijpabPjAh
import Derived.Test.YtcblcmdfeoijpabPjAd
import Derived.Test.YtcblcmdfeoijpabPjAm
import Derived.Deep.LoopGhost
namespace Go.Proofs.Ytcblcmdfeoijpab
open Go.RowKit Go.Maps
set_option linter.unusedVariables false

theorem makeNodesP (n : Nat) (hn : n ≤ 1000) : ∀ w : World, (Instr.makeSlice 23 (.int .i64 (n : Int)) (.int .i64 (n : Int))).run Try.prog w = .ok (.slice (some ⟨w.heap.size, 0, none⟩) n n) (w.alloc (.cells (madeCells (Value.agg #[.int .i64 0, .int .i64 0, .slice none 0 0]).cells (n * 3)) 41)) :=
  run_make_rows (P := Try.prog) 23 41 (.agg #[.int .i64 0, .int .i64 0, .slice none 0 0]) 3 40 Try.underlying23 infoNdA .i64 .i64 n (by omega) (by omega)

/-- what the list of the picked nodes must be -/
structure Pickable (ns : List Nd) (r : Int) (L : List Int) : Prop where
  nodup : L.Nodup
  range : ∀ x ∈ L, 0 ≤ x ∧ x < ns.length
  closed : ∀ (i : Nat) (n : Nd), (i : Int) ∈ L → ns[i]? = some n → n.kids.length ≤ 1000 ∧ ∀ k ∈ n.kids, k ∈ L
  root : r ∈ L
  few : L.length ≤ 12
  many : ns.length ≤ 12

/-- the memory of the first loop: the set grows -/
structure PgA (w wr : World) (A : Option Addr) (c : Nat) (ns : List Nd) (r : Int) (A2 : Option Addr) (L : List Int) (k : Nat) : Prop where
  bel : Below w.heap.size w wr
  lG : Lies wr w.heap.size #[.slice A ns.length c, .int .i64 r] 25
  lR : Lies wr (w.heap.size + 1) #[.slice none 0 0, .int .i64 0] 25
  set : ∃ m As cs, SetI wr (w.heap.size + 1 + 1) (w.heap.size + 1 + 1 + 1) m As cs (L.take k)
  size : w.heap.size + 1 + 1 + 1 ≤ wr.heap.size

theorem PgA.step {w wr w' : World} {A : Option Addr} {c : Nat} {ns : List Nd} {r : Int} {A2 : Option Addr} {L : List Int} {k : Nat} {x : Int} (h : PgA w wr A c ns r A2 L k) (hx : L[k]? = some x) (hb : But (w.heap.size + 1 + 1 + 1) (w.heap.size + 1 + 1) wr w')
    (hs : ∃ m As cs, SetI w' (w.heap.size + 1 + 1) (w.heap.size + 1 + 1 + 1) m As cs (L.take k ++ [x])) : PgA w w' A c ns r A2 L (k + 1) := by
  refine ⟨hb.below h.bel (by omega) (by omega), (hb.block _ (by omega) (by omega)).trans h.lG, (hb.block _ (by omega) (by omega)).trans h.lR, ?_, Nat.le_trans h.size hb.size⟩
  rw [List.take_add_one, hx]
  exact hs

/-- the memory of the second loop: the nodes grow -/
structure PgB (X0 wr : World) (ns : List Nd) (L : List Int) (k : Nat) : Prop where
  bel : Below X0.heap.size X0 wr
  row : OwnRow wr X0.heap.size wr.heap.size X0.heap.size L.length ((pickNs ns L).take k)

theorem PgB.start (X0 : World) (ns : List Nd) (L : List Int) : PgB X0 (X0.alloc (.cells (madeCells #[.int .i64 0, .int .i64 0, .slice none 0 0] (L.length * 3)) 41)) ns L 0 := by
  refine ⟨(Below.refl _ _).alloc (Nat.le_refl _) _, ?_⟩
  have hrow : (X0.alloc (.cells (madeCells #[.int .i64 0, .int .i64 0, .slice none 0 0] (L.length * 3)) 41)).rowIs X0.heap.size 41 (L.length * 3) (fun i => ((madeCells #[.int .i64 0, .int .i64 0, .slice none 0 0] (L.length * 3))[i]?).getD undef) :=
    ⟨_, Lies.new X0 _ _, size_madeCells _ _, fun i hi => by
      show (madeCells #[.int .i64 0, .int .i64 0, .slice none 0 0] (L.length * 3))[i]? = some (((madeCells #[.int .i64 0, .int .i64 0, .slice none 0 0] (L.length * 3))[i]?).getD undef)
      rw [Array.getElem?_eq_getElem (by rw [size_madeCells]; exact hi)]
      rfl⟩
  have := (OwnRow.zero hrow).high (hi2 := (X0.alloc (.cells (madeCells #[.int .i64 0, .int .i64 0, .slice none 0 0] (L.length * 3)) 41)).heap.size) (by simp)
  simpa using this

theorem PgB.step {X0 wr w2 wi : World} {ns : List Nd} {L : List Int} {k i c : Nat} {n : Nd} {Ak : Option Addr} {ks : List Int} (h : PgB X0 wr ns L k) (hk : L[k]? = some (i : Int)) (hn : ns[i]? = some n) (h2 : Below wr.heap.size wr w2) (hi : Below w2.heap.size w2 wi)
    (hown : OwnI wi w2.heap.size Ak c ks) (hks : ks = n.kids.map (place L)) : PgB X0 (setN wi X0.heap.size k (.int .i64 n.kind) (.int .i64 n.value) (.slice Ak ks.length c)) ns L (k + 1) := by
  have hkl := (List.getElem?_eq_some_iff.1 hk).1
  have hb := h2.trans (hi.mono h2.size)
  have hlen : ((pickNs ns L).take k).length = k := by simp [pickNs_len]; omega
  refine ⟨setN_below (h.bel.trans (hb.mono h.bel.size)) (Nat.le_refl _), ?_⟩
  have hr : OwnRow wi X0.heap.size wr.heap.size X0.heap.size L.length ((pickNs ns L).take k) := h.row.kept (fun b _ hb' => hb.block b hb')
  have := hr.snoc (n := ⟨n.kind, n.value, n.kids.map (place L)⟩) (hi2 := wi.heap.size) (c := c) (A := Ak) (by omega) (by rw [← hks]; exact hown.lowB h2.size) (by have := hb.size; omega) (fun b hb' => (hown.blocks b hb').2)
  rw [hlen] at this
  rw [pickNs_take hk hn, setN_size, hks]
  exact this

set_option maxHeartbeats 1000000 in
theorem implPicked_any (A : Option Addr) (ns : List Nd) (c : Nat) (r : Int) (A2 : Option Addr) (L : List Int) (c2 : Nat) (w : World) (hr : NdsAt w w.heap.size A ns) (hL : IntsAt w w.heap.size A2 L) (hp : Pickable ns r L) :
    Calls Try.prog 30 #[.agg #[.slice A ns.length c, .int .i64 r], .slice A2 L.length c2] w (GivesG w (pickNs ns L) (place L r)) := by
  have hfew := hp.few
  have HP := hide hp
  have hB3 : Below w.heap.size w (((w.alloc (.cells #[.slice A ns.length c, .int .i64 r] 25)).alloc (.cells #[.slice none 0 0, .int .i64 0] 25)).alloc (.cells #[.map none, .slice none 0 0] 67)) := (((Below.refl _ _).alloc (Nat.le_refl _) _).alloc (by simp) _).alloc (by simp; omega) _
  have lG := ((Lies.new w #[.slice A ns.length c, .int .i64 r] 25).alloc (.cells #[.slice none 0 0, .int .i64 0] 25)).alloc (.cells #[.map none, .slice none 0 0] 67)
  have lR := (Lies.new (w.alloc (.cells #[.slice A ns.length c, .int .i64 r] 25)) #[.slice none 0 0, .int .i64 0] 25).alloc (.cells #[.map none, .slice none 0 0] 67)
  have lS := Lies.new ((w.alloc (.cells #[.slice A ns.length c, .int .i64 r] 25)).alloc (.cells #[.slice none 0 0, .int .i64 0] 25)) #[.map none, .slice none 0 0] 67
  simp only [World.size_alloc] at lR lS
  have hS0 : PgA w (((w.alloc (.cells #[.slice A ns.length c, .int .i64 r] 25)).alloc (.cells #[.slice none 0 0, .int .i64 0] 25)).alloc (.cells #[.map none, .slice none 0 0] 67)) A c ns r A2 L 0 :=
    ⟨hB3, lG, lR, ⟨none, none, 0, SetI.start lS (by omega)⟩, by simp⟩
  have HS0 := hide hS0
  have HR := hide hr
  have HL := hide hL
  clear hp hS0 lG lR lS hB3 hr hL
  go_enter Try.func30, Try.ntmps30
  go_wp2_with fail
  generalize (((w.alloc (.cells #[.slice A ns.length c, .int .i64 r] 25)).alloc (.cells #[.slice none 0 0, .int .i64 0] 25)).alloc (.cells #[.map none, .slice none 0 0] 67)) = W at HS0 ⊢
  go_loopg [13] L.length (fun gk iv wr => ∃ k : Nat, k ≤ L.length ∧ gk = L.length - k ∧ iv = .int .i64 (k : Int) ∧ PgA w wr A c ns r A2 L k)
  case atStart => exact ⟨0, Nat.zero_le _, rfl, rfl, HS0.out⟩
  case round =>
    clear HS0
    obtain ⟨k, hk, rfl, rfl, hS⟩ := hrel
    by_cases hlt : k < L.length
    · obtain ⟨b, off, x, rfl, hbl, hx, hm, hc⟩ := (HL.out.below hS.bel).at_ hlt
      obtain ⟨m, As, cs, hset⟩ := hS.set
      have hx64 := hide (HL.out.wf x hm)
      have hno : x ∉ L.take k := by
        intro hm2
        obtain ⟨j, hj, e⟩ := List.getElem_of_mem hm2
        have hj2 : j < k ∧ j < L.length := by simp at hj; omega
        rw [List.getElem_take] at e
        obtain ⟨hk2, e2⟩ := List.getElem?_eq_some_iff.1 hx
        have := (List.getElem_inj HP.out.nodup).1 (e.trans e2.symm)
        omega
      have HX := hide hx
      have HSet := hide hset
      have HNo := hide hno
      have HS := hide hS
      clear hx hset hno hS hm hbl
      go_wp2_with fail
      refine (addI_new _ _ m cs As (L.take k) x wr HSet.out hx64.out HS.out.size HNo.out (by simp; omega)).mono ?_
      rintro e w' ⟨rfl, hs', hbut⟩
      have HN := hide (HS.out.step HX.out hbut hs')
      clear hs' hbut HSet HS HNo HX hx64 hc
      go_wp2
      go_roundg (L.length - (k + 1))
      case measure => omega
      case rel => exact ⟨k + 1, by omega, rfl, by go_num, HN.out⟩
    · obtain rfl : k = L.length := by omega
      have hmk := makeNodesP L.length (by omega)
      have HS := hide hS
      clear hS hlt
      obtain ⟨X0, hX0⟩ : ∃ X, X = wr := ⟨_, rfl⟩
      subst hX0
      have HB0 := hide (PgB.start X0 ns L)
      obtain ⟨m, As, cs, hset⟩ := HS.out.set
      rw [List.take_length] at hset
      have HSet := hide hset
      clear hset
      go_wp2_with fail
      clear hmk
      generalize hX1 : X0.alloc (.cells (madeCells #[.int .i64 0, .int .i64 0, .slice none 0 0] (L.length * 3)) 41) = X1 at HB0 ⊢
      clear hX1
      go_loopg [25] L.length (fun gk iv wi => ∃ k : Nat, k ≤ L.length ∧ gk = L.length - k ∧ iv = .int .i64 (k : Int) ∧ PgB X0 wi ns L k)
      case atStart => exact ⟨0, Nat.zero_le _, rfl, rfl, HB0.out⟩
      case round =>
        clear HB0
        obtain ⟨W, hW⟩ : ∃ X, X = wr := ⟨_, rfl⟩
        subst hW
        obtain ⟨k, hk, rfl, rfl, hS2⟩ := hrel
        have lG := HS.out.lG.below hS2.bel (by have := HS.out.size; omega)
        have g0 := lG.cell 0
        have g1 := lG.cell 1
        simp at g0 g1
        by_cases hlt : k < L.length
        · have hBW := HS.out.bel.trans (hS2.bel.mono HS.out.bel.size)
          obtain ⟨b, off, x, rfl, hbl, hx, hm, hc⟩ := (HL.out.below hBW).at_ hlt
          obtain ⟨hx0, hx1⟩ := HP.out.range x hm
          obtain ⟨i, rfl⟩ := Int.eq_ofNat_of_zero_le hx0
          have hil : i < ns.length := by omega
          obtain ⟨b', off', n, rfl, hbl', hn, _, hnd⟩ := (HR.out.below hBW).at_ hil
          obtain ⟨A1, c1, k2, hki, _⟩ := hnd.kids
          have k0 := hnd.kind
          have k1 := hnd.value
          obtain ⟨hk1000, hkin⟩ := HP.out.closed i n hm hn
          have HX := hide hx
          have HN := hide hn
          have HKin := hide hkin
          have HS2 := hide hS2
          have hi3 : (0 : Int) ≤ (i : Int) := by omega
          have hi4 : (i : Int) < (ns.length : Int) := by omega
          have HRW := hide (rewired_any 53 #[.pointer (some ⟨w.heap.size + 1 + 1, 0, none⟩)] #[] (place L) n A1 c1 W (hki.later (Below.refl _ _) hBW.size) hk1000 (fun k _ => place_in64 (L := L) (by omega) k) (fun _ _ => by kernel_rfl)
            (fun y W' hb hy => numI_any _ _ m As cs L y W' (HSet.out.below (HS2.out.bel.trans (hb.mono HS2.out.bel.size))) (hki.wf y hy) (hkin y hy)))
          clear hx hm hn hkin hnd hki hS2 lG hx0 hx1 hbl hbl' hBW g1
          go_wp2_with fail
          refine HRW.out.mono ?_
          clear HRW
          rintro e wi ⟨Ak, ck, rfl, hown, hbi⟩
          obtain ⟨f, hf⟩ := HS2.out.row.row
          have hfw : wi.rowIs X0.heap.size 41 (L.length * 3) f := hf.of_block (hbi.block _ (by have := hf.lt; omega))
          have q0 := World.rowIs.cell hfw (i := k * 3) (by omega)
          have q1 := World.rowIs.cell hfw (i := k * 3 + 1) (by omega)
          have q2 := World.rowIs.cell hfw (i := k * 3 + 2) (by omega)
          have p0 := World.rowIs.frozen hfw (k * 3)
          have p1 := World.rowIs.frozen hfw (k * 3 + 1)
          have p2 := World.rowIs.frozen hfw (k * 3 + 2)
          have hBs := HS2.out.step HX.out HN.out (Below.refl _ _) hbi hown rfl
          simp only [List.length_map] at hBs
          have HB := hide hBs
          clear hBs
          have hk1 : (k : Int) < (L.length : Int) := by omega
          clear hown hbi hf hfw hc k2 k0 k1 g0
          go_wp2_with fail
          go_roundg (L.length - (k + 1))
          case measure => omega
          case rel => exact ⟨k + 1, by omega, rfl, by go_num, HB.out⟩
        · obtain rfl : k = L.length := by omega
          have hszX := HS.out.size
          have Hr := hide HP.out.root
          have Hr64 := hide (HL.out.wf r HP.out.root)
          have HSetW := hide (HSet.out.below hS2.bel)
          have lR := HS.out.lR.below hS2.bel (by omega)
          have l5 := (lR.set 0 (.slice (some ⟨X0.heap.size, 0, none⟩) L.length L.length)).set 1 (.int .i64 (place L r))
          simp only [List.setIfInBounds_toArray, List.set_cons_succ, List.set_cons_zero] at l5
          have s0 := l5.cell 0
          have s1 := l5.cell 1
          have q0 := lR.cell 0
          have q1 := lR.cell 1
          have q2 := lR.frozen 0
          have q3 := lR.frozen 1
          simp only [List.getElem?_toArray, List.getElem?_cons_zero, List.getElem?_cons_succ] at s0 s1 q0 q1
          have hrow : OwnRow ((W.setCell ⟨w.heap.size + 1, 0, none⟩ (.slice (some ⟨X0.heap.size, 0, none⟩) L.length L.length)).setCell ⟨w.heap.size + 1, 1, none⟩ (.int .i64 (place L r))) w.heap.size W.heap.size X0.heap.size L.length (pickNs ns L) := by
            have := hS2.row.low (lo2 := w.heap.size) (by omega)
            rw [List.take_of_length_le (by rw [pickNs_len]; exact Nat.le_refl _)] at this
            have h2 : OwnRow W X0.heap.size W.heap.size X0.heap.size L.length (pickNs ns L) := by
              have h3 := hS2.row
              rw [List.take_of_length_le (by rw [pickNs_len]; exact Nat.le_refl _)] at h3
              exact h3
            exact (h2.kept (fun b hb _ => (Below.heap_setCell _ _ _ _ (by show b ≠ w.heap.size + 1; omega)).trans (Below.heap_setCell _ _ _ _ (by show b ≠ w.heap.size + 1; omega)))).low (by omega)
          have HROW := hide hrow
          have HBL := hide (((HS.out.bel.trans (hS2.bel.mono HS.out.bel.size)).setCell (p := ⟨w.heap.size + 1, 0, none⟩) (by show w.heap.size ≤ w.heap.size + 1; omega) (.slice (some ⟨X0.heap.size, 0, none⟩) L.length L.length)).setCell (p := ⟨w.heap.size + 1, 1, none⟩) (by show w.heap.size ≤ w.heap.size + 1; omega) (.int .i64 (place L r)))
          have Hlen := hide (pickNs_len ns L)
          clear hrow hS2 lR l5 lG hlt hszX g0
          go_wp2_with fail
          refine (numI_any _ _ m As cs L r W HSetW.out Hr64.out Hr.out).mono ?_
          rintro e w' ⟨rfl, rfl⟩
          go_wp2
          refine bodyPost_ret (v := .agg #[.slice (some ⟨X0.heap.size, 0, none⟩) L.length L.length, .int .i64 (place L r)]) (by simp [results, Try.results30, go_sem, s0, s1]) rfl ?_
          exact ⟨some ⟨X0.heap.size, 0, none⟩, L.length, by rw [Hlen.out], .inr ⟨_, rfl, by simpa using HROW.out⟩, HBL.out⟩

end Go.Proofs.Ytcblcmdfeoijpab
