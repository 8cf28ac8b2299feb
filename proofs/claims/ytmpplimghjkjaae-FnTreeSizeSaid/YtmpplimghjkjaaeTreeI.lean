/-
  The program's TreeSize: the closure that keeps the sizes.
-/
import Derived.Test.YtmpplimghjkjaaeTree
import Derived.Test.YtmpplimghjkjaaeSetK
import Derived.Test.YtmpplimghjkjaaeWalkA
namespace Go.Proofs.Ytmpplimghjkjaae
open Go.RowKit
set_option linter.unusedVariables false

structure TEnv (w : World) (base bs bg bf gs : Nat) (A : Option Addr) (c : Nat) (ns : List Nd) (r : Int) : Prop where
  sizes : Lies w bs #[.slice (some ⟨gs, 0, none⟩) ns.length ns.length] 28
  graph : Lies w bg #[.slice A ns.length c, .int .i64 r] 25
  self : Lies w bf #[.func (.func 14) #[] #[.pointer (some ⟨bs, 0, none⟩), .pointer (some ⟨bg, 0, none⟩), .pointer (some ⟨bf, 0, none⟩)]] 35
  read : NdsAt w bg A ns
  n1 : bg < gs
  n2 : gs < bs
  n3 : bs < bf
  n4 : bf < base

theorem TEnv.frame {w w' : World} {base bs bg bf gs : Nat} {A : Option Addr} {c : Nat} {ns : List Nd} {r : Int} (h : TEnv w base bs bg bf gs A c ns r) (hb : But base gs w w') : TEnv w' base bs bg bf gs A c ns r := by
  have := h.n1
  have := h.n2
  have := h.n3
  have := h.n4
  exact ⟨(hb.block _ (by omega) (by omega)).trans h.sizes, (hb.block _ (by omega) (by omega)).trans h.graph, (hb.block _ (by omega) (by omega)).trans h.self,
    h.read.below ⟨hb.os, hb.tape, hb.output, hb.size, fun k hk => hb.block k (by omega) (by omega)⟩, h.n1, h.n2, h.n3, h.n4⟩

/-- the row of the sizes -/
def Row (w : World) (gs : Nat) (ns : List Nd) (Z : List Int) : Prop := w.rowIs gs 3 ns.length (intCell Z)

def TszDone (base gs : Nat) (ns : List Nd) (i : Nat) (w : World) (e : Ending) (w' : World) : Prop :=
  e = .returned (.int .i64 (treeN ns (i : Int) : Int)) ∧ But base gs w w' ∧ ∃ Z, Memo ns Z ∧ Row w' gs ns Z

theorem tbut_refl (base g : Nat) (w : World) : But base g w w := ⟨rfl, rfl, rfl, Nat.le_refl _, fun _ _ _ => rfl⟩
theorem But.set {base g : Nat} {a w : World} (h : But base g a w) (i : Nat) (u : Value) : But base g a (w.setCell ⟨g, i, none⟩ u) :=
  h.trans ⟨rfl, rfl, rfl, by simp, fun k _ hk => Below.heap_setCell _ _ _ _ hk⟩

set_option maxRecDepth 100000 in
set_option maxHeartbeats 4000000 in
theorem tsz1_any (ns : List Nd) (r : Int) (hv : ValidG ns r) (base bs bg bf gs : Nat) (A : Option Addr) (c : Nat) (d : Nat) (hd : d + 1 ≤ 5000)
    (ih : ∀ (i : Nat) (Z : List Int) (w : World), i < ns.length → Hgt ns d (i : Int) → Memo ns Z → Row w gs ns Z → TEnv w base bs bg bf gs A c ns r →
      Calls Try.prog 14 #[.int .i64 (i : Int), .pointer (some ⟨bs, 0, none⟩), .pointer (some ⟨bg, 0, none⟩), .pointer (some ⟨bf, 0, none⟩)] w (TszDone base gs ns i w))
    (i : Nat) (Z : List Int) (w : World) (hi : i < ns.length) (hh : Hgt ns (d + 1) (i : Int)) (hZ : Memo ns Z) (hrow : Row w gs ns Z) (he : TEnv w base bs bg bf gs A c ns r) :
      Calls Try.prog 14 #[.int .i64 (i : Int), .pointer (some ⟨bs, 0, none⟩), .pointer (some ⟨bg, 0, none⟩), .pointer (some ⟨bf, 0, none⟩)] w (TszDone base gs ns i w) := by
  have x1 := he.sizes.cell 0
  have x2 := he.graph.cell 0
  have x3 := he.graph.cell 1
  simp at x1 x2 x3
  have r1 := World.rowIs.cell hrow hi
  have r2 := World.rowIs.frozen hrow i
  rw [show intCell Z i = .int .i64 (Z.getD i 0) from rfl] at r1
  have hi1 : (0 : Int) ≤ (i : Int) := by omega
  have hi2 : (i : Int) < (ns.length : Int) := by omega
  have hpos := treeN_pos ns (i : Int)
  have hle := treeN_le ns (i : Int)
  have hn1 := he.n1
  have hn2 := he.n2
  have hn3 := he.n3
  have hn4 := he.n4
  have HV := hide hv
  have Hih := hide ih
  have Hh := hide hh
  have HZ := hide hZ
  have Hrow := hide hrow
  have He := hide he
  have Hor := hide (hZ.at_ i hi)
  clear hv ih hh hZ hrow he
  by_cases h0 : Z.getD i 0 = 0
  · rw [h0] at r1
    obtain ⟨b, off, n, rfl, hbl, hat, hmem, hN⟩ := He.out.read.at_ hi
    obtain ⟨hn_k, hn_v, ⟨A1, c1, hn_s, hI1, _⟩, _, _⟩ := hN
    have hkids : Hid (kidsOf ns (i : Int) = n.kids) := kidsOf_at hat
    have hk6 := (HV.out.nodes n hmem).few
    have hin := hide (HV.out.nodes n hmem).inn
    have HI1 := hide hI1
    clear hat hmem h0 hI1
    go_enter Try.func14, Try.ntmps14
    go_wp2_with fail
    clear r1 r2 x1 x2 x3 hn_k hn_v hn_s
    go_loopw [6, 21] (fun tv iv wr => ∃ (k q : Nat) (Z' : List Int), k ≤ n.kids.length ∧ iv = .int .i64 k ∧ tv = .int .i64 q ∧ q = cutTo ns (n.kids.take k) ∧ But base gs w wr ∧ Memo ns Z' ∧ Row wr gs ns Z') (fun _ iv _ => n.kids.length - (intOf iv).toNat)
    case atStart => exact ⟨0, 1, Z, Nat.zero_le _, rfl, rfl, by rw [List.take_zero, cutTo_nil], tbut_refl _ _ _, HZ.out, Hrow.out⟩
    case round =>
      obtain ⟨k, q, Z', hkl, rfl, rfl, hq, hb, hm, hrow⟩ := hrel
      have hq5 : q ≤ 5000 := by rw [hq]; exact cutTo_le _ _
      have Hq := hide hq
      have Her := hide (He.out.frame hb)
      have Hb := hide hb
      have Hm := hide hm
      have Hrw := hide hrow
      clear hq hm hrow
      by_cases hlt : k < n.kids.length
      · have hIr := HI1.out.below (w' := wr) ⟨hb.os, hb.tape, hb.output, hb.size, fun j hj => hb.block j (by omega) (by omega)⟩
        obtain ⟨bk, ok, x, rfl, hbk, hx, hxm, hcx⟩ := hIr.at_ hlt
        obtain ⟨hx0, hx1⟩ := hin.out x hxm
        obtain ⟨y, rfl⟩ := Int.eq_ofNat_of_zero_le hx0
        have Hx := hide hx
        have hhy := hide (Hh.out (y : Int) (by rw [hkids.out]; exact hxm))
        have ys := Her.out.self.cell 0
        simp at ys
        have hk1 : (0 : Int) ≤ (k : Int) := by omega
        have hk2 : (k : Int) < (n.kids.length : Int) := by omega
        clear hx hxm hIr hb
        go_wp2_with fail
        refine (Hih.out y Z' wr (by omega) hhy.out Hm.out Hrw.out Her.out).mono ?_
        rintro e w5 ⟨rfl, hb5, Z5, hm5, hrow5⟩
        have hy5 := treeN_le ns (y : Int)
        have hnew : Hid (min (q + treeN ns (y : Int)) 5000 = cutTo ns (n.kids.take (k + 1))) := by
          show _ = _
          rw [List.take_add_one, Hx.out, Option.toList_some, cutTo_snoc, Hq.out]
        generalize treeN ns (y : Int) = u at hy5 hnew ⊢
        have Hb5 := hide (Hb.out.trans hb5)
        have Hm5 := hide hm5
        have Hr5 := hide hrow5
        clear hb5 hm5 hrow5 ys hcx
        go_wp2
        go_roundw
        case rel => exact ⟨k + 1, min (q + u) 5000, Z5, by omega, by go_num, by go_num, hnew.out, Hb5.out, Hm5.out, Hr5.out⟩
        case measure => simp [intOf]; omega
      · obtain rfl : k = n.kids.length := by omega
        have hqt : Hid (q = treeN ns (i : Int)) := by
          show _ = _
          have h := Hq.out
          rw [List.take_length, ← hkids.out, cutTo_kids Hh.out hd] at h
          exact h
        have hgs : gs < wr.heap.size := World.rowIs.lt Hrw.out
        have z1 := Her.out.sizes.cell 0
        simp at z1
        have z2 := World.rowIs.cell Hrw.out hi
        have z3 := World.rowIs.frozen Hrw.out i
        have z4 : (wr.setCell ⟨gs, i, none⟩ (.int .i64 (q : Int))).cell? ⟨bs, 0, none⟩ = some (.slice (some ⟨gs, 0, none⟩) ns.length ns.length) := by
          rw [World.cell?_setCell_other]
          · exact z1
          · intro e
            injection e with e _
            omega
        have z5 : (wr.setCell ⟨gs, i, none⟩ (.int .i64 (q : Int))).cell? ⟨gs, i, none⟩ = some (.int .i64 (q : Int)) := World.cell?_setCell_same _ _ _ z2
        have hfin : Hid (TszDone base gs ns i w (.returned (.int .i64 (q : Int))) (wr.setCell ⟨gs, i, none⟩ (.int .i64 (q : Int)))) := by
          show TszDone _ _ _ _ _ _ _
          refine ⟨by rw [hqt.out], Hb.out.set i _, Z'.set i (q : Int), by rw [hqt.out]; exact Hm.out.set i, ?_⟩
          exact (World.rowIs.set Hrw.out i _).congr (fun j hj => (intCell_set Z' i _ (by rw [Hm.out.len]; exact hi) j).symm)
        clear hlt hb hkids hpos hle
        go_wp2
        go_ret
        exact hfin.out
  · have hz : Z.getD i 0 = (treeN ns (i : Int) : Int) := by
      rcases Hor.out with h | h
      · exact absurd h h0
      · exact h
    rw [hz] at r1
    have hfin : Hid (TszDone base gs ns i w (.returned (.int .i64 (treeN ns (i : Int) : Int))) w) := ⟨rfl, tbut_refl _ _ _, Z, HZ.out, Hrow.out⟩
    clear h0 hz
    generalize treeN ns (i : Int) = u at hpos hle r1 hfin
    have hne : ¬ (u : Int) = 0 := by omega
    go_enter Try.func14, Try.ntmps14
    go_wp2
    go_ret
    exact hfin.out

theorem tsz_any (ns : List Nd) (r : Int) (hv : ValidG ns r) (base bs bg bf gs : Nat) (A : Option Addr) (c : Nat) : ∀ (d : Nat), d ≤ 5000 → ∀ (i : Nat) (Z : List Int) (w : World), i < ns.length → Hgt ns d (i : Int) → Memo ns Z → Row w gs ns Z → TEnv w base bs bg bf gs A c ns r →
      Calls Try.prog 14 #[.int .i64 (i : Int), .pointer (some ⟨bs, 0, none⟩), .pointer (some ⟨bg, 0, none⟩), .pointer (some ⟨bf, 0, none⟩)] w (TszDone base gs ns i w)
  | 0, _, _, _, _, _, hh, _, _, _ => hh.elim
  | d + 1, hd, i, Z, w, hi, hh, hZ, hrow, he => tsz1_any ns r hv base bs bg bf gs A c d hd (tsz_any ns r hv base bs bg bf gs A c d (by omega)) i Z w hi hh hZ hrow he

end Go.Proofs.Ytmpplimghjkjaae
