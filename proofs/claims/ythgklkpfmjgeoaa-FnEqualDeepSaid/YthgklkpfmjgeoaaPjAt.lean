/-
  Lemmas, several texts in one: CngE, CodI, CodF, CodOI.
-/
import Derived.Test.YthgklkpfmjgeoaaPjAn
import Derived.Test.YthgklkpfmjgeoaaPjAo
import Derived.Test.YthgklkpfmjgeoaaPjAk
import Derived.Test.YthgklkpfmjgeoaaPjAm
import Derived.StillTailTactics
import Derived.Laws.EntriesVeiled
import Derived.Deep.RegionHeld3
import Derived.Outline
import Derived.Deep.RegionLaw
import Derived.Test.YthgklkpfmjgeoaaPjAh
import Derived.Test.YthgklkpfmjgeoaaPjAs
namespace Go.Proofs.Ythgklkpfmjgeoaa
open Go.RowKit
set_option linter.unusedVariables false

theorem repl_eqq {ns : List Nd} {cl : List Int} (hk : KidsIn ns) (hc : Cong ns cl) : ∀ (d : Nat) (i j : Nat), i < ns.length → j < ns.length → look cl (i : Int) = look cl (j : Int) → Eqq (replNs ns cl) ns d (i : Int) (j : Int)
  | 0, _, _, _, _, _ => trivial
  | d + 1, i, j, hi, hj, h => by
    have hn : ns[i]? = some ns[i] := List.getElem?_eq_getElem hi
    have hm : ns[j]? = some ns[j] := List.getElem?_eq_getElem hj
    have hs := hc.same i j _ _ hn hm h
    obtain ⟨s1, s2, s3⟩ := sig_parts hs
    refine (eqq_step (replNs_at hn) hm d).2 ⟨⟨s1, s2, by have := congrArg List.length s3; simpa [replNd] using this⟩, fun p a b ha hb => ?_⟩
    have ha' : (ns[i].kids.map (look cl))[p]? = some a := ha
    rw [s3, List.getElem?_map, hb] at ha'
    obtain rfl := Option.some.inj ha'
    have hbr := hk _ (List.getElem_mem hj) b (List.mem_of_getElem? hb)
    obtain ⟨b0, hb0⟩ := Int.eq_ofNat_of_zero_le hbr.1
    subst hb0
    have hlr := hc.rng (b0 : Int) hbr.1 hbr.2
    obtain ⟨a0, ha0⟩ := Int.eq_ofNat_of_zero_le hlr.1
    rw [ha0]
    exact repl_eqq hk hc d a0 b0 (by omega) (by omega) (by rw [← ha0, hc.idem _ hbr.1 hbr.2])

theorem repl_eqAll {ns : List Nd} {cl : List Int} (hk : KidsIn ns) (hc : Cong ns cl) {x : Int} (x0 : 0 ≤ x) (x1 : x < ns.length) : EqqAll (replNs ns cl) ns (look cl x) x := fun d => by
  obtain ⟨i, rfl⟩ := Int.eq_ofNat_of_zero_le x0
  have hlr := hc.rng (i : Int) x0 x1
  obtain ⟨j, hj⟩ := Int.eq_ofNat_of_zero_le hlr.1
  rw [hj]
  exact repl_eqq hk hc d j i (by omega) (by omega) (by rw [← hj, hc.idem _ x0 x1])

/-- what is reached in it are nodes that stay as they are -/
theorem repl_reached {ns : List Nd} {cl : List Int} {r : Int} (hv : ValidG ns r) (hc : Cong ns cl) {L : List Int} (hR : Reached (replNs ns cl) (look cl r) L) : ∀ x ∈ L, (0 ≤ x ∧ x < ns.length) ∧ look cl x = x := by
  intro x hx
  have hxr := hR.met.range x hx
  rw [replNs_len] at hxr
  refine ⟨hxr, ?_⟩
  obtain ⟨k, hk, e⟩ := List.getElem_of_mem hx
  have hat : L[k]? = some x := by rw [List.getElem?_eq_getElem hk, e]
  rcases Nat.eq_zero_or_pos k with h0 | h0
  · subst h0
    rw [hR.ord.first x hat]
    exact hc.idem r hv.root0 hv.root
  · obtain ⟨m, y, hm, hy, hin⟩ := hR.ord.later k x h0 hat
    have hyr := hR.met.range y (List.mem_of_getElem? hy)
    rw [replNs_len] at hyr
    obtain ⟨i, n, rfl, hn⟩ := nd_of hyr.1 hyr.2
    rw [kidsOf_repl hn] at hin
    obtain ⟨z, hz, rfl⟩ := List.mem_map.1 hin
    have hzr := validG_kids hv n (List.mem_of_getElem? hn) z hz
    exact hc.idem z hzr.1 hzr.2

theorem repl_repl {ns : List Nd} {cl : List Int} (hk : KidsIn ns) (hc : Cong ns cl) : replNs (replNs ns cl) cl = replNs ns cl := by
  unfold replNs
  rw [List.map_map]
  apply List.map_congr_left
  intro n hn
  unfold replNd
  simp only [Function.comp, List.map_map, Nd.mk.injEq, true_and]
  apply List.map_congr_left
  intro x hx
  have := hk n hn x hx
  exact hc.idem x this.1 this.2

end Go.Proofs.Ythgklkpfmjgeoaa

namespace Go.Proofs.Ythgklkpfmjgeoaa
open Go.RowKit Go.Maps
set_option linter.unusedVariables false

def CodDone (base bn bc bm bw : Nat) (A : Option Addr) (c : Nat) (ns : List Nd) (R : CM) (w : World) (e : Ending) (w' : World) : Prop :=
  e = .returned (.tuple #[]) ∧ CEnv w' base bn bc bm bw A c ns R.1 R.2 ∧ But2 base bc bm w w'

set_option maxRecDepth 100000 in
set_option maxHeartbeats 4000000 in
theorem codw1_any (ns : List Nd) (K M : Nat) (hg : CodG ns K) (hl : ns.length ≤ 1048576) (hM : M ≤ 16000000) (base bn bc bm bw : Nat) (A : Option Addr) (c : Nat) (f : Nat)
    (ih : ∀ (i : Nat) (P Q : List Int) (w : World), i < ns.length → CInv ns (P, Q) → CEnv w base bn bc bm bw A c ns P Q → ns.length < f + Q.length → P.length + 3 + 3 * (K * (ns.length - Q.length)) ≤ M →
      Calls Try.prog 68 #[.int .i64 (i : Int), .pointer (some ⟨bn, 0, none⟩), .pointer (some ⟨bm, 0, none⟩), .pointer (some ⟨bc, 0, none⟩), .pointer (some ⟨bw, 0, none⟩)] w (CodDone base bn bc bm bw A c ns (cod ns f i (P, Q)) w))
    (i : Nat) (P Q : List Int) (w : World) (hi : i < ns.length) (hp : CInv ns (P, Q)) (he : CEnv w base bn bc bm bw A c ns P Q) (hf : ns.length < f + 1 + Q.length) (hB0 : P.length + 3 + 3 * (K * (ns.length - Q.length)) ≤ M) :
      Calls Try.prog 68 #[.int .i64 (i : Int), .pointer (some ⟨bn, 0, none⟩), .pointer (some ⟨bm, 0, none⟩), .pointer (some ⟨bc, 0, none⟩), .pointer (some ⟨bw, 0, none⟩)] w (CodDone base bn bc bm bw A c ns (cod ns (f + 1) i (P, Q)) w) := by
  have x3 := he.nodes.cell 0
  simp at x3
  obtain ⟨b, off, n, rfl, hbl, hat, hmem, hN⟩ := he.read.at_ hi
  obtain ⟨hn_k, hn_v, ⟨A1, c1, hn_s, hI1, _⟩, hwk, hwv⟩ := hN
  have hi1 : (0 : Int) ≤ (i : Int) := by omega
  have hi2 : (i : Int) < (ns.length : Int) := by omega
  have hin64 : In64 (i : Int) := by constructor <;> omega
  have HIn := hide hin64
  have hkids : Hid (kidsOf ns (i : Int) = n.kids) := kidsOf_at hat
  have hkind : Hid (kindOf ns (i : Int) = n.kind) := kindOf_at hat
  have hvalue : Hid (valueOf ns (i : Int) = n.value) := valueOf_at hat
  have hlQ := hp.met.len
  have hkf := hg.few n hmem
  have Hput := hide (fun h : (i : Int) ∉ Q => CInv.put hg hp hat h)
  have Hseen := hide (fun h : (i : Int) ∈ Q => hp.seen h hl)
  have Hkz := hide (fun h : (i : Int) ∈ Q => hp.kinds (i : Int) h)
  have hleaf := hide (hg.leaf n hmem)
  have Hin := hide (hg.kin.of (i : Int))
  have Hih := hide ih
  have Hg := hide hg
  have Hwk := hide hwk
  have Hwv := hide hwv
  have hn1 := he.n1
  have hn2 := he.n2
  have hn3 := he.n3
  have hn4 := he.n4
  have hhb := he.hb
  obtain ⟨m, Am, cm, Ac, cc, hset, hcode, hown, hdis⟩ := he.st
  have hbN : Below w.heap.size w (w.alloc (.cells #[.int .i64 n.kind, .int .i64 n.value, .slice A1 n.kids.length c1] 43)) := (Below.refl _ _).alloc (Nat.le_refl _) _
  have lN := Lies.new w #[.int .i64 n.kind, .int .i64 n.value, .slice A1 n.kids.length c1] 43
  have He := hide he
  have hbt : But2 base bc bm w (w.alloc (.cells #[.int .i64 n.kind, .int .i64 n.value, .slice A1 n.kids.length c1] 43)) := But2.of_below hbN hhb
  have hI2 := hI1.below (hbN.mono (by omega : bn ≤ w.heap.size))
  have hkl := hI1.len
  have hlen64 : In64 (n.kids.length : Int) := by constructor <;> omega
  have Hl64 := hide hlen64
  have HA : Hid (∀ g, blockOf Ac = some g → base ≤ g ∧ g < w.heap.size) := hown.blocks
  have HAm : Hid (∀ g, blockOf Am = some g → base ≤ g ∧ g < w.heap.size) := hset.row.blocks
  have Hmm : Hid (∀ g, m = some g → g < w.heap.size) := hset.map.lt
  have hset1 := hset.below hbN
  have hcode1 := hcode.below hbN (by omega)
  have hown1 := hown.below hbN
  have Hdis := hide hdis
  have hc0 := hcode1.cell 0
  have hf0 := hcode1.frozen 0
  have n0 := lN.cell 0
  have n1 := lN.cell 1
  have n2 := lN.cell 2
  simp at hc0 n0 n1 n2
  have hWs : Hid ((w.alloc (.cells #[.int .i64 n.kind, .int .i64 n.value, .slice A1 n.kids.length c1] 43)).heap.size = w.heap.size + 1) := by simp [Hid]
  clear hat ih he hmem hin64 hp hI1 hg hwk hwv hlen64 hset hcode hown hdis
  by_cases hk0 : n.kind = 0
  · have t0 : (n.kind != 0) = false := by simpa using hk0
    have hno : (i : Int) ∉ Q := fun h => Hkz.out h (hkind.out.trans hk0)
    have hcod := hide (cod_new (ns := ns) (f := f) (x := (i : Int)) (p := (P, Q)) hno)
    have hkn : n.kids = [] := hleaf.out hk0
    have tl : (n.kids.length : Int) = 0 := by rw [hkn]; rfl
    have HK := hide hk0
    have HKN := hide hkn
    clear hno hkn hk0
    go_enter Try.func68, Try.ntmps68
    have hlit : IntsAt ((w.alloc (.cells #[.int .i64 n.kind, .int .i64 n.value, .slice A1 n.kids.length c1] 43)).alloc (.cells #[.int .i64 n.kind, .int .i64 n.value, .int .i64 0] 3)) (w.heap.size + 1 + 1) (some ⟨w.heap.size + 1, 0, none⟩) [n.kind, n.value, (0 : Int)] := by
      have := IntsAt.lit (w.alloc (.cells #[.int .i64 n.kind, .int .i64 n.value, .slice A1 n.kids.length c1] 43)) [n.kind, n.value, (0 : Int)] (by
        intro x hx
        simp at hx
        rcases hx with rfl | rfl | rfl
        · exact Hwk.out
        · exact Hwv.out
        · constructor <;> omega) (by simp)
      simpa using this
    have Hlit := hide hlit
    have hc2 := (hcode1.alloc (.cells #[.int .i64 n.kind, .int .i64 n.value, .int .i64 0] 3)).cell 0
    have hf2 := (hcode1.alloc (.cells #[.int .i64 n.kind, .int .i64 n.value, .int .i64 0] 3)).frozen 0
    have n2x := (lN.alloc (.cells #[.int .i64 n.kind, .int .i64 n.value, .int .i64 0] 3)).cell 2
    simp only [List.getElem?_toArray, List.getElem?_cons_zero, List.getElem?_cons_succ] at hc2 n2x
    clear hlit
    go_wp2_with (at_builtin; refine append_ints rfl (.tmp 26) (.tmp 34) rfl base Ac cc P rfl (hown1.alloc _) _ _ 3 [n.kind, n.value, 0] rfl (fun e => by cases e) Hlit.out (by simp; omega) (by simp; omega) ?_; intro zs Ac' cc' w1 hz hown2 hg2 hat2; have s1 : w1.cell? ⟨bc, 0, none⟩ = some (.slice Ac P.length cc) := (hg2.cell_far _ (by simp; omega) (fun e => by have := (HA.out bc e.symm).1; omega)).trans hc2; have s2 : w1.frozen? ⟨bc, 0, none⟩ = false := (hg2.frozen_far _ (by simp; omega) (fun e => by have := (HA.out bc e.symm).1; omega)).trans hf2; have s3 := far_cell (bc := bc) (v := .slice Ac' zs.length cc') hg2 (nb := w.heap.size) (by simp; omega) (fun e => by have := (HA.out w.heap.size e.symm).2; omega) (by omega) n2x)
    have hst := st_written (w := (w.alloc (.cells #[.int .i64 n.kind, .int .i64 n.value, .slice A1 n.kids.length c1] 43)).alloc (.cells #[.int .i64 n.kind, .int .i64 n.value, .int .i64 0] 3)) (hset1.below ((Below.refl _ _).alloc (Nat.le_refl _) _)) (hcode1.alloc _) (hown1.alloc _) Hdis.out hn2 (by simp; omega) hg2 hown2 (by
      rcases hat2 with h | h
      · exact .inl h
      · exact .inr ⟨_, h, by simp⟩)
    have hE := He.out.frame ((hbt.trans (But2.of_below ((Below.refl _ _).alloc (Nat.le_refl _) _) (by simp; omega))).trans hst.2) hst.1
    have HF : Hid (CodDone base bn bc bm bw (some ⟨b, off, none⟩) c ns (cod ns (f + 1) i (P, Q)) w (.returned (.tuple #[])) (w1.setCell ⟨bc, 0, none⟩ (.slice Ac' zs.length cc'))) := by
      show CodDone _ _ _ _ _ _ _ _ _ _ _ _
      rw [hcod.out, hkids.out, HKN.out, codL_nil]
      have e1 : (codPut ns (i : Int) (P, Q)).1 = zs := by
        rw [hz.out]; unfold codPut; rw [hkind.out, hvalue.out, hkids.out, HKN.out]; rfl
      have e2 : (codPut ns (i : Int) (P, Q)).2 = Q := by unfold codPut; rw [hkind.out, if_pos HK.out]
      refine ⟨rfl, ?_, (hbt.trans (But2.of_below ((Below.refl _ _).alloc (Nat.le_refl _) _) (by simp; omega))).trans hst.2⟩
      rw [e1, e2]
      exact hE
    clear hst hE s1 s2 hc2 hf2 hc0 hf0 n0 n1 n2 n2x hg2 hown2 hat2 lN hset1 hcode1 hown1 hbt hbN x3 hn_k hn_v hn_s Hlit
    generalize w1.setCell ⟨bc, 0, none⟩ (.slice Ac' zs.length cc') = X at HF s3 ⊢
    go_loopw [39] (fun iv wr => iv = .int .i64 (0 : Nat) ∧ wr = X) (fun _ _ => 0)
    case atStart => exact ⟨rfl, rfl⟩
    case round =>
      obtain ⟨rfl, rfl⟩ := hrel
      go_wp2
      go_end0
      exact HF.out
  · have t0 : (n.kind != 0) = true := by simpa using hk0
    have HK := hide hk0
    clear hk0
    by_cases hmem : (i : Int) ∈ Q
    · have hcod := hide (cod_seen (ns := ns) (f := f) (x := (i : Int)) (p := (P, Q)) hmem)
      have hpl := place_lt hmem
      go_enter Try.func68, Try.ntmps68
      go_wp2_with fail
      refine (addI_seen bm base m Am cm Q i _ hset1 HIn.out hmem).mono ?_
      rintro e w' ⟨rfl, rfl⟩
      have hnum := hide (fun X : World => fun h : SetI X bm base m Am cm Q => numI_any bm base m Am cm Q i X h HIn.out hmem)
      generalize hpd : place Q (i : Int) = pl at hpl hnum
      have Hpd := hide hpd
      clear hpd hmem x3 hn_k hn_v hn_s n0 n1 n2 lN hI2
      go_wp2_with fail
      generalize w.alloc (.cells #[.int .i64 n.kind, .int .i64 n.value, .slice A1 n.kids.length c1] 43) = W at hset1 hcode1 hown1 hbN hbt hc0 hf0 hWs ⊢
      have hWz := hWs.out
      have hsetd := hset1.drew
      have hcL := (hcode1.alloc (.cells #[.int .i64 (-1), .int .i64 pl] 3)).cell 0
      have hfL := (hcode1.alloc (.cells #[.int .i64 (-1), .int .i64 pl] 3)).frozen 0
      simp at hcL
      have hlit : IntsAt (W.alloc (.cells #[.int .i64 (-1), .int .i64 pl] 3)).drew (W.alloc (.cells #[.int .i64 (-1), .int .i64 pl] 3)).drew.heap.size (some ⟨W.heap.size, 0, none⟩) [-1, pl] := by
        have h1 := IntsAt.lit W [-1, pl] (by intro x hx; simp at hx; rcases hx with rfl | rfl <;> constructor <;> omega) (by simp)
        have h2 := (h1.below (Below.refl _ _).drew).more (B' := (W.alloc (.cells ([-1, pl].map (Value.int .i64)).toArray 3)).drew.heap.size) (by simp)
        simpa using h2
      have Hlit := hide hlit
      have HWz := hide hWz
      clear hlit hWs hWz
      go_region_law (first
        | (go_simp; go_at_call 70; refine (hnum.out _ hsetd).mono ?_; rintro e w' ⟨rfl, rfl⟩; dsimp only)
        | (refine step_append_ints (by rfl) _ _ (by rfl) base Ac cc P (by rfl) ((hown1.alloc _).drew) ⟨W.heap.size, 0, none⟩ 2 [-1, pl] (by simp) (by rfl) Hlit.out (by simp; omega) (by have := HWz.out; simp; omega) ?_; intro zs Ac' cc' w1 hz hown2 hg2 hat2; have s1 : w1.cell? ⟨bc, 0, none⟩ = some (.slice Ac P.length cc) := (hg2.cell_far _ (by have := HWz.out; simp; omega) (fun e => by have := (HA.out bc e.symm).1; omega)).trans hcL; have s2 : w1.frozen? ⟨bc, 0, none⟩ = false := (hg2.frozen_far _ (by have := HWz.out; simp; omega) (fun e => by have := (HA.out bc e.symm).1; omega)).trans hfL))
      all_goals
        have hbL : Below W.heap.size W (W.alloc (.cells #[.int .i64 (-1), .int .i64 pl] 3)).drew := ((Below.refl _ _).alloc (Nat.le_refl _) _).drew
        have hst := st_written (w := (W.alloc (.cells #[.int .i64 (-1), .int .i64 pl] 3)).drew) (hset1.below hbL) ((hcode1.alloc (.cells #[.int .i64 (-1), .int .i64 pl] 3))) ((hown1.alloc _).drew) Hdis.out hn2 (by have := HWz.out; simp; omega) hg2 hown2 (by
          rcases hat2 with h | h
          · exact .inl h
          · exact .inr ⟨_, h, by simp⟩)
        have hbt2 := (hbt.trans (But2.of_below hbL (by have := HWz.out; omega))).trans hst.2
        have hE := He.out.frame hbt2 hst.1
        have HF : Hid (CodDone base bn bc bm bw (some ⟨b, off, none⟩) c ns (cod ns (f + 1) i (P, Q)) w (.returned (.tuple #[])) (w1.setCell ⟨bc, 0, none⟩ (.slice Ac' zs.length cc'))) := by
          show CodDone _ _ _ _ _ _ _ _ _ _ _ _
          rw [hcod.out]
          refine ⟨rfl, ?_, hbt2⟩
          show CEnv _ _ _ _ _ _ _ _ _ (P ++ [-1, place Q (i : Int)]) Q
          rw [Hpd.out, ← hz.out]
          exact hE
        clear hst hE s1 s2 hg2 hown2 hat2 hbt2 hbL hset1 hcode1 hown1 hsetd hc0 hf0 hcL hfL hbt hbN Hlit hnum
        go_wp2
        go_end0
        exact HF.out
    · have hcod := hide (cod_new (ns := ns) (f := f) (x := (i : Int)) (p := (P, Q)) hmem)
      have hinv := hide (Hput.out hmem)
      have Hmem := hide hmem
      have hI2' := hI2
      have hwn : w.heap.size < (w.alloc (.cells #[.int .i64 n.kind, .int .i64 n.value, .slice A1 n.kids.length c1] 43)).heap.size := lN.lt
      clear hmem
      go_enter Try.func68, Try.ntmps68
      go_wp2_with fail
      generalize w.alloc (.cells #[.int .i64 n.kind, .int .i64 n.value, .slice A1 n.kids.length c1] 43) = W at hset1 hcode1 hown1 hbN hbt hc0 hf0 hWs lN n0 n1 n2 hI2 hI2' hwn ⊢
      have hbW : base ≤ W.heap.size := by omega
      refine (addI_new2 bm base m cm Am Q i W hset1 HIn.out hbW Hmem.out (by omega)).mono ?_
      rintro e w3 ⟨rfl, ⟨m', Am', cm', hset3, htight⟩, hbut3⟩
      obtain ⟨hcode4, hown4, hdis4⟩ := st_added hset1 hcode1 hown1 Hdis.out htight hbut3 hn2
      have hkeep : ∀ k, k < W.heap.size → k ≠ bm → m ≠ some k → blockOf Am ≠ some k → w3.heap[k]? = W.heap[k]? := htight.block
      have lN3 : Lies w3 w.heap.size #[.int .i64 n.kind, .int .i64 n.value, .slice A1 n.kids.length c1] 43 := (hkeep _ hwn (by omega) (fun e => by have := Hmm.out _ e; omega) (fun e => by have := (HAm.out _ e).2; omega)).trans lN
      have hbt3 : But2 base bc bm w w3 := hbt.trans (But2.of_but hbut3)
      have hs3 := htight.size
      have Hdis4 := hide hdis4
      have hI4 : IntsAt w3 bn A1 n.kids := hI2'.below ⟨hbut3.os, hbut3.tape, hbut3.output, hbut3.size, fun k hk => hbut3.block k (by omega) (by omega)⟩
      have hlit : IntsAt (w3.alloc (.cells #[.int .i64 n.kind, .int .i64 n.value, .int .i64 (n.kids.length : Int)] 3)) (w3.heap.size + 1) (some ⟨w3.heap.size, 0, none⟩) [n.kind, n.value, (n.kids.length : Int)] := by
        have := IntsAt.lit w3 [n.kind, n.value, (n.kids.length : Int)] (by
          intro x hx
          simp at hx
          rcases hx with rfl | rfl | rfl
          · exact Hwk.out
          · exact Hwv.out
          · exact Hl64.out) (by simp)
        simpa using this
      have Hlit := hide hlit
      have hbL : Below w3.heap.size w3 (w3.alloc (.cells #[.int .i64 n.kind, .int .i64 n.value, .int .i64 (n.kids.length : Int)] 3)) := (Below.refl _ _).alloc (Nat.le_refl _) _
      have hcL := (hcode4.alloc (.cells #[.int .i64 n.kind, .int .i64 n.value, .int .i64 (n.kids.length : Int)] 3)).cell 0
      have hfL := (hcode4.alloc (.cells #[.int .i64 n.kind, .int .i64 n.value, .int .i64 (n.kids.length : Int)] 3)).frozen 0
      have nL := (lN3.alloc (.cells #[.int .i64 n.kind, .int .i64 n.value, .int .i64 (n.kids.length : Int)] 3)).cell 2
      simp only [List.getElem?_toArray, List.getElem?_cons_zero, List.getElem?_cons_succ] at hcL nL
      have c0 := hcode4.cell 0
      have m0 := lN3.cell 0
      have m1 := lN3.cell 1
      have m2 := lN3.cell 2
      simp at c0 m0 m1 m2
      clear hlit hdis4 hkeep htight hc0 hf0 n0 n1 n2 x3 hn_k hn_v hn_s hset1 hcode1 hown1 hI2 hI2' lN
      go_wp2_with (at_builtin; refine append_ints rfl (.tmp 26) (.tmp 34) rfl base Ac cc P rfl (hown4.alloc _) _ _ 3 [n.kind, n.value, (n.kids.length : Int)] rfl (fun e => by cases e) Hlit.out (by simp; omega) (by simp; omega) ?_; intro zs Ac' cc' w1 hz hown2 hg2 hat2; have s1 : w1.cell? ⟨bc, 0, none⟩ = some (.slice Ac P.length cc) := (hg2.cell_far _ (by simp; omega) (fun e => by have := (HA.out bc e.symm).1; omega)).trans hcL; have s2 : w1.frozen? ⟨bc, 0, none⟩ = false := (hg2.frozen_far _ (by simp; omega) (fun e => by have := (HA.out bc e.symm).1; omega)).trans hfL; have s3 := far_cell (bc := bc) (v := .slice Ac' zs.length cc') hg2 (nb := w.heap.size) (by simp; omega) (fun e => by have := (HA.out w.heap.size e.symm).2; omega) (by omega) nL)
      have hst := st_written (hset3.below hbL) (hcode4.alloc _) (hown4.alloc _) Hdis4.out hn2 (by simp; omega) hg2 hown2 (by
        rcases hat2 with h | h
        · exact .inl h
        · exact .inr ⟨_, h, by simp⟩)
      have hbt4 := (hbt3.trans (But2.of_below hbL (by omega))).trans hst.2
      have hE4 := He.out.frame hbt4 hst.1
      have hpair : Hid (codPut ns (i : Int) (P, Q) = (zs, Q ++ [(i : Int)])) := by
        show _ = _
        have e1 : (codPut ns (i : Int) (P, Q)).1 = zs := by
          rw [hz.out]; unfold codPut; rw [hkind.out, hvalue.out, hkids.out]
        have e2 : (codPut ns (i : Int) (P, Q)).2 = Q ++ [(i : Int)] := by unfold codPut; rw [hkind.out, if_neg HK.out]
        rw [← e1, ← e2]
      have hzl : Hid (zs.length = P.length + 3) := by show _ = _; rw [hz.out]; simp
      have hI5 : IntsAt (w1.setCell ⟨bc, 0, none⟩ (.slice Ac' zs.length cc')) bn A1 n.kids := by
        refine hI4.below ((hbL.mono (by omega : bn ≤ w3.heap.size)).trans ⟨hst.2.os, hst.2.tape, hst.2.output, hst.2.size, fun k hk => hst.2.block k (by omega) (by omega) (by omega)⟩)
      clear hst s1 s2 hg2 hown2 hat2 hcL hfL nL c0 m0 m1 m2 hset3 hcode4 hown4 lN3 hbt3 hbt hbN hbL Hlit hbut3 hI4 hz hwn hWs
      generalize w1.setCell ⟨bc, 0, none⟩ (.slice Ac' zs.length cc') = X at hbt4 hE4 hI5 s3 ⊢
      have Hbt4 := hide hbt4
      have HE4 := hide hE4
      have HI5 := hide hI5
      clear hbt4 hE4 hI5 s3
      go_loopw [39] (fun iv wr => ∃ (k : Nat) (P' Q' : List Int), k ≤ n.kids.length ∧ iv = .int .i64 k ∧ (P', Q') = codL ns f (n.kids.take k) (zs, Q ++ [(i : Int)]) ∧ CEnv wr base bn bc bm bw (some ⟨b, off, none⟩) c ns P' Q' ∧ But2 base bc bm w wr ∧ IntsAt wr bn A1 n.kids) (fun iv _ => n.kids.length - (intOf iv).toNat)
      case atStart => exact ⟨0, zs, Q ++ [(i : Int)], Nat.zero_le _, rfl, by rw [List.take_zero, codL_nil], HE4.out, Hbt4.out, HI5.out⟩
      case round =>
        clear HE4 Hbt4 HI5
        obtain ⟨k, P', Q', hkl2, rfl, hPQ, her, hbr, hIr⟩ := hrel
        have HPQ := hide hPQ
        have hcd := codedAll ns K Hg.out hl f (n.kids.take k) (zs, Q ++ [(i : Int)]) (by rw [← hpair.out]; exact hinv.out) (fun z hz => Hin.out z (by rw [hkids.out]; exact List.mem_of_mem_take hz)) (fun _ => by simp; omega)
        rw [← hPQ] at hcd
        have hgrow : Q.length + 1 ≤ Q'.length := by have := hcd.grow; simpa using this
        have hlenP : P'.length + 3 * (K * (Q.length + 1)) ≤ zs.length + 3 * k + 3 * (K * Q'.length) := by
          have := hcd.len
          rw [List.length_take, Nat.min_eq_left hkl2] at this
          simpa using this
        have HLP := hide hlenP
        have HI := hide hcd.inv
        have hQl : Q'.length ≤ ns.length := hcd.inv.met.len
        have Her := hide her
        have Hbr := hide hbr
        clear hPQ hcd hlenP her hbr
        by_cases hlt : k < n.kids.length
        · obtain ⟨bk, ok, x, rfl, hbk, hx, hxm, hcx⟩ := hIr.at_ hlt
          obtain ⟨hx0, hx1⟩ := Hin.out x (by rw [hkids.out]; exact hxm)
          obtain ⟨y, rfl⟩ := Int.eq_ofNat_of_zero_le hx0
          have Hx := hide hx
          have ys := Her.out.self.cell 0
          simp at ys
          have hk1 : (0 : Int) ≤ (k : Int) := by omega
          have hk2 : (k : Int) < (n.kids.length : Int) := by omega
          have hPb := hide (cod_bound hlQ hQl hB0 hzl.out HLP.out (show k < K by omega))
          clear hx hxm
          go_wp2_with fail
          refine (Hih.out y P' Q' wr (by omega) HI.out Her.out (by omega) hPb.out).mono ?_
          rintro e w5 ⟨rfl, he5, hb5⟩
          have hPQ2 : Hid (((cod ns f y (P', Q')).1, (cod ns f y (P', Q')).2) = codL ns f (n.kids.take (k + 1)) (zs, Q ++ [(i : Int)])) := by
            show _ = _
            rw [List.take_add_one, Hx.out, Option.toList_some, codL_snoc, ← HPQ.out]
          have He5 := hide he5
          have Hb5 := hide (Hbr.out.trans hb5)
          have hI6 := hIr.below (Her.out.below hb5)
          clear he5 hb5 hIr ys hcx
          go_wp2
          go_roundw
          case rel => exact ⟨k + 1, _, _, by omega, by go_num, hPQ2.out, He5.out, Hb5.out, hI6⟩
          case measure => simp [intOf]; omega
        · obtain rfl : k = n.kids.length := by omega
          have HF : Hid (CodDone base bn bc bm bw (some ⟨b, off, none⟩) c ns (cod ns (f + 1) i (P, Q)) w (.returned (.tuple #[])) wr) := by
            show CodDone _ _ _ _ _ _ _ _ _ _ _ _
            have e : (P', Q') = cod ns (f + 1) i (P, Q) := by rw [hcod.out, hkids.out, hpair.out, HPQ.out, List.take_length]
            rw [← e]
            exact ⟨rfl, Her.out, Hbr.out⟩
          clear hlt hIr
          go_wp2
          go_end0
          exact HF.out

theorem codw_any (ns : List Nd) (K M : Nat) (hg : CodG ns K) (hl : ns.length ≤ 1048576) (hM : M ≤ 16000000) (base bn bc bm bw : Nat) (A : Option Addr) (c : Nat) : ∀ (f i : Nat) (P Q : List Int) (w : World), i < ns.length → CInv ns (P, Q) → CEnv w base bn bc bm bw A c ns P Q → ns.length < f + Q.length → P.length + 3 + 3 * (K * (ns.length - Q.length)) ≤ M →
      Calls Try.prog 68 #[.int .i64 (i : Int), .pointer (some ⟨bn, 0, none⟩), .pointer (some ⟨bm, 0, none⟩), .pointer (some ⟨bc, 0, none⟩), .pointer (some ⟨bw, 0, none⟩)] w (CodDone base bn bc bm bw A c ns (cod ns f i (P, Q)) w)
  | 0, _, _, _, _, _, hp, _, hf, _ => by have := hp.met.len; simp at this; omega
  | f + 1, i, P, Q, w, hi, hp, he, hf, hB => codw1_any ns K M hg hl hM base bn bc bm bw A c f (fun i P Q w a1 a2 a3 a4 a5 => codw_any ns K M hg hl hM base bn bc bm bw A c f i P Q w a1 a2 a3 a4 a5) i P Q w hi hp he hf hB

end Go.Proofs.Ythgklkpfmjgeoaa

namespace Go.Proofs.Ythgklkpfmjgeoaa
open Go.RowKit Go.Maps
set_option linter.unusedVariables false


set_option maxRecDepth 100000 in
set_option maxHeartbeats 2000000 in
theorem codeFroms_any (ns : List Nd) (K : Nat) (hg : CodG ns K) (hl : ns.length ≤ 1048576) (A : Option Addr) (c : Nat) (Ar : Option Addr) (cr : Nat) (roots : List Int) (hM : 3 * roots.length + 3 + 3 * (K * ns.length) ≤ 16000000) (w : World) (hr : NdsAt w w.heap.size A ns)
    (hR : IntsAt w w.heap.size Ar roots) (hin : ∀ x ∈ roots, 0 ≤ x ∧ x < ns.length) :
    Calls Try.prog 49 #[.slice A ns.length c, .slice Ar roots.length cr] w (GivesInts w (codL ns (ns.length + 1) roots ([], [])).1) := by
  have Hg := hide hg
  have hB : Below w.heap.size w ((((w.alloc (.cells #[.slice A ns.length c] 23)).alloc (.cells #[.slice none 0 0] 35)).alloc (.cells #[.map none, .slice none 0 0] 87)).alloc
    (.cells #[.func (.func 68) #[] #[.pointer (some ⟨w.heap.size, 0, none⟩), .pointer (some ⟨w.heap.size + 1 + 1, 0, none⟩), .pointer (some ⟨w.heap.size + 1, 0, none⟩), .pointer (some ⟨w.heap.size + 1 + 1 + 1, 0, none⟩)]] 88)) :=
    ((((Below.refl _ w).alloc (Nat.le_refl _) _).alloc (by simp) _).alloc (by simp <;> omega) _).alloc (by simp <;> omega) _
  have henv : CEnv ((((w.alloc (.cells #[.slice A ns.length c] 23)).alloc (.cells #[.slice none 0 0] 35)).alloc (.cells #[.map none, .slice none 0 0] 87)).alloc
    (.cells #[.func (.func 68) #[] #[.pointer (some ⟨w.heap.size, 0, none⟩), .pointer (some ⟨w.heap.size + 1 + 1, 0, none⟩), .pointer (some ⟨w.heap.size + 1, 0, none⟩), .pointer (some ⟨w.heap.size + 1 + 1 + 1, 0, none⟩)]] 88)) (w.heap.size + 1 + 1 + 1 + 1) w.heap.size (w.heap.size + 1) (w.heap.size + 1 + 1) (w.heap.size + 1 + 1 + 1) A c ns [] [] := by
    refine ⟨?_, ?_, ⟨none, none, 0, none, 0, SetI.start ?_ (by omega), ?_, OwnI.empty _ _, fun g hg => by cases hg⟩, hr.below hB, by omega, by omega, by omega, by omega, by simp⟩
    · exact (((Lies.new w #[.slice A ns.length c] 23).alloc _).alloc _).alloc _
    · have := Lies.new (((w.alloc (.cells #[.slice A ns.length c] 23)).alloc (.cells #[.slice none 0 0] 35)).alloc (.cells #[.map none, .slice none 0 0] 87)) #[.func (.func 68) #[] #[.pointer (some ⟨w.heap.size, 0, none⟩), .pointer (some ⟨w.heap.size + 1 + 1, 0, none⟩), .pointer (some ⟨w.heap.size + 1, 0, none⟩), .pointer (some ⟨w.heap.size + 1 + 1 + 1, 0, none⟩)]] 88
      simpa using this
    · have := (Lies.new ((w.alloc (.cells #[.slice A ns.length c] 23)).alloc (.cells #[.slice none 0 0] 35)) #[.map none, .slice none 0 0] 87).alloc (.cells #[.func (.func 68) #[] #[.pointer (some ⟨w.heap.size, 0, none⟩), .pointer (some ⟨w.heap.size + 1 + 1, 0, none⟩), .pointer (some ⟨w.heap.size + 1, 0, none⟩), .pointer (some ⟨w.heap.size + 1 + 1 + 1, 0, none⟩)]] 88)
      simpa using this
    · have := ((Lies.new (w.alloc (.cells #[.slice A ns.length c] 23)) #[.slice none 0 0] 35).alloc (.cells #[.map none, .slice none 0 0] 87)).alloc (.cells #[.func (.func 68) #[] #[.pointer (some ⟨w.heap.size, 0, none⟩), .pointer (some ⟨w.heap.size + 1 + 1, 0, none⟩), .pointer (some ⟨w.heap.size + 1, 0, none⟩), .pointer (some ⟨w.heap.size + 1 + 1 + 1, 0, none⟩)]] 88)
      simpa using this
  have Henv := hide henv
  have Hin := hide hin
  have hrl : roots.length ≤ 16000000 := by omega
  clear hg henv hr hin
  go_enter Try.func49, Try.ntmps49
  go_wp2_with fail
  generalize ((((w.alloc (.cells #[.slice A ns.length c] 23)).alloc (.cells #[.slice none 0 0] 35)).alloc (.cells #[.map none, .slice none 0 0] 87)).alloc
    (.cells #[.func (.func 68) #[] #[.pointer (some ⟨w.heap.size, 0, none⟩), .pointer (some ⟨w.heap.size + 1 + 1, 0, none⟩), .pointer (some ⟨w.heap.size + 1, 0, none⟩), .pointer (some ⟨w.heap.size + 1 + 1 + 1, 0, none⟩)]] 88)) = W at hB Henv ⊢
  obtain ⟨bn, hbn⟩ : ∃ b, b = w.heap.size := ⟨_, rfl⟩
  rw [← hbn] at Henv ⊢
  have hRW : IntsAt W bn Ar roots := by rw [hbn]; exact hR.below hB
  have HB0 : Hid (Below bn w W) := hide (by rw [hbn]; exact hB)
  have Hbn := hide hbn
  clear hR hB hbn
  go_loopw [9, 13] (fun _ iv wr => ∃ (k : Nat) (P Q : List Int), k ≤ roots.length ∧ iv = .int .i64 (k : Int) ∧ codL ns (ns.length + 1) (roots.take k) ([], []) = (P, Q) ∧ CEnv wr (bn + 1 + 1 + 1 + 1) bn (bn + 1) (bn + 1 + 1) (bn + 1 + 1 + 1) A c ns P Q ∧ Below bn W wr) (fun _ iv _ => roots.length - (intOf iv).toNat)
  case atStart => exact ⟨0, [], [], Nat.zero_le _, rfl, rfl, Henv.out, Below.refl _ _⟩
  case round =>
    clear Henv
    obtain ⟨k, P, Q, hk, rfl, hP, hE, hb⟩ := hrel
    have HP := hide hP
    have HE := hide hE
    clear hP hE
    by_cases hlt : k < roots.length
    · obtain ⟨b, off, x, rfl, hbl, hx, hmem, hcx⟩ := (hRW.below hb).at_ hlt
      obtain ⟨hx0, hx1⟩ := Hin.out x hmem
      have hT : roots.take (k + 1) = roots.take k ++ [x] := by rw [List.take_add_one, hx]; rfl
      have HS : Hid (codL ns (ns.length + 1) (roots.take (k + 1)) ([], []) = cod ns (ns.length + 1) x (P, Q)) := hide (by rw [hT, codL_snoc, HP.out])
      have hall := codedAll ns K Hg.out hl (ns.length + 1) (roots.take k) ([], []) (CInv.start ns) (fun y hy => Hin.out y (List.mem_of_mem_take hy)) (fun _ => by simp)
      rw [HP.out] at hall
      have HI := hide hall.inv
      have hlen := hall.len
      have hml := hall.inv.met.len
      simp only [List.length_nil, Nat.mul_zero, Nat.add_zero, Nat.zero_add, List.length_take] at hlen
      have hMM : P.length + 3 + 3 * (K * (ns.length - Q.length)) ≤ 16000000 := by
        have e1 : K * (ns.length - Q.length) + K * Q.length = K * ns.length := by rw [← Nat.mul_add, Nat.sub_add_cancel hml]
        omega
      obtain ⟨i, rfl⟩ := Int.eq_ofNat_of_zero_le hx0
      have hi : i < ns.length := by omega
      have s0 := HE.out.self.cell 0
      simp at s0
      have hk1 : (0 : Int) ≤ (k : Int) := by omega
      have hk2 : (k : Int) < (roots.length : Int) := by omega
      clear hall hlen hx hmem hT hx0 hx1
      go_wp2_with fail
      refine (codw_any ns K 16000000 Hg.out hl (by omega) _ _ _ _ _ A c (ns.length + 1) i P Q wr hi HI.out HE.out (by omega) hMM).mono ?_
      rintro e w1 ⟨rfl, he, hb1⟩
      have HE1 := hide he
      have hB1 := hb1.below hb (by omega) (by omega) (by omega)
      clear he hb1 s0 hMM hml
      go_wp2
      go_roundw
      case rel => exact ⟨k + 1, _, _, by omega, by go_num, HS.out, HE1.out, hB1⟩
      case measure => simp [intOf]; omega
    · obtain rfl : k = roots.length := by omega
      obtain ⟨m, Am, cm, Ac, cc, _, hcode, hown, _⟩ := HE.out.st
      have z0 := hcode.cell 0
      simp at z0
      rw [List.take_length] at HP
      have Hown := hide hown
      have Hb := hide hb
      clear hcode hown hb
      go_wp2
      go_ret
      have e1 : (codL ns (ns.length + 1) roots ([], [])).1 = P := by rw [HP.out]
      rw [e1]
      exact ⟨Ac, cc, rfl, Hown.out.mono (by rw [← Hbn.out]; omega), by rw [← Hbn.out]; exact HB0.out.trans Hb.out⟩

theorem codL_one (ns : List Nd) (f : Nat) (x : Int) (p : CM) : codL ns f [x] p = cod ns f x p := rfl

end Go.Proofs.Ythgklkpfmjgeoaa

namespace Go.Proofs.Ythgklkpfmjgeoaa
open Go.RowKit Go.Maps
set_option linter.unusedVariables false

set_option maxHeartbeats 1000000 in
theorem implCodeOf_any (A : Option Addr) (ns : List Nd) (c : Nat) (r : Int) (w : World) (hr : NdsAt w w.heap.size A ns) :
    Calls Try.prog 23 #[.agg #[.slice A ns.length c, .int .i64 r]] w (GivesInts w (codeOf ns r)) := by
  have hB : Below w.heap.size w (w.alloc (.cells #[.slice A ns.length c, .int .i64 r] 25)) := (Below.refl _ _).alloc (Nat.le_refl _) _
  have l1 := Lies.new w #[.slice A ns.length c, .int .i64 r] 25
  have hr2 := hr.later hB (Nat.le_refl _)
  have hwf := hide hr.wf
  clear hr
  by_cases hv : ValidG ns r
  · obtain ⟨i, rfl⟩ := Int.eq_ofNat_of_zero_le hv.root0
    have hg := hide (codG_of_valid hv hwf.out)
    have h12 := hv.few
    have hi : i < ns.length := by have := hv.root; omega
    have HV := hide hv
    have he : Hid (codeOf ns i = (cod ns (ns.length + 1) i ([], [])).1) := by show _ = _; unfold codeOf; rw [if_pos hv]
    clear hv
    go_enter Try.func23, Try.ntmps23
    go_wp2_with fail
    generalize w.alloc (.cells #[.slice A ns.length c, .int .i64 (i : Int)] 25) = W at hB l1 hr2 ⊢
    refine (implValid_any A ns c i W hr2).mono ?_
    rintro e w1 ⟨rfl, hb1⟩
    rw [tf_true HV.out]
    have l2 := l1.below hb1 l1.lt
    have hr3 := hr2.later hb1 (Nat.le_refl _)
    have hB1 := hB.trans (hb1.mono hB.size)
    have e0 := l2.cell 0
    have e1 := l2.cell 1
    simp at e0 e1
    have hi64 : In64 (i : Int) := by constructor <;> omega
    have hb0 : Below w1.heap.size w1 (w1.alloc (.cells #[.int .i64 (i : Int)] 3)) := (Below.refl _ _).alloc (Nat.le_refl _) _
    have hB1 := hB1.trans (hb0.mono hB1.size)
    have HN := hide (hr3.later hb0 (Nat.le_refl _))
    have h1R := (IntsAt.one w1 (i : Int) hi64).more (show w1.heap.size + 1 ≤ (w1.alloc (.cells #[.int .i64 (i : Int)] 3)).heap.size by simp)
    have H1R := hide h1R
    clear l1 hr2 hb1 hB hr3 h1R hb0
    go_wp2_with fail
    refine (codeFroms_any ns 6 hg.out (by omega) A c (some ⟨w1.heap.size, 0, none⟩) 1 [(i : Int)] (by simp; omega) _ HN.out H1R.out (fun x hx => by simp at hx; subst hx; omega)).mono ?_
    rw [codL_one]
    rintro e w2 ⟨Ao, co, rfl, hown, hb2⟩
    have Hfin : Hid (GivesInts w (codeOf ns i) (.returned (.slice Ao (cod ns (ns.length + 1) i ([], [])).1.length co)) w2) := by
      show GivesInts _ _ _ _
      rw [he.out]
      exact ⟨Ao, co, rfl, hown.mono hB1.size, hB1.trans (hb2.mono hB1.size)⟩
    clear hown hb2 e0 e1
    go_wp2
    go_ret
    exact Hfin.out
  · have HV := hide hv
    clear hv
    go_enter Try.func23, Try.ntmps23
    go_wp2_with fail
    refine (implValid_any A ns c r _ hr2).mono ?_
    rintro e w1 ⟨rfl, hb1⟩
    rw [tf_false HV.out]
    have hB1 := hB.trans (hb1.mono hB.size)
    clear hb1 hB hr2
    go_wp2
    go_ret
    unfold codeOf
    rw [if_neg HV.out]
    exact ⟨none, 0, rfl, OwnI.empty _ _, hB1⟩

end Go.Proofs.Ythgklkpfmjgeoaa
