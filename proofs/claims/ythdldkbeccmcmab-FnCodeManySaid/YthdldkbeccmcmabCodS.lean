/-
  The model's code: what it writes and what it has met.
-/
import Derived.Test.YthdldkbeccmcmabOwnS
import Derived.Test.YthdldkbeccmcmabCod
import Derived.Test.YthdldkbeccmcmabSpecA
import Derived.StillTailTactics
import Derived.Deep.RegionHeld3
import Derived.Outline
namespace Go.Proofs.Ythdldkbeccmcmab
open Go.RowKit
set_option linter.unusedVariables false

/-- a call that hands back what is written and what was met: the first a slice of its own, the second that which came in or one of its own -/
def GivesCode (w : World) (A3 : Option Addr) (c3 : Nat) (L : List Int) (R : CM) (e : Ending) (w' : World) : Prop :=
  ∃ Ao co Am cm, e = .returned (.tuple #[.slice Ao R.1.length co, .slice Am R.2.length cm]) ∧ Below w.heap.size w w' ∧ OwnI w' w.heap.size Ao co R.1 ∧ IntsAt w' w'.heap.size Am R.2 ∧ (Am = none → cm = 0) ∧
    ((Am = A3 ∧ cm = c3 ∧ R.2 = L) ∨ OwnI w' w.heap.size Am cm R.2)

theorem in64_met' {ns : List Nd} {L : List Int} (hl : ns.length ≤ 1048576) (h : Met ns L) : ∀ x ∈ L, In64 x := fun x hx => by
  have := h.range x hx
  constructor <;> omega

set_option maxRecDepth 100000 in
set_option maxHeartbeats 4000000 in
theorem code1_any (ns : List Nd) (K M : Nat) (hg : CodG ns K) (hl : ns.length ≤ 1048576) (hM : M ≤ 16000000) (A : Option Addr) (c : Nat) (r : Int) (f : Nat)
    (ih : ∀ (i : Nat) (O L : List Int) (A2 : Option Addr) (c2 : Nat) (A3 : Option Addr) (c3 : Nat) (w : World), i < ns.length → CInv ns (O, L) → NdsAt w w.heap.size A ns → IntsAt w w.heap.size A2 O → (A2 = none → c2 = 0) → IntsAt w w.heap.size A3 L → (A3 = none → c3 = 0) → ns.length < f + L.length → O.length + 3 + 3 * (K * (ns.length - L.length)) ≤ M →
      Calls Try.prog 25 #[.agg #[.slice A ns.length c, .int .i64 r], .int .i64 (i : Int), .slice A2 O.length c2, .slice A3 L.length c3] w (GivesCode w A3 c3 L (cod ns f i (O, L))))
    (i : Nat) (O L : List Int) (A2 : Option Addr) (c2 : Nat) (A3 : Option Addr) (c3 : Nat) (w : World) (hi : i < ns.length) (hp : CInv ns (O, L)) (hr : NdsAt w w.heap.size A ns) (hI2 : IntsAt w w.heap.size A2 O) (hn2 : A2 = none → c2 = 0) (hI3 : IntsAt w w.heap.size A3 L) (hn3 : A3 = none → c3 = 0)
    (hf : ns.length < f + 1 + L.length) (hB0 : O.length + 3 + 3 * (K * (ns.length - L.length)) ≤ M) :
      Calls Try.prog 25 #[.agg #[.slice A ns.length c, .int .i64 r], .int .i64 (i : Int), .slice A2 O.length c2, .slice A3 L.length c3] w (GivesCode w A3 c3 L (cod ns (f + 1) i (O, L))) := by
  obtain ⟨b, off, n, rfl, hbl, hat, hmem, hN⟩ := hr.at_ hi
  obtain ⟨hn_k, hn_v, ⟨A1, c1, hn_s, hI1, _⟩, hwk, hwv⟩ := hN
  have hi1 : (0 : Int) ≤ (i : Int) := by omega
  have hi2 : (i : Int) < (ns.length : Int) := by omega
  have hB : Below w.heap.size w ((w.alloc (.cells #[.slice (some ⟨b, off, none⟩) ns.length c, .int .i64 r] 25)).alloc (.cells #[.int .i64 n.kind, .int .i64 n.value, .slice A1 n.kids.length c1] 50)) :=
    ((Below.refl _ _).alloc (Nat.le_refl _) _).alloc (by simp) _
  have l1 := (Lies.new w #[.slice (some ⟨b, off, none⟩) ns.length c, .int .i64 r] 25).alloc (.cells #[.int .i64 n.kind, .int .i64 n.value, .slice A1 n.kids.length c1] 50)
  have l2 := Lies.new (w.alloc (.cells #[.slice (some ⟨b, off, none⟩) ns.length c, .int .i64 r] 25)) #[.int .i64 n.kind, .int .i64 n.value, .slice A1 n.kids.length c1] 50
  simp only [World.size_alloc] at l2
  have hkids : Hid (kidsOf ns (i : Int) = n.kids) := kidsOf_at hat
  have hkind : Hid (kindOf ns (i : Int) = n.kind) := kindOf_at hat
  have hvalue : Hid (valueOf ns (i : Int) = n.value) := valueOf_at hat
  have hlL := hp.met.len
  have hkf := hg.few n hmem
  have hput0 : (i : Int) ∉ L → CInv ns (codPut ns i (O, L)) := fun h => CInv.put hg hp hat h
  have Hput := hide hput0
  have hseen0 : (i : Int) ∈ L → CInv ns (O ++ [-1, place L i], L) := fun h => hp.seen h hl
  have Hseen := hide hseen0
  have hleaf := hide (hg.leaf n hmem)
  have Hin := hide (hg.kin.of (i : Int))
  have Hih := hide ih
  have Hg := hide hg
  have Hn2 := hide hn2
  have Hn3 := hide hn3
  have Hwk := hide hwk
  have Hwv := hide hwv
  have Hwf2 := hide hI2.wf
  have J2 := hI2.later hB (Nat.le_refl _)
  have J3 := hI3.later hB (Nat.le_refl _)
  have hr2 := hr.below hB
  have J1 := hI1.below hB
  have hkl := hI1.len
  clear hr hI2 hI3 hI1 hat hmem ih hg hp hput0 hseen0 hn2 hn3 hwk hwv
  go_enter Try.func25, Try.ntmps25
  go_wp2_with fail
  generalize hWd : (w.alloc (.cells #[.slice (some ⟨b, off, none⟩) ns.length c, .int .i64 r] 25)).alloc (.cells #[.int .i64 n.kind, .int .i64 n.value, .slice A1 n.kids.length c1] 50) = W at hB l1 l2 J1 J2 J3 hr2 ⊢
  have HWs : Hid (W.heap.size = w.heap.size + 1 + 1) := by show W.heap.size = _; rw [← hWd]; simp
  clear hWd hn_k hn_v hn_s
  refine (placeIn_any A3 L c3 i W J3).mono ?_
  rintro e w' ⟨rfl, rfl⟩
  by_cases hmem : (i : Int) ∈ L
  · have hpl := place_lt hmem
    have hd : decide (0 ≤ place L i) = true := by simp; omega
    have hcod := hide (cod_seen (ns := ns) (f := f) (x := (i : Int)) (p := (O, L)) hmem)
    have hinv := hide (Hseen.out hmem)
    generalize hpd : place L (i : Int) = pl at hpl hd ⊢
    have Hpd := hide hpd
    clear hmem hpd
    go_wp2_with fail
    refine (copyInts_any A2 O c2 W J2 Hn2.out (by omega)).mono ?_
    rintro e w1 ⟨A4, c4, rfl, hown, hb1⟩
    have hIl : IntsAt (w1.alloc (.cells #[.int .i64 (-1), .int .i64 pl] 3)) (w1.heap.size + 1) (some ⟨w1.heap.size, 0, none⟩) [-1, pl] := by
      have := IntsAt.lit w1 [-1, pl] (by intro x hx; simp at hx; rcases hx with rfl | rfl <;> constructor <;> omega) (by simp)
      simpa using this
    go_wp2_with (at_builtin; refine append_ints rfl (.tmp 24) (.tmp 26) rfl W.heap.size A4 c4 O rfl (hown.alloc _) (w1.heap.size + 1) _ 2 [-1, pl] rfl (fun e => by cases e) hIl (by simp; omega) (by have := hb1.size; simp; omega) ?_; intro zs A5 c5 w2 hz hown2 hg2 hat2)
    have hb2 : Below W.heap.size W w2 := below_grown (hb1.alloc hb1.size _) hg2 (by have := hb1.size; simp; omega) (fun k hk => (hown.blocks k hk).1)
    have HF : Hid (GivesCode w A3 c3 L (cod ns (f + 1) i (O, L)) (.returned (.tuple #[.slice A5 zs.length c5, .slice A3 L.length c3])) w2) := by
      show GivesCode _ _ _ _ _ _ _
      rw [hcod.out]
      have hz' : zs = O ++ [-1, place L (i : Int)] := by rw [hz.out, Hpd.out]
      subst hz'
      exact ⟨A5, c5, A3, c3, rfl, hB.trans (hb2.mono hB.size), hown2.mono hB.size, J3.later hb2 (Nat.le_refl _), Hn3.out, .inl ⟨rfl, rfl, rfl⟩⟩
    clear hown hown2 hg2 hat2 hIl hb1 hb2 hz J1 J2 J3
    go_wp2
    go_ret2
    exact HF.out
  · rw [place_neg hmem]
    have hcod := hide (cod_new (ns := ns) (f := f) (x := (i : Int)) (p := (O, L)) hmem)
    have hinv := hide (Hput.out hmem)
    clear hmem
    have e0 := l2.cell 0
    have e1 := l2.cell 1
    have e2 := l2.cell 2
    simp at e0 e1 e2
    have hW2 := l2.lt
    have hlen64 : In64 (n.kids.length : Int) := by constructor <;> omega
    have Hl64 := hide hlen64
    have J2a : ∀ X : World, Below W.heap.size W X → IntsAt X X.heap.size A2 O := fun X h => J2.later h (Nat.le_refl _)
    have HJ2 := hide J2a
    have hlit : IntsAt (W.alloc (.cells #[.int .i64 n.kind, .int .i64 n.value, .int .i64 (n.kids.length : Int)] 3)).drew (W.heap.size + 1) (some ⟨W.heap.size, 0, none⟩) [n.kind, n.value, (n.kids.length : Int)] := by
      have := IntsAt.lit W [n.kind, n.value, (n.kids.length : Int)] (by
        intro x hx
        simp at hx
        rcases hx with rfl | rfl | rfl
        · exact Hwk.out
        · exact Hwv.out
        · exact Hl64.out) (by simp)
      have h2 := this.below (Below.refl _ _).drew
      simpa using h2
    have Hlit := hide hlit
    clear hlen64 J2 J2a hlit
    go_wp2_with fail
    go_region_held3 (fun w' => w'.cell? ⟨w.heap.size + 1, 0, none⟩ = some (.int .i64 n.kind) ∧ w'.cell? ⟨w.heap.size + 1, 1, none⟩ = some (.int .i64 n.value) ∧ w'.cell? ⟨w.heap.size + 1, 2, none⟩ = some (.slice A1 n.kids.length c1))
      (first
        | (go_split_ands; refine ⟨?_, ?_, ?_⟩ <;> assumption)
        | go_keep)
      (first
        | (go_at_call 35; refine (copyInts_any A2 O c2 _ (HJ2.out _ (by first | exact (Below.refl _ _).drew | exact ((Below.refl _ _).alloc (Nat.le_refl _) _).drew)) Hn2.out (by omega)).mono ?_; rintro e w1 ⟨A4, c4, rfl, hown, hb1⟩; have hbw : Below W.heap.size W w1 := (by first | exact (Below.refl _ _).drew.trans (hb1.mono (by simp)) | exact (((Below.refl W.heap.size W).alloc (Nat.le_refl _) _).drew).trans (hb1.mono (by simp))); have hown1 : OwnI w1 W.heap.size A4 c4 O := hown.mono (by simp); have q0 := (hbw.cell (p := ⟨w.heap.size + 1, 0, none⟩) hW2).trans e0; have q1 := (hbw.cell (p := ⟨w.heap.size + 1, 1, none⟩) hW2).trans e1; have q2 := (hbw.cell (p := ⟨w.heap.size + 1, 2, none⟩) hW2).trans e2)
        | (refine step_append_ints (by rfl) _ _ (by rfl) W.heap.size A4 c4 O (by rfl) (hown1.alloc _) ⟨w1.heap.size, 0, none⟩ 3 [n.kind, n.value, (n.kids.length : Int)] (by simp) (by rfl) (by simpa using IntsAt.lit w1 [n.kind, n.value, (n.kids.length : Int)] (by intro x hx; simp at hx; rcases hx with rfl | rfl | rfl; exact Hwk.out; exact Hwv.out; exact Hl64.out) (by simp)) (by simp; omega) (by have := hbw.size; simp at this ⊢; omega) ?_; intro zs A5 c5 w2 hz hown2 hg2 hat2; have hb2 : Below W.heap.size W w2 := below_grown (hbw.alloc hbw.size _) hg2 (by have := hbw.size; simp at this ⊢; omega) (fun k hk => (hown1.blocks k hk).1); have p0 := (hb2.cell (p := ⟨w.heap.size + 1, 0, none⟩) hW2).trans e0; have p1 := (hb2.cell (p := ⟨w.heap.size + 1, 1, none⟩) hW2).trans e1; have p2 := (hb2.cell (p := ⟨w.heap.size + 1, 2, none⟩) hW2).trans e2)
        | (refine step_append_ints (by rfl) _ _ (by rfl) W.heap.size A4 c4 O (by rfl) hown1 ⟨W.heap.size, 0, none⟩ 3 [n.kind, n.value, (n.kids.length : Int)] (by simp) (by rfl) ((Hlit.out.below (hb1.mono (by simp))).more (by have := hb1.size; simp at this; omega)) (by simp; omega) hbw.size ?_; intro zs A5 c5 w2 hz hown2 hg2 hat2; have hb2 : Below W.heap.size W w2 := below_grown hbw hg2 hbw.size (fun k hk => (hown1.blocks k hk).1); have p0 := (hb2.cell (p := ⟨w.heap.size + 1, 0, none⟩) hW2).trans e0; have p1 := (hb2.cell (p := ⟨w.heap.size + 1, 1, none⟩) hW2).trans e1; have p2 := (hb2.cell (p := ⟨w.heap.size + 1, 2, none⟩) hW2).trans e2))
    all_goals
      have hzl : Hid (zs.length = O.length + 3) := by show _ = _; rw [hz.out]; simp
      have hput1 : (codPut ns (i : Int) (O, L)).1 = zs := by
        rw [hz.out]; unfold codPut; rw [hkind.out, hvalue.out, hkids.out]
      have hput2 : (codPut ns (i : Int) (O, L)).2 = if n.kind = 0 then L else L ++ [(i : Int)] := by
        unfold codPut; rw [hkind.out]
      have Hput1 := hide hput1
      have Hput2 := hide hput2
      have hs2 : W.heap.size ≤ w2.heap.size := hb2.size
      clear q0 q1 q2 e0 e1 e2 hg2 hat2 hb1 hown hown1 hbw hput1 hput2 Hlit HJ2 hz
      by_cases hk0 : n.kind = 0
      · have t0 : (n.kind != 0) = false := by simpa using hk0
        have hkn : n.kids = [] := hleaf.out hk0
        have tl : (n.kids.length : Int) = 0 := by rw [hkn]; rfl
        have HF : Hid (GivesCode w A3 c3 L (cod ns (f + 1) i (O, L)) (.returned (.tuple #[.slice A5 zs.length c5, .slice A3 L.length c3])) w2) := by
          show GivesCode _ _ _ _ _ _ _
          rw [hcod.out, hkids.out, hkn, codL_nil]
          have a := Hput1.out
          have b' := Hput2.out
          rw [if_pos hk0] at b'
          refine ⟨A5, c5, A3, c3, ?_, hB.trans (hb2.mono hB.size), ?_, ?_, Hn3.out, .inl ⟨rfl, rfl, b'⟩⟩
          · rw [a, b']
          · rw [a]; exact hown2.mono hB.size
          · rw [b']; exact J3.later hb2 (Nat.le_refl _)
        clear hk0 hkn hown2 hb2 J3 J1 hr2 l1 l2
        go_wp2_with fail
        go_loopw [2, 3, 12] (fun ov mv iv wr => ov = .slice A5 zs.length c5 ∧ mv = .slice A3 L.length c3 ∧ iv = .int .i64 (0 : Nat) ∧ wr = w2) (fun _ _ _ _ => 0)
        case atStart => exact ⟨rfl, rfl, rfl, rfl⟩
        case round =>
          obtain ⟨rfl, rfl, rfl, rfl⟩ := hrel
          go_wp2
          go_ret2
          exact HF.out
      · have t0 : (n.kind != 0) = true := by simpa using hk0
        have b0 := Hput2.out
        rw [if_neg hk0] at b0
        have Hput3 := hide b0
        have hin64 : In64 (i : Int) := by constructor <;> omega
        have hIone := fun X : World => IntsAt.one X i hin64
        have HIone := hide hIone
        have J3w : IntsAt w2 w2.heap.size A3 L := J3.later hb2 (Nat.le_refl _)
        have hb2' := hide hb2
        have hown2' := hide hown2
        clear hk0 b0 Hput2 hin64 hIone J3 hb2 hown2
        go_wp2_with fail
        refine (copyInts_any A3 L c3 w2 J3w Hn3.out (by omega)).mono ?_
        rintro e w3 ⟨A6, c6, rfl, hown3, hb3⟩
        go_wp2_with (at_builtin; refine append_ints rfl (.tmp 44) (.tmp 46) rfl w2.heap.size A6 c6 L rfl (hown3.alloc _) (w3.heap.size + 1) _ 1 [(i : Int)] rfl (fun e => by cases e) (HIone.out w3) (by simp; omega) (by have := hb3.size; simp; omega) ?_; intro ms A7 c7 w4 hms hown4 hg4 hat4)
        have hb4 : Below w2.heap.size w2 w4 := below_grown (hb3.alloc hb3.size _) hg4 (by have := hb3.size; simp; omega) (fun k hk => (hown3.blocks k hk).1)
        have hpair : Hid (codPut ns (i : Int) (O, L) = (zs, ms)) := by
          show _ = _
          rw [hms.out, ← Hput3.out, ← Hput1.out]
        have hB4 : Below W.heap.size W w4 := hb2'.out.trans (hb4.mono hs2)
        have hownO : OwnI w4 W.heap.size A5 c5 zs := hown2'.out.below hb4
        have hownL : OwnI w4 W.heap.size A7 c7 ms := hown4.mono hs2
        have hdis : ∀ g, blockOf A7 = some g → blockOf A5 ≠ some g := by
          intro g hg7 hg5
          have h5 := (hown2'.out.blocks g hg5).2
          have h7 := (hown4.blocks g hg7).1
          omega
        have hmsl : Hid (ms.length = L.length + 1) := by show _ = _; rw [hms.out]; simp
        clear hown3 hb3 hg4 hat4 hown4 hb4 hms HIone J3w hdis
        go_loopw [2, 3, 12] (fun ov mv iv wr => ∃ (k : Nat) (P Q : List Int) (Ao : Option Addr) (co : Nat) (Am : Option Addr) (cm : Nat), k ≤ n.kids.length ∧ iv = .int .i64 k ∧ ov = .slice Ao P.length co ∧ mv = .slice Am Q.length cm ∧ (P, Q) = codL ns f (n.kids.take k) (zs, ms) ∧ Below W.heap.size W wr ∧ OwnI wr W.heap.size Ao co P ∧ OwnI wr W.heap.size Am cm Q) (fun _ _ iv _ => n.kids.length - (intOf iv).toNat)
        case atStart => exact ⟨0, zs, ms, A5, c5, A7, c7, Nat.zero_le _, rfl, rfl, rfl, by rw [List.take_zero, codL_nil], hB4, hownO, hownL⟩
        case round =>
          clear hB4 hownO hownL hs2 hb2' hown2'
          obtain ⟨k, P, Q, Ao, co, Am, cm, hkl2, rfl, rfl, rfl, hPQ, hb, hoP, hoQ⟩ := hrel
          have HPQ := hide hPQ
          have hcd := codedAll ns K Hg.out hl f (n.kids.take k) (zs, ms) (by rw [← hpair.out]; exact hinv.out) (fun z hz => Hin.out z (by rw [hkids.out]; exact List.mem_of_mem_take hz)) (fun _ => by show ns.length < f + ms.length; have := hmsl.out; omega)
          rw [← hPQ] at hcd
          have hgrow : ms.length ≤ Q.length := hcd.grow
          have hlenP : P.length + 3 * (K * (L.length + 1)) ≤ zs.length + 3 * k + 3 * (K * Q.length) := by
            have := hcd.len
            rw [List.length_take, Nat.min_eq_left hkl2, hmsl.out] at this
            exact this
          have HLP := hide hlenP
          have HI := hide hcd.inv
          have hQl := hcd.inv.met.len
          have hbs := hb.size
          clear hPQ hcd hlenP
          have lr1 := l1.below hb l1.lt
          have lr2 := l2.below hb l2.lt
          have e0 := lr1.cell 0
          have e1 := lr1.cell 1
          have e2 := lr2.cell 2
          simp at e0 e1 e2 hQl
          by_cases hlt : k < n.kids.length
          · have J1r := J1.below (hb.mono (by omega))
            obtain ⟨bk, ok, x, rfl, hbk, hx, hxm, hcx⟩ := J1r.at_ hlt
            obtain ⟨hx0, hx1⟩ := Hin.out x (by rw [hkids.out]; exact hxm)
            obtain ⟨y, rfl⟩ := Int.eq_ofNat_of_zero_le hx0
            have Hx := hide hx
            have hk1 : (0 : Int) ≤ (k : Int) := by omega
            have hk2 : (k : Int) < (n.kids.length : Int) := by omega
            have hPb : P.length + 3 + 3 * (K * (ns.length - Q.length)) ≤ M := cod_bound hlL hQl hB0 hzl.out HLP.out (by omega)
            have hPm : P.length ≤ 16000000 := by omega
            have HPb := hide hPb
            have iP : IntsAt wr wr.heap.size Ao P := hoP.ints HI.out.wf (by omega)
            have iQ : IntsAt wr wr.heap.size Am Q := hoQ.ints (in64_met' hl HI.out.met) (by omega)
            have hbd : Below W.heap.size W wr.drew := hb.drew
            have hoPd := hoP.drew
            have hoQd := hoQ.drew
            have hrd : NdsAt wr.drew wr.drew.heap.size (some ⟨b, off, none⟩) ns := (hr2.below (hb.mono (by omega))).later (Below.refl _ _).drew (by omega)
            have iPd : IntsAt wr.drew wr.drew.heap.size Ao P := iP.later (Below.refl _ _).drew (Nat.le_refl _)
            have iQd : IntsAt wr.drew wr.drew.heap.size Am Q := iQ.later (Below.refl _ _).drew (Nat.le_refl _)
            have z1 : w.heap.size < wr.heap.size := by omega
            have z2 : w.heap.size + 1 < wr.heap.size := by omega
            have z3 : bk < wr.heap.size := by omega
            have hql2 : ns.length < f + Q.length := by have := hmsl.out; omega
            clear hx hxm iP iQ hPb lr1 lr2 hb hoP hoQ J1r
            go_wp2_with fail
            go_region_held3 (fun w' => w'.cell? ⟨w.heap.size, 0, none⟩ = some (.slice (some ⟨b, off, none⟩) ns.length c) ∧ w'.cell? ⟨w.heap.size, 1, none⟩ = some (.int .i64 r) ∧ w'.cell? ⟨w.heap.size + 1, 2, none⟩ = some (.slice (some ⟨bk, ok, none⟩) n.kids.length c1) ∧ w'.cell? ⟨bk, ok + k, none⟩ = some (.int .i64 (y : Int)))
              (first
                | (go_split_ands; refine ⟨?_, ?_, ?_, ?_⟩ <;> assumption))
              (first
                | (go_at_call 25; refine (Hih.out y P Q Ao co Am cm _ (by omega) HI.out hrd iPd hoPd.nil iQd hoQd.nil hql2 HPb.out).mono ?_; rintro e w6 ⟨Ao', co', Am', cm', rfl, hb6, hoP6, hiQ6, hnQ6, hor⟩; have q0 := (hb6.cell (p := ⟨w.heap.size, 0, none⟩) z1).trans e0; have q1 := (hb6.cell (p := ⟨w.heap.size, 1, none⟩) z1).trans e1; have q2 := (hb6.cell (p := ⟨w.heap.size + 1, 2, none⟩) z2).trans e2; have q3 := (hb6.cell (p := ⟨bk, ok + k, none⟩) z3).trans hcx))
            have hoQ6 : OwnI w6 W.heap.size Am' cm' (cod ns f y (P, Q)).2 := by
              rcases hor with ⟨h1, h2, h3⟩ | h
              · rw [h1, h2, h3]
                exact hoQd.below hb6
              · exact h.mono hbd.size
            have hPQ2 : Hid (((cod ns f y (P, Q)).1, (cod ns f y (P, Q)).2) = codL ns f (n.kids.take (k + 1)) (zs, ms)) := by
              show _ = _
              rw [List.take_add_one, Hx.out, Option.toList_some, codL_snoc, ← HPQ.out]
            have HoP6 := hide (hoP6.mono hbd.size)
            have HoQ6 := hide hoQ6
            have HB6 := hide (hbd.trans (hb6.mono hbd.size))
            clear hor hb6 hoP6 hiQ6 hnQ6 hoQ6 hoPd hoQd hrd iPd iQd hbd q0 q1 q2 q3 e0 e1 e2 hcx
            generalize (cod ns f y (P, Q)).1 = P' at hPQ2 HoP6 ⊢
            generalize (cod ns f y (P, Q)).2 = Q' at hPQ2 HoQ6 ⊢
            go_wp2
            go_roundw
            case rel => exact ⟨k + 1, P', Q', Ao', co', Am', cm', by omega, by go_num, rfl, rfl, hPQ2.out, HB6.out, HoP6.out, HoQ6.out⟩
            case measure => simp [intOf]; omega
          · obtain rfl : k = n.kids.length := by omega
            have hPQ3 : (P, Q) = cod ns (f + 1) i (O, L) := by
              rw [hcod.out, hkids.out, hpair.out, HPQ.out, List.take_length]
            have HF : Hid (GivesCode w A3 c3 L (cod ns (f + 1) i (O, L)) (.returned (.tuple #[.slice Ao P.length co, .slice Am Q.length cm])) wr) := by
              show GivesCode _ _ _ _ _ _ _
              rw [← hPQ3]
              exact ⟨Ao, co, Am, cm, rfl, hB.trans (hb.mono hB.size), hoP.mono hB.size, hoQ.ints (in64_met' hl HI.out.met) (by omega), hoQ.nil, .inr (hoQ.mono hB.size)⟩
            clear hlt hPQ3 hb hoP hoQ
            go_wp2
            go_ret2
            exact HF.out

theorem code_any (ns : List Nd) (K M : Nat) (hg : CodG ns K) (hl : ns.length ≤ 1048576) (hM : M ≤ 16000000) (A : Option Addr) (c : Nat) (r : Int) : ∀ (f i : Nat) (O L : List Int) (A2 : Option Addr) (c2 : Nat) (A3 : Option Addr) (c3 : Nat) (w : World), i < ns.length → CInv ns (O, L) → NdsAt w w.heap.size A ns → IntsAt w w.heap.size A2 O → (A2 = none → c2 = 0) → IntsAt w w.heap.size A3 L → (A3 = none → c3 = 0) → ns.length < f + L.length → O.length + 3 + 3 * (K * (ns.length - L.length)) ≤ M →
      Calls Try.prog 25 #[.agg #[.slice A ns.length c, .int .i64 r], .int .i64 (i : Int), .slice A2 O.length c2, .slice A3 L.length c3] w (GivesCode w A3 c3 L (cod ns f i (O, L)))
  | 0, _, _, _, _, _, _, _, _, _, hp, _, _, _, _, _, hf, _ => by have := hp.met.len; simp at this; omega
  | f + 1, i, O, L, A2, c2, A3, c3, w, hi, hp, hr, h2, n2, h3, n3, hf, hB => code1_any ns K M hg hl hM A c r f (fun i O L A2 c2 A3 c3 w a1 a2 a3 a4 a5 a6 a7 a8 a9 => code_any ns K M hg hl hM A c r f i O L A2 c2 A3 c3 w a1 a2 a3 a4 a5 a6 a7 a8 a9) i O L A2 c2 A3 c3 w hi hp hr h2 n2 h3 n3 hf hB

end Go.Proofs.Ythdldkbeccmcmab
