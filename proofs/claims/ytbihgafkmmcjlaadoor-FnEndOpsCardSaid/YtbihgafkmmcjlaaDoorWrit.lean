import Derived.Test.YtbihgafkmmcjlaaDoorSave
namespace Go.Proofs.YtbihgafkmmcjlaaDoor
open Go.RowKit
set_option linter.unusedVariables false
def GivesEm (ns : List Nd) (w : World) (e : Ending) (w' : World) : Prop :=
  ∃ (M : Option Addr) (d : Nat) (μ : List Int), e = .returned (.slice M μ.length d) ∧ IntsAt w' w'.heap.size M μ ∧ (M = none → d = 0) ∧ MuOk ns μ ∧ Below w.heap.size w w'
set_option maxRecDepth 100000 in
set_option maxHeartbeats 1000000 in
theorem emptyMemo_any {ns : List Nd} (h12 : ns.length ≤ 12) (A : Option Addr) (cn : Nat) (root : Int) (w : World) :
    Calls Tryd.prog 37 #[.agg #[.slice A ns.length cn, .int .i64 root]] w (GivesEm ns w) := by
  have hB : Below w.heap.size w ((w.alloc (.cells #[.slice A ns.length cn, .int .i64 root] 49)).alloc (.cells #[] 3)) := ((Below.refl _ _).alloc (Nat.le_refl _) _).alloc (by simp) _
  have l1 := (Lies.new w #[.slice A ns.length cn, .int .i64 root] 49).alloc (.cells #[] 3)
  have hO := hide (OwnI.bare (w.alloc (.cells #[.slice A ns.length cn, .int .i64 root] 49)))
  simp only [World.size_alloc] at hO
  go_enter Tryd.func37, Tryd.ntmps37
  go_upto_region 2 with fail
  generalize (w.alloc (.cells #[.slice A ns.length cn, .int .i64 root] 49)).alloc (.cells #[] 3) = W at hB l1 hO ⊢
  have HB := hide hB
  have hW1 := l1.lt
  clear hB
  go_wp2_with fail
  go_loopw [3, 4] (fun ov iv wr => ∃ (k : Nat) (M : Option Addr) (d : Nat) (μ : List Int), k ≤ ns.length ∧ iv = .int .i64 (k : Int) ∧ ov = .slice M μ.length d ∧ μ.length = k ∧ (∀ x ∈ μ, x = -1) ∧ OwnI wr (w.heap.size + 1) M d μ ∧ Below (w.heap.size + 1) W wr) (fun _ iv _ => ns.length - (intOf iv).toNat)
  case atStart => exact ⟨0, _, 0, [], Nat.zero_le _, rfl, rfl, rfl, (fun x hx => by cases hx), hO.out, Below.refl _ _⟩
  case round =>
    clear hO
    obtain ⟨k, M, d, μ, hk, rfl, rfl, hlen, hall, hown, hbW⟩ := hrel
    have hlr := l1.below hbW (by omega)
    have e0 := hlr.cell 0
    simp only [jD, jE] at e0
    have Hown := hide hown
    have HbW := hide hbW
    have Hall := hide hall
    have Hlen := hide hlen
    by_cases hlt : k < ns.length
    · have hk2 : (k : Int) < (ns.length : Int) := by omega
      have hws := HbW.out.size
      have hbs := HB.out.size
      have Hlit := hide (IntsAt.lit wr [-1] (by intro x hx; simp at hx; subst hx; constructor <;> omega) (by simp))
      clear hlr hbW hown hall hlen
      go_wp2_with (at_builtin; refine append_ints rfl (.tmp 13) (.tmp 14) rfl (w.heap.size + 1) M d μ rfl (Hown.out.alloc _) _ (some ⟨wr.heap.size, 0, none⟩) 1 [-1] rfl (fun e => by cases e) Hlit.out (by have := Hlen.out; simp; omega) (by simp; omega) ?_; intro zs M' d' w6 hz hown6 hg6 _)
      have hb6 : Below (w.heap.size + 1) W w6 := below_grown (HbW.out.alloc (by omega) _) hg6 (by simp; omega) (fun q hq => (Hown.out.blocks q hq).1)
      have HF := hide (show zs.length = k + 1 ∧ (∀ x ∈ zs, x = -1) ∧ OwnI w6 (w.heap.size + 1) M' d' zs ∧ Below (w.heap.size + 1) W w6 from ⟨by rw [hz.out, List.length_append, Hlen.out]; rfl, fun x hx => by
        rw [hz.out] at hx
        rcases List.mem_append.1 hx with hx | hx
        · exact Hall.out x hx
        · simpa using hx, hown6, hb6⟩)
      clear hz hown6 hg6 hb6 Hlit
      go_roundw
      case rel => exact ⟨k + 1, M', d', zs, by omega, by go_num, rfl, HF.out.1, HF.out.2.1, HF.out.2.2.1, HF.out.2.2.2⟩
      case measure => simp [intOf]; omega
    · obtain rfl : k = ns.length := by omega
      have hk2 : ¬ (ns.length : Int) < (ns.length : Int) := by omega
      have hF : Hid (GivesEm ns w (.returned (.slice M μ.length d)) wr) := by
        refine ⟨M, d, μ, rfl, hown.ints (fun x hx => by rw [hall x hx]; constructor <;> omega) (by omega), fun e => ?_, ⟨hlen, fun x hx => by rw [hall x hx]; omega⟩, HB.out.trans (hbW.mono (by omega))⟩
        rcases hown.form with ⟨_, h2, _⟩ | ⟨g, h2, _⟩
        · exact h2
        · rw [h2] at e; cases e
      clear hlr hbW hown hall hlen hlt Hlen
      go_wp2
      go_ret
      exact hF.out
def GivesW (w : World) (e : Ending) (w' : World) : Prop :=
  ∃ (B : Option Addr) (c : Nat) (os : List Od), e = .returned (.slice B os.length c) ∧ 1 ≤ os.length ∧ os.length ≤ 2000 ∧ OwnO w' w.heap.size B c os ∧ (∀ o ∈ os, In64 o.code ∧ In64 o.arg) ∧ Below w.heap.size w w'
theorem OpsAt.bare (w : World) (B : Nat) (A : Option Addr) : OpsAt w B A [] := ⟨fun h => absurd rfl h, fun _ h => (by cases h), by simp⟩
theorem sv0 {ns : List Nd} {X : World} {A : Option Addr} {μ : List Int} {M : Option Addr} {d : Nat} (hg : GrAt X A ns) (hM : IntsAt X X.heap.size M μ) (hn : M = none → d = 0) (hok : MuOk ns μ) (a : Addr) :
    SvS ns X X A [] μ 13 0 (some a) 0 [] M d μ := ⟨Below.refl _ _, hg, OpsAt.bare _ _ _, (fun e => by cases e), hM, hn, Nat.le_refl _, Mo.refl _, hok⟩
theorem emit_own (B : Option Addr) (os : List Od) (c : Nat) (x y : Int) (w : World) (h : OpsAt w w.heap.size B os) (hn : B = none → c = 0) (hx : In64 x) (hy : In64 y) (hl : os.length ≤ 1900) :
    Calls Tryd.prog 38 #[.slice B os.length c, .slice (some ⟨w.heap.size, 0, none⟩) 1 1] (w.alloc (.cells #[.int .i64 x, .int .i64 y] 42)) (GivesW w) := by
  have hb3 := (Below.refl w.heap.size w).alloc (Nat.le_refl _) (.cells #[.int .i64 x, .int .i64 y] 42)
  have lo := Lies.new w #[.int .i64 x, .int .i64 y] 42
  have hOne := OpsAt.one (o := ⟨x, y⟩) lo ⟨hx, hy⟩
  have hW3 := h.later hb3 (Nat.le_refl _)
  have h1 : OpsAt (w.alloc (.cells #[.int .i64 x, .int .i64 y] 42)) (w.alloc (.cells #[.int .i64 x, .int .i64 y] 42)).heap.size (some ⟨w.heap.size, 0, none⟩) [(⟨x, y⟩ : Od)] := hOne
  refine (emit_any B os c (some ⟨w.heap.size, 0, none⟩) [⟨x, y⟩] 1 _ hW3 hn h1 (fun e => by cases e) (by simp; omega)).mono ?_
  rintro e w4 ⟨A4, c4, rfl, ho4, hb4⟩
  have hwf : ∀ o ∈ os ++ [(⟨x, y⟩ : Od)], In64 o.code ∧ In64 o.arg := by
    intro o ho
    rcases List.mem_append.1 ho with ho | ho
    · exact hW3.wf o ho
    · rw [List.mem_singleton.1 ho]
      exact ⟨hx, hy⟩
  exact ⟨A4, c4, _, rfl, by simp, by simp; omega, ho4.mono hb3.size, hwf, hb3.trans (hb4.mono hb3.size)⟩
set_option maxRecDepth 100000 in
set_option maxHeartbeats 4000000 in
theorem written_any {ns : List Nd} (hsv : Sav ns) (h12 : ns.length ≤ 12) (A : Option Addr) (cn : Nat) (root lev : Int) (w : World) (hg : GrAt w A ns) (hr0 : 0 ≤ root) (hrl : root < (ns.length : Int)) :
    Calls Tryd.prog 21 #[.agg #[.slice A ns.length cn, .int .i64 root], .int .i64 lev] w (GivesW w) := by
  obtain ⟨i, rfl⟩ := Int.eq_ofNat_of_zero_le hr0
  have hB : Below w.heap.size w (w.alloc (.cells #[.slice A ns.length cn, .int .i64 (i : Int)] 49)) := (Below.refl _ _).alloc (Nat.le_refl _) _
  have l1 := Lies.new w #[.slice A ns.length cn, .int .i64 (i : Int)] 49
  have hgW := hg.later hB
  clear hg
  go_enter Tryd.func21, Tryd.ntmps21
  go_upto_region 1 with fail
  generalize w.alloc (.cells #[.slice A ns.length cn, .int .i64 (i : Int)] 49) = W at hB l1 hgW ⊢
  have hW1 := l1.lt
  have e0 := l1.cell 0
  have e1 := l1.cell 1
  simp only [jD, jE, jF] at e0 e1
  have HB := hide hB
  have Hem := hide (fun X : World => emptyMemo_any (ns := ns) h12 A cn (i : Int) X)
  have Hsave := hide (fun (X : World) (a : Addr) (μ : List Int) (M : Option Addr) (d : Nat) (h : SvS ns X X A [] μ 13 0 (some a) 0 [] M d μ) => save_ok hsv h12 A cn (i : Int) lev 182 i 13 (some a) [] 0 M μ d X (by omega) (Nat.le_refl _) (fun _ => by have := rk_le ns (i : Int); omega) (by have := Lc_le ns μ; omega) (by simp) h)
  have hbd : Below W.heap.size W W.drew := (Below.refl _ _).drew
  have hbA : Below W.heap.size W (W.alloc (.cells #[] 42)).drew := ((Below.refl _ _).alloc (Nat.le_refl _) _).drew
  have HbD := hide hbd
  have HbA := hide hbA
  have Hgen := hide (fun (X w1 : World) (h : Below W.heap.size W X) (k : Below X.heap.size X w1) => (⟨h.trans (k.mono h.size), hgW.later (h.trans (k.mono h.size))⟩ : Below W.heap.size W w1 ∧ GrAt w1 A ns))
  clear hB hgW l1 hbd hbA
  go_wp2_with fail
  go_region_held3 (fun w' => w'.cell? ⟨w.heap.size, 0, none⟩ = some (.slice A ns.length cn) ∧ w'.cell? ⟨w.heap.size, 1, none⟩ = some (.int .i64 (i : Int)))
    (first
      | (go_split_ands; refine ⟨?_, ?_⟩ <;> assumption)
      | go_keep)
    (first
      | (go_at_call 37
         refine (Hem.out _).mono ?_
         rintro e w1 ⟨M, d, μ, rfl, hM1, hn1, hok1, hb1⟩
         have H1 := Hgen.out _ w1 (by first | exact HbD.out | exact HbA.out) hb1
         have Hb1 := hide H1.1
         have HS := hide (fun a : Addr => sv0 H1.2 hM1 hn1 hok1 a)
         have HSA := hide (fun a : Addr => (sv0 H1.2 hM1 hn1 hok1 a).later ((Below.refl _ w1).alloc (Nat.le_refl _) (.cells #[] 42)))
         have q0 := (H1.1.cell (p := ⟨w.heap.size, 0, none⟩) hW1).trans e0
         have q1 := (H1.1.cell (p := ⟨w.heap.size, 1, none⟩) hW1).trans e1
         clear hM1 hn1 hok1 hb1 H1)
      | (go_at_call 36
         refine (Hsave.out _ _ _ _ _ ?hS).mono ?_
         (case hS => first | exact HS.out _ | exact (HSA.out _).anew 13)
         rintro e w2 ⟨os2, μ2, ⟨B2, c2, M2, d2, rfl, ho2, hn2, hi2, hm2, hb2⟩, hs2, hmo2, hok2⟩
         have Hb2 := hide (show Below W.heap.size W w2 from by first | exact Hb1.out.trans (hb2.mono Hb1.out.size) | exact (Hb1.out.alloc Hb1.out.size _).trans (hb2.mono (Hb1.out.alloc Hb1.out.size _).size))
         have r0 := (Hb2.out.cell (p := ⟨w.heap.size, 0, none⟩) hW1).trans e0
         have r1 := (Hb2.out.cell (p := ⟨w.heap.size, 1, none⟩) hW1).trans e1))
  all_goals
    have hl2 : os2.length ≤ 1900 := by
      have := Phi_le h12 μ 13
      simp at hs2
      omega
    have Ho2 := hide ho2
    have Hn2 := hide hn2
    clear hs2 ho2 hn2 hi2 hm2 hb2 hmo2 hok2 q0 q1 r0 r1 e0 e1
    go_wp2_with fail
    refine (emit_own B2 os2 c2 19 0 w2 Ho2.out Hn2.out (by constructor <;> omega) (by constructor <;> omega) hl2).mono ?_
    rintro e w3 ⟨B3, c3, os3, rfl, h1, h2, ho3, hw3, hb3⟩
    have HF := hide (show GivesW w (.returned (.slice B3 os3.length c3)) w3 from ⟨B3, c3, os3, rfl, h1, h2, ho3.mono (Nat.le_trans HB.out.size Hb2.out.size), hw3, (HB.out.trans (Hb2.out.mono HB.out.size)).trans (hb3.mono (Nat.le_trans HB.out.size Hb2.out.size))⟩)
    clear h1 h2 ho3 hw3 hb3
    go_wp2
    go_ret
    exact HF.out
end Go.Proofs.YtbihgafkmmcjlaaDoor
