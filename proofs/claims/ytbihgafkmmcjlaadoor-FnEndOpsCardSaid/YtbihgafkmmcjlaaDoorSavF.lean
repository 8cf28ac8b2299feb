import Derived.Test.YtbihgafkmmcjlaaDoorPjAn
import Derived.Test.YtbihgafkmmcjlaaDoorPjAk
namespace Go.Proofs.YtbihgafkmmcjlaaDoor
open Go.RowKit
set_option linter.unusedVariables false
theorem SvS.wide {ns : List Nd} {w wr : World} {A : Option Addr} {os : List Od} {μ : List Int} {r n m : Nat} {B : Option Addr} {c : Nat} {os' : List Od} {M : Option Addr} {d : Nat} {μ' : List Int}
    (h : SvS ns w wr A os μ r n B c os' M d μ') (hn : n ≤ m) : SvS ns w wr A os μ r m B c os' M d μ' :=
  ⟨h.bel, h.gr, h.ops, h.nb, h.memo, h.nm, by have := h.sum; omega, h.mo, h.ok⟩
set_option maxRecDepth 100000 in
set_option maxHeartbeats 4000000 in
theorem fill_mark {ns : List Nd} (h12 : ns.length ≤ 12) (A : Option Addr) (cn : Nat) (root lev : Int) (m : Nat) (hOk : SaveOk ns A cn root lev m)
    (L : Option Addr) (xs : List Int) (cl each r : Nat) (one all : Int) (B : Option Addr) (os : List Od) (c : Nat) (M : Option Addr) (μ : List Int) (d : Nat) (w : World)
    (hL : IntsAt w w.heap.size L xs) (hcl : xs.length ≤ cl) (h6 : xs.length ≤ 6) (hlev : 0 < lev) (hlong : each < xs.length) (h1 : In64 one) (h2 : In64 all)
    (hr : r ≤ 13) (hx : ∀ x ∈ xs, 0 ≤ x ∧ x < (ns.length : Int) ∧ (kindOf ns x = 2 → rk ns x < r)) (hm : 14 * Lc ns μ + r < m) (hl : os.length + 1800 + 2000 * m ≤ 1000000)
    (hS : SvS ns w w A os μ r 0 B c os M d μ) :
    Calls Tryd.prog 57 #[.agg #[.slice A ns.length cn, .int .i64 root], .int .i64 lev, .slice L xs.length cl, .int .i64 (each : Int), .int .i64 one, .int .i64 all, .slice B os.length c, .slice M μ.length d] w (GivesSv ns w os μ r 12) := by
  have HOk := hide hOk
  have Hx := hide hx
  have Hm := hide hm
  have hB : Below w.heap.size w (w.alloc (.cells #[.slice A ns.length cn, .int .i64 root] 49)) := (Below.refl _ _).alloc (Nat.le_refl _) _
  have l1 := Lies.new w #[.slice A ns.length cn, .int .i64 root] 49
  have HS0 := hide (hS.later hB)
  have HL := hide (hL.later hB (Nat.le_refl _))
  have hlong' : (each : Int) < (xs.length : Int) := by omega
  clear hOk hx hm hS hL hB
  go_enter Tryd.func57, Tryd.ntmps57
  go_upto_region 1 with fail
  generalize w.alloc (.cells #[.slice A ns.length cn, .int .i64 root] 49) = W at l1 HS0 HL ⊢
  have hW1 := l1.lt
  go_wp2_with fail
  refine (emit_one B os c 2 0 W HS0.out.ops HS0.out.nb (by constructor <;> omega) (by constructor <;> omega) (by omega)).mono ?_
  rintro e w1 ⟨B1, c1, os1, rfl, hl1, ho1, hn1, hb1⟩
  have HS1 := hide (HS0.out.emit hl1 ho1 hn1 hb1)
  have HL1 := hide (HL.out.later hb1 (Nat.le_refl _))
  have l1' := l1.below hb1 hW1
  have e0 := l1'.cell 0
  have e1 := l1'.cell 1
  simp only [jD, jE, jF] at e0 e1
  have Hl1 := hide hl1.out
  clear ho1 hn1 hb1 hl1 l1' l1 HS0 HL
  go_wp2_with fail
  refine (saveAll_any h12 A cn root lev m HOk.out L xs cl r B1 os1 c1 M μ d w1 HL1.out hr Hx.out Hm.out (by have := Hl1.out; have := Phi_le h12 μ r; omega) (HS1.out.anew r)).mono ?_
  rintro e w2 ⟨os3, μ3, ⟨B3, c3, M3, d3, rfl, ho3, hn3, hi3, hm3, hb3⟩, hs3, hmo3, hok3⟩
  have HS3 := hide (HS1.out.call ho3 hn3 hi3 hm3 hb3 hs3 hmo3 hok3)
  have hl3 : Hid (os3.length ≤ 7000000) := by
    have := Hl1.out
    have := Phi_le h12 μ r
    show _ ≤ _
    omega
  clear ho3 hn3 hi3 hm3 hb3 hs3 hmo3 hok3 HS1 HL1 e0 e1
  go_wp2_with fail
  refine (emit_one B3 os3 c3 all 0 w2 HS3.out.ops HS3.out.nb h2 (by constructor <;> omega) hl3.out).mono ?_
  rintro e w4 ⟨B4, c4, os4, rfl, hl4, ho4, hn4, hb4⟩
  have HF := hide ((HS3.out.emit hl4 ho4 hn4 hb4).gives (m := 12) (by omega))
  clear hl4 ho4 hn4 hb4 HS3
  go_wp2
  go_ret2
  exact HF.out
set_option maxRecDepth 100000 in
set_option maxHeartbeats 4000000 in
theorem fill_each {ns : List Nd} (h12 : ns.length ≤ 12) (A : Option Addr) (cn : Nat) (root lev : Int) (m : Nat) (hOk : SaveOk ns A cn root lev m)
    (L : Option Addr) (xs : List Int) (cl each r : Nat) (one all : Int) (B : Option Addr) (os : List Od) (c : Nat) (M : Option Addr) (μ : List Int) (d : Nat) (w : World)
    (hL : IntsAt w w.heap.size L xs) (hcl : xs.length ≤ cl) (h6 : xs.length ≤ 6) (he : each = 1 ∨ each = 2) (hev : xs.length % each = 0) (hno : lev ≤ 0 ∨ xs.length ≤ each) (h1 : In64 one) (h2 : In64 all)
    (hr : r ≤ 13) (hx : ∀ x ∈ xs, 0 ≤ x ∧ x < (ns.length : Int) ∧ (kindOf ns x = 2 → rk ns x < r)) (hm : 14 * Lc ns μ + r < m) (hl : os.length + 1800 + 2000 * m ≤ 1000000)
    (hS : SvS ns w w A os μ r 0 B c os M d μ) :
    Calls Tryd.prog 57 #[.agg #[.slice A ns.length cn, .int .i64 root], .int .i64 lev, .slice L xs.length cl, .int .i64 (each : Int), .int .i64 one, .int .i64 all, .slice B os.length c, .slice M μ.length d] w (GivesSv ns w os μ r 12) := by
  have HOk := hide hOk
  have Hx := hide hx
  have Hm := hide hm
  have Hev := hide hev
  have He := hide he
  have hB : Below w.heap.size w (w.alloc (.cells #[.slice A ns.length cn, .int .i64 root] 49)) := (Below.refl _ _).alloc (Nat.le_refl _) _
  have l1 := Lies.new w #[.slice A ns.length cn, .int .i64 root] 49
  have HS0 := hide (hS.later hB)
  have HL := hide (hL.later hB (Nat.le_refl _))
  have hW1 : w.heap.size < (w.alloc (.cells #[.slice A ns.length cn, .int .i64 root] 49)).heap.size := l1.lt
  clear hOk hx hm hS hL hB hev he
  by_cases hlev : 0 < lev
  · have hsh : ¬ (each : Int) < (xs.length : Int) := by omega
    go_enter Tryd.func57, Tryd.ntmps57
    go_wp2_with fail
    generalize w.alloc (.cells #[.slice A ns.length cn, .int .i64 root] 49) = W at l1 HS0 HL hW1 ⊢
    go_loopw [6, 7, 18] (fun ov mv iv wr => ∃ (k : Nat) (Bk : Option Addr) (ck : Nat) (osk : List Od) (Mk : Option Addr) (dk : Nat) (μk : List Int), k ≤ xs.length ∧ k % each = 0 ∧ iv = .int .i64 (k : Int) ∧ ov = .slice Bk osk.length ck ∧ mv = .slice Mk μk.length dk ∧ Below W.heap.size W wr ∧ SvS ns w wr A os μ r (2 * k) Bk ck osk Mk dk μk) (fun _ _ iv _ => xs.length - (intOf iv).toNat)
    case atStart => exact ⟨0, B, c, os, M, d, μ, Nat.zero_le _, by simp, rfl, rfl, rfl, Below.refl _ _, HS0.out⟩
    case round =>
      clear HS0
      obtain ⟨k, Bk, ck, osk, Mk, dk, μk, hk, hke, rfl, rfl, rfl, hbW, hS⟩ := hrel
      have hlr := l1.below hbW hW1
      have e0 := hlr.cell 0
      have e1 := hlr.cell 1
      simp only [jD, jE, jF] at e0 e1
      have HS := hide hS
      have HbW := hide hbW
      by_cases hlt : k < xs.length
      · have hkl : k + each ≤ xs.length := by
          rcases He.out with h | h <;> subst h <;> have := Hev.out <;> omega
        obtain ⟨b, off, x, rfl, hbl, _, _, _⟩ := (HL.out.below hbW).at_ hlt
        have HP := hide (((HL.out.behind k).upto each).later hbW.drew (Nat.le_refl _))
        have hpl : Hid (((xs.drop k).take each).length = each) := by show _ = _; simp; omega
        have hpx : Hid (∀ x ∈ (xs.drop k).take each, 0 ≤ x ∧ x < (ns.length : Int) ∧ (kindOf ns x = 2 → rk ns x < r)) := fun x hxm => Hx.out x (List.mem_of_mem_drop (List.mem_of_mem_take hxm))
        have hd := hS.later (Below.refl _ _).drew
        have Hd := hide hd
        have HdW := hide hbW.drew
        have Hsum := hide hS.sum
        have Hmo := hide hS.mo
        have Hke := hide hke
        have hk1 : (0 : Int) ≤ (k : Int) := by omega
        have hk2 : (k : Int) < (xs.length : Int) := by omega
        have hk3 : (k : Int) + (each : Int) ≤ (cl : Int) := by omega
        have hk4 : (0 : Int) ≤ (each : Int) := by omega
        have he2 : each ≤ 2 := by rcases He.out with h | h <;> omega
        have he1 : 1 ≤ each := by rcases He.out with h | h <;> omega
        have hcall := hide (fun X : World => fun h : SvS ns X X A osk μk r 0 Bk ck osk Mk dk μk => fun hP : IntsAt X X.heap.size (some ⟨b, off + k, none⟩) ((xs.drop k).take each) => saveAll_any h12 A cn root lev m HOk.out (some ⟨b, off + k, none⟩) ((xs.drop k).take each) (cl - k) r Bk osk ck Mk μk dk X hP hr hpx.out (by have := Lc_mono (ns := ns) Hmo.out; have := Hm.out; omega) (by have := hpl.out; have := Hsum.out; have := Phi_le h12 μ r; omega) h)
        have hda := Hd.out.anew r
        have hwr : IntKind.i64.wrap ((k : Int) + (each : Int)) = (k : Int) + (each : Int) := by rw [IntKind.wrap_i64]; omega
        have hs1 : (k : Int) ≤ IntKind.i64.wrap ((k : Int) + (each : Int)) := by rw [hwr]; omega
        have hs2 : IntKind.i64.wrap ((k : Int) + (each : Int)) ≤ (cl : Int) := by rw [hwr]; omega
        have Hne := hide (show ¬ cl = k from by omega)
        have Hlen := hide (show (IntKind.i64.wrap ((k : Int) + (each : Int))).toNat - k = ((xs.drop k).take each).length from by rw [hwr, hpl.out]; omega)
        have Hk1 := hide (show IntKind.i64.wrap ((k : Int) + (each : Int)) = ((k + each : Nat) : Int) from by rw [hwr]; omega)
        clear hwr
        have z1 : w.heap.size < wr.heap.size := by have := hbW.size; omega
        clear hlr hS hbW hd HS HbW hke
        go_wp2_with fail
        go_region_held3 (fun w' => w'.cell? ⟨w.heap.size, 0, none⟩ = some (.slice A ns.length cn) ∧ w'.cell? ⟨w.heap.size, 1, none⟩ = some (.int .i64 root))
          (first
            | (go_split_ands; refine ⟨?_, ?_⟩ <;> assumption))
          (first
            | (go_at_call 58; rw [if_neg Hne.out, Hlen.out]; refine (hcall.out _ hda HP.out).mono ?_; rintro e w3 ⟨os3, μ3, ⟨B3, c3, M3, d3, rfl, ho3, hn3, hi3, hm3, hb3⟩, hs3, hmo3, hok3⟩
               have q0 := (hb3.cell (p := ⟨w.heap.size, 0, none⟩) z1).trans e0; have q1 := (hb3.cell (p := ⟨w.heap.size, 1, none⟩) z1).trans e1))
        have HS3 := hide (Hd.out.call ho3 hn3 hi3 hm3 hb3 hs3 hmo3 hok3)
        have HW3 := hide (HdW.out.trans (hb3.mono HdW.out.size))
        have hl3 : Hid (os3.length ≤ 7000000) := by
          have h3 := HS3.out.sum
          have := Phi_le h12 μ r
          rw [hpl.out] at h3
          show _ ≤ _
          omega
        clear ho3 hn3 hi3 hm3 hb3 hs3 hmo3 hok3 Hd HdW Hsum Hmo hda hcall q0 q1 e0 e1 hs1 hs2
        go_wp2_with fail
        refine (emit_one B3 os3 c3 one 0 w3 HS3.out.ops HS3.out.nb h1 (by constructor <;> omega) hl3.out).mono ?_
        rintro e w4 ⟨B4, c4, os4, rfl, hl4, ho4, hn4, hb4⟩
        have HS4 := hide ((HS3.out.emit hl4 ho4 hn4 hb4).wide (m := 2 * (k + each)) (by rw [hpl.out]; omega))
        have HW4 := hide (HW3.out.trans (hb4.mono HW3.out.size))
        have hke : (k + each) % each = 0 := by rw [Nat.add_mod_right]; exact Hke.out
        clear hl4 ho4 hn4 hb4 HS3 HW3 HP
        go_wp2
        go_roundw
        case rel => exact ⟨k + each, B4, c4, os4, M3, d3, μ3, hkl, hke, by go_num, rfl, rfl, HW4.out, HS4.out⟩
        case measure => simp [intOf]; omega
      · obtain rfl : k = xs.length := by omega
        have hf := hide (HS.out.gives (m := 12) (by omega))
        clear hS hbW hlr e0 e1 HS HbW hlt
        go_wp2
        go_ret2
        exact hf.out
  · clear hno
    go_enter Tryd.func57, Tryd.ntmps57
    go_wp2_with fail
    generalize w.alloc (.cells #[.slice A ns.length cn, .int .i64 root] 49) = W at l1 HS0 HL hW1 ⊢
    go_loopw [6, 7, 18] (fun ov mv iv wr => ∃ (k : Nat) (Bk : Option Addr) (ck : Nat) (osk : List Od) (Mk : Option Addr) (dk : Nat) (μk : List Int), k ≤ xs.length ∧ k % each = 0 ∧ iv = .int .i64 (k : Int) ∧ ov = .slice Bk osk.length ck ∧ mv = .slice Mk μk.length dk ∧ Below W.heap.size W wr ∧ SvS ns w wr A os μ r (2 * k) Bk ck osk Mk dk μk) (fun _ _ iv _ => xs.length - (intOf iv).toNat)
    case atStart => exact ⟨0, B, c, os, M, d, μ, Nat.zero_le _, by simp, rfl, rfl, rfl, Below.refl _ _, HS0.out⟩
    case round =>
      clear HS0
      obtain ⟨k, Bk, ck, osk, Mk, dk, μk, hk, hke, rfl, rfl, rfl, hbW, hS⟩ := hrel
      have hlr := l1.below hbW hW1
      have e0 := hlr.cell 0
      have e1 := hlr.cell 1
      simp only [jD, jE, jF] at e0 e1
      have HS := hide hS
      have HbW := hide hbW
      by_cases hlt : k < xs.length
      · have hkl : k + each ≤ xs.length := by
          rcases He.out with h | h <;> subst h <;> have := Hev.out <;> omega
        obtain ⟨b, off, x, rfl, hbl, _, _, _⟩ := (HL.out.below hbW).at_ hlt
        have HP := hide (((HL.out.behind k).upto each).later hbW.drew (Nat.le_refl _))
        have hpl : Hid (((xs.drop k).take each).length = each) := by show _ = _; simp; omega
        have hpx : Hid (∀ x ∈ (xs.drop k).take each, 0 ≤ x ∧ x < (ns.length : Int) ∧ (kindOf ns x = 2 → rk ns x < r)) := fun x hxm => Hx.out x (List.mem_of_mem_drop (List.mem_of_mem_take hxm))
        have hd := hS.later (Below.refl _ _).drew
        have Hd := hide hd
        have HdW := hide hbW.drew
        have Hsum := hide hS.sum
        have Hmo := hide hS.mo
        have Hke := hide hke
        have hk1 : (0 : Int) ≤ (k : Int) := by omega
        have hk2 : (k : Int) < (xs.length : Int) := by omega
        have hk3 : (k : Int) + (each : Int) ≤ (cl : Int) := by omega
        have hk4 : (0 : Int) ≤ (each : Int) := by omega
        have he2 : each ≤ 2 := by rcases He.out with h | h <;> omega
        have he1 : 1 ≤ each := by rcases He.out with h | h <;> omega
        have hcall := hide (fun X : World => fun h : SvS ns X X A osk μk r 0 Bk ck osk Mk dk μk => fun hP : IntsAt X X.heap.size (some ⟨b, off + k, none⟩) ((xs.drop k).take each) => saveAll_any h12 A cn root lev m HOk.out (some ⟨b, off + k, none⟩) ((xs.drop k).take each) (cl - k) r Bk osk ck Mk μk dk X hP hr hpx.out (by have := Lc_mono (ns := ns) Hmo.out; have := Hm.out; omega) (by have := hpl.out; have := Hsum.out; have := Phi_le h12 μ r; omega) h)
        have hda := Hd.out.anew r
        have hwr : IntKind.i64.wrap ((k : Int) + (each : Int)) = (k : Int) + (each : Int) := by rw [IntKind.wrap_i64]; omega
        have hs1 : (k : Int) ≤ IntKind.i64.wrap ((k : Int) + (each : Int)) := by rw [hwr]; omega
        have hs2 : IntKind.i64.wrap ((k : Int) + (each : Int)) ≤ (cl : Int) := by rw [hwr]; omega
        have Hne := hide (show ¬ cl = k from by omega)
        have Hlen := hide (show (IntKind.i64.wrap ((k : Int) + (each : Int))).toNat - k = ((xs.drop k).take each).length from by rw [hwr, hpl.out]; omega)
        have Hk1 := hide (show IntKind.i64.wrap ((k : Int) + (each : Int)) = ((k + each : Nat) : Int) from by rw [hwr]; omega)
        clear hwr
        have z1 : w.heap.size < wr.heap.size := by have := hbW.size; omega
        clear hlr hS hbW hd HS HbW hke
        go_wp2_with fail
        go_region_held3 (fun w' => w'.cell? ⟨w.heap.size, 0, none⟩ = some (.slice A ns.length cn) ∧ w'.cell? ⟨w.heap.size, 1, none⟩ = some (.int .i64 root))
          (first
            | (go_split_ands; refine ⟨?_, ?_⟩ <;> assumption))
          (first
            | (go_at_call 58; rw [if_neg Hne.out, Hlen.out]; refine (hcall.out _ hda HP.out).mono ?_; rintro e w3 ⟨os3, μ3, ⟨B3, c3, M3, d3, rfl, ho3, hn3, hi3, hm3, hb3⟩, hs3, hmo3, hok3⟩
               have q0 := (hb3.cell (p := ⟨w.heap.size, 0, none⟩) z1).trans e0; have q1 := (hb3.cell (p := ⟨w.heap.size, 1, none⟩) z1).trans e1))
        have HS3 := hide (Hd.out.call ho3 hn3 hi3 hm3 hb3 hs3 hmo3 hok3)
        have HW3 := hide (HdW.out.trans (hb3.mono HdW.out.size))
        have hl3 : Hid (os3.length ≤ 7000000) := by
          have h3 := HS3.out.sum
          have := Phi_le h12 μ r
          rw [hpl.out] at h3
          show _ ≤ _
          omega
        clear ho3 hn3 hi3 hm3 hb3 hs3 hmo3 hok3 Hd HdW Hsum Hmo hda hcall q0 q1 e0 e1 hs1 hs2
        go_wp2_with fail
        refine (emit_one B3 os3 c3 one 0 w3 HS3.out.ops HS3.out.nb h1 (by constructor <;> omega) hl3.out).mono ?_
        rintro e w4 ⟨B4, c4, os4, rfl, hl4, ho4, hn4, hb4⟩
        have HS4 := hide ((HS3.out.emit hl4 ho4 hn4 hb4).wide (m := 2 * (k + each)) (by rw [hpl.out]; omega))
        have HW4 := hide (HW3.out.trans (hb4.mono HW3.out.size))
        have hke : (k + each) % each = 0 := by rw [Nat.add_mod_right]; exact Hke.out
        clear hl4 ho4 hn4 hb4 HS3 HW3 HP
        go_wp2
        go_roundw
        case rel => exact ⟨k + each, B4, c4, os4, M3, d3, μ3, hkl, hke, by go_num, rfl, rfl, HW4.out, HS4.out⟩
        case measure => simp [intOf]; omega
      · obtain rfl : k = xs.length := by omega
        have hf := hide (HS.out.gives (m := 12) (by omega))
        clear hS hbW hlr e0 e1 HS HbW hlt
        go_wp2
        go_ret2
        exact hf.out
end Go.Proofs.YtbihgafkmmcjlaaDoor
