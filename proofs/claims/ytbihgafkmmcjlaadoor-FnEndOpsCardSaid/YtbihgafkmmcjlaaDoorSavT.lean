import Derived.Test.YtbihgafkmmcjlaaDoorSavF
namespace Go.Proofs.YtbihgafkmmcjlaaDoor
open Go.RowKit
set_option linter.unusedVariables false
set_option maxHeartbeats 1000000 in
theorem fill_any {ns : List Nd} (h12 : ns.length ≤ 12) (A : Option Addr) (cn : Nat) (root lev : Int) (m : Nat) (hOk : SaveOk ns A cn root lev m)
    (L : Option Addr) (xs : List Int) (cl each r : Nat) (one all : Int) (B : Option Addr) (os : List Od) (c : Nat) (M : Option Addr) (μ : List Int) (d : Nat) (w : World)
    (hL : IntsAt w w.heap.size L xs) (hcl : xs.length ≤ cl) (h6 : xs.length ≤ 6) (he : each = 1 ∨ each = 2) (hev : xs.length % each = 0) (h1 : In64 one) (h2 : In64 all)
    (hr : r ≤ 13) (hx : ∀ x ∈ xs, 0 ≤ x ∧ x < (ns.length : Int) ∧ (kindOf ns x = 2 → rk ns x < r)) (hm : 14 * Lc ns μ + r < m) (hl : os.length + 1800 + 2000 * m ≤ 1000000)
    (hS : SvS ns w w A os μ r 0 B c os M d μ) :
    Calls Tryd.prog 57 #[.agg #[.slice A ns.length cn, .int .i64 root], .int .i64 lev, .slice L xs.length cl, .int .i64 (each : Int), .int .i64 one, .int .i64 all, .slice B os.length c, .slice M μ.length d] w (GivesSv ns w os μ r 12) := by
  by_cases h : 0 < lev ∧ each < xs.length
  · exact fill_mark h12 A cn root lev m hOk L xs cl each r one all B os c M μ d w hL hcl h6 h.1 h.2 h1 h2 hr hx hm hl hS
  · exact fill_each h12 A cn root lev m hOk L xs cl each r one all B os c M μ d w hL hcl h6 he hev (by omega) h1 h2 hr hx hm hl hS
theorem SvS.tuple {ns : List Nd} {w wr w' : World} {A : Option Addr} {os os1 os2 : List Od} {μ μ1 μf : List Int} {i r n : Nat} {B B2 M M2 : Option Addr} {c c2 d d2 : Nat}
    (h : SvS ns w wr A os μ (rk ns (i : Int)) n B c os1 M d μ1) (hmo : Mo μ1 μf) (hi : i < ns.length) (hk2 : kindOf ns (i : Int) = 2) (hrk : rk ns (i : Int) < r) (hun : μ.getD i 0 < 0) (hf : 0 ≤ μf.getD i 0)
    (ho : OpsAt w' w'.heap.size B2 os2) (hn : B2 = none → c2 = 0) (hm : IntsAt w' w'.heap.size M2 μf) (hnm : M2 = none → d2 = 0) (hb : Below wr.heap.size wr w') (hok : MuOk ns μf) (hl : os2.length + n ≤ os1.length + 11) :
    GivesSv ns w os μ r 1 (.returned (.tuple #[.slice B2 os2.length c2, .slice M2 μf.length d2])) w' := by
  have hp := phi_tuple h.mo hmo hi hun hf hk2 hrk (x := os1.length) (y := os.length + n) h.sum
  exact ⟨os2, μf, ⟨B2, c2, M2, d2, rfl, ho, hn, hm, hnm, h.bel.trans (hb.mono h.bel.size)⟩, by omega, h.mo.trans hmo, hok⟩
set_option maxRecDepth 100000 in
set_option maxHeartbeats 4000000 in
theorem saveTuple_0 {ns : List Nd} (hsv : Sav ns) (h12 : ns.length ≤ 12) (A : Option Addr) (cn : Nat) (root lev : Int) (m : Nat) (hOk : SaveOk ns A cn root lev m)
    (i r : Nat) (B : Option Addr) (os : List Od) (c : Nat) (M : Option Addr) (μ : List Int) (d : Nat) (w : World)
    (hi : i < ns.length) (hk2 : kindOf ns (i : Int) = 2) (hrk : rk ns (i : Int) < r) (hr : r ≤ 13) (hun : μ.getD i 0 < 0) (hm : 14 * Lc ns μ + rk ns (i : Int) < m) (hl : os.length + 1800 + 2000 * m ≤ 1000000)
    (hS : SvS ns w w A os μ r 0 B c os M d μ) (hlen : (kidsOf ns (i : Int)).length = 0) :
    Calls Tryd.prog 56 #[.agg #[.slice A ns.length cn, .int .i64 root], .int .i64 lev, .int .i64 (i : Int), .slice B os.length c, .slice M μ.length d] w (GivesSv ns w os μ r 1) := by
  obtain ⟨b, off, n, rfl, hbl, hat, hmem, hN⟩ := hS.gr.nds.at_ hi
  obtain ⟨_, _, ⟨Ak, ck, hn_s, hIk, _⟩, _, _⟩ := hN
  have hkids := kidsOf_at hat
  rw [hkids] at hlen
  have h6 := hsv.few n hmem
  have hkx : ∀ x ∈ n.kids, 0 ≤ x ∧ x < (ns.length : Int) ∧ (kindOf ns x = 2 → rk ns x < rk ns (i : Int)) := by
    intro x hx
    obtain ⟨h0, h1⟩ := hsv.inn n hmem x hx
    refine ⟨h0, h1, fun h2 => ?_⟩
    obtain ⟨k, rfl⟩ := Int.eq_ofNat_of_zero_le h0
    have := rk_kid hsv (i := (i : Int)) (k := k) (by omega) (by rw [hkids]; exact hx) h2
    omega
  have HOk := hide hOk
  have Hx := hide hkx
  have Hm := hide hm
  have Hun := hide hun
  have Hk2 := hide hk2
  have Hrk := hide hrk
  have hB : Below w.heap.size w (w.alloc (.cells #[.slice (some ⟨b, off, none⟩) ns.length cn, .int .i64 root] 49)) := (Below.refl _ _).alloc (Nat.le_refl _) _
  have l1 := Lies.new w #[.slice (some ⟨b, off, none⟩) ns.length cn, .int .i64 root] 49
  have HS0 := hide ((hS.anew (rk ns (i : Int))).later hB)
  have HK := hide (hIk.later hB (Nat.le_refl _))
  have k2 := (hB.cell (p := ⟨b, off + i * 3 + 2, none⟩) hbl).trans hn_s
  have hi1 : (0 : Int) ≤ (i : Int) := by omega
  have hi2 : (i : Int) < (ns.length : Int) := by omega
  have hr6 : rk ns (i : Int) ≤ 13 := by omega
  clear hOk hkx hm hun hk2 hrk hS hIk hB hn_s hat hkids hmem
  have hk0 : (n.kids.length : Int) = 0 := by omega
  clear hlen
  go_enter Tryd.func56, Tryd.ntmps56
  go_upto_region 1 with fail
  generalize w.alloc (.cells #[.slice (some ⟨b, off, none⟩) ns.length cn, .int .i64 root] 49) = W at l1 HS0 HK k2 ⊢
  have hW1 := l1.lt
  have e0 := l1.cell 0
  have e1 := l1.cell 1
  simp only [jD, jE, jF] at e0 e1
  go_wp2_with fail
  refine (emit_one B os c 4 0 W HS0.out.ops HS0.out.nb (by constructor <;> omega) (by constructor <;> omega) (by omega)).mono ?_
  rintro e w1 ⟨B1, c1, os1, rfl, hl1, ho1, hn1, hb1⟩
  have HS1 := hide (HS0.out.emit hl1 ho1 hn1 hb1)
  have Hl1 := hide hl1.out
  clear hl1 ho1 hn1 hb1 HS0 HK k2 e0 e1 l1
  go_wp2_with fail
  refine (memoed_me h12 B1 os1 c1 M μ d i w1 HS1.out.ops HS1.out.nb HS1.out.memo HS1.out.nm (by have := Hl1.out; omega) (by omega) HS1.out.ok).mono ?_
  rintro e w2 ⟨os2, μf, ⟨B2, c2, M2, d2, rfl, ho2, hn2, hi2, hm2, hb2⟩, hl2, hmo2, hf2, hok2⟩
  have HF := hide (HS1.out.tuple hmo2 (by omega) Hk2.out Hrk.out Hun.out hf2 ho2 hn2 hi2 hm2 hb2 hok2 (by have := hl2.out; omega))
  clear hl2 ho2 hn2 hi2 hm2 hb2 hmo2 hf2 hok2 HS1
  go_wp2
  go_ret2
  exact HF.out
set_option maxRecDepth 100000 in
set_option maxHeartbeats 4000000 in
theorem saveTuple_1 {ns : List Nd} (hsv : Sav ns) (h12 : ns.length ≤ 12) (A : Option Addr) (cn : Nat) (root lev : Int) (m : Nat) (hOk : SaveOk ns A cn root lev m)
    (i r : Nat) (B : Option Addr) (os : List Od) (c : Nat) (M : Option Addr) (μ : List Int) (d : Nat) (w : World)
    (hi : i < ns.length) (hk2 : kindOf ns (i : Int) = 2) (hrk : rk ns (i : Int) < r) (hr : r ≤ 13) (hun : μ.getD i 0 < 0) (hm : 14 * Lc ns μ + rk ns (i : Int) < m) (hl : os.length + 1800 + 2000 * m ≤ 1000000)
    (hS : SvS ns w w A os μ r 0 B c os M d μ) (hlen : 1 ≤ (kidsOf ns (i : Int)).length ∧ (kidsOf ns (i : Int)).length ≤ 2) (hlev : 0 < lev) :
    Calls Tryd.prog 56 #[.agg #[.slice A ns.length cn, .int .i64 root], .int .i64 lev, .int .i64 (i : Int), .slice B os.length c, .slice M μ.length d] w (GivesSv ns w os μ r 1) := by
  obtain ⟨b, off, n, rfl, hbl, hat, hmem, hN⟩ := hS.gr.nds.at_ hi
  obtain ⟨_, _, ⟨Ak, ck, hn_s, hIk, _⟩, _, _⟩ := hN
  have hkids := kidsOf_at hat
  rw [hkids] at hlen
  have h6 := hsv.few n hmem
  have hkx : ∀ x ∈ n.kids, 0 ≤ x ∧ x < (ns.length : Int) ∧ (kindOf ns x = 2 → rk ns x < rk ns (i : Int)) := by
    intro x hx
    obtain ⟨h0, h1⟩ := hsv.inn n hmem x hx
    refine ⟨h0, h1, fun h2 => ?_⟩
    obtain ⟨k, rfl⟩ := Int.eq_ofNat_of_zero_le h0
    have := rk_kid hsv (i := (i : Int)) (k := k) (by omega) (by rw [hkids]; exact hx) h2
    omega
  have HOk := hide hOk
  have Hx := hide hkx
  have Hm := hide hm
  have Hun := hide hun
  have Hk2 := hide hk2
  have Hrk := hide hrk
  have hB : Below w.heap.size w (w.alloc (.cells #[.slice (some ⟨b, off, none⟩) ns.length cn, .int .i64 root] 49)) := (Below.refl _ _).alloc (Nat.le_refl _) _
  have l1 := Lies.new w #[.slice (some ⟨b, off, none⟩) ns.length cn, .int .i64 root] 49
  have HS0 := hide ((hS.anew (rk ns (i : Int))).later hB)
  have HK := hide (hIk.later hB (Nat.le_refl _))
  have k2 := (hB.cell (p := ⟨b, off + i * 3 + 2, none⟩) hbl).trans hn_s
  have hi1 : (0 : Int) ≤ (i : Int) := by omega
  have hi2 : (i : Int) < (ns.length : Int) := by omega
  have hr6 : rk ns (i : Int) ≤ 13 := by omega
  clear hOk hkx hm hun hk2 hrk hS hIk hB hn_s hat hkids hmem
  have hk0 : ¬ (n.kids.length : Int) = 0 := by omega
  have hle : (n.kids.length : Int) ≤ 2 := by omega
  have hle2 : n.kids.length ≤ 2 := by omega
  have hgz : IntKind.i64.wrap (4 + (n.kids.length : Int)) = 4 + (n.kids.length : Int) := by rw [IntKind.wrap_i64]; omega
  have Hgz := hide hgz
  clear hlen hgz
  go_enter Tryd.func56, Tryd.ntmps56
  go_upto_region 1 with fail
  generalize w.alloc (.cells #[.slice (some ⟨b, off, none⟩) ns.length cn, .int .i64 root] 49) = W at l1 HS0 HK k2 ⊢
  have hW1 := l1.lt
  have e0 := l1.cell 0
  have e1 := l1.cell 1
  simp only [jD, jE, jF] at e0 e1
  go_wp2_with fail
  refine (saveAll_any h12 (some ⟨b, off, none⟩) cn root lev m HOk.out Ak n.kids ck (rk ns (i : Int)) B os c M μ d W HK.out hr6 Hx.out Hm.out (by have := Phi_le h12 μ (rk ns (i : Int)); omega) (HS0.out.anew _)).mono ?_
  rintro e w3 ⟨os3, μ3, ⟨B3, c3, M3, d3, rfl, ho3, hn3, hi3, hm3, hb3⟩, hs3, hmo3, hok3⟩
  have HS3 := hide (HS0.out.call ho3 hn3 hi3 hm3 hb3 hs3 hmo3 hok3)
  clear ho3 hn3 hm3 hb3 hs3 hmo3 HS0 HK k2 e0 e1 l1
  have hlen3 := hok3.len
  have hi3m : (i : Int) < (μ3.length : Int) := by omega
  have hl3 : Hid (os3.length ≤ 6000000) := by
    have h3 := HS3.out.sum
    have := Phi_le h12 μ (rk ns (i : Int))
    show _ ≤ _
    omega
  obtain ⟨bm, om, v, rfl, hbm, hv, hvm, hcv⟩ := hi3.at_ (k := i) (by omega)
  have hvv := hok3.vals v hvm
  have hgv : μ3.getD i 0 = v := by rw [List.getD_eq_getElem?_getD, hv]; rfl
  have Hgv := hide hgv
  have Hlen3 := hide hlen3
  clear hv hvm hgv hok3 hlen3
  by_cases hp : 0 ≤ v
  · go_wp2_with fail
    go_loopw [3, 14] (fun ov jv wr => ∃ (j : Nat) (Bj : Option Addr) (cj : Nat) (osj : List Od), j ≤ n.kids.length ∧ jv = .int .i64 (j : Int) ∧ ov = .slice Bj osj.length cj ∧ osj.length ≤ 6000000 + j ∧ wr.cell? ⟨bm, om + i, none⟩ = some (.int .i64 v) ∧ SvS ns w wr (some ⟨b, off, none⟩) os μ (rk ns (i : Int)) (0 + n.kids.length + j) Bj cj osj (some ⟨bm, om, none⟩) d3 μ3) (fun _ jv _ => n.kids.length - (intOf jv).toNat)
    case atStart => exact ⟨0, B3, c3, os3, Nat.zero_le _, rfl, rfl, by have := hl3.out; omega, hcv, HS3.out⟩
    case round =>
      clear HS3 hcv hi3
      obtain ⟨j, Bj, cj, osj, hj, rfl, rfl, hjl, hcv, hSj⟩ := hrel
      have HSj := hide hSj
      have hbm' : bm < wr.heap.size := by
        obtain ⟨b', o', _, e, hb', _⟩ := hSj.memo.at_ (k := i) (by have := Hlen3.out; omega)
        injection e with e
        injection e with e _
        subst e
        exact hb'
      by_cases hlt : j < n.kids.length
      · have hj2 : (j : Int) < (n.kids.length : Int) := by omega
        clear hSj
        go_wp2_with fail
        refine (emit_one Bj osj cj 17 0 wr HSj.out.ops HSj.out.nb (by constructor <;> omega) (by constructor <;> omega) (by omega)).mono ?_
        rintro e w4 ⟨B4, c4, os4, rfl, hl4, ho4, hn4, hb4⟩
        have HS4 := hide (HSj.out.emit hl4 ho4 hn4 hb4)
        have Hl4 := hide hl4.out
        have Hc4 := hide ((hb4.cell (p := ⟨bm, om + i, none⟩) hbm').trans hcv)
        clear hl4 ho4 hn4 hb4 hcv HSj
        go_wp2
        go_roundw
        case rel => exact ⟨j + 1, B4, c4, os4, by omega, by go_num, rfl, by have := Hl4.out; omega, Hc4.out, HS4.out⟩
        case measure => simp [intOf]; omega
      · obtain rfl : j = n.kids.length := by omega
        have hj2 : ¬ (n.kids.length : Int) < (n.kids.length : Int) := by omega
        clear hSj hlt
        go_wp2_with fail
        refine (emit_one Bj osj cj 16 v wr HSj.out.ops HSj.out.nb (by constructor <;> omega) (by constructor <;> omega) (by omega)).mono ?_
        rintro e w4 ⟨B4, c4, os4, rfl, hl4, ho4, hn4, hb4⟩
        have HF := hide (HSj.out.tuple (Mo.refl μ3) (by omega) Hk2.out Hrk.out Hun.out (by rw [Hgv.out]; exact hp) ho4 hn4 (HSj.out.memo.later hb4 (Nat.le_refl _)) HSj.out.nm hb4 HSj.out.ok (by have := hl4.out; omega))
        clear hl4 ho4 hn4 hb4 HSj hcv
        go_wp2
        go_ret2
        exact HF.out
  · go_wp2_with fail
    refine (emit_one B3 os3 c3 (4 + (n.kids.length : Int)) 0 w3 HS3.out.ops HS3.out.nb (by constructor <;> omega) (by constructor <;> omega) (by have := hl3.out; omega)).mono ?_
    rintro e w4 ⟨B4, c4, os4, rfl, hl4, ho4, hn4, hb4⟩
    have HS4 := hide (HS3.out.emit hl4 ho4 hn4 hb4)
    have Hl4 := hide hl4.out
    clear hl4 ho4 hn4 hb4 hcv HS3 hi3
    go_wp2_with fail
    refine (memoed_me h12 B4 os4 c4 (some ⟨bm, om, none⟩) μ3 d3 i w4 HS4.out.ops HS4.out.nb HS4.out.memo HS4.out.nm (by have := hl3.out; have := Hl4.out; omega) (by omega) HS4.out.ok).mono ?_
    rintro e w5 ⟨os5, μf, ⟨B5, c5, M5, d5, rfl, ho5, hn5, hi5, hm5, hb5⟩, hl5, hmo5, hf5, hok5⟩
    have HF := hide (HS4.out.tuple hmo5 (by omega) Hk2.out Hrk.out Hun.out hf5 ho5 hn5 hi5 hm5 hb5 hok5 (by have := hl5.out; omega))
    clear hl5 ho5 hn5 hi5 hm5 hb5 hmo5 hf5 hok5 HS4
    go_wp2
    go_ret2
    exact HF.out
set_option maxRecDepth 100000 in
set_option maxHeartbeats 4000000 in
theorem saveTuple_2 {ns : List Nd} (hsv : Sav ns) (h12 : ns.length ≤ 12) (A : Option Addr) (cn : Nat) (root lev : Int) (m : Nat) (hOk : SaveOk ns A cn root lev m)
    (i r : Nat) (B : Option Addr) (os : List Od) (c : Nat) (M : Option Addr) (μ : List Int) (d : Nat) (w : World)
    (hi : i < ns.length) (hk2 : kindOf ns (i : Int) = 2) (hrk : rk ns (i : Int) < r) (hr : r ≤ 13) (hun : μ.getD i 0 < 0) (hm : 14 * Lc ns μ + rk ns (i : Int) < m) (hl : os.length + 1800 + 2000 * m ≤ 1000000)
    (hS : SvS ns w w A os μ r 0 B c os M d μ) (hlen : 1 ≤ (kidsOf ns (i : Int)).length) (hlev : ¬ 0 < lev) :
    Calls Tryd.prog 56 #[.agg #[.slice A ns.length cn, .int .i64 root], .int .i64 lev, .int .i64 (i : Int), .slice B os.length c, .slice M μ.length d] w (GivesSv ns w os μ r 1) := by
  obtain ⟨b, off, n, rfl, hbl, hat, hmem, hN⟩ := hS.gr.nds.at_ hi
  obtain ⟨_, _, ⟨Ak, ck, hn_s, hIk, _⟩, _, _⟩ := hN
  have hkids := kidsOf_at hat
  rw [hkids] at hlen
  have h6 := hsv.few n hmem
  have hkx : ∀ x ∈ n.kids, 0 ≤ x ∧ x < (ns.length : Int) ∧ (kindOf ns x = 2 → rk ns x < rk ns (i : Int)) := by
    intro x hx
    obtain ⟨h0, h1⟩ := hsv.inn n hmem x hx
    refine ⟨h0, h1, fun h2 => ?_⟩
    obtain ⟨k, rfl⟩ := Int.eq_ofNat_of_zero_le h0
    have := rk_kid hsv (i := (i : Int)) (k := k) (by omega) (by rw [hkids]; exact hx) h2
    omega
  have HOk := hide hOk
  have Hx := hide hkx
  have Hm := hide hm
  have Hun := hide hun
  have Hk2 := hide hk2
  have Hrk := hide hrk
  have hB : Below w.heap.size w (w.alloc (.cells #[.slice (some ⟨b, off, none⟩) ns.length cn, .int .i64 root] 49)) := (Below.refl _ _).alloc (Nat.le_refl _) _
  have l1 := Lies.new w #[.slice (some ⟨b, off, none⟩) ns.length cn, .int .i64 root] 49
  have HS0 := hide ((hS.anew (rk ns (i : Int))).later hB)
  have HK := hide (hIk.later hB (Nat.le_refl _))
  have k2 := (hB.cell (p := ⟨b, off + i * 3 + 2, none⟩) hbl).trans hn_s
  have hi1 : (0 : Int) ≤ (i : Int) := by omega
  have hi2 : (i : Int) < (ns.length : Int) := by omega
  have hr6 : rk ns (i : Int) ≤ 13 := by omega
  clear hOk hkx hm hun hk2 hrk hS hIk hB hn_s hat hkids hmem
  have hk0 : ¬ (n.kids.length : Int) = 0 := by omega
  have hk00 : (0 : Int) < (n.kids.length : Int) := by omega
  clear hlen
  go_enter Tryd.func56, Tryd.ntmps56
  go_upto_region 1 with fail
  generalize w.alloc (.cells #[.slice (some ⟨b, off, none⟩) ns.length cn, .int .i64 root] 49) = W at l1 HS0 HK k2 ⊢
  have hW1 := l1.lt
  have e0 := l1.cell 0
  have e1 := l1.cell 1
  simp only [jD, jE, jF] at e0 e1
  go_wp2_with fail
  refine (emit_one B os c 2 0 W HS0.out.ops HS0.out.nb (by constructor <;> omega) (by constructor <;> omega) (by omega)).mono ?_
  rintro e w1 ⟨B1, c1, os1, rfl, hl1, ho1, hn1, hb1⟩
  have HS1 := hide (HS0.out.emit hl1 ho1 hn1 hb1)
  have HK1 := hide (HK.out.later hb1 (Nat.le_refl _))
  have Hl1 := hide hl1.out
  have l1' := l1.below hb1 hW1
  clear e0 e1 hl1 ho1 hn1 hb1 HS0 HK k2 l1
  have e0 := l1'.cell 0
  have e1 := l1'.cell 1
  simp only [jD, jE, jF] at e0 e1
  go_wp2_with fail
  refine (saveAll_any h12 (some ⟨b, off, none⟩) cn root lev m HOk.out Ak n.kids ck (rk ns (i : Int)) B1 os1 c1 M μ d w1 HK1.out hr6 Hx.out Hm.out (by have := Hl1.out; have := Phi_le h12 μ (rk ns (i : Int)); omega) (HS1.out.anew _)).mono ?_
  rintro e w3 ⟨os3, μ3, ⟨B3, c3, M3, d3, rfl, ho3, hn3, hi3, hm3, hb3⟩, hs3, hmo3, hok3⟩
  have HS3 := hide (HS1.out.call ho3 hn3 hi3 hm3 hb3 hs3 hmo3 hok3)
  clear ho3 hn3 hm3 hb3 hs3 hmo3 HS1 HK1 e0 e1 l1'
  have hlen3 := hok3.len
  have hi3m : (i : Int) < (μ3.length : Int) := by omega
  have hl3 : Hid (os3.length ≤ 6000000) := by
    have h3 := HS3.out.sum
    have := Phi_le h12 μ (rk ns (i : Int))
    show _ ≤ _
    omega
  obtain ⟨bm, om, v, rfl, hbm, hv, hvm, hcv⟩ := hi3.at_ (k := i) (by omega)
  have hvv := hok3.vals v hvm
  have hgv : μ3.getD i 0 = v := by rw [List.getD_eq_getElem?_getD, hv]; rfl
  have Hgv := hide hgv
  have Hlen3 := hide hlen3
  clear hv hvm hgv hok3 hlen3
  by_cases hp : 0 ≤ v
  · go_wp2_with fail
    go_loopw [3, 14] (fun ov jv wr => jv = .int .i64 0 ∧ ov = .slice B3 os3.length c3 ∧ wr = w3) (fun _ _ _ => 0)
    case atStart => exact ⟨rfl, rfl, rfl⟩
    case round =>
      obtain ⟨rfl, rfl, rfl⟩ := hrel
      have hbm' : bm < wr.heap.size := hbm
      go_wp2_with fail
      refine (emit_one B3 os3 c3 18 0 wr HS3.out.ops HS3.out.nb (by constructor <;> omega) (by constructor <;> omega) (by have := hl3.out; omega)).mono ?_
      rintro e w4 ⟨B4, c4, os4, rfl, hl4, ho4, hn4, hb4⟩
      have HS4 := hide (HS3.out.emit hl4 ho4 hn4 hb4)
      have Hl4 := hide hl4.out
      have hc4 := (hb4.cell (p := ⟨bm, om + i, none⟩) hbm').trans hcv
      clear hl4 ho4 hn4 hb4 hcv HS3 hi3
      go_wp2_with fail
      refine (emit_one B4 os4 c4 16 v w4 HS4.out.ops HS4.out.nb (by constructor <;> omega) (by constructor <;> omega) (by have := hl3.out; have := Hl4.out; omega)).mono ?_
      rintro e w5 ⟨B5, c5, os5, rfl, hl5, ho5, hn5, hb5⟩
      have HF := hide (HS4.out.tuple (Mo.refl μ3) (by omega) Hk2.out Hrk.out Hun.out (by rw [Hgv.out]; exact hp) ho5 hn5 (HS4.out.memo.later hb5 (Nat.le_refl _)) HS4.out.nm hb5 HS4.out.ok (by have := hl5.out; omega))
      clear hl5 ho5 hn5 hb5 HS4 hc4
      go_wp2
      go_ret2
      exact HF.out
  · go_wp2_with fail
    refine (emit_one B3 os3 c3 3 0 w3 HS3.out.ops HS3.out.nb (by constructor <;> omega) (by constructor <;> omega) (by have := hl3.out; omega)).mono ?_
    rintro e w4 ⟨B4, c4, os4, rfl, hl4, ho4, hn4, hb4⟩
    have HS4 := hide (HS3.out.emit hl4 ho4 hn4 hb4)
    have Hl4 := hide hl4.out
    clear hl4 ho4 hn4 hb4 hcv HS3 hi3
    go_wp2_with fail
    refine (memoed_me h12 B4 os4 c4 (some ⟨bm, om, none⟩) μ3 d3 i w4 HS4.out.ops HS4.out.nb HS4.out.memo HS4.out.nm (by have := hl3.out; have := Hl4.out; omega) (by omega) HS4.out.ok).mono ?_
    rintro e w5 ⟨os5, μf, ⟨B5, c5, M5, d5, rfl, ho5, hn5, hi5, hm5, hb5⟩, hl5, hmo5, hf5, hok5⟩
    have HF := hide (HS4.out.tuple hmo5 (by omega) Hk2.out Hrk.out Hun.out hf5 ho5 hn5 hi5 hm5 hb5 hok5 (by have := hl5.out; omega))
    clear hl5 ho5 hn5 hi5 hm5 hb5 hmo5 hf5 hok5 HS4
    go_wp2
    go_ret2
    exact HF.out
set_option maxRecDepth 100000 in
set_option maxHeartbeats 4000000 in
theorem saveTuple_3 {ns : List Nd} (hsv : Sav ns) (h12 : ns.length ≤ 12) (A : Option Addr) (cn : Nat) (root lev : Int) (m : Nat) (hOk : SaveOk ns A cn root lev m)
    (i r : Nat) (B : Option Addr) (os : List Od) (c : Nat) (M : Option Addr) (μ : List Int) (d : Nat) (w : World)
    (hi : i < ns.length) (hk2 : kindOf ns (i : Int) = 2) (hrk : rk ns (i : Int) < r) (hr : r ≤ 13) (hun : μ.getD i 0 < 0) (hm : 14 * Lc ns μ + rk ns (i : Int) < m) (hl : os.length + 1800 + 2000 * m ≤ 1000000)
    (hS : SvS ns w w A os μ r 0 B c os M d μ) (hlen : 2 < (kidsOf ns (i : Int)).length) (hlev : 0 < lev) :
    Calls Tryd.prog 56 #[.agg #[.slice A ns.length cn, .int .i64 root], .int .i64 lev, .int .i64 (i : Int), .slice B os.length c, .slice M μ.length d] w (GivesSv ns w os μ r 1) := by
  obtain ⟨b, off, n, rfl, hbl, hat, hmem, hN⟩ := hS.gr.nds.at_ hi
  obtain ⟨_, _, ⟨Ak, ck, hn_s, hIk, _⟩, _, _⟩ := hN
  have hkids := kidsOf_at hat
  rw [hkids] at hlen
  have h6 := hsv.few n hmem
  have hkx : ∀ x ∈ n.kids, 0 ≤ x ∧ x < (ns.length : Int) ∧ (kindOf ns x = 2 → rk ns x < rk ns (i : Int)) := by
    intro x hx
    obtain ⟨h0, h1⟩ := hsv.inn n hmem x hx
    refine ⟨h0, h1, fun h2 => ?_⟩
    obtain ⟨k, rfl⟩ := Int.eq_ofNat_of_zero_le h0
    have := rk_kid hsv (i := (i : Int)) (k := k) (by omega) (by rw [hkids]; exact hx) h2
    omega
  have HOk := hide hOk
  have Hx := hide hkx
  have Hm := hide hm
  have Hun := hide hun
  have Hk2 := hide hk2
  have Hrk := hide hrk
  have hB : Below w.heap.size w (w.alloc (.cells #[.slice (some ⟨b, off, none⟩) ns.length cn, .int .i64 root] 49)) := (Below.refl _ _).alloc (Nat.le_refl _) _
  have l1 := Lies.new w #[.slice (some ⟨b, off, none⟩) ns.length cn, .int .i64 root] 49
  have HS0 := hide ((hS.anew (rk ns (i : Int))).later hB)
  have HK := hide (hIk.later hB (Nat.le_refl _))
  have k2 := (hB.cell (p := ⟨b, off + i * 3 + 2, none⟩) hbl).trans hn_s
  have hi1 : (0 : Int) ≤ (i : Int) := by omega
  have hi2 : (i : Int) < (ns.length : Int) := by omega
  have hr6 : rk ns (i : Int) ≤ 13 := by omega
  clear hOk hkx hm hun hk2 hrk hS hIk hB hn_s hat hkids hmem
  have hk0 : ¬ (n.kids.length : Int) = 0 := by omega
  have hle : ¬ (n.kids.length : Int) ≤ 2 := by omega
  have hk00 : (0 : Int) < (n.kids.length : Int) := by omega
  clear hlen
  go_enter Tryd.func56, Tryd.ntmps56
  go_upto_region 1 with fail
  generalize w.alloc (.cells #[.slice (some ⟨b, off, none⟩) ns.length cn, .int .i64 root] 49) = W at l1 HS0 HK k2 ⊢
  have hW1 := l1.lt
  have e0 := l1.cell 0
  have e1 := l1.cell 1
  simp only [jD, jE, jF] at e0 e1
  go_wp2_with fail
  refine (emit_one B os c 2 0 W HS0.out.ops HS0.out.nb (by constructor <;> omega) (by constructor <;> omega) (by omega)).mono ?_
  rintro e w1 ⟨B1, c1, os1, rfl, hl1, ho1, hn1, hb1⟩
  have HS1 := hide (HS0.out.emit hl1 ho1 hn1 hb1)
  have HK1 := hide (HK.out.later hb1 (Nat.le_refl _))
  have Hl1 := hide hl1.out
  have l1' := l1.below hb1 hW1
  clear e0 e1 hl1 ho1 hn1 hb1 HS0 HK k2 l1
  have e0 := l1'.cell 0
  have e1 := l1'.cell 1
  simp only [jD, jE, jF] at e0 e1
  go_wp2_with fail
  refine (saveAll_any h12 (some ⟨b, off, none⟩) cn root lev m HOk.out Ak n.kids ck (rk ns (i : Int)) B1 os1 c1 M μ d w1 HK1.out hr6 Hx.out Hm.out (by have := Hl1.out; have := Phi_le h12 μ (rk ns (i : Int)); omega) (HS1.out.anew _)).mono ?_
  rintro e w3 ⟨os3, μ3, ⟨B3, c3, M3, d3, rfl, ho3, hn3, hi3, hm3, hb3⟩, hs3, hmo3, hok3⟩
  have HS3 := hide (HS1.out.call ho3 hn3 hi3 hm3 hb3 hs3 hmo3 hok3)
  clear ho3 hn3 hm3 hb3 hs3 hmo3 HS1 HK1 e0 e1 l1'
  have hlen3 := hok3.len
  have hi3m : (i : Int) < (μ3.length : Int) := by omega
  have hl3 : Hid (os3.length ≤ 6000000) := by
    have h3 := HS3.out.sum
    have := Phi_le h12 μ (rk ns (i : Int))
    show _ ≤ _
    omega
  obtain ⟨bm, om, v, rfl, hbm, hv, hvm, hcv⟩ := hi3.at_ (k := i) (by omega)
  have hvv := hok3.vals v hvm
  have hgv : μ3.getD i 0 = v := by rw [List.getD_eq_getElem?_getD, hv]; rfl
  have Hgv := hide hgv
  have Hlen3 := hide hlen3
  clear hv hvm hgv hok3 hlen3
  by_cases hp : 0 ≤ v
  · go_wp2_with fail
    go_loopw [3, 14] (fun ov jv wr => jv = .int .i64 0 ∧ ov = .slice B3 os3.length c3 ∧ wr = w3) (fun _ _ _ => 0)
    case atStart => exact ⟨rfl, rfl, rfl⟩
    case round =>
      obtain ⟨rfl, rfl, rfl⟩ := hrel
      have hbm' : bm < wr.heap.size := hbm
      go_wp2_with fail
      refine (emit_one B3 os3 c3 18 0 wr HS3.out.ops HS3.out.nb (by constructor <;> omega) (by constructor <;> omega) (by have := hl3.out; omega)).mono ?_
      rintro e w4 ⟨B4, c4, os4, rfl, hl4, ho4, hn4, hb4⟩
      have HS4 := hide (HS3.out.emit hl4 ho4 hn4 hb4)
      have Hl4 := hide hl4.out
      have hc4 := (hb4.cell (p := ⟨bm, om + i, none⟩) hbm').trans hcv
      clear hl4 ho4 hn4 hb4 hcv HS3 hi3
      go_wp2_with fail
      refine (emit_one B4 os4 c4 16 v w4 HS4.out.ops HS4.out.nb (by constructor <;> omega) (by constructor <;> omega) (by have := hl3.out; have := Hl4.out; omega)).mono ?_
      rintro e w5 ⟨B5, c5, os5, rfl, hl5, ho5, hn5, hb5⟩
      have HF := hide (HS4.out.tuple (Mo.refl μ3) (by omega) Hk2.out Hrk.out Hun.out (by rw [Hgv.out]; exact hp) ho5 hn5 (HS4.out.memo.later hb5 (Nat.le_refl _)) HS4.out.nm hb5 HS4.out.ok (by have := hl5.out; omega))
      clear hl5 ho5 hn5 hb5 HS4 hc4
      go_wp2
      go_ret2
      exact HF.out
  · go_wp2_with fail
    refine (emit_one B3 os3 c3 3 0 w3 HS3.out.ops HS3.out.nb (by constructor <;> omega) (by constructor <;> omega) (by have := hl3.out; omega)).mono ?_
    rintro e w4 ⟨B4, c4, os4, rfl, hl4, ho4, hn4, hb4⟩
    have HS4 := hide (HS3.out.emit hl4 ho4 hn4 hb4)
    have Hl4 := hide hl4.out
    clear hl4 ho4 hn4 hb4 hcv HS3 hi3
    go_wp2_with fail
    refine (memoed_me h12 B4 os4 c4 (some ⟨bm, om, none⟩) μ3 d3 i w4 HS4.out.ops HS4.out.nb HS4.out.memo HS4.out.nm (by have := hl3.out; have := Hl4.out; omega) (by omega) HS4.out.ok).mono ?_
    rintro e w5 ⟨os5, μf, ⟨B5, c5, M5, d5, rfl, ho5, hn5, hi5, hm5, hb5⟩, hl5, hmo5, hf5, hok5⟩
    have HF := hide (HS4.out.tuple hmo5 (by omega) Hk2.out Hrk.out Hun.out hf5 ho5 hn5 hi5 hm5 hb5 hok5 (by have := hl5.out; omega))
    clear hl5 ho5 hn5 hi5 hm5 hb5 hmo5 hf5 hok5 HS4
    go_wp2
    go_ret2
    exact HF.out
theorem saveTuple_any {ns : List Nd} (hsv : Sav ns) (h12 : ns.length ≤ 12) (A : Option Addr) (cn : Nat) (root lev : Int) (m : Nat) (hOk : SaveOk ns A cn root lev m)
    (i r : Nat) (B : Option Addr) (os : List Od) (c : Nat) (M : Option Addr) (μ : List Int) (d : Nat) (w : World)
    (hi : i < ns.length) (hk2 : kindOf ns (i : Int) = 2) (hrk : rk ns (i : Int) < r) (hr : r ≤ 13) (hun : μ.getD i 0 < 0) (hm : 14 * Lc ns μ + rk ns (i : Int) < m) (hl : os.length + 1800 + 2000 * m ≤ 1000000)
    (hS : SvS ns w w A os μ r 0 B c os M d μ) :
    Calls Tryd.prog 56 #[.agg #[.slice A ns.length cn, .int .i64 root], .int .i64 lev, .int .i64 (i : Int), .slice B os.length c, .slice M μ.length d] w (GivesSv ns w os μ r 1) := by
  by_cases h0 : (kidsOf ns (i : Int)).length = 0
  · exact saveTuple_0 hsv h12 A cn root lev m hOk i r B os c M μ d w hi hk2 hrk hr hun hm hl hS h0
  · by_cases hlev : 0 < lev
    · by_cases h2 : (kidsOf ns (i : Int)).length ≤ 2
      · exact saveTuple_1 hsv h12 A cn root lev m hOk i r B os c M μ d w hi hk2 hrk hr hun hm hl hS (by omega) hlev
      · exact saveTuple_3 hsv h12 A cn root lev m hOk i r B os c M μ d w hi hk2 hrk hr hun hm hl hS (by omega) hlev
    · exact saveTuple_2 hsv h12 A cn root lev m hOk i r B os c M μ d w hi hk2 hrk hr hun hm hl hS (by omega) hlev
end Go.Proofs.YtbihgafkmmcjlaaDoor
