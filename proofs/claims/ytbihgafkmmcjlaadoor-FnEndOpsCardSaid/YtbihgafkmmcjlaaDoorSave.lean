import Derived.Test.YtbihgafkmmcjlaaDoorSavT
namespace Go.Proofs.YtbihgafkmmcjlaaDoor
open Go.RowKit
set_option linter.unusedVariables false
theorem SvS.node {ns : List Nd} (h12 : ns.length ≤ 12) {w w1 w' : World} {A : Option Addr} {os os1 os2 : List Od} {μ μ1 μf : List Int} {i r n : Nat} {B M : Option Addr} {c d : Nat}
    (h : SvS ns w1 w' A os1 μ1 13 n B c os2 M d μf) (hb : Below w.heap.size w w1) (hmo : Mo μ μ1) (hi : i < ns.length) (hk : kindOf ns (i : Int) ≠ 2) (hr : r ≤ 13) (hun : μ.getD i 0 < 0) (hf : 0 ≤ μ1.getD i 0) (hl : os1.length + n ≤ os.length + 15) :
    GivesSv ns w os μ r 1 (.returned (.tuple #[.slice B os2.length c, .slice M μf.length d])) w' := by
  have hp := phi_node h12 hmo h.mo hi hun hf hk hr (x := os2.length) (y := os1.length + n) h.sum
  exact ⟨os2, μf, ⟨B, c, M, d, rfl, h.ops, h.nb, h.memo, h.nm, hb.trans (h.bel.mono hb.size)⟩, by omega, hmo.trans h.mo, h.ok⟩
set_option maxRecDepth 100000 in
set_option maxHeartbeats 4000000 in
theorem save_g {ns : List Nd} (hsv : Sav ns) (h12 : ns.length ≤ 12) (A : Option Addr) (cn : Nat) (root lev : Int) (m : Nat) (hOk : SaveOk ns A cn root lev m)
    (i r : Nat) (B : Option Addr) (os : List Od) (c : Nat) (M : Option Addr) (μ : List Int) (d : Nat) (w : World)
    (hi : i < ns.length) (hr : r ≤ 13) (hrk : kindOf ns (i : Int) = 2 → rk ns (i : Int) < r) (hm : 14 * Lc ns μ + r < m + 1) (hl : os.length + 1950 + 2000 * m ≤ 1000000)
    (hS : SvS ns w w A os μ r 0 B c os M d μ) (hun : 0 ≤ μ.getD i 0) (hkd : True) :
    Calls Tryd.prog 36 #[.agg #[.slice A ns.length cn, .int .i64 root], .int .i64 lev, .int .i64 (i : Int), .slice B os.length c, .slice M μ.length d] w (GivesSv ns w os μ r 1) := by
  obtain ⟨b, off, n, rfl, hbl, hat, hmem, hN⟩ := hS.gr.nds.at_ hi
  obtain ⟨hn_k, hn_v, ⟨Ak, ck, hn_s, hIk, hnk⟩, hwk, hwv⟩ := hN
  have hkids := kidsOf_at hat
  have hkind := kindOf_at hat
  have hcap : n.kids.length ≤ ck := (hS.gr.cap b off rfl).2 i n hat _ _ _ hn_s
  have h6 := hsv.few n hmem
  have heven := hsv.even n hmem
  have hkx : ∀ x ∈ n.kids, 0 ≤ x ∧ x < (ns.length : Int) ∧ (kindOf ns x = 2 → rk ns x < 13) := by
    intro x hx
    obtain ⟨h0, h1⟩ := hsv.inn n hmem x hx
    exact ⟨h0, h1, fun h2 => by have := rk_le ns x; omega⟩
  obtain ⟨bm, om, v, rfl, hbm, hv, hvm, hcv⟩ := hS.memo.at_ (k := i) (by rw [hS.ok.len]; exact hi)
  have hvv := hS.ok.vals v hvm
  have hgv : μ.getD i 0 = v := by rw [List.getD_eq_getElem?_getD, hv]; rfl
  rw [hgv] at hun
  have Hgv := hide hgv
  have hmlen := hS.ok.len
  have hi3m : (i : Int) < (μ.length : Int) := by omega
  have HOk := hide hOk
  have Hx := hide hkx
  have Hm := hide hm
  have Hkind := hide hkind
  have Hrk := hide hrk
  have Hmlen := hide hmlen
  have HwvV := hide hwv
  have Hnk := hide hnk
  have Heven := hide heven
  have hB : Below w.heap.size w ((w.alloc (.cells #[.slice (some ⟨b, off, none⟩) ns.length cn, .int .i64 root] 49)).alloc (.cells #[.int .i64 n.kind, .int .i64 n.value, .slice Ak n.kids.length ck] 73)) := ((Below.refl _ _).alloc (Nat.le_refl _) _).alloc (by simp) _
  have l1 := (Lies.new w #[.slice (some ⟨b, off, none⟩) ns.length cn, .int .i64 root] 49).alloc (.cells #[.int .i64 n.kind, .int .i64 n.value, .slice Ak n.kids.length ck] 73)
  have l2 := Lies.new (w.alloc (.cells #[.slice (some ⟨b, off, none⟩) ns.length cn, .int .i64 root] 49)) #[.int .i64 n.kind, .int .i64 n.value, .slice Ak n.kids.length ck] 73
  simp only [World.size_alloc] at l2
  have HS0 := hide (hS.later hB)
  have HB := hide hB
  have HK := hide (hIk.later hB (Nat.le_refl _))
  have hcm := (hB.cell (p := ⟨bm, om + i, none⟩) hbm).trans hcv
  have hi1 : (0 : Int) ≤ (i : Int) := by omega
  have hi2 : (i : Int) < (ns.length : Int) := by omega
  clear hOk hkx hm hrk hS hIk hnk hkids hmem hcv hv hvm hgv hmlen hkind hat hwv hwk hB heven
  go_enter Tryd.func36, Tryd.ntmps36
  go_upto_region 2 with fail
  clear hn_k hn_v hn_s
  generalize ((w.alloc (.cells #[.slice (some ⟨b, off, none⟩) ns.length cn, .int .i64 root] 49)).alloc (.cells #[.int .i64 n.kind, .int .i64 n.value, .slice Ak n.kids.length ck] 73)) = W at l1 l2 HS0 HB HK hcm ⊢
  have hW1 := l1.lt
  have hW2 := l2.lt
  have e0 := l1.cell 0
  have e1 := l1.cell 1
  have n0 := l2.cell 0
  have n1 := l2.cell 1
  have n2 := l2.cell 2
  simp only [jD, jE, jF] at e0 e1 n0 n1 n2
  go_wp2_with fail
  refine (emit_one B os c 16 v W HS0.out.ops HS0.out.nb (by constructor <;> omega) (by constructor <;> omega) (by omega)).mono ?_
  rintro e w1 ⟨B1, c1, os1, rfl, hl1, ho1, hn1, hb1⟩
  have HF := hide ((HS0.out.emit hl1 ho1 hn1 hb1).gives (m := 1) (by omega))
  clear hl1 ho1 hn1 hb1 HS0 HK
  go_wp2
  go_ret2
  exact HF.out
set_option maxRecDepth 100000 in
set_option maxHeartbeats 4000000 in
theorem save_0 {ns : List Nd} (hsv : Sav ns) (h12 : ns.length ≤ 12) (A : Option Addr) (cn : Nat) (root lev : Int) (m : Nat) (hOk : SaveOk ns A cn root lev m)
    (i r : Nat) (B : Option Addr) (os : List Od) (c : Nat) (M : Option Addr) (μ : List Int) (d : Nat) (w : World)
    (hi : i < ns.length) (hr : r ≤ 13) (hrk : kindOf ns (i : Int) = 2 → rk ns (i : Int) < r) (hm : 14 * Lc ns μ + r < m + 1) (hl : os.length + 1950 + 2000 * m ≤ 1000000)
    (hS : SvS ns w w A os μ r 0 B c os M d μ) (hun : μ.getD i 0 < 0) (hkd : kindOf ns (i : Int) = 0) :
    Calls Tryd.prog 36 #[.agg #[.slice A ns.length cn, .int .i64 root], .int .i64 lev, .int .i64 (i : Int), .slice B os.length c, .slice M μ.length d] w (GivesSv ns w os μ r 1) := by
  obtain ⟨b, off, n, rfl, hbl, hat, hmem, hN⟩ := hS.gr.nds.at_ hi
  obtain ⟨hn_k, hn_v, ⟨Ak, ck, hn_s, hIk, hnk⟩, hwk, hwv⟩ := hN
  have hkids := kidsOf_at hat
  have hkind := kindOf_at hat
  rw [hkind] at hkd
  have hcap : n.kids.length ≤ ck := (hS.gr.cap b off rfl).2 i n hat _ _ _ hn_s
  have h6 := hsv.few n hmem
  have heven := hsv.even n hmem
  have hkx : ∀ x ∈ n.kids, 0 ≤ x ∧ x < (ns.length : Int) ∧ (kindOf ns x = 2 → rk ns x < 13) := by
    intro x hx
    obtain ⟨h0, h1⟩ := hsv.inn n hmem x hx
    exact ⟨h0, h1, fun h2 => by have := rk_le ns x; omega⟩
  obtain ⟨bm, om, v, rfl, hbm, hv, hvm, hcv⟩ := hS.memo.at_ (k := i) (by rw [hS.ok.len]; exact hi)
  have hvv := hS.ok.vals v hvm
  have hgv : μ.getD i 0 = v := by rw [List.getD_eq_getElem?_getD, hv]; rfl
  rw [hgv] at hun
  have Hgv := hide hgv
  have hmlen := hS.ok.len
  have hi3m : (i : Int) < (μ.length : Int) := by omega
  have HOk := hide hOk
  have Hx := hide hkx
  have Hm := hide hm
  have Hkind := hide hkind
  have Hrk := hide hrk
  have Hmlen := hide hmlen
  have HwvV := hide hwv
  have Hnk := hide hnk
  have Heven := hide heven
  have hB : Below w.heap.size w ((w.alloc (.cells #[.slice (some ⟨b, off, none⟩) ns.length cn, .int .i64 root] 49)).alloc (.cells #[.int .i64 n.kind, .int .i64 n.value, .slice Ak n.kids.length ck] 73)) := ((Below.refl _ _).alloc (Nat.le_refl _) _).alloc (by simp) _
  have l1 := (Lies.new w #[.slice (some ⟨b, off, none⟩) ns.length cn, .int .i64 root] 49).alloc (.cells #[.int .i64 n.kind, .int .i64 n.value, .slice Ak n.kids.length ck] 73)
  have l2 := Lies.new (w.alloc (.cells #[.slice (some ⟨b, off, none⟩) ns.length cn, .int .i64 root] 49)) #[.int .i64 n.kind, .int .i64 n.value, .slice Ak n.kids.length ck] 73
  simp only [World.size_alloc] at l2
  have HS0 := hide (hS.later hB)
  have HB := hide hB
  have HK := hide (hIk.later hB (Nat.le_refl _))
  have hcm := (hB.cell (p := ⟨bm, om + i, none⟩) hbm).trans hcv
  have hi1 : (0 : Int) ≤ (i : Int) := by omega
  have hi2 : (i : Int) < (ns.length : Int) := by omega
  clear hOk hkx hm hrk hS hIk hnk hkids hmem hcv hv hvm hgv hmlen hkind hat hwv hwk hB heven
  have Hkd := hide hkd
  clear hkd
  go_enter Tryd.func36, Tryd.ntmps36
  go_upto_region 2 with fail
  clear hn_k hn_v hn_s
  generalize ((w.alloc (.cells #[.slice (some ⟨b, off, none⟩) ns.length cn, .int .i64 root] 49)).alloc (.cells #[.int .i64 n.kind, .int .i64 n.value, .slice Ak n.kids.length ck] 73)) = W at l1 l2 HS0 HB HK hcm ⊢
  have hW1 := l1.lt
  have hW2 := l2.lt
  have hkd := Hkd.out
  clear Hkd
  obtain ⟨kd, vd, kds⟩ := n
  simp only at hkd
  subst hkd
  have e0 := l1.cell 0
  have e1 := l1.cell 1
  have n0 := l2.cell 0
  have n1 := l2.cell 1
  have n2 := l2.cell 2
  simp only [jD, jE, jF] at e0 e1 n0 n1 n2
  simp only at e0 e1 n0 n1 n2 HwvV h6 hcap HK Hx Heven
  go_wp2_with fail
  refine (emit_one B os c 0 vd W HS0.out.ops HS0.out.nb (by constructor <;> omega) HwvV.out (by omega)).mono ?_
  rintro e w1 ⟨B1, c1, os1, rfl, hl1, ho1, hn1, hb1⟩
  have HF := hide ((HS0.out.emit hl1 ho1 hn1 hb1).gives (m := 1) (by omega))
  clear hl1 ho1 hn1 hb1 HS0 HK
  go_wp2
  go_ret2
  exact HF.out
set_option maxRecDepth 100000 in
set_option maxHeartbeats 4000000 in
theorem save_1 {ns : List Nd} (hsv : Sav ns) (h12 : ns.length ≤ 12) (A : Option Addr) (cn : Nat) (root lev : Int) (m : Nat) (hOk : SaveOk ns A cn root lev m)
    (i r : Nat) (B : Option Addr) (os : List Od) (c : Nat) (M : Option Addr) (μ : List Int) (d : Nat) (w : World)
    (hi : i < ns.length) (hr : r ≤ 13) (hrk : kindOf ns (i : Int) = 2 → rk ns (i : Int) < r) (hm : 14 * Lc ns μ + r < m + 1) (hl : os.length + 1950 + 2000 * m ≤ 1000000)
    (hS : SvS ns w w A os μ r 0 B c os M d μ) (hun : μ.getD i 0 < 0) (hkd : kindOf ns (i : Int) = 1) :
    Calls Tryd.prog 36 #[.agg #[.slice A ns.length cn, .int .i64 root], .int .i64 lev, .int .i64 (i : Int), .slice B os.length c, .slice M μ.length d] w (GivesSv ns w os μ r 1) := by
  obtain ⟨b, off, n, rfl, hbl, hat, hmem, hN⟩ := hS.gr.nds.at_ hi
  obtain ⟨hn_k, hn_v, ⟨Ak, ck, hn_s, hIk, hnk⟩, hwk, hwv⟩ := hN
  have hkids := kidsOf_at hat
  have hkind := kindOf_at hat
  rw [hkind] at hkd
  have hcap : n.kids.length ≤ ck := (hS.gr.cap b off rfl).2 i n hat _ _ _ hn_s
  have h6 := hsv.few n hmem
  have heven := hsv.even n hmem
  have hkx : ∀ x ∈ n.kids, 0 ≤ x ∧ x < (ns.length : Int) ∧ (kindOf ns x = 2 → rk ns x < 13) := by
    intro x hx
    obtain ⟨h0, h1⟩ := hsv.inn n hmem x hx
    exact ⟨h0, h1, fun h2 => by have := rk_le ns x; omega⟩
  obtain ⟨bm, om, v, rfl, hbm, hv, hvm, hcv⟩ := hS.memo.at_ (k := i) (by rw [hS.ok.len]; exact hi)
  have hvv := hS.ok.vals v hvm
  have hgv : μ.getD i 0 = v := by rw [List.getD_eq_getElem?_getD, hv]; rfl
  rw [hgv] at hun
  have Hgv := hide hgv
  have hmlen := hS.ok.len
  have hi3m : (i : Int) < (μ.length : Int) := by omega
  have HOk := hide hOk
  have Hx := hide hkx
  have Hm := hide hm
  have Hkind := hide hkind
  have Hrk := hide hrk
  have Hmlen := hide hmlen
  have HwvV := hide hwv
  have Hnk := hide hnk
  have Heven := hide heven
  have hB : Below w.heap.size w ((w.alloc (.cells #[.slice (some ⟨b, off, none⟩) ns.length cn, .int .i64 root] 49)).alloc (.cells #[.int .i64 n.kind, .int .i64 n.value, .slice Ak n.kids.length ck] 73)) := ((Below.refl _ _).alloc (Nat.le_refl _) _).alloc (by simp) _
  have l1 := (Lies.new w #[.slice (some ⟨b, off, none⟩) ns.length cn, .int .i64 root] 49).alloc (.cells #[.int .i64 n.kind, .int .i64 n.value, .slice Ak n.kids.length ck] 73)
  have l2 := Lies.new (w.alloc (.cells #[.slice (some ⟨b, off, none⟩) ns.length cn, .int .i64 root] 49)) #[.int .i64 n.kind, .int .i64 n.value, .slice Ak n.kids.length ck] 73
  simp only [World.size_alloc] at l2
  have HS0 := hide (hS.later hB)
  have HB := hide hB
  have HK := hide (hIk.later hB (Nat.le_refl _))
  have hcm := (hB.cell (p := ⟨bm, om + i, none⟩) hbm).trans hcv
  have hi1 : (0 : Int) ≤ (i : Int) := by omega
  have hi2 : (i : Int) < (ns.length : Int) := by omega
  clear hOk hkx hm hrk hS hIk hnk hkids hmem hcv hv hvm hgv hmlen hkind hat hwv hwk hB heven
  have Hkd := hide hkd
  clear hkd
  go_enter Tryd.func36, Tryd.ntmps36
  go_upto_region 2 with fail
  clear hn_k hn_v hn_s
  generalize ((w.alloc (.cells #[.slice (some ⟨b, off, none⟩) ns.length cn, .int .i64 root] 49)).alloc (.cells #[.int .i64 n.kind, .int .i64 n.value, .slice Ak n.kids.length ck] 73)) = W at l1 l2 HS0 HB HK hcm ⊢
  have hW1 := l1.lt
  have hW2 := l2.lt
  have hkd := Hkd.out
  clear Hkd
  obtain ⟨kd, vd, kds⟩ := n
  simp only at hkd
  subst hkd
  have e0 := l1.cell 0
  have e1 := l1.cell 1
  have n0 := l2.cell 0
  have n1 := l2.cell 1
  have n2 := l2.cell 2
  simp only [jD, jE, jF] at e0 e1 n0 n1 n2
  simp only at e0 e1 n0 n1 n2 HwvV h6 hcap HK Hx Heven
  go_wp2_with fail
  refine (emit_one B os c 1 vd W HS0.out.ops HS0.out.nb (by constructor <;> omega) HwvV.out (by omega)).mono ?_
  rintro e w1 ⟨B1, c1, os1, rfl, hl1, ho1, hn1, hb1⟩
  have HS1 := hide (HS0.out.emit hl1 ho1 hn1 hb1)
  have HK1 := hide (HK.out.later hb1 (Nat.le_refl _))
  have Hl1 := hide hl1.out
  have l1' := l1.below hb1 hW1
  have l2' := l2.below hb1 hW2
  have hW1' := l1'.lt
  have hW2' := l2'.lt
  clear e0 e1 n0 n1 n2 hl1 ho1 hn1 hb1 HS0 HK l1 l2 hcm
  have l1 := l1'
  have l2 := l2'
  clear l1' l2'
  have e0 := l1.cell 0
  have e1 := l1.cell 1
  have n0 := l2.cell 0
  have n1 := l2.cell 1
  have n2 := l2.cell 2
  simp only [jD, jE, jF] at e0 e1 n0 n1 n2
  go_wp2_with fail
  refine (memoed_me h12 B1 os1 c1 (some ⟨bm, om, none⟩) μ d i w1 HS1.out.ops HS1.out.nb HS1.out.memo HS1.out.nm (by have := Hl1.out; omega) (by omega) HS1.out.ok).mono ?_
  rintro e w2 ⟨os2, μ2, ⟨B2, c2, M2, d2, rfl, ho2, hn2, hi2, hm2, hb2⟩, hl2, hmo2, hf2, hok2⟩
  have HS2 := hide (show SvS ns w2 w2 (some ⟨b, off, none⟩) os2 μ2 13 0 B2 c2 os2 M2 d2 μ2 from ⟨Below.refl _ _, HS1.out.gr.later hb2, ho2, hn2, hi2, hm2, Nat.le_refl _, Mo.refl _, hok2⟩)
  have HF := hide (HS2.out.node (w := w) (os := os) (r := r) h12 (HS1.out.bel.trans (hb2.mono HS1.out.bel.size)) hmo2 hi (by rw [Hkind.out]; decide) hr (by rw [Hgv.out]; omega) hf2 (by have := hl2.out; have := Hl1.out; omega))
  clear hl2 ho2 hn2 hi2 hm2 hb2 hmo2 hf2 hok2 HS1 HS2 HK1
  go_wp2
  go_ret2
  exact HF.out
set_option maxRecDepth 100000 in
set_option maxHeartbeats 4000000 in
theorem save_2 {ns : List Nd} (hsv : Sav ns) (h12 : ns.length ≤ 12) (A : Option Addr) (cn : Nat) (root lev : Int) (m : Nat) (hOk : SaveOk ns A cn root lev m)
    (i r : Nat) (B : Option Addr) (os : List Od) (c : Nat) (M : Option Addr) (μ : List Int) (d : Nat) (w : World)
    (hi : i < ns.length) (hr : r ≤ 13) (hrk : kindOf ns (i : Int) = 2 → rk ns (i : Int) < r) (hm : 14 * Lc ns μ + r < m + 1) (hl : os.length + 1950 + 2000 * m ≤ 1000000)
    (hS : SvS ns w w A os μ r 0 B c os M d μ) (hun : μ.getD i 0 < 0) (hkd : kindOf ns (i : Int) = 2) :
    Calls Tryd.prog 36 #[.agg #[.slice A ns.length cn, .int .i64 root], .int .i64 lev, .int .i64 (i : Int), .slice B os.length c, .slice M μ.length d] w (GivesSv ns w os μ r 1) := by
  obtain ⟨b, off, n, rfl, hbl, hat, hmem, hN⟩ := hS.gr.nds.at_ hi
  obtain ⟨hn_k, hn_v, ⟨Ak, ck, hn_s, hIk, hnk⟩, hwk, hwv⟩ := hN
  have hkids := kidsOf_at hat
  have hkind := kindOf_at hat
  rw [hkind] at hkd
  have hcap : n.kids.length ≤ ck := (hS.gr.cap b off rfl).2 i n hat _ _ _ hn_s
  have h6 := hsv.few n hmem
  have heven := hsv.even n hmem
  have hkx : ∀ x ∈ n.kids, 0 ≤ x ∧ x < (ns.length : Int) ∧ (kindOf ns x = 2 → rk ns x < 13) := by
    intro x hx
    obtain ⟨h0, h1⟩ := hsv.inn n hmem x hx
    exact ⟨h0, h1, fun h2 => by have := rk_le ns x; omega⟩
  obtain ⟨bm, om, v, rfl, hbm, hv, hvm, hcv⟩ := hS.memo.at_ (k := i) (by rw [hS.ok.len]; exact hi)
  have hvv := hS.ok.vals v hvm
  have hgv : μ.getD i 0 = v := by rw [List.getD_eq_getElem?_getD, hv]; rfl
  rw [hgv] at hun
  have Hgv := hide hgv
  have hmlen := hS.ok.len
  have hi3m : (i : Int) < (μ.length : Int) := by omega
  have HOk := hide hOk
  have Hx := hide hkx
  have Hm := hide hm
  have Hkind := hide hkind
  have Hrk := hide hrk
  have Hmlen := hide hmlen
  have HwvV := hide hwv
  have Hnk := hide hnk
  have Heven := hide heven
  have hB : Below w.heap.size w ((w.alloc (.cells #[.slice (some ⟨b, off, none⟩) ns.length cn, .int .i64 root] 49)).alloc (.cells #[.int .i64 n.kind, .int .i64 n.value, .slice Ak n.kids.length ck] 73)) := ((Below.refl _ _).alloc (Nat.le_refl _) _).alloc (by simp) _
  have l1 := (Lies.new w #[.slice (some ⟨b, off, none⟩) ns.length cn, .int .i64 root] 49).alloc (.cells #[.int .i64 n.kind, .int .i64 n.value, .slice Ak n.kids.length ck] 73)
  have l2 := Lies.new (w.alloc (.cells #[.slice (some ⟨b, off, none⟩) ns.length cn, .int .i64 root] 49)) #[.int .i64 n.kind, .int .i64 n.value, .slice Ak n.kids.length ck] 73
  simp only [World.size_alloc] at l2
  have HS0 := hide (hS.later hB)
  have HB := hide hB
  have HK := hide (hIk.later hB (Nat.le_refl _))
  have hcm := (hB.cell (p := ⟨bm, om + i, none⟩) hbm).trans hcv
  have hi1 : (0 : Int) ≤ (i : Int) := by omega
  have hi2 : (i : Int) < (ns.length : Int) := by omega
  clear hOk hkx hm hrk hS hIk hnk hkids hmem hcv hv hvm hgv hmlen hkind hat hwv hwk hB heven
  have Hkd := hide hkd
  clear hkd
  go_enter Tryd.func36, Tryd.ntmps36
  go_upto_region 2 with fail
  clear hn_k hn_v hn_s
  generalize ((w.alloc (.cells #[.slice (some ⟨b, off, none⟩) ns.length cn, .int .i64 root] 49)).alloc (.cells #[.int .i64 n.kind, .int .i64 n.value, .slice Ak n.kids.length ck] 73)) = W at l1 l2 HS0 HB HK hcm ⊢
  have hW1 := l1.lt
  have hW2 := l2.lt
  have hkd := Hkd.out
  clear Hkd
  obtain ⟨kd, vd, kds⟩ := n
  simp only at hkd
  subst hkd
  have e0 := l1.cell 0
  have e1 := l1.cell 1
  have n0 := l2.cell 0
  have n1 := l2.cell 1
  have n2 := l2.cell 2
  simp only [jD, jE, jF] at e0 e1 n0 n1 n2
  simp only at e0 e1 n0 n1 n2 HwvV h6 hcap HK Hx Heven
  have hS := HS0.out.anew r
  go_wp2_with fail
  refine (saveTuple_any hsv h12 (some ⟨b, off, none⟩) cn root lev m HOk.out i r B os c (some ⟨bm, om, none⟩) μ d W hi (by rw [Hkind.out]) (Hrk.out (by rw [Hkind.out])) hr (by rw [Hgv.out]; omega) (by have := Hm.out; have := Hrk.out (by rw [Hkind.out]); omega) (by omega) hS).mono ?_
  rintro e w2 ⟨os2, μ2, ⟨B2, c2, M2, d2, rfl, ho2, hn2, hi2, hm2, hb2⟩, hs2, hmo2, hok2⟩
  have HF := hide (show GivesSv ns w os μ r 1 (.returned (.tuple #[.slice B2 os2.length c2, .slice M2 μ2.length d2])) w2 from ⟨os2, μ2, ⟨B2, c2, M2, d2, rfl, ho2, hn2, hi2, hm2, HB.out.trans (hb2.mono HB.out.size)⟩, hs2, hmo2, hok2⟩)
  clear hs2 ho2 hn2 hi2 hm2 hb2 hmo2 hok2 HS0 hS HK
  go_wp2
  go_ret2
  exact HF.out
set_option maxRecDepth 100000 in
set_option maxHeartbeats 4000000 in
theorem save_3 {ns : List Nd} (hsv : Sav ns) (h12 : ns.length ≤ 12) (A : Option Addr) (cn : Nat) (root lev : Int) (m : Nat) (hOk : SaveOk ns A cn root lev m)
    (i r : Nat) (B : Option Addr) (os : List Od) (c : Nat) (M : Option Addr) (μ : List Int) (d : Nat) (w : World)
    (hi : i < ns.length) (hr : r ≤ 13) (hrk : kindOf ns (i : Int) = 2 → rk ns (i : Int) < r) (hm : 14 * Lc ns μ + r < m + 1) (hl : os.length + 1950 + 2000 * m ≤ 1000000)
    (hS : SvS ns w w A os μ r 0 B c os M d μ) (hun : μ.getD i 0 < 0) (hkd : kindOf ns (i : Int) = 3) :
    Calls Tryd.prog 36 #[.agg #[.slice A ns.length cn, .int .i64 root], .int .i64 lev, .int .i64 (i : Int), .slice B os.length c, .slice M μ.length d] w (GivesSv ns w os μ r 1) := by
  obtain ⟨b, off, n, rfl, hbl, hat, hmem, hN⟩ := hS.gr.nds.at_ hi
  obtain ⟨hn_k, hn_v, ⟨Ak, ck, hn_s, hIk, hnk⟩, hwk, hwv⟩ := hN
  have hkids := kidsOf_at hat
  have hkind := kindOf_at hat
  rw [hkind] at hkd
  have hcap : n.kids.length ≤ ck := (hS.gr.cap b off rfl).2 i n hat _ _ _ hn_s
  have h6 := hsv.few n hmem
  have heven := hsv.even n hmem
  have hkx : ∀ x ∈ n.kids, 0 ≤ x ∧ x < (ns.length : Int) ∧ (kindOf ns x = 2 → rk ns x < 13) := by
    intro x hx
    obtain ⟨h0, h1⟩ := hsv.inn n hmem x hx
    exact ⟨h0, h1, fun h2 => by have := rk_le ns x; omega⟩
  obtain ⟨bm, om, v, rfl, hbm, hv, hvm, hcv⟩ := hS.memo.at_ (k := i) (by rw [hS.ok.len]; exact hi)
  have hvv := hS.ok.vals v hvm
  have hgv : μ.getD i 0 = v := by rw [List.getD_eq_getElem?_getD, hv]; rfl
  rw [hgv] at hun
  have Hgv := hide hgv
  have hmlen := hS.ok.len
  have hi3m : (i : Int) < (μ.length : Int) := by omega
  have HOk := hide hOk
  have Hx := hide hkx
  have Hm := hide hm
  have Hkind := hide hkind
  have Hrk := hide hrk
  have Hmlen := hide hmlen
  have HwvV := hide hwv
  have Hnk := hide hnk
  have Heven := hide heven
  have hB : Below w.heap.size w ((w.alloc (.cells #[.slice (some ⟨b, off, none⟩) ns.length cn, .int .i64 root] 49)).alloc (.cells #[.int .i64 n.kind, .int .i64 n.value, .slice Ak n.kids.length ck] 73)) := ((Below.refl _ _).alloc (Nat.le_refl _) _).alloc (by simp) _
  have l1 := (Lies.new w #[.slice (some ⟨b, off, none⟩) ns.length cn, .int .i64 root] 49).alloc (.cells #[.int .i64 n.kind, .int .i64 n.value, .slice Ak n.kids.length ck] 73)
  have l2 := Lies.new (w.alloc (.cells #[.slice (some ⟨b, off, none⟩) ns.length cn, .int .i64 root] 49)) #[.int .i64 n.kind, .int .i64 n.value, .slice Ak n.kids.length ck] 73
  simp only [World.size_alloc] at l2
  have HS0 := hide (hS.later hB)
  have HB := hide hB
  have HK := hide (hIk.later hB (Nat.le_refl _))
  have hcm := (hB.cell (p := ⟨bm, om + i, none⟩) hbm).trans hcv
  have hi1 : (0 : Int) ≤ (i : Int) := by omega
  have hi2 : (i : Int) < (ns.length : Int) := by omega
  clear hOk hkx hm hrk hS hIk hnk hkids hmem hcv hv hvm hgv hmlen hkind hat hwv hwk hB heven
  have Hkd := hide hkd
  clear hkd
  go_enter Tryd.func36, Tryd.ntmps36
  go_upto_region 2 with fail
  clear hn_k hn_v hn_s
  generalize ((w.alloc (.cells #[.slice (some ⟨b, off, none⟩) ns.length cn, .int .i64 root] 49)).alloc (.cells #[.int .i64 n.kind, .int .i64 n.value, .slice Ak n.kids.length ck] 73)) = W at l1 l2 HS0 HB HK hcm ⊢
  have hW1 := l1.lt
  have hW2 := l2.lt
  have hkd := Hkd.out
  clear Hkd
  obtain ⟨kd, vd, kds⟩ := n
  simp only at hkd
  subst hkd
  have e0 := l1.cell 0
  have e1 := l1.cell 1
  have n0 := l2.cell 0
  have n1 := l2.cell 1
  have n2 := l2.cell 2
  simp only [jD, jE, jF] at e0 e1 n0 n1 n2
  simp only at e0 e1 n0 n1 n2 HwvV h6 hcap HK Hx Heven
  go_wp2_with fail
  refine (emit_one B os c 7 0 W HS0.out.ops HS0.out.nb (by constructor <;> omega) (by constructor <;> omega) (by omega)).mono ?_
  rintro e w1 ⟨B1, c1, os1, rfl, hl1, ho1, hn1, hb1⟩
  have HS1 := hide (HS0.out.emit hl1 ho1 hn1 hb1)
  have HK1 := hide (HK.out.later hb1 (Nat.le_refl _))
  have Hl1 := hide hl1.out
  have l1' := l1.below hb1 hW1
  have l2' := l2.below hb1 hW2
  have hW1' := l1'.lt
  have hW2' := l2'.lt
  clear e0 e1 n0 n1 n2 hl1 ho1 hn1 hb1 HS0 HK l1 l2 hcm
  have l1 := l1'
  have l2 := l2'
  clear l1' l2'
  have e0 := l1.cell 0
  have e1 := l1.cell 1
  have n0 := l2.cell 0
  have n1 := l2.cell 1
  have n2 := l2.cell 2
  simp only [jD, jE, jF] at e0 e1 n0 n1 n2
  go_wp2_with fail
  refine (memoed_me h12 B1 os1 c1 (some ⟨bm, om, none⟩) μ d i w1 HS1.out.ops HS1.out.nb HS1.out.memo HS1.out.nm (by have := Hl1.out; omega) (by omega) HS1.out.ok).mono ?_
  rintro e w2 ⟨os2, μ2, ⟨B2, c2, M2, d2, rfl, ho2, hn2, hi2, hm2, hb2⟩, hl2, hmo2, hf2, hok2⟩
  have HS2 := hide (show SvS ns w2 w2 (some ⟨b, off, none⟩) os2 μ2 13 0 B2 c2 os2 M2 d2 μ2 from ⟨Below.refl _ _, HS1.out.gr.later hb2, ho2, hn2, hi2, hm2, Nat.le_refl _, Mo.refl _, hok2⟩)
  have HW2 := hide (HS1.out.bel.trans (hb2.mono HS1.out.bel.size))
  have HK2 := hide (HK1.out.later hb2 (Nat.le_refl _))
  have Hl2 := hide hl2.out
  have Hmo2 := hide hmo2
  have Hf2 := hide hf2
  have Hlc := hide (Lc_less hmo2 hi (by rw [Hgv.out]; omega) hf2 (by rw [Hkind.out]; decide))
  have l1' := l1.below hb2 hW1'
  have l2' := l2.below hb2 hW2'
  have hW2'' := l2'.lt
  clear e0 e1 n0 n1 n2 hl2 ho2 hn2 hi2 hm2 hb2 hmo2 hf2 hok2 HS1 HK1 l1 l2
  have l1 := l1'
  have l2 := l2'
  clear l1' l2'
  have e0 := l1.cell 0
  have e1 := l1.cell 1
  have n0 := l2.cell 0
  have n1 := l2.cell 1
  have n2 := l2.cell 2
  simp only [jD, jE, jF] at e0 e1 n0 n1 n2
  go_wp2_with fail
  refine (fill_any h12 (some ⟨b, off, none⟩) cn root lev m HOk.out Ak kds ck 1 13 8 9 B2 os2 c2 M2 μ2 d2 w2 HK2.out hcap h6 (by omega) (by rw [Nat.mod_one]) (by constructor <;> omega) (by constructor <;> omega) (Nat.le_refl _) Hx.out (by have := Hlc.out; have := Hm.out; omega) (by have := Hl2.out; have := Hl1.out; omega) HS2.out).mono ?_
  rintro e w3 ⟨os3, μ3, ⟨B3, c3, M3, d3, rfl, ho3, hn3, hi3, hm3, hb3⟩, hs3, hmo3, hok3⟩
  have HS3 := hide (HS2.out.call ho3 hn3 hi3 hm3 hb3 hs3 hmo3 hok3)
  have HF := hide (HS3.out.node (w := w) (os := os) (r := r) h12 HW2.out Hmo2.out hi (by rw [Hkind.out]; decide) hr (by rw [Hgv.out]; omega) Hf2.out (by have := Hl2.out; have := Hl1.out; omega))
  clear ho3 hn3 hi3 hm3 hb3 hs3 hmo3 hok3 HS2 HS3 HK2
  go_wp2
  go_ret2
  exact HF.out
set_option maxRecDepth 100000 in
set_option maxHeartbeats 4000000 in
theorem save_4 {ns : List Nd} (hsv : Sav ns) (h12 : ns.length ≤ 12) (A : Option Addr) (cn : Nat) (root lev : Int) (m : Nat) (hOk : SaveOk ns A cn root lev m)
    (i r : Nat) (B : Option Addr) (os : List Od) (c : Nat) (M : Option Addr) (μ : List Int) (d : Nat) (w : World)
    (hi : i < ns.length) (hr : r ≤ 13) (hrk : kindOf ns (i : Int) = 2 → rk ns (i : Int) < r) (hm : 14 * Lc ns μ + r < m + 1) (hl : os.length + 1950 + 2000 * m ≤ 1000000)
    (hS : SvS ns w w A os μ r 0 B c os M d μ) (hun : μ.getD i 0 < 0) (hkd : kindOf ns (i : Int) = 4) :
    Calls Tryd.prog 36 #[.agg #[.slice A ns.length cn, .int .i64 root], .int .i64 lev, .int .i64 (i : Int), .slice B os.length c, .slice M μ.length d] w (GivesSv ns w os μ r 1) := by
  obtain ⟨b, off, n, rfl, hbl, hat, hmem, hN⟩ := hS.gr.nds.at_ hi
  obtain ⟨hn_k, hn_v, ⟨Ak, ck, hn_s, hIk, hnk⟩, hwk, hwv⟩ := hN
  have hkids := kidsOf_at hat
  have hkind := kindOf_at hat
  rw [hkind] at hkd
  have hcap : n.kids.length ≤ ck := (hS.gr.cap b off rfl).2 i n hat _ _ _ hn_s
  have h6 := hsv.few n hmem
  have heven := hsv.even n hmem
  have hkx : ∀ x ∈ n.kids, 0 ≤ x ∧ x < (ns.length : Int) ∧ (kindOf ns x = 2 → rk ns x < 13) := by
    intro x hx
    obtain ⟨h0, h1⟩ := hsv.inn n hmem x hx
    exact ⟨h0, h1, fun h2 => by have := rk_le ns x; omega⟩
  obtain ⟨bm, om, v, rfl, hbm, hv, hvm, hcv⟩ := hS.memo.at_ (k := i) (by rw [hS.ok.len]; exact hi)
  have hvv := hS.ok.vals v hvm
  have hgv : μ.getD i 0 = v := by rw [List.getD_eq_getElem?_getD, hv]; rfl
  rw [hgv] at hun
  have Hgv := hide hgv
  have hmlen := hS.ok.len
  have hi3m : (i : Int) < (μ.length : Int) := by omega
  have HOk := hide hOk
  have Hx := hide hkx
  have Hm := hide hm
  have Hkind := hide hkind
  have Hrk := hide hrk
  have Hmlen := hide hmlen
  have HwvV := hide hwv
  have Hnk := hide hnk
  have Heven := hide heven
  have hB : Below w.heap.size w ((w.alloc (.cells #[.slice (some ⟨b, off, none⟩) ns.length cn, .int .i64 root] 49)).alloc (.cells #[.int .i64 n.kind, .int .i64 n.value, .slice Ak n.kids.length ck] 73)) := ((Below.refl _ _).alloc (Nat.le_refl _) _).alloc (by simp) _
  have l1 := (Lies.new w #[.slice (some ⟨b, off, none⟩) ns.length cn, .int .i64 root] 49).alloc (.cells #[.int .i64 n.kind, .int .i64 n.value, .slice Ak n.kids.length ck] 73)
  have l2 := Lies.new (w.alloc (.cells #[.slice (some ⟨b, off, none⟩) ns.length cn, .int .i64 root] 49)) #[.int .i64 n.kind, .int .i64 n.value, .slice Ak n.kids.length ck] 73
  simp only [World.size_alloc] at l2
  have HS0 := hide (hS.later hB)
  have HB := hide hB
  have HK := hide (hIk.later hB (Nat.le_refl _))
  have hcm := (hB.cell (p := ⟨bm, om + i, none⟩) hbm).trans hcv
  have hi1 : (0 : Int) ≤ (i : Int) := by omega
  have hi2 : (i : Int) < (ns.length : Int) := by omega
  clear hOk hkx hm hrk hS hIk hnk hkids hmem hcv hv hvm hgv hmlen hkind hat hwv hwk hB heven
  have Hkd := hide hkd
  clear hkd
  go_enter Tryd.func36, Tryd.ntmps36
  go_upto_region 2 with fail
  clear hn_k hn_v hn_s
  generalize ((w.alloc (.cells #[.slice (some ⟨b, off, none⟩) ns.length cn, .int .i64 root] 49)).alloc (.cells #[.int .i64 n.kind, .int .i64 n.value, .slice Ak n.kids.length ck] 73)) = W at l1 l2 HS0 HB HK hcm ⊢
  have hW1 := l1.lt
  have hW2 := l2.lt
  have hkd := Hkd.out
  clear Hkd
  obtain ⟨kd, vd, kds⟩ := n
  simp only at hkd
  subst hkd
  have e0 := l1.cell 0
  have e1 := l1.cell 1
  have n0 := l2.cell 0
  have n1 := l2.cell 1
  have n2 := l2.cell 2
  simp only [jD, jE, jF] at e0 e1 n0 n1 n2
  simp only at e0 e1 n0 n1 n2 HwvV h6 hcap HK Hx Heven
  go_wp2_with fail
  refine (emit_one B os c 10 0 W HS0.out.ops HS0.out.nb (by constructor <;> omega) (by constructor <;> omega) (by omega)).mono ?_
  rintro e w1 ⟨B1, c1, os1, rfl, hl1, ho1, hn1, hb1⟩
  have HS1 := hide (HS0.out.emit hl1 ho1 hn1 hb1)
  have HK1 := hide (HK.out.later hb1 (Nat.le_refl _))
  have Hl1 := hide hl1.out
  have l1' := l1.below hb1 hW1
  have l2' := l2.below hb1 hW2
  have hW1' := l1'.lt
  have hW2' := l2'.lt
  clear e0 e1 n0 n1 n2 hl1 ho1 hn1 hb1 HS0 HK l1 l2 hcm
  have l1 := l1'
  have l2 := l2'
  clear l1' l2'
  have e0 := l1.cell 0
  have e1 := l1.cell 1
  have n0 := l2.cell 0
  have n1 := l2.cell 1
  have n2 := l2.cell 2
  simp only [jD, jE, jF] at e0 e1 n0 n1 n2
  go_wp2_with fail
  refine (memoed_me h12 B1 os1 c1 (some ⟨bm, om, none⟩) μ d i w1 HS1.out.ops HS1.out.nb HS1.out.memo HS1.out.nm (by have := Hl1.out; omega) (by omega) HS1.out.ok).mono ?_
  rintro e w2 ⟨os2, μ2, ⟨B2, c2, M2, d2, rfl, ho2, hn2, hi2, hm2, hb2⟩, hl2, hmo2, hf2, hok2⟩
  have HS2 := hide (show SvS ns w2 w2 (some ⟨b, off, none⟩) os2 μ2 13 0 B2 c2 os2 M2 d2 μ2 from ⟨Below.refl _ _, HS1.out.gr.later hb2, ho2, hn2, hi2, hm2, Nat.le_refl _, Mo.refl _, hok2⟩)
  have HW2 := hide (HS1.out.bel.trans (hb2.mono HS1.out.bel.size))
  have HK2 := hide (HK1.out.later hb2 (Nat.le_refl _))
  have Hl2 := hide hl2.out
  have Hmo2 := hide hmo2
  have Hf2 := hide hf2
  have Hlc := hide (Lc_less hmo2 hi (by rw [Hgv.out]; omega) hf2 (by rw [Hkind.out]; decide))
  have l1' := l1.below hb2 hW1'
  have l2' := l2.below hb2 hW2'
  have hW2'' := l2'.lt
  clear e0 e1 n0 n1 n2 hl2 ho2 hn2 hi2 hm2 hb2 hmo2 hf2 hok2 HS1 HK1 l1 l2
  have l1 := l1'
  have l2 := l2'
  clear l1' l2'
  have e0 := l1.cell 0
  have e1 := l1.cell 1
  have n0 := l2.cell 0
  have n1 := l2.cell 1
  have n2 := l2.cell 2
  simp only [jD, jE, jF] at e0 e1 n0 n1 n2
  go_wp2_with fail
  refine (fill_any h12 (some ⟨b, off, none⟩) cn root lev m HOk.out Ak kds ck 2 13 11 12 B2 os2 c2 M2 μ2 d2 w2 HK2.out hcap h6 (by omega) (Heven.out (by first | trivial | rfl)) (by constructor <;> omega) (by constructor <;> omega) (Nat.le_refl _) Hx.out (by have := Hlc.out; have := Hm.out; omega) (by have := Hl2.out; have := Hl1.out; omega) HS2.out).mono ?_
  rintro e w3 ⟨os3, μ3, ⟨B3, c3, M3, d3, rfl, ho3, hn3, hi3, hm3, hb3⟩, hs3, hmo3, hok3⟩
  have HS3 := hide (HS2.out.call ho3 hn3 hi3 hm3 hb3 hs3 hmo3 hok3)
  have HF := hide (HS3.out.node (w := w) (os := os) (r := r) h12 HW2.out Hmo2.out hi (by rw [Hkind.out]; decide) hr (by rw [Hgv.out]; omega) Hf2.out (by have := Hl2.out; have := Hl1.out; omega))
  clear ho3 hn3 hi3 hm3 hb3 hs3 hmo3 hok3 HS2 HS3 HK2
  go_wp2
  go_ret2
  exact HF.out
set_option maxRecDepth 100000 in
set_option maxHeartbeats 4000000 in
theorem save_5 {ns : List Nd} (hsv : Sav ns) (h12 : ns.length ≤ 12) (A : Option Addr) (cn : Nat) (root lev : Int) (m : Nat) (hOk : SaveOk ns A cn root lev m)
    (i r : Nat) (B : Option Addr) (os : List Od) (c : Nat) (M : Option Addr) (μ : List Int) (d : Nat) (w : World)
    (hi : i < ns.length) (hr : r ≤ 13) (hrk : kindOf ns (i : Int) = 2 → rk ns (i : Int) < r) (hm : 14 * Lc ns μ + r < m + 1) (hl : os.length + 1950 + 2000 * m ≤ 1000000)
    (hS : SvS ns w w A os μ r 0 B c os M d μ) (hun : μ.getD i 0 < 0) (hkd : kindOf ns (i : Int) ≠ 0 ∧ kindOf ns (i : Int) ≠ 1 ∧ kindOf ns (i : Int) ≠ 2 ∧ kindOf ns (i : Int) ≠ 3 ∧ kindOf ns (i : Int) ≠ 4) :
    Calls Tryd.prog 36 #[.agg #[.slice A ns.length cn, .int .i64 root], .int .i64 lev, .int .i64 (i : Int), .slice B os.length c, .slice M μ.length d] w (GivesSv ns w os μ r 1) := by
  obtain ⟨b, off, n, rfl, hbl, hat, hmem, hN⟩ := hS.gr.nds.at_ hi
  obtain ⟨hn_k, hn_v, ⟨Ak, ck, hn_s, hIk, hnk⟩, hwk, hwv⟩ := hN
  have hkids := kidsOf_at hat
  have hkind := kindOf_at hat
  rw [hkind] at hkd
  have hcap : n.kids.length ≤ ck := (hS.gr.cap b off rfl).2 i n hat _ _ _ hn_s
  have h6 := hsv.few n hmem
  have heven := hsv.even n hmem
  have hkx : ∀ x ∈ n.kids, 0 ≤ x ∧ x < (ns.length : Int) ∧ (kindOf ns x = 2 → rk ns x < 13) := by
    intro x hx
    obtain ⟨h0, h1⟩ := hsv.inn n hmem x hx
    exact ⟨h0, h1, fun h2 => by have := rk_le ns x; omega⟩
  obtain ⟨bm, om, v, rfl, hbm, hv, hvm, hcv⟩ := hS.memo.at_ (k := i) (by rw [hS.ok.len]; exact hi)
  have hvv := hS.ok.vals v hvm
  have hgv : μ.getD i 0 = v := by rw [List.getD_eq_getElem?_getD, hv]; rfl
  rw [hgv] at hun
  have Hgv := hide hgv
  have hmlen := hS.ok.len
  have hi3m : (i : Int) < (μ.length : Int) := by omega
  have HOk := hide hOk
  have Hx := hide hkx
  have Hm := hide hm
  have Hkind := hide hkind
  have Hrk := hide hrk
  have Hmlen := hide hmlen
  have HwvV := hide hwv
  have Hnk := hide hnk
  have Heven := hide heven
  have hB : Below w.heap.size w ((w.alloc (.cells #[.slice (some ⟨b, off, none⟩) ns.length cn, .int .i64 root] 49)).alloc (.cells #[.int .i64 n.kind, .int .i64 n.value, .slice Ak n.kids.length ck] 73)) := ((Below.refl _ _).alloc (Nat.le_refl _) _).alloc (by simp) _
  have l1 := (Lies.new w #[.slice (some ⟨b, off, none⟩) ns.length cn, .int .i64 root] 49).alloc (.cells #[.int .i64 n.kind, .int .i64 n.value, .slice Ak n.kids.length ck] 73)
  have l2 := Lies.new (w.alloc (.cells #[.slice (some ⟨b, off, none⟩) ns.length cn, .int .i64 root] 49)) #[.int .i64 n.kind, .int .i64 n.value, .slice Ak n.kids.length ck] 73
  simp only [World.size_alloc] at l2
  have HS0 := hide (hS.later hB)
  have HB := hide hB
  have HK := hide (hIk.later hB (Nat.le_refl _))
  have hcm := (hB.cell (p := ⟨bm, om + i, none⟩) hbm).trans hcv
  have hi1 : (0 : Int) ≤ (i : Int) := by omega
  have hi2 : (i : Int) < (ns.length : Int) := by omega
  clear hOk hkx hm hrk hS hIk hnk hkids hmem hcv hv hvm hgv hmlen hkind hat hwv hwk hB heven
  have Hkd := hide hkd
  clear hkd
  go_enter Tryd.func36, Tryd.ntmps36
  go_upto_region 2 with fail
  clear hn_k hn_v hn_s
  generalize ((w.alloc (.cells #[.slice (some ⟨b, off, none⟩) ns.length cn, .int .i64 root] 49)).alloc (.cells #[.int .i64 n.kind, .int .i64 n.value, .slice Ak n.kids.length ck] 73)) = W at l1 l2 HS0 HB HK hcm ⊢
  have hW1 := l1.lt
  have hW2 := l2.lt
  have hkd := Hkd.out
  clear Hkd
  have t0 : (n.kind == 0) = false := by simp; omega
  have t0' : ¬ n.kind = 0 := by omega
  have t1 : (n.kind == 1) = false := by simp; omega
  have t1' : ¬ n.kind = 1 := by omega
  have t2 : (n.kind == 2) = false := by simp; omega
  have t2' : ¬ n.kind = 2 := by omega
  have t3 : (n.kind == 3) = false := by simp; omega
  have t3' : ¬ n.kind = 3 := by omega
  have t4 : (n.kind == 4) = false := by simp; omega
  have t4' : ¬ n.kind = 4 := by omega
  have e0 := l1.cell 0
  have e1 := l1.cell 1
  have n0 := l2.cell 0
  have n1 := l2.cell 1
  have n2 := l2.cell 2
  simp only [jD, jE, jF] at e0 e1 n0 n1 n2
  go_wp2_with fail
  refine (emit_one B os c 13 n.value W HS0.out.ops HS0.out.nb (by constructor <;> omega) HwvV.out (by omega)).mono ?_
  rintro e w1 ⟨B1, c1, os1, rfl, hl1, ho1, hn1, hb1⟩
  have HS1 := hide (HS0.out.emit hl1 ho1 hn1 hb1)
  have HK1 := hide (HK.out.later hb1 (Nat.le_refl _))
  have Hl1 := hide hl1.out
  have l1' := l1.below hb1 hW1
  have l2' := l2.below hb1 hW2
  have hW1' := l1'.lt
  have hW2' := l2'.lt
  clear e0 e1 n0 n1 n2 hl1 ho1 hn1 hb1 HS0 HK l1 l2 hcm
  have l1 := l1'
  have l2 := l2'
  clear l1' l2'
  have e0 := l1.cell 0
  have e1 := l1.cell 1
  have n0 := l2.cell 0
  have n1 := l2.cell 1
  have n2 := l2.cell 2
  simp only [jD, jE, jF] at e0 e1 n0 n1 n2
  go_wp2_with fail
  refine (memoed_me h12 B1 os1 c1 (some ⟨bm, om, none⟩) μ d i w1 HS1.out.ops HS1.out.nb HS1.out.memo HS1.out.nm (by have := Hl1.out; omega) (by omega) HS1.out.ok).mono ?_
  rintro e w2 ⟨os2, μ2, ⟨B2, c2, M2, d2, rfl, ho2, hn2, hi2, hm2, hb2⟩, hl2, hmo2, hf2, hok2⟩
  have HS2 := hide (show SvS ns w2 w2 (some ⟨b, off, none⟩) os2 μ2 13 0 B2 c2 os2 M2 d2 μ2 from ⟨Below.refl _ _, HS1.out.gr.later hb2, ho2, hn2, hi2, hm2, Nat.le_refl _, Mo.refl _, hok2⟩)
  have HW2 := hide (HS1.out.bel.trans (hb2.mono HS1.out.bel.size))
  have HK2 := hide (HK1.out.later hb2 (Nat.le_refl _))
  have Hl2 := hide hl2.out
  have Hmo2 := hide hmo2
  have Hf2 := hide hf2
  have Hlc := hide (Lc_less hmo2 hi (by rw [Hgv.out]; omega) hf2 (by rw [Hkind.out]; omega))
  have l1' := l1.below hb2 hW1'
  have l2' := l2.below hb2 hW2'
  have hW2'' := l2'.lt
  clear e0 e1 n0 n1 n2 hl2 ho2 hn2 hi2 hm2 hb2 hmo2 hf2 hok2 HS1 HK1 l1 l2
  have l1 := l1'
  have l2 := l2'
  clear l1' l2'
  have e0 := l1.cell 0
  have e1 := l1.cell 1
  have n0 := l2.cell 0
  have n1 := l2.cell 1
  have n2 := l2.cell 2
  simp only [jD, jE, jF] at e0 e1 n0 n1 n2
  go_wp2_with fail
  refine (saveAll_any h12 (some ⟨b, off, none⟩) cn root lev m HOk.out Ak n.kids ck 13 B2 os2 c2 M2 μ2 d2 w2 HK2.out (Nat.le_refl _) Hx.out (by have := Hlc.out; have := Hm.out; omega) (by have := Hl2.out; have := Hl1.out; have := Phi_le h12 μ2 13; omega) HS2.out).mono ?_
  rintro e w3 ⟨os3, μ3, ⟨B3, c3, M3, d3, rfl, ho3, hn3, hi3, hm3, hb3⟩, hs3, hmo3, hok3⟩
  have HS3 := hide (HS2.out.call ho3 hn3 hi3 hm3 hb3 hs3 hmo3 hok3)
  have hl3 : Hid (os3.length ≤ 6000000) := by
    have h3 := HS3.out.sum
    have := Phi_le h12 μ2 13
    have := Hl2.out
    have := Hl1.out
    show _ ≤ _
    omega
  have l2' := l2.below hb3 hW2''
  clear ho3 hn3 hi3 hm3 hb3 hs3 hmo3 hok3 HS2 HK2 e0 e1 n0 n1 n2 l2
  have l2 := l2'
  clear l2'
  have n2 := l2.cell 2
  simp only [jD, jE, jF] at n2
  by_cases hz : 0 < n.kids.length
  · have hz' : (0 : Int) < (n.kids.length : Int) := by omega
    go_wp2_with fail
    refine (emit_one B3 os3 c3 14 0 w3 HS3.out.ops HS3.out.nb (by constructor <;> omega) (by constructor <;> omega) (by have := hl3.out; omega)).mono ?_
    rintro e w4 ⟨B4, c4, os4, rfl, hl4, ho4, hn4, hb4⟩
    have HS4 := hide (HS3.out.emit hl4 ho4 hn4 hb4)
    have HF := hide (HS4.out.node (w := w) (os := os) (r := r) h12 HW2.out Hmo2.out hi (by rw [Hkind.out]; omega) hr (by rw [Hgv.out]; omega) Hf2.out (by have := Hl2.out; have := Hl1.out; omega))
    clear hl4 ho4 hn4 hb4 HS3 HS4
    go_wp2
    go_ret2
    exact HF.out
  · have hz' : ¬ (0 : Int) < (n.kids.length : Int) := by omega
    have HF := hide (HS3.out.node (w := w) (os := os) (r := r) h12 HW2.out Hmo2.out hi (by rw [Hkind.out]; omega) hr (by rw [Hgv.out]; omega) Hf2.out (by have := Hl2.out; have := Hl1.out; omega))
    clear HS3
    go_wp2
    go_ret2
    exact HF.out
theorem save_ok {ns : List Nd} (hsv : Sav ns) (h12 : ns.length ≤ 12) (A : Option Addr) (cn : Nat) (root lev : Int) : ∀ m, SaveOk ns A cn root lev m := by
  intro m
  induction m with
  | zero => intro i r B os c M μ d w _ _ _ h; omega
  | succ m ih =>
    intro i r B os c M μ d w hi hr hrk hm hl hS
    by_cases hun : μ.getD i 0 < 0
    · by_cases h0 : kindOf ns (i : Int) = 0
      · exact save_0 hsv h12 A cn root lev m ih i r B os c M μ d w hi hr hrk hm (by omega) hS hun h0
      · by_cases h1 : kindOf ns (i : Int) = 1
        · exact save_1 hsv h12 A cn root lev m ih i r B os c M μ d w hi hr hrk hm (by omega) hS hun h1
        · by_cases h2 : kindOf ns (i : Int) = 2
          · exact save_2 hsv h12 A cn root lev m ih i r B os c M μ d w hi hr hrk hm (by omega) hS hun h2
          · by_cases h3 : kindOf ns (i : Int) = 3
            · exact save_3 hsv h12 A cn root lev m ih i r B os c M μ d w hi hr hrk hm (by omega) hS hun h3
            · by_cases h4 : kindOf ns (i : Int) = 4
              · exact save_4 hsv h12 A cn root lev m ih i r B os c M μ d w hi hr hrk hm (by omega) hS hun h4
              · exact save_5 hsv h12 A cn root lev m ih i r B os c M μ d w hi hr hrk hm (by omega) hS hun ⟨h0, h1, h2, h3, h4⟩
    · exact save_g hsv h12 A cn root lev m ih i r B os c M μ d w hi hr hrk hm (by omega) hS (by omega) trivial
end Go.Proofs.YtbihgafkmmcjlaaDoor
