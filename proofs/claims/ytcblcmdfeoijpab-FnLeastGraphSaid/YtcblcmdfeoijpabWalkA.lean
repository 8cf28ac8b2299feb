/-
  The program's walkFrom: it returns what the walk meets.
-/
import Derived.Test.YtcblcmdfeoijpabSetI
import Derived.Test.YtcblcmdfeoijpabPjAd
import Derived.Test.YtcblcmdfeoijpabPjAf
import Derived.Laws.EntriesVeiled
namespace Go.Proofs.Ytcblcmdfeoijpab.WalkA
open Go.RowKit Go.Maps Go.Proofs.Ytcblcmdfeoijpab
set_option linter.unusedVariables false

/-- the function F tells whether a node may be entered -/
def Enters (ns : List Nd) (ent : Int → Bool) : Prop :=
  ∀ (k : Nat) (n : Nd) (A : Option Addr) (c : Nat) (w : World), ns[k]? = some n →
    Calls Try.prog 49 #[.agg #[.int .i64 n.kind, .int .i64 n.value, .slice A n.kids.length c]] w fun e w' => e = .returned (.bool (ent (k : Int))) ∧ Below w.heap.size w w'

/-- what the closure of walkFrom finds in memory -/
structure Env (w : World) (base b3 b5 b7 b8 : Nat) (A : Option Addr) (c : Nat) (ns : List Nd) (L : List Int) : Prop where
  enter : Lies w b5 #[.func (.func 49) #[] #[]] 59
  nodes : Lies w b3 #[.slice A ns.length c] 23
  set : ∃ m Am cm, SetI w b7 base m Am cm L
  self : Lies w b8 #[.func (.func 65) #[] #[.pointer (some ⟨b5, 0, none⟩), .pointer (some ⟨b3, 0, none⟩), .pointer (some ⟨b7, 0, none⟩), .pointer (some ⟨b8, 0, none⟩)]] 83
  read : NdsAt w b3 A ns
  n3 : b3 < b5
  n5 : b5 < b7
  n7 : b7 < b8
  n8 : b8 < base
  hb : base ≤ w.heap.size

theorem Env.later {w w' : World} {base b3 b5 b7 b8 : Nat} {A : Option Addr} {c : Nat} {ns : List Nd} {L : List Int} (h : Env w base b3 b5 b7 b8 A c ns L) (hb : Below w.heap.size w w') : Env w' base b3 b5 b7 b8 A c ns L := by
  obtain ⟨m, Am, cm, hs⟩ := h.set
  have h1 := h.n3
  have h2 := h.n5
  have h3 := h.n7
  have h4 := h.n8
  have h5 := h.hb
  exact ⟨h.enter.below hb (by omega), h.nodes.below hb (by omega), ⟨m, Am, cm, hs.below hb⟩, h.self.below hb (by omega), h.read.below (hb.mono (by omega)), h1, h2, h3, h4, Nat.le_trans h5 hb.size⟩

/-- the environment behind an add -/
theorem Env.added {w w' : World} {base b3 b5 b7 b8 : Nat} {A : Option Addr} {c : Nat} {ns : List Nd} {L L' : List Int} (h : Env w base b3 b5 b7 b8 A c ns L) (hs : ∃ m Am cm, SetI w' b7 base m Am cm L') (hb : But base b7 w w') : Env w' base b3 b5 b7 b8 A c ns L' := by
  have h1 := h.n3
  have h2 := h.n5
  have h3 := h.n7
  have h4 := h.n8
  have h5 := h.hb
  have hl : ∀ {g : Nat} {cs : Array Value} {t : TypeId}, Lies w g cs t → g < base → g ≠ b7 → Lies w' g cs t := fun hg hlt hne => (hb.block _ hlt hne).trans hg
  refine ⟨hl h.enter (by omega) (by omega), hl h.nodes (by omega) (by omega), hs, hl h.self (by omega) (by omega), h.read.below (B := b3) ⟨hb.os, hb.tape, hb.output, hb.size, fun k hk => hb.block k (by omega) (by omega)⟩, h1, h2, h3, h4, Nat.le_trans h5 hb.size⟩

theorem Env.below3 {w w' : World} {base b3 b5 b7 b8 : Nat} {A : Option Addr} {c : Nat} {ns : List Nd} {L : List Int} (h : Env w base b3 b5 b7 b8 A c ns L) (hb : But base b7 w w') : Below b3 w w' := by
  have h1 := h.n3
  have h2 := h.n5
  have h3 := h.n7
  have h4 := h.n8
  exact ⟨hb.os, hb.tape, hb.output, hb.size, fun k hk => hb.block k (by omega) (by omega)⟩

theorem But.refl (base g : Nat) (w : World) : But base g w w := ⟨rfl, rfl, rfl, Nat.le_refl _, fun _ _ _ => rfl⟩
theorem But.of_below {base g : Nat} {w w' : World} (h : Below w.heap.size w w') (hb : base ≤ w.heap.size) : But base g w w' := ⟨h.os, h.tape, h.output, h.size, fun k hk _ => h.block k (by omega)⟩

def WalkDone (base b3 b5 b7 b8 : Nat) (A : Option Addr) (c : Nat) (ns : List Nd) (R : List Int) (w : World) (e : Ending) (w' : World) : Prop :=
  e = .returned (.tuple #[]) ∧ Env w' base b3 b5 b7 b8 A c ns R ∧ But base b7 w w'

set_option maxRecDepth 100000 in
set_option maxHeartbeats 4000000 in
theorem walk1_any (ns : List Nd) (ent : Int → Bool) (hF : Enters ns ent) (hk : KidsIn ns) (hsm : ns.length ≤ 1048576) (base b3 b5 b7 b8 : Nat) (A : Option Addr) (c : Nat) (f : Nat)
    (ih : ∀ (i : Nat) (L : List Int) (w : World), i < ns.length → Met ns L → Env w base b3 b5 b7 b8 A c ns L → ns.length < f + L.length →
      Calls Try.prog 65 #[.int .i64 (i : Int), .pointer (some ⟨b5, 0, none⟩), .pointer (some ⟨b3, 0, none⟩), .pointer (some ⟨b7, 0, none⟩), .pointer (some ⟨b8, 0, none⟩)] w (WalkDone base b3 b5 b7 b8 A c ns (dfs ns ent f i L) w))
    (i : Nat) (L : List Int) (w : World) (hi : i < ns.length) (hL : Met ns L) (he : Env w base b3 b5 b7 b8 A c ns L) (hf : ns.length < f + 1 + L.length) :
      Calls Try.prog 65 #[.int .i64 (i : Int), .pointer (some ⟨b5, 0, none⟩), .pointer (some ⟨b3, 0, none⟩), .pointer (some ⟨b7, 0, none⟩), .pointer (some ⟨b8, 0, none⟩)] w (WalkDone base b3 b5 b7 b8 A c ns (dfs ns ent (f + 1) i L) w) := by
  have x5 := he.enter.cell 0
  have x3 := he.nodes.cell 0
  simp at x5 x3
  obtain ⟨b, off, n, rfl, hbl, hat, hmem, hN⟩ := he.read.at_ hi
  obtain ⟨hn_k, hn_v, ⟨A1, c1, hn_s, hI1, _⟩, _, _⟩ := hN
  have hi1 : (0 : Int) ≤ (i : Int) := by omega
  have hi2 : (i : Int) < (ns.length : Int) := by omega
  have hin64 : In64 (i : Int) := by constructor <;> omega
  have HIn := hide hin64
  have Hat := hide hat
  have Hih := hide ih
  have HF := hide hF
  have HL := hide hL
  have hlL := hL.len
  have hhb := he.hb
  have hn3 := he.n3
  have hn5 := he.n5
  have hn7 := he.n7
  have hn8 := he.n8
  have hkids : Hid (kidsOf ns (i : Int) = n.kids) := kidsOf_at hat
  have hI2 : IntsAt w.drew b3 A1 n.kids := hI1.below (Below.refl _ _).drew
  have hr2 : NdsAt w.drew b3 (some ⟨b, off, none⟩) ns := he.read.below (Below.refl _ _).drew
  have He := hide (he.later (Below.refl _ w).drew)
  have hbt : But base b7 w w.drew := But.of_below (Below.refl _ w).drew he.hb
  have hsz2 : w.drew.heap.size = w.heap.size := rfl
  clear hat ih hF he hmem hin64 hL hI1
  go_enter Try.func65, Try.ntmps65
  go_wp2_with fail
  go_still_tail 5, (by kernel_rfl)
  change wpList _ _ _ _ _ w.drew
  generalize hwd : w.drew = w2 at He hI2 hr2 hbt hsz2 ⊢
  clear hwd x5 x3 hn_k hn_v hn_s
  go_wp2_with fail
  refine (HF.out i n A1 c1 w2 Hat.out).mono ?_
  rintro e w3 ⟨rfl, hb3⟩
  have He3 := hide (He.out.later hb3)
  have hI3 : IntsAt w3 b3 A1 n.kids := hI2.below (hb3.mono (by omega))
  have hr3 : NdsAt w3 b3 (some ⟨b, off, none⟩) ns := hr2.below (hb3.mono (by omega))
  have hbt3 : But base b7 w w3 := hbt.trans (But.of_below hb3 (by omega))
  have hsz3 : base ≤ w3.heap.size := by have := hb3.size; omega
  clear hb3 He hI2 hr2 hbt hsz2
  cases hent : ent (i : Int) with
  | false =>
    have Hd := hide (show dfs ns ent (f + 1) i L = L from dfs_stop (.inl hent))
    clear hent hI3 hr3
    go_wp2
    go_end0
    exact ⟨rfl, by rw [Hd.out]; exact He3.out, hbt3⟩
  | true =>
    obtain ⟨m, Am, cm, hset⟩ := He3.out.set
    by_cases hmem : (i : Int) ∈ L
    · have Hd := hide (show dfs ns ent (f + 1) i L = L from dfs_stop (.inr hmem))
      clear hent hI3 hr3
      go_wp2_with fail
      refine (addI_seen b7 base m Am cm L i w3 hset HIn.out hmem).mono ?_
      rintro e w' ⟨rfl, rfl⟩
      clear hset hmem
      go_wp2
      go_end0
      exact ⟨rfl, by rw [Hd.out]; exact He3.out, hbt3⟩
    · have Hd := hide (show dfs ns ent (f + 1) i L = dfsL ns ent f n.kids (L ++ [(i : Int)]) from (dfs_go hent hmem).trans (by rw [hkids.out]))
      have HM := hide (HL.out.snoc ⟨hi1, hi2⟩ hmem)
      clear hent
      go_wp2_with fail
      refine (addI_new b7 base m cm Am L i w3 hset HIn.out hsz3 hmem (by omega)).mono ?_
      rintro e w4 ⟨rfl, hset4, hb4⟩
      have He4 := hide (He3.out.added hset4 hb4)
      have hbt4 := hbt3.trans hb4
      have hB34 := He3.out.below3 hb4
      have hI4 : IntsAt w4 b3 A1 n.kids := hI3.below hB34
      have hr4 : NdsAt w4 b3 (some ⟨b, off, none⟩) ns := hr3.below hB34
      clear hset4 hb4 hset hmem hI3 hr3 hB34 He3 hbt3
      have y3 := He4.out.nodes.cell 0
      simp at y3
      obtain ⟨_, _, n', hq, _, hat', _, hN'⟩ := hr4.at_ hi
      simp only [Option.some.injEq, Addr.mk.injEq, and_true] at hq
      obtain ⟨rfl, rfl⟩ := hq
      obtain rfl := Option.some.inj (Hat.out.symm.trans hat')
      obtain ⟨_, _, ⟨A2, c2, hn_s, hI5, _⟩, _, _⟩ := hN'
      clear hat' hI4
      have hlk := hI5.len
      go_wp2_with fail
      go_loopw [26] (fun iv wr => ∃ k : Nat, k ≤ n.kids.length ∧ iv = .int .i64 k ∧ Env wr base b3 b5 b7 b8 (some ⟨b, off, none⟩) c ns (dfsL ns ent f (n.kids.take k) (L ++ [(i : Int)])) ∧ But base b7 w wr ∧ IntsAt wr b3 A2 n.kids) (fun iv _ => n.kids.length - (intOf iv).toNat)
      case atStart => exact ⟨0, Nat.zero_le _, rfl, by rw [List.take_zero, dfsL_nil]; exact He4.out, hbt4, hI5⟩
      case round =>
        obtain ⟨k, hkl, rfl, her, hbr, hIr⟩ := hrel
        have Her := hide her
        have Hbr := hide hbr
        clear her hbr He4 hbt4 hI5 y3 hn_s hr4
        by_cases hlt : k < n.kids.length
        · obtain ⟨bk, ok, x, rfl, hbk, hx, hxm, hcx⟩ := hIr.at_ hlt
          obtain ⟨hx0, hx1⟩ := hk.of (i : Int) x (by rw [hkids.out]; exact hxm)
          obtain ⟨y, rfl⟩ := Int.eq_ofNat_of_zero_le hx0
          have ys := Her.out.self.cell 0
          simp at ys
          have hwk := walkedAll ns ent hk (n.kids.take k) (L ++ [(i : Int)]) f HM.out (fun z hz => hk.of (i : Int) z (by rw [hkids.out]; exact List.mem_of_mem_take hz)) (by simp; omega)
          have hlen2 := hwk.len
          have Hwk := hide hwk.met
          have Hx := hide hx
          have hk1 : (0 : Int) ≤ (k : Int) := by omega
          have hk2 : (k : Int) < (n.kids.length : Int) := by omega
          clear hx hxm hwk
          go_wp2_with fail
          refine (Hih.out y _ wr (by omega) Hwk.out Her.out (by simp at hlen2; omega)).mono ?_
          rintro e w5 ⟨rfl, he5, hb5⟩
          have He5 := hide he5
          have Hb5 := hide (Hbr.out.trans hb5)
          have hI6 := hIr.below (Her.out.below3 hb5)
          clear he5 hb5 hlen2 hIr ys hcx
          go_wp2
          go_roundw
          case rel => exact ⟨k + 1, by omega, by go_num, by rw [List.take_add_one, Hx.out, Option.toList_some, dfsL_snoc]; exact He5.out, Hb5.out, hI6⟩
          case measure => simp [intOf]; omega
        · obtain rfl : k = n.kids.length := by omega
          clear hlt hIr
          go_wp2
          go_end0
          exact ⟨rfl, by rw [Hd.out]; have := Her.out; rw [List.take_length] at this; exact this, Hbr.out⟩

theorem walk_any (ns : List Nd) (ent : Int → Bool) (hF : Enters ns ent) (hk : KidsIn ns) (hsm : ns.length ≤ 1048576) (base b3 b5 b7 b8 : Nat) (A : Option Addr) (c : Nat) : ∀ (f i : Nat) (L : List Int) (w : World), i < ns.length → Met ns L → Env w base b3 b5 b7 b8 A c ns L → ns.length < f + L.length →
    Calls Try.prog 65 #[.int .i64 (i : Int), .pointer (some ⟨b5, 0, none⟩), .pointer (some ⟨b3, 0, none⟩), .pointer (some ⟨b7, 0, none⟩), .pointer (some ⟨b8, 0, none⟩)] w (WalkDone base b3 b5 b7 b8 A c ns (dfs ns ent f i L) w)
  | 0, _, _, _, _, hL, _, hf => by have := hL.len; omega
  | f + 1, i, L, w, hi, hL, he, hf => walk1_any ns ent hF hk hsm base b3 b5 b7 b8 A c f (fun i L w h1 h2 h3 h4 => walk_any ns ent hF hk hsm base b3 b5 b7 b8 A c f i L w h1 h2 h3 h4) i L w hi hL he hf

set_option maxRecDepth 100000 in
set_option maxHeartbeats 2000000 in
theorem walkFrom_any (ns : List Nd) (ent : Int → Bool) (hF : Enters ns ent) (hk : KidsIn ns) (hsm : ns.length ≤ 1048576) (A : Option Addr) (c : Nat) (A2 : Option Addr) (xs : List Int) (c2 : Nat) (w : World) (hr : NdsAt w w.heap.size A ns) (hx : IntsAt w w.heap.size A2 xs)
    (hin : ∀ x ∈ xs, 0 ≤ x ∧ x < ns.length) :
    Calls Try.prog 48 #[.slice A ns.length c, .slice A2 xs.length c2, .func (.func 49) #[] #[]] w (GivesInts w (dfsL ns ent (ns.length + 1) xs [])) := by
  have HF := hide hF
  have Hin := hide hin
  have hxl := hx.len
  have hB : Below w.heap.size w ((((w.alloc (.cells #[.slice A ns.length c] 23)).alloc (.cells #[.func (.func 49) #[] #[]] 59)).alloc (.cells #[.map none, .slice none 0 0] 67)).alloc
    (.cells #[.func (.func 65) #[] #[.pointer (some ⟨w.heap.size + 1, 0, none⟩), .pointer (some ⟨w.heap.size, 0, none⟩), .pointer (some ⟨w.heap.size + 1 + 1, 0, none⟩), .pointer (some ⟨w.heap.size + 1 + 1 + 1, 0, none⟩)]] 83)) :=
    ((((Below.refl _ w).alloc (Nat.le_refl _) _).alloc (by simp) _).alloc (by simp <;> omega) _).alloc (by simp <;> omega) _
  have henv : Env ((((w.alloc (.cells #[.slice A ns.length c] 23)).alloc (.cells #[.func (.func 49) #[] #[]] 59)).alloc (.cells #[.map none, .slice none 0 0] 67)).alloc
    (.cells #[.func (.func 65) #[] #[.pointer (some ⟨w.heap.size + 1, 0, none⟩), .pointer (some ⟨w.heap.size, 0, none⟩), .pointer (some ⟨w.heap.size + 1 + 1, 0, none⟩), .pointer (some ⟨w.heap.size + 1 + 1 + 1, 0, none⟩)]] 83)) (w.heap.size + 1 + 1 + 1 + 1) w.heap.size (w.heap.size + 1) (w.heap.size + 1 + 1) (w.heap.size + 1 + 1 + 1) A c ns [] := by
    refine ⟨?_, ?_, ⟨none, none, 0, SetI.start ?_ (by omega)⟩, ?_, hr.below hB, by omega, by omega, by omega, by omega, by simp⟩
    · have := ((Lies.new (w.alloc (.cells #[.slice A ns.length c] 23)) #[.func (.func 49) #[] #[]] 59).alloc (.cells #[.map none, .slice none 0 0] 67)).alloc (.cells #[.func (.func 65) #[] #[.pointer (some ⟨w.heap.size + 1, 0, none⟩), .pointer (some ⟨w.heap.size, 0, none⟩), .pointer (some ⟨w.heap.size + 1 + 1, 0, none⟩), .pointer (some ⟨w.heap.size + 1 + 1 + 1, 0, none⟩)]] 83)
      simpa using this
    · exact (((Lies.new w #[.slice A ns.length c] 23).alloc _).alloc _).alloc _
    · have := (Lies.new ((w.alloc (.cells #[.slice A ns.length c] 23)).alloc (.cells #[.func (.func 49) #[] #[]] 59)) #[.map none, .slice none 0 0] 67).alloc (.cells #[.func (.func 65) #[] #[.pointer (some ⟨w.heap.size + 1, 0, none⟩), .pointer (some ⟨w.heap.size, 0, none⟩), .pointer (some ⟨w.heap.size + 1 + 1, 0, none⟩), .pointer (some ⟨w.heap.size + 1 + 1 + 1, 0, none⟩)]] 83)
      simpa using this
    · have := Lies.new (((w.alloc (.cells #[.slice A ns.length c] 23)).alloc (.cells #[.func (.func 49) #[] #[]] 59)).alloc (.cells #[.map none, .slice none 0 0] 67)) #[.func (.func 65) #[] #[.pointer (some ⟨w.heap.size + 1, 0, none⟩), .pointer (some ⟨w.heap.size, 0, none⟩), .pointer (some ⟨w.heap.size + 1 + 1, 0, none⟩), .pointer (some ⟨w.heap.size + 1 + 1 + 1, 0, none⟩)]] 83
      simpa using this
  have Henv := hide henv
  have hx2 := hx.below hB
  clear hF hin henv hr hx
  go_enter Try.func48, Try.ntmps48
  go_wp2_with fail
  generalize ((((w.alloc (.cells #[.slice A ns.length c] 23)).alloc (.cells #[.func (.func 49) #[] #[]] 59)).alloc (.cells #[.map none, .slice none 0 0] 67)).alloc
    (.cells #[.func (.func 65) #[] #[.pointer (some ⟨w.heap.size + 1, 0, none⟩), .pointer (some ⟨w.heap.size, 0, none⟩), .pointer (some ⟨w.heap.size + 1 + 1, 0, none⟩), .pointer (some ⟨w.heap.size + 1 + 1 + 1, 0, none⟩)]] 83)) = W at hB Henv hx2 ⊢
  go_loopw [14] (fun iv wr => ∃ k : Nat, k ≤ xs.length ∧ iv = .int .i64 k ∧ Env wr (w.heap.size + 1 + 1 + 1 + 1) w.heap.size (w.heap.size + 1) (w.heap.size + 1 + 1) (w.heap.size + 1 + 1 + 1) A c ns (dfsL ns ent (ns.length + 1) (xs.take k) []) ∧ But (w.heap.size + 1 + 1 + 1 + 1) (w.heap.size + 1 + 1) W wr ∧ IntsAt wr w.heap.size A2 xs) (fun iv _ => xs.length - (intOf iv).toNat)
  case atStart => exact ⟨0, Nat.zero_le _, rfl, by rw [List.take_zero, dfsL_nil]; exact Henv.out, But.refl _ _ _, hx2⟩
  case round =>
    obtain ⟨k, hkl, rfl, her, hbr, hIr⟩ := hrel
    have Her := hide her
    have Hbr := hide hbr
    clear her hbr hx2 Henv
    by_cases hlt : k < xs.length
    · obtain ⟨bk, ok, x, rfl, hbk, hx, hxm, hcx⟩ := hIr.at_ hlt
      obtain ⟨hx0, hx1⟩ := Hin.out x hxm
      obtain ⟨y, rfl⟩ := Int.eq_ofNat_of_zero_le hx0
      have ys := Her.out.self.cell 0
      simp at ys
      have hwk := walkedAll ns ent hk (xs.take k) [] (ns.length + 1) (Met.nil ns) (fun z hz => Hin.out z (List.mem_of_mem_take hz)) (by simp)
      have Hwk := hide hwk.met
      have Hx := hide hx
      have hk1 : (0 : Int) ≤ (k : Int) := by omega
      have hk2 : (k : Int) < (xs.length : Int) := by omega
      clear hx hxm hwk
      go_wp2_with fail
      refine (walk_any ns ent HF.out hk hsm _ _ _ _ _ A c (ns.length + 1) y _ wr (by omega) Hwk.out Her.out (by omega)).mono ?_
      rintro e w5 ⟨rfl, he5, hb5⟩
      have He5 := hide he5
      have Hb5 := hide (Hbr.out.trans hb5)
      have hI6 := hIr.below (Her.out.below3 hb5)
      clear he5 hb5 hIr ys hcx
      go_wp2
      go_roundw
      case rel => exact ⟨k + 1, by omega, by go_num, by rw [List.take_add_one, Hx.out, Option.toList_some, dfsL_snoc]; exact He5.out, Hb5.out, hI6⟩
      case measure => simp [intOf]; omega
    · obtain rfl : k = xs.length := by omega
      have he9 := Her.out
      rw [List.take_length] at he9
      obtain ⟨m, Am, cm, hset⟩ := he9.set
      have z1 := hset.box.cell 1
      simp at z1
      have hrow9 := hset.row
      clear hlt hIr he9 hset
      generalize hR : dfsL ns ent (ns.length + 1) xs [] = R at z1 hrow9
      have Hfin : Hid (GivesInts w (dfsL ns ent (ns.length + 1) xs []) (.returned (.slice Am R.length cm)) wr) :=
        ⟨Am, cm, by rw [hR], by rw [hR]; exact hrow9.mono (by omega), Hbr.out.below hB (by omega) (by omega)⟩
      clear hR hrow9
      go_wp2
      go_ret
      exact Hfin.out

end Go.Proofs.Ytcblcmdfeoijpab.WalkA
