import Derived.Test.YtbihgafkmmcjlaaDoorPjAm
import Derived.Test.YtbihgafkmmcjlaaDoorAddKids
import Derived.Deep.AppendLies
namespace Go.Proofs.YtbihgafkmmcjlaaDoor
open Go.RowKit
set_option linter.unusedVariables false
theorem infoNd : (Tryd.prog.info? 73).map (fun i => (i.zero, i.size, i.bytes)) = some (some (.agg #[.int .i64 0, .int .i64 0, .slice none 0 0]), 3, 40) := by kernel_rfl
def flatN (ns : List Nd) : List Value := ns.flatMap fun n => [.int .i64 n.kind, .int .i64 n.value, .slice none 0 0]
theorem flatN_at : ∀ {ns : List Nd} {j : Nat} {n : Nd}, ns[j]? = some n → (flatN ns)[j * 3]? = some (.int .i64 n.kind) ∧ (flatN ns)[j * 3 + 1]? = some (.int .i64 n.value) ∧ (flatN ns)[j * 3 + 2]? = some (.slice none 0 0)
  | [], j, n, h => by simp at h
  | m :: ns, 0, n, h => by
    simp at h
    subst h
    exact ⟨rfl, rfl, rfl⟩
  | m :: ns, j + 1, n, h => by
    have := flatN_at (ns := ns) (j := j) (n := n) (by simpa using h)
    have e : ∀ o, (flatN (m :: ns))[(j + 1) * 3 + o]? = (flatN ns)[j * 3 + o]? := fun o => by
      show (_ :: _ :: _ :: flatN ns)[(j + 1) * 3 + o]? = _
      rw [show (j + 1) * 3 + o = j * 3 + o + 1 + 1 + 1 by omega]
      simp
    exact ⟨(e 0).trans this.1, (e 1).trans this.2.1, (e 2).trans this.2.2⟩
def Plain (ns : List Nd) : Prop := ∀ n ∈ ns, n.kids = [] ∧ 0 ≤ n.kind ∧ n.kind ≤ 5 ∧ 0 ≤ n.value ∧ n.value ≤ 999
theorem gen_of_row {w : World} {B rb cn : Nat} {An : Option Addr} {ns : List Nd} (h : w.ownsRow B 73 3 (.slice An ns.length cn) ns.length (flatN ns)) (h1 : 1 ≤ ns.length) (h2 : ns.length ≤ 1000) (hp : Plain ns) (hrb : rb < B) :
    ∃ gn, An = some ⟨gn, 0, none⟩ ∧ B ≤ gn ∧ GenG w gn rb cn ns ∧ ∀ j, j < ns.length → w.cell? ⟨gn, j * 3 + 2, none⟩ = some (.slice none 0 0) := by
  rcases h.2 with ⟨_, h0⟩ | ⟨g, cap, cur, hv, hb, hh, hn, hm, hs, hx⟩
  · omega
  · injection hv with hv _ hc
    subst hv hc
    have hrow : w.rowIs g 73 (cn * 3) (fun i => (cur[i]?).getD undef) := ⟨cur, hh, by simpa using hs, fun i hi => by
      have : i < cur.size := by rw [hs]; omega
      show _ = some ((cur[i]?).getD undef)
      rw [Array.getElem?_eq_getElem this]; rfl⟩
    have hcell : ∀ i u, i < ns.length * 3 → (flatN ns)[i]? = some u → w.cell? ⟨g, i, none⟩ = some u := by
      intro i u hi hu
      have hr := World.rowIs.cell hrow (i := i) (by omega)
      rw [hr]
      have : (cur.toList.take (ns.length * 3))[i]? = some u := by rw [hx]; exact hu
      rw [List.getElem?_take, if_pos hi, Array.getElem?_toList] at this
      rw [this]; rfl
    have hnil : ∀ j, j < ns.length → w.cell? ⟨g, j * 3 + 2, none⟩ = some (.slice none 0 0) := fun j hj => hcell _ _ (by omega) (flatN_at (List.getElem?_eq_getElem hj)).2.2
    refine ⟨g, rfl, hb, ⟨⟨_, hrow⟩, hn, h2, fun j n hj => ?_, by omega, fun i j A A' k k' c c' _ hi hj e1 e2 b hb' => ?_⟩, hnil⟩
    · have hjl := (List.getElem?_eq_some_iff.1 hj).1
      obtain ⟨a, b, c⟩ := flatN_at hj
      obtain ⟨p1, p2, p3, p4, p5⟩ := hp n (List.mem_of_getElem? hj)
      refine ⟨hcell _ _ (by omega) a, hcell _ _ (by omega) b, ⟨none, 0, ?_, ?_, ?_, ?_, by simp [blockOf], by simp [blockOf]⟩, by constructor <;> omega, by constructor <;> omega⟩
      · rw [p1]; exact hcell _ _ (by omega) c
      · rw [p1]; exact OwnI.empty _ _
      · rw [p1]; intro x hx; cases hx
      · rw [p1]; exact Nat.zero_le _
    · rw [hnil i hi] at e1
      injection e1 with e1
      injection e1 with e1 _ _
      rw [← e1] at hb'
      cases hb'
structure MkS (w wr : World) (rb B b2 b3 nb cb : Nat) (A : Option Addr) (P : Nat) (ns : List Nd) (An : Option Addr) (cn : Nat) : Prop where
  rd : ∃ p1, p1 ≤ P ∧ Rd wr rb A nb cb p1
  grew : Grew rb w wr
  l2 : Lies wr b2 #[.slice none 0 0, .int .i64 0] 49
  l3 : Lies wr b3 #[.slice An ns.length cn, .int .i64 0] 49
  row : wr.ownsRow B 73 3 (.slice An ns.length cn) ns.length (flatN ns)
  plain : Plain ns
  size : B ≤ wr.heap.size
  n1 : w.heap.size ≤ b2
  n2 : b2 < b3
  n3 : b3 < B
  nr : rb < w.heap.size
theorem ownsRow_same {w w' : World} {base : Nat} {e : TypeId} {size : Nat} {v : Value} {n : Nat} {xs : List Value} (h : w.ownsRow base e size v n xs) (hA : ∀ g, base ≤ g → g < w.heap.size → w'.heap[g]? = w.heap[g]?) : w'.ownsRow base e size v n xs := by
  refine ⟨h.1, ?_⟩
  rcases h.2 with h2 | ⟨g, cap, cur, hv, hg, hh, r⟩
  · exact .inl h2
  · exact .inr ⟨g, cap, cur, hv, hg, (hA g hg (lt_of_block hh)).trans hh, r⟩
section
variable {w wr : World} {rb B b2 b3 nb cb : Nat} {A : Option Addr} {P : Nat} {ns : List Nd} {An : Option Addr} {cn : Nat}
theorem MkS.step (h : MkS w wr rb B b2 b3 nb cb A P ns An cn) {w5 : World} {p5 P' : Nat} (hG : Grew rb wr w5) (hr : Rd w5 rb A nb cb p5) (hp : p5 ≤ P') : MkS w w5 rb B b2 b3 nb cb A P' ns An cn := by
  have n1 := h.n1
  have n2 := h.n2
  have n3 := h.n3
  have nr := h.nr
  exact ⟨⟨p5, hp, hr⟩, h.grew.trans hG, h.l2.grew hG (by omega), h.l3.grew hG (by omega), ownsRow_same h.row (fun g hg hl => hG.block g hl (by omega)), h.plain, Nat.le_trans h.size hG.size, h.n1, h.n2, h.n3, h.nr⟩
theorem MkS.app (h : MkS w wr rb B b2 b3 nb cb A P ns An cn) {w1 : World} {gg cap : Nat} {kd v : Int} (hk0 : 0 ≤ kd) (hk5 : kd ≤ 5) (hv0 : 0 ≤ v) (hv9 : v ≤ 999) (hg : wr.grownBy w1 (Value.slice An ns.length cn).ownBlock)
    (hown : w1.ownsRow B 73 3 (.slice (some ⟨gg, 0, none⟩) (ns.length + 1) cap) (ns.length + 1) (flatN ns ++ [.int .i64 kd, .int .i64 v, .slice none 0 0])) :
    MkS w (w1.setCell ⟨b3, 0, none⟩ (.slice (some ⟨gg, 0, none⟩) (ns.length + 1) cap)) rb B b2 b3 nb cb A P (ns ++ [⟨kd, v, []⟩]) (some ⟨gg, 0, none⟩) cap := by
  have n1 := h.n1
  have n2 := h.n2
  have n3 := h.n3
  have nr := h.nr
  have hs := h.size
  have hsz := hg.size
  have hgs := h.grew.size
  have hne : ∀ k, k < B → some k ≠ (Value.slice An ns.length cn).ownBlock := fun k hk e => by have := (World.ownsRow.lt h.row k e.symm).1; omega
  have hold : ∀ k, k < B → w1.heap[k]? = wr.heap[k]? := fun k hk => hg.block k (by omega) (hne k hk)
  have hbl : Below b3 wr (w1.setCell ⟨b3, 0, none⟩ (.slice (some ⟨gg, 0, none⟩) (ns.length + 1) cap)) := ⟨hg.os, hg.tape, hg.output, by simpa using hsz, fun k hk => by
    rw [Below.heap_setCell _ _ _ _ (by show k ≠ b3; omega)]
    exact hold k (by omega)⟩
  obtain ⟨p1, h1, h2⟩ := h.rd
  have l3 : Lies w1 b3 #[.slice An ns.length cn, .int .i64 0] 49 := (hold b3 n3).trans h.l3
  have l3' := l3.set 0 (.slice (some ⟨gg, 0, none⟩) (ns.length + 1) cap)
  have hlen : (ns ++ [(⟨kd, v, []⟩ : Nd)]).length = ns.length + 1 := by simp
  have hflat : flatN (ns ++ [(⟨kd, v, []⟩ : Nd)]) = flatN ns ++ [.int .i64 kd, .int .i64 v, .slice none 0 0] := by simp [flatN]
  refine ⟨⟨p1, h1, h2.kept (hbl.mono (by omega))⟩, ⟨hg.os.trans h.grew.os, hg.tape.trans h.grew.tape, hg.output.trans h.grew.output, by simp; omega, fun k hk hr => ?_⟩, h.l2.below hbl (by omega), by rw [hlen]; simpa using l3', by rw [hlen, hflat]; exact ownsRow_setCell_below hown (a := ⟨b3, 0, none⟩) (by show b3 < B; omega) _, ?_, by simp; omega, n1, n2, n3, nr⟩
  · rw [Below.heap_setCell _ _ _ _ (by show k ≠ b3; omega), hold k (by omega)]
    exact h.grew.block k hk hr
  · intro n hn
    rcases List.mem_append.1 hn with hn | hn
    · exact h.plain n hn
    · simp at hn
      subst hn
      exact ⟨rfl, hk0, hk5, hv0, hv9⟩
end
structure Sav (ns : List Nd) : Prop where
  inn : KidsIn ns
  few : ∀ n ∈ ns, n.kids.length ≤ 6
  even : ∀ n ∈ ns, n.kind = 4 → n.kids.length % 2 = 0
  tuples : ∀ (i : Nat) (n : Nd), ns[i]? = some n → n.kind = 2 → ¬ TReach ns i i
theorem Sav.of_valid {ns : List Nd} {r : Int} (h : ValidG ns r) : Sav ns := by
  refine ⟨fun n hn => (h.nodes n hn).inn, fun n hn => (h.nodes n hn).few, fun n hn h4 => ?_, h.tuples⟩
  rcases (h.nodes n hn).kind with h | h | h | h | h | h <;> first | omega | skip
  exact h.2.2.even
theorem Sav.plain {ns : List Nd} (h : Plain ns) : Sav ns := by
  refine ⟨fun n hn x hx => ?_, fun n hn => ?_, fun n hn _ => ?_, fun i n hi _ ht => ?_⟩
  · rw [(h n hn).1] at hx; cases hx
  · rw [(h n hn).1]; simp
  · rw [(h n hn).1]; rfl
  · have hno : ∀ x : Int, ¬ TReach ns (i : Int) x := by
      intro x hx
      induction hx with
      | kid x hx =>
        rw [kidsOf_at hi, (h n (List.mem_of_getElem? hi)).1] at hx
        cases hx
      | step y x _ _ _ ih => exact ih
    exact hno _ ht
def Graphed (rb : Nat) (A : Option Addr) (nb cb P : Nat) (w : World) (e : Ending) (w' : World) : Prop :=
  ∃ (g cap p' : Nat) (ns : List Nd) (r : Int), e = .returned (.agg #[.slice (some ⟨g, 0, none⟩) ns.length cap, .int .i64 r]) ∧ p' ≤ P ∧ Rd w' rb A nb cb p' ∧ GenG w' g rb cap ns ∧ w.heap.size ≤ g ∧ 1 ≤ ns.length ∧ ns.length ≤ 10 ∧ In64 r ∧ (Sav ns ∧ 0 ≤ r ∧ r < (ns.length : Int)) ∧ Grew rb w w' ∧
    ∀ j, j < ns.length → ∀ (B2 : Option Addr) (k d : Nat), w'.cell? ⟨g, j * 3 + 2, none⟩ = some (.slice B2 k d) → ∀ b, blockOf B2 = some b → w.heap.size ≤ b
structure L2S (w wr : World) (rb B b2 b3 nb cb gn cap len : Nat) (A : Option Addr) (r : Int) (P i : Nat) (ns : List Nd) : Prop where
  rd : ∃ p1, p1 ≤ P ∧ Rd wr rb A nb cb p1
  grew : Grew rb w wr
  l2 : Lies wr b2 #[.slice none 0 0, .int .i64 0] 49
  l3 : Lies wr b3 #[.slice (some ⟨gn, 0, none⟩) len cap, .int .i64 r] 49
  gen : GenG wr gn rb cap ns
  hlen : ns.length = len
  rest : ∀ j n, i ≤ j → ns[j]? = some n → n.kids = [] ∧ 0 ≤ n.kind ∧ n.kind ≤ 5 ∧ wr.cell? ⟨gn, j * 3 + 2, none⟩ = some (.slice none 0 0)
  over : ∀ j, j < len → ∀ (B2 : Option Addr) (k d : Nat), wr.cell? ⟨gn, j * 3 + 2, none⟩ = some (.slice B2 k d) → ∀ b, blockOf B2 = some b → B ≤ b
  size : B ≤ wr.heap.size
  gnB : B ≤ gn
  n1 : w.heap.size ≤ b2
  n2 : b2 < b3
  n3 : b3 < B
  nr : rb < w.heap.size
  sav : Sav ns
theorem L2S.kids {w wr : World} {rb B b2 b3 nb cb gn cap len p0 : Nat} {A : Option Addr} {r : Int} {P i : Nat} {ns : List Nd} (h : L2S w wr rb B b2 b3 nb cb gn cap len A r P i ns) (hi : i < len) {e : Ending} {w5 : World} (hk : Kidded rb A nb cb p0 gn cap i r ns wr e w5) (hP : p0 + 9 ≤ P + 9) :
    e = .returned (.agg #[.slice (some ⟨gn, 0, none⟩) len cap, .int .i64 r]) ∧ ∃ n', L2S w ((w5.setCell ⟨b3, 0, none⟩ (.slice (some ⟨gn, 0, none⟩) len cap)).setCell ⟨b3, 1, none⟩ (.int .i64 r)) rb B b2 b3 nb cb gn cap len A r (P + 9) (i + 1) (ns.set i n') ∧ Lies w5 b3 #[.slice (some ⟨gn, 0, none⟩) len cap, .int .i64 r] 49 := by
  obtain ⟨n', p', he, hp', hr, hg, _, _, hsv, hgr, hfar, hnew⟩ := hk
  have hlen := h.hlen
  have n1 := h.n1
  have n2 := h.n2
  have n3 := h.n3
  have nr := h.nr
  have hgB := h.gnB
  have hs := h.size
  have hgl := hg.lt
  have hws := h.grew.size
  have l3 : Lies w5 b3 #[.slice (some ⟨gn, 0, none⟩) len cap, .int .i64 r] 49 := (hgr.block b3 (by omega) (by omega) (by omega)).trans h.l3
  have l2 : Lies w5 b2 _ _ := (hgr.block b2 (by omega) (by omega) (by omega)).trans h.l2
  have hbl : ∀ k, k ≠ b3 → ((w5.setCell ⟨b3, 0, none⟩ (.slice (some ⟨gn, 0, none⟩) len cap)).setCell ⟨b3, 1, none⟩ (.int .i64 r)).heap[k]? = w5.heap[k]? := fun k hk => (Below.heap_setCell _ _ _ _ hk).trans (Below.heap_setCell _ _ _ _ hk)
  have hc : ∀ q, ((w5.setCell ⟨b3, 0, none⟩ (.slice (some ⟨gn, 0, none⟩) len cap)).setCell ⟨b3, 1, none⟩ (.int .i64 r)).cell? ⟨gn, q, none⟩ = w5.cell? ⟨gn, q, none⟩ := fun q => World.cell?_of_block (w := w5) (hbl gn (by omega))
  have hover : ∀ j, j < len → ∀ (B2 : Option Addr) (k d : Nat), w5.cell? ⟨gn, j * 3 + 2, none⟩ = some (.slice B2 k d) → ∀ b, blockOf B2 = some b → B ≤ b := by
    intro j hj B2 k d h1 b hb
    by_cases e : j = i
    · subst e
      have := hnew B2 k d h1 b hb
      omega
    · rw [hfar _ (by omega)] at h1
      exact h.over j hj B2 k d h1 b hb
  have hg1 := hg.setFar (b := b3) (o := 0) (v := .slice (some ⟨gn, 0, none⟩) len cap) (by omega) (fun j hj A2 n c h1 h2 => by
    rw [List.length_set, hlen] at hj
    have := hover j hj A2 n c h1 b3 h2
    omega)
  have hg2 := hg1.setFar (b := b3) (o := 1) (v := .int .i64 r) (by omega) (fun j hj A2 n c h1 h2 => by
    rw [List.length_set, hlen] at hj
    rw [World.cell?_of_block (w := w5) (Below.heap_setCell _ _ _ _ (by show gn ≠ b3; omega))] at h1
    have := hover j hj A2 n c h1 b3 h2
    omega)
  have l3' := (l3.set 0 (.slice (some ⟨gn, 0, none⟩) len cap)).set 1 (.int .i64 r)
  simp only [jA, jC, jB] at l3'
  refine ⟨by rw [he, hlen], n', ⟨⟨p', by omega, hr.kept ⟨rfl, rfl, rfl, by simp, fun k hk => hbl k (by omega)⟩⟩, ⟨hgr.os.trans h.grew.os, hgr.tape.trans h.grew.tape, hgr.output.trans h.grew.output, by have := hgr.size; simp; omega, fun k hk hne => (hbl k (by omega)).trans ((hgr.block k (by omega) hne (by omega)).trans (h.grew.block k hk hne))⟩, (hbl b2 (by omega)).trans l2, l3', hg2, by rw [List.length_set]; exact hlen, fun j n hij hj => ?_, fun j hj B2 k d h1 => hover j hj B2 k d ((hc _).symm.trans h1), by have := hgr.size; simp; omega, hgB, n1, n2, n3, nr, hsv.elim (fun e => by rw [e]; exact h.sav) Sav.of_valid⟩, l3⟩
  rw [List.getElem?_set, if_neg (by omega)] at hj
  obtain ⟨a, b, c, d⟩ := h.rest j n (by omega) hj
  exact ⟨a, b, c, (hc _).trans ((hfar _ (by omega)).trans d)⟩
theorem Turn.refl (g : Nat) (w : World) : Turn g w w := ⟨rfl, rfl, rfl, rfl, fun _ _ => rfl⟩
theorem L2S.turn {w wr : World} {rb B b2 b3 nb cb gn cap len : Nat} {A : Option Addr} {r : Int} {P i : Nat} {ns : List Nd} (h : L2S w wr rb B b2 b3 nb cb gn cap len A r P i ns) {w5 : World} {p5 P' : Nat} (ht : Turn rb wr w5) (hr : Rd w5 rb A nb cb p5) (hp : p5 ≤ P') : L2S w w5 rb B b2 b3 nb cb gn cap len A r P' i ns := by
  have n1 := h.n1
  have n2 := h.n2
  have n3 := h.n3
  have nr := h.nr
  have hgB := h.gnB
  have hG := Grew.of_turn ht
  have hc : ∀ q, w5.cell? ⟨gn, q, none⟩ = wr.cell? ⟨gn, q, none⟩ := fun q => World.cell?_of_block (w := wr) (ht.block gn (by omega))
  exact ⟨⟨p5, hp, hr⟩, h.grew.trans hG, h.l2.grew hG (by omega), h.l3.grew hG (by omega), h.gen.grew hG, h.hlen, fun j n a b => by
    obtain ⟨x, y, z, u⟩ := h.rest j n a b
    exact ⟨x, y, z, (hc _).trans u⟩, fun j hj B2 k d h1 => h.over j hj B2 k d ((hc _).symm.trans h1), Nat.le_trans h.size hG.size, hgB, n1, n2, n3, nr, h.sav⟩
theorem L2S.cell {w wr : World} {rb B b2 b3 nb cb gn cap len : Nat} {A : Option Addr} {r : Int} {P i : Nat} {ns : List Nd} (h : L2S w wr rb B b2 b3 nb cb gn cap len A r P i ns) {b o : Nat} {v : Value} (hb1 : w.heap.size ≤ b) (hb2 : b < B) :
    (∃ p1, p1 ≤ P ∧ Rd (wr.setCell ⟨b, o, none⟩ v) rb A nb cb p1) ∧ Grew rb w (wr.setCell ⟨b, o, none⟩ v) ∧ GenG (wr.setCell ⟨b, o, none⟩ v) gn rb cap ns ∧ (∀ q, (wr.setCell ⟨b, o, none⟩ v).cell? ⟨gn, q, none⟩ = wr.cell? ⟨gn, q, none⟩) := by
  have nr := h.nr
  have hgB := h.gnB
  have hlen := h.hlen
  have hbl : ∀ k, k ≠ b → (wr.setCell ⟨b, o, none⟩ v).heap[k]? = wr.heap[k]? := fun k hk => Below.heap_setCell _ _ _ _ hk
  obtain ⟨p1, hp1, hr1⟩ := h.rd
  exact ⟨⟨p1, hp1, hr1.kept ⟨rfl, rfl, rfl, by simp, fun k hk => hbl k (by omega)⟩⟩, ⟨h.grew.os, h.grew.tape, h.grew.output, by simpa using h.grew.size, fun k hk hne => (hbl k (by omega)).trans (h.grew.block k hk hne)⟩, h.gen.setFar (by omega) (fun j hj A2 n c h1 h2 => by
    rw [hlen] at hj
    have := h.over j hj A2 n c h1 b h2
    omega), fun q => World.cell?_of_block (w := wr) (hbl gn (by omega))⟩
theorem L2S.root {w wr : World} {rb B b2 b3 nb cb gn cap len : Nat} {A : Option Addr} {r : Int} {P i : Nat} {ns : List Nd} (h : L2S w wr rb B b2 b3 nb cb gn cap len A r P i ns) (z : Int) : L2S w (wr.setCell ⟨b3, 1, none⟩ (.int .i64 z)) rb B b2 b3 nb cb gn cap len A z P i ns := by
  have n1 := h.n1
  have n2 := h.n2
  have n3 := h.n3
  obtain ⟨hr, hg, hG, hc⟩ := h.cell (b := b3) (o := 1) (v := .int .i64 z) (by omega) n3
  have l3' := h.l3.set 1 (.int .i64 z)
  simp only [jA, jC, jB] at l3'
  exact ⟨hr, hg, (Below.heap_setCell _ _ _ _ (by show b2 ≠ b3; omega)).trans h.l2, l3', hG, h.hlen, fun j n a b => by
    obtain ⟨x, y, z, u⟩ := h.rest j n a b
    exact ⟨x, y, z, (hc _).trans u⟩, fun j hj B2 k d h1 => h.over j hj B2 k d ((hc _).symm.trans h1), by simpa using h.size, h.gnB, n1, n2, n3, h.nr, h.sav⟩
theorem L2S.res {w wr : World} {rb B b2 b3 nb cb gn cap len : Nat} {A : Option Addr} {r : Int} {P i : Nat} {ns : List Nd} (h : L2S w wr rb B b2 b3 nb cb gn cap len A r P i ns) (h1 : 1 ≤ len) (h10 : len ≤ 10) (hr64 : In64 r) (hr0 : 0 ≤ r) (hrl : r < (len : Int)) (u0 u1 : Value) :
    Graphed rb A nb cb P w (.returned (.agg #[.slice (some ⟨gn, 0, none⟩) len cap, .int .i64 r])) ((wr.setCell ⟨b2, 0, none⟩ u0).setCell ⟨b2, 1, none⟩ u1) := by
  have n1 := h.n1
  have n2 := h.n2
  have n3 := h.n3
  have nr := h.nr
  have hgB := h.gnB
  have hlen := h.hlen
  have hbl : ∀ k, k ≠ b2 → ((wr.setCell ⟨b2, 0, none⟩ u0).setCell ⟨b2, 1, none⟩ u1).heap[k]? = wr.heap[k]? := fun k hk => (Below.heap_setCell _ _ _ _ hk).trans (Below.heap_setCell _ _ _ _ hk)
  obtain ⟨p1, hp1, hr1⟩ := h.rd
  obtain ⟨_, _, hG, hc⟩ := h.cell (b := b2) (o := 0) (v := u0) (by omega) (by omega)
  have hG2 := hG.setFar (b := b2) (o := 1) (v := u1) (by omega) (fun j hj A2 n c h1 h2 => by
    rw [hlen] at hj
    rw [hc] at h1
    have := h.over j hj A2 n c h1 b2 h2
    omega)
  exact ⟨gn, cap, p1, ns, r, by rw [hlen], hp1, hr1.kept ⟨rfl, rfl, rfl, by simp, fun k hk => hbl k (by omega)⟩, hG2, by omega, by omega, by omega, hr64, ⟨h.sav, hr0, by rw [hlen]; exact hrl⟩, ⟨h.grew.os, h.grew.tape, h.grew.output, by simpa using h.grew.size, fun k hk hne => (hbl k (by omega)).trans (h.grew.block k hk hne)⟩, fun j hj B2 k d hx b hb => by
    rw [hlen] at hj
    rw [World.cell?_of_block (w := wr) (hbl gn (by omega))] at hx
    have := h.over j hj B2 k d hx b hb
    omega⟩
set_option maxRecDepth 100000 in
set_option maxHeartbeats 4000000 in
theorem someGraph_any (rb : Nat) (A : Option Addr) (nb cb p : Nat) (w : World) (h : Rd w rb A nb cb p) (hp : p < 700000) :
    Calls Tryd.prog 22 #[.pointer (some ⟨rb, 0, none⟩)] w (Graphed rb A nb cb (p + 200) w) := by
  have hrlt := h.box.lt
  obtain ⟨i0, hi0, hz0, hz1, hz2⟩ := info_parts infoNd
  have H := hide h
  clear h
  go_enter Tryd.func22, Tryd.ntmps22
  go_wp2_with fail
  have hB : Below w.heap.size w (((w.alloc (.cells #[.slice none 0 0, .int .i64 0] 49)).alloc (.cells #[.slice none 0 0, .int .i64 0] 49)).alloc
    (.cells #[.int .i64 5, .int .i64 6, .int .i64 4, .int .i64 7, .int .i64 3, .int .i64 8, .int .i64 1, .int .i64 2, .int .i64 10] 3)) := (((Below.refl _ w).alloc (Nat.le_refl _) _).alloc (by simp) _).alloc (by simp; omega) _
  have l2 := ((Lies.new w #[.slice none 0 0, .int .i64 0] 49).alloc (.cells #[.slice none 0 0, .int .i64 0] 49)).alloc (.cells #[.int .i64 5, .int .i64 6, .int .i64 4, .int .i64 7, .int .i64 3, .int .i64 8, .int .i64 1, .int .i64 2, .int .i64 10] 3)
  have l3 := (Lies.new (w.alloc (.cells #[.slice none 0 0, .int .i64 0] 49)) #[.slice none 0 0, .int .i64 0] 49).alloc (.cells #[.int .i64 5, .int .i64 6, .int .i64 4, .int .i64 7, .int .i64 3, .int .i64 8, .int .i64 1, .int .i64 2, .int .i64 10] 3)
  have lA := Lies.new ((w.alloc (.cells #[.slice none 0 0, .int .i64 0] 49)).alloc (.cells #[.slice none 0 0, .int .i64 0] 49)) #[.int .i64 5, .int .i64 6, .int .i64 4, .int .i64 7, .int .i64 3, .int .i64 8, .int .i64 1, .int .i64 2, .int .i64 10] 3
  simp only [World.size_alloc] at l3 lA
  generalize hWd : ((w.alloc (.cells #[.slice none 0 0, .int .i64 0] 49)).alloc (.cells #[.slice none 0 0, .int .i64 0] 49)).alloc
    (.cells #[.int .i64 5, .int .i64 6, .int .i64 4, .int .i64 7, .int .i64 3, .int .i64 8, .int .i64 1, .int .i64 2, .int .i64 10] 3) = W at hB l2 l3 lA ⊢
  have hWs : Hid (W.heap.size = w.heap.size + 1 + 1 + 1) := by show _ = _; rw [← hWd]; simp
  clear hWd
  have hrW := H.out.below hB
  refine (one_any rb A nb cb p (w.heap.size + 1 + 1) 9 9 [5, 6, 4, 7, 3, 8, 1, 2, 10] W hrW (by omega) rfl (by omega) (by omega) (by omega) (fun k z hz => by
    have := lA.cell k
    rw [this]
    match k, hz with
    | 0, hz => simpa using hz
    | 1, hz => simpa using hz
    | 2, hz => simpa using hz
    | 3, hz => simpa using hz
    | 4, hz => simpa using hz
    | 5, hz => simpa using hz
    | 6, hz => simpa using hz
    | 7, hz => simpa using hz
    | 8, hz => simpa using hz
    | k + 9, hz => simp at hz)).mono ?_
  rintro e w1 ⟨⟨x, hx, rfl⟩, hr1, ht1⟩
  obtain ⟨xn, rfl, hx1, hx10⟩ : ∃ xn : Nat, x = (xn : Int) ∧ 1 ≤ xn ∧ xn ≤ 10 := by
    have h1 : 1 ≤ x ∧ x ≤ 10 := by
      simp at hx
      rcases hx with rfl | rfl | rfl | rfl | rfl | rfl | rfl | rfl | rfl <;> omega
    obtain ⟨xn, rfl⟩ := Int.eq_ofNat_of_zero_le (show 0 ≤ x by omega)
    exact ⟨xn, rfl, by omega, by omega⟩
  have hS0 : MkS w W rb W.heap.size w.heap.size (w.heap.size + 1) nb cb A p [] none 0 :=
    ⟨⟨p, Nat.le_refl _, hrW⟩, Grew.of_below hB, l2, l3, World.ownsRow_nil _ _ _ _, (fun n hn => by cases hn), Nat.le_refl _, Nat.le_refl _, by omega, by have := hWs.out; omega, hrlt⟩
  have HS1 := hide (hS0.step (Grew.of_turn ht1) hr1 (Nat.le_refl (p + 1)))
  clear hS0 ht1 hr1 hrW l2 l3 lA hx hB
  generalize hBd : W.heap.size = B at HS1
  have hBs : Hid (B = w.heap.size + 1 + 1 + 1) := by show _ = _; rw [← hBd]; exact hWs.out
  clear hBd hWs
  go_wp2_with fail
  go_loopw [4] (fun kv wr => ∃ (k : Nat) (ns : List Nd) (An : Option Addr) (cn : Nat), ns.length + k = xn ∧ kv = .int .i64 k ∧ MkS w wr rb B w.heap.size (w.heap.size + 1) nb cb A (p + 1 + 3 * ns.length) ns An cn) (fun kv _ => (intOf kv).toNat)
  case atStart => exact ⟨xn, [], none, 0, by simp, rfl, HS1.out⟩
  case round =>
    clear HS1
    obtain ⟨k, ns, An, cn, hkn, rfl, hS⟩ := hrel
    have Hkn := hide hkn
    have hk10 : k ≤ 10 := by omega
    have hn10 : ns.length ≤ 10 := by omega
    have hnk : k = 0 → 1 ≤ ns.length := by omega
    have HS := hide hS
    clear hkn
    have e0 := hS.l3.cell 0
    have e1 := hS.l3.cell 1
    have f0 := hS.l3.frozen 0
    simp at e0 e1
    by_cases hk0 : k = 0
    · subst hk0
      have h1l := hnk rfl
      have hn3 := hS.n3
      have hsB := hS.size
      have hrB : rb < B := by have := hS.n1; have := hS.n2; omega
      have hXrow := ownsRow_setCell_below hS.row (a := ⟨w.heap.size + 1, 1, none⟩) (by show w.heap.size + 1 < B; omega) (.int .i64 ((ns.length : Int) - 1))
      obtain ⟨gn, rfl, hgB, hG, hnils⟩ := gen_of_row hXrow h1l (by omega) hS.plain hrB
      have hbl : ∀ k, k ≠ w.heap.size + 1 → (wr.setCell ⟨w.heap.size + 1, 1, none⟩ (.int .i64 ((ns.length : Int) - 1))).heap[k]? = wr.heap[k]? := fun k hk => Below.heap_setCell _ _ _ _ hk
      have l3' := hS.l3.set 1 (.int .i64 ((ns.length : Int) - 1))
      simp only [jA, jC, jB] at l3'
      obtain ⟨p1, hp1, hr1⟩ := hS.rd
      have hL : L2S w (wr.setCell ⟨w.heap.size + 1, 1, none⟩ (.int .i64 ((ns.length : Int) - 1))) rb B w.heap.size (w.heap.size + 1) nb cb gn cn ns.length A ((ns.length : Int) - 1) (p + 40) 0 ns := by
        refine ⟨⟨p1, by omega, hr1.kept ⟨rfl, rfl, rfl, by simp, fun k hk => hbl k (by omega)⟩⟩, ⟨hS.grew.os, hS.grew.tape, hS.grew.output, by simpa using hS.grew.size, fun k hk hne => (hbl k (by omega)).trans (hS.grew.block k hk hne)⟩, (hbl _ (by omega)).trans hS.l2, l3', hG, rfl, fun j n _ hj => ?_, fun j hj B2 k d h1 b hb => ?_, by simpa using hS.size, hgB, hS.n1, hS.n2, hS.n3, hS.nr, Sav.plain hS.plain⟩
        · have hjl := (List.getElem?_eq_some_iff.1 hj).1
          obtain ⟨a, b, c, _, _⟩ := hS.plain n (List.mem_of_getElem? hj)
          exact ⟨a, b, c, hnils j hjl⟩
        · rw [hnils j hj] at h1
          injection h1 with h1
          injection h1 with h1 _ _
          rw [← h1] at hb
          cases hb
      have HL := hide hL
      have f1 := hS.l3.frozen 1
      generalize hlen : ns.length = len at HL h1l hn10 e0
      clear hL hG hXrow hnils hbl l3' hr1 hS HS hnk Hkn
      go_wp2_with fail
      generalize wr.setCell ⟨w.heap.size + 1, 1, none⟩ (.int .i64 ((len : Int) - 1)) = X at HL ⊢
      clear e0 e1 f0 f1
      rw [show ((0 : Nat) : Int) = 0 from rfl]
      go_loopw [5] (fun iv wr' => ∃ (i : Nat) (ms : List Nd), i ≤ len ∧ iv = .int .i64 i ∧ L2S w wr' rb B w.heap.size (w.heap.size + 1) nb cb gn cn len A ((len : Int) - 1) (p + 40 + 9 * i) i ms) (fun iv _ => len - (intOf iv).toNat)
      case atStart => exact ⟨0, ns, Nat.zero_le _, rfl, by simpa using HL.out⟩
      case round =>
        clear HL
        obtain ⟨i, ms, hil, rfl, hT⟩ := hrel
        have e0 := hT.l3.cell 0
        have e1 := hT.l3.cell 1
        simp at e0 e1
        have hms := hide hT.hlen
        have HT := hide hT
        obtain ⟨p1, hp1, hr1⟩ := hT.rd
        by_cases hlt : i < len
        · obtain ⟨m, hm⟩ : ∃ m, ms[i]? = some m := ⟨_, List.getElem?_eq_getElem (by have := hms.out; omega)⟩
          obtain ⟨hk, ha, hb, hnil⟩ := hT.rest i m (Nat.le_refl _) hm
          have hm' : ms[i]? = some ⟨m.kind, m.value, []⟩ := by rw [hm, ← hk]
          have hcall := addKids_any rb A nb cb p1 gn cn i ((len : Int) - 1) m.kind m.value ms wr hr1 (by omega) hT.gen (by have := hT.gnB; omega) hm' ha hb hnil
          rw [hms.out] at hcall
          have Hcall := hide hcall
          have hi1 : (i : Int) < (len : Int) := by omega
          clear hcall hm' hnil hm hk ha hb hr1 hT
          go_wp2_with fail
          refine Hcall.out.mono ?_
          intro e w5 hkd
          obtain ⟨rfl, n', hS5, l3y⟩ := HT.out.kids hlt hkd (by omega)
          have HS5 := hide hS5
          have a0 := l3y.cell 0
          have a1 := l3y.cell 1
          have c0 := l3y.frozen 0
          have c1 := l3y.frozen 1
          simp at a0 a1
          clear hkd hS5 Hcall HT l3y e0 e1
          go_wp2
          go_roundw
          case rel => exact ⟨i + 1, ms.set i n', by omega, by go_num, by rw [show p + 40 + 9 * (i + 1) = p + 40 + 9 * i + 9 by omega]; exact HS5.out⟩
          case measure => simp [intOf]; omega
        · obtain rfl : i = len := by omega
          clear hT
          go_wp2_with fail
          refine (pick_any rb A nb cb p1 3 wr hr1 (by omega) (by omega)).mono ?_
          rintro e w5 ⟨⟨y, rfl, hy, _⟩, hr5, ht5⟩
          have HT5 := hide (HT.out.turn (P' := p + 199) ht5 hr5 (by omega))
          have e0 := HT5.out.l3.cell 0
          have e1 := HT5.out.l3.cell 1
          simp at e0 e1
          clear HT ht5 hr1 hy hms
          by_cases hy0 : y = 0
          · subst hy0
            go_wp2_with fail
            refine (pick_any rb A nb cb (p1 + 1) (i : Int) w5 hr5 (by omega) (by omega)).mono ?_
            rintro e w6 ⟨⟨z, rfl, hz, _⟩, hr6, ht6⟩
            have hzl : (z : Int) < (i : Int) := hz (by omega)
            have HT6 := hide (HT5.out.turn (P' := p + 200) ht6 hr6 (by omega))
            have e0 := HT6.out.l3.cell 0
            have e1 := HT6.out.l3.cell 1
            have g1 := HT6.out.l3.frozen 1
            simp at e0 e1
            have HT7 := hide (HT6.out.root (z : Int))
            clear HT5 HT6 ht6 hr5 hr6 hz
            have l2f := (HT7.out.l2.set 0 (.slice (some ⟨gn, 0, none⟩) i cn)).set 1 (.int .i64 (z : Int))
            simp only [jA, jC, jB] at l2f
            have s0 := l2f.cell 0
            have s1 := l2f.cell 1
            simp only [jD, jE, jF] at s0 s1
            have b0 := HT7.out.l2.cell 0
            have b1 := HT7.out.l2.cell 1
            have c0 := HT7.out.l2.frozen 0
            have c1 := HT7.out.l2.frozen 1
            have d0 := HT7.out.l3.cell 0
            have d1 := HT7.out.l3.cell 1
            simp only [jD, jE, jF] at b0 b1 d0 d1
            have hfin := hide (HT7.out.res (by omega) (by omega) (by constructor <;> omega) (by omega) (by omega) (.slice (some ⟨gn, 0, none⟩) i cn) (.int .i64 (z : Int)))
            clear l2f
            go_wp2
            refine bodyPost_ret (v := .agg #[.slice (some ⟨gn, 0, none⟩) i cn, .int .i64 (z : Int)]) (by simp [results, Tryd.results22, go_sem, s0, s1]) rfl ?_
            exact hfin.out
          · have hyn : ¬ (y : Int) = 0 := by omega
            have HT7 := hide (HT5.out.turn (P' := p + 200) (Turn.refl rb w5) hr5 (by omega))
            clear HT5
            have l2f := (HT7.out.l2.set 0 (.slice (some ⟨gn, 0, none⟩) i cn)).set 1 (.int .i64 ((i : Int) - 1))
            simp only [jA, jC, jB] at l2f
            have s0 := l2f.cell 0
            have s1 := l2f.cell 1
            simp only [jD, jE, jF] at s0 s1
            have b0 := HT7.out.l2.cell 0
            have b1 := HT7.out.l2.cell 1
            have c0 := HT7.out.l2.frozen 0
            have c1 := HT7.out.l2.frozen 1
            have d0 := HT7.out.l3.cell 0
            have d1 := HT7.out.l3.cell 1
            simp only [jD, jE, jF] at b0 b1 d0 d1
            have hfin := hide (HT7.out.res (by omega) (by omega) (by constructor <;> omega) (by omega) (by omega) (.slice (some ⟨gn, 0, none⟩) i cn) (.int .i64 ((i : Int) - 1)))
            clear l2f
            go_wp2
            refine bodyPost_ret (v := .agg #[.slice (some ⟨gn, 0, none⟩) i cn, .int .i64 ((i : Int) - 1)]) (by simp [results, Tryd.results22, go_sem, s0, s1]) rfl ?_
            exact hfin.out
    · have hkp : (0 : Int) < (k : Int) := by omega
      obtain ⟨p1, hp1, hr1⟩ := hS.rd
      have hrd := hr1.drew
      have HSd : Hid (MkS w wr.drew rb B w.heap.size (w.heap.size + 1) nb cb A (p + 1 + 3 * ns.length) ns An cn) := HS.out.step (Grew.of_below (Below.refl _ _).drew) hrd hp1
      have hsn := hide (fun X : World => fun h : Rd X rb A nb cb p1 => someNode_any rb A nb cb p1 X h (by omega))
      have hn3 := hS.n3
      have hsB := hS.size
      clear hS hr1
      go_wp2_with fail
      go_region_law (first
        | (go_simp; go_at_call 39; refine (hsn.out _ hrd).mono ?_; rintro e w5 ⟨kd, v, p5, rfl, hkd0, hkd5, hv0, hv9, hp5, hr5, hG5⟩; dsimp only
           have S5 := HSd.out.step (P' := p + 1 + 3 * (ns.length + 1)) hG5 hr5 (by omega)
           have S6 := S5.step (w5 := w5.alloc (.cells #[.int .i64 kd, .int .i64 v, .slice none 0 0] 73)) (P' := p + 1 + 3 * (ns.length + 1)) (Grew.of_below ((Below.refl _ _).alloc (Nat.le_refl _) _)) (hr5.below ((Below.refl _ _).alloc (Nat.le_refl _) _)) (by omega)
           have z0 := S5.l3.cell 0; have z1 := S5.l3.cell 1
           have hl5 := S5.l3.lt; have hs5 := S5.size
           simp at z0 z1
           have HS6 := hide S6
           have hne : Hid (some (w.heap.size + 1) ≠ (Value.slice An ns.length cn).ownBlock) := fun e => by have : B ≤ w.heap.size + 1 := (World.ownsRow.lt S6.row _ e.symm).1; omega
           clear S5 S6 hG5 hr5)
        | (refine step_append_lies _ (by rfl) _ _ _ (by rfl) B 73 i0 _ 3 40 Tryd.underlying47 hi0 hz0 hz1 hz2 rfl (by omega) (.slice An ns.length cn) ns.length (flatN ns) (by rfl) HS6.out.row ⟨w5.heap.size, 0, none⟩ 1 1 [.int .i64 kd, .int .i64 v, .slice none 0 0] (by rfl) (by rfl) (World.news_of_block (cs := #[.int .i64 kd, .int .i64 v, .slice none 0 0]) (t := 73) (fr := (0, 0)) (heap_alloc_new w5 _)) (by simp [Value.oneCell']) (by omega) (by unfold maxLen; omega) (by omega) (by simp; omega) (w5.heap.size + 1) (by simp) ?_; intro gg cap w6 hown6 hg6 hat6 hlt6
           have s1 : w6.cell? ⟨w.heap.size + 1, 0, none⟩ = some (.slice An ns.length cn) := (hg6.cell_far _ (by simp; omega) hne.out).trans ((HS6.out.l3.cell 0).trans (by simp))
           have s2 : w6.frozen? ⟨w.heap.size + 1, 0, none⟩ = false := (hg6.frozen_far _ (by simp; omega) hne.out).trans (HS6.out.l3.frozen 0)))
      all_goals
        have hfin := hide (HS6.out.app hkd0 hkd5 hv0 hv9 hg6 hown6)
        clear s1 s2 hown6 hg6 hat6 z0 z1 e0 e1 f0
        go_wp2
        go_roundw
        case rel => exact ⟨k - 1, ns ++ [⟨kd, v, []⟩], _, _, by have := Hkn.out; simp; omega, by go_num, by have := hfin.out; simpa using this⟩
        case measure => simp [intOf]; omega
end Go.Proofs.YtbihgafkmmcjlaaDoor
