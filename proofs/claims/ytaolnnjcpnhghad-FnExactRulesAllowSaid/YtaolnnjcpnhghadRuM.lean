import Derived.Test.YtaolnnjcpnhghadMem
namespace Go.Proofs.Ytaolnnjcpnhghad
open Go.RowKit
structure Ru where
  steps : Int
  nodes : Int
  deep : Int
  cls : List Int
  deriving DecidableEq
structure Diff (xs : List Int) (m : Int) : Prop where
  rng : ∀ x ∈ xs, 0 ≤ x ∧ x ≤ m
  nd : xs.Nodup
structure RuOk (r : Ru) : Prop where
  s : 0 ≤ r.steps ∧ r.steps ≤ 300
  n : 0 ≤ r.nodes ∧ r.nodes ≤ 300
  d : 0 ≤ r.deep ∧ r.deep ≤ 300
  c : Diff r.cls 9
def ruCells (r : Ru) (A : Option Addr) (c : Nat) : Array Value := #[.int .i64 r.steps, .int .i64 r.nodes, .int .i64 r.deep, .slice A r.cls.length c]
def ruVal (r : Ru) (A : Option Addr) (c : Nat) : Value := .agg (ruCells r A c)
structure RuAt (w : World) (B : Nat) (A : Option Addr) (r : Ru) : Prop where
  c : IntsAt w B A r.cls
  s : In64 r.steps
  n : In64 r.nodes
  d : In64 r.deep
theorem RuAt.below {w w' : World} {B : Nat} {A : Option Addr} {r : Ru} (h : RuAt w B A r) (hb : Below B w w') : RuAt w' B A r := ⟨h.c.below hb, h.s, h.n, h.d⟩
theorem RuAt.more {w : World} {B B' : Nat} {A : Option Addr} {r : Ru} (h : RuAt w B A r) (hB : B ≤ B') : RuAt w B' A r := ⟨h.c.more hB, h.s, h.n, h.d⟩
theorem RuAt.later {w w' : World} {B : Nat} {A : Option Addr} {r : Ru} (h : RuAt w B A r) (hb : Below B w w') (hB : B ≤ w.heap.size) : RuAt w' w'.heap.size A r := (h.below hb).more (Nat.le_trans hB hb.size)
end Go.Proofs.Ytaolnnjcpnhghad
