import Derived.Test.YtbihgafkmmcjlaaDoorShpTa
import Derived.Test.YtbihgafkmmcjlaaDoorShpTb
import Derived.Test.YtbihgafkmmcjlaaDoorShpTc
import Derived.Test.YtbihgafkmmcjlaaDoorShpTd
import Derived.Test.YtbihgafkmmcjlaaDoorShpTe
import Derived.Test.YtbihgafkmmcjlaaDoorShpTf
import Derived.Test.YtbihgafkmmcjlaaDoorShpTg
namespace Go.Proofs.YtbihgafkmmcjlaaDoor
open Go.RowKit
def IsTakeOp (c : Int) : Prop := c = 5 ∨ c = 6 ∨ c = 8 ∨ c = 11 ∨ c = 14 ∨ c = 15 ∨ c = 17 ∨ c = 19
theorem takeShapes_any (p : ShPtr) (s : Shp) (o : Od) (base : Nat) (w : World) (h : ShOwn w base p s) (hbase : base ≤ w.heap.size) (hs : s.Small) (hc : IsTakeOp o.code) (ha : o.code = 15 → 0 ≤ o.arg ∧ o.arg < 20) :
    Calls Tryd.prog 53 #[shVal p s, .agg #[.int .i64 o.code, .int .i64 o.arg]] w (TriesSh w p base (takeStep s o)) := by
  obtain ⟨cd, ar⟩ := o
  dsimp only at hc ha ⊢
  rcases hc with rfl | rfl | rfl | rfl | rfl | rfl | rfl | rfl
  · exact takeShapes_5 p s ar base w h hbase hs
  · exact takeShapes_6 p s ar base w h hbase hs
  · exact takeShapes_8 p s ar base w h hbase hs
  · exact takeShapes_11 p s ar base w h hbase hs
  · exact takeShapes_14 p s ar base w h hbase hs
  · exact takeShapes_15 p s ar base w h hbase hs (ha rfl)
  · exact takeShapes_17 p s ar base w h hbase hs
  · exact takeShapes_19 p s ar base w h hbase hs
end Go.Proofs.YtbihgafkmmcjlaaDoor
