import Derived.Test.YtbihgafkmmcjlaaDoorPjAl
import Derived.Test.YtbihgafkmmcjlaaDoorShpUb
import Derived.Test.YtbihgafkmmcjlaaDoorShpUc
import Derived.Test.YtbihgafkmmcjlaaDoorShpUe
import Derived.Test.YtbihgafkmmcjlaaDoorShpUf
import Derived.Test.YtbihgafkmmcjlaaDoorShpUh
namespace Go.Proofs.YtbihgafkmmcjlaaDoor
open Go.RowKit
theorem stepShapes_any (p : ShPtr) (s : Shp) (o : Od) (base : Nat) (w : World) (h : ShOwn w base p s) (hbase : base ≤ w.heap.size) (hs : s.Small) (ho : OdOk o) :
    Calls Tryd.prog 33 #[shVal p s, .agg #[.int .i64 o.code, .int .i64 o.arg]] w (TriesSh w p base (stepShp s o)) := by
  obtain ⟨cd, ar⟩ := o
  obtain ⟨hc, ha⟩ := ho
  dsimp only at hc ha ⊢
  cases hd : s.done with
  | true => exact stepShapes_done p s cd ar hd base w h hbase hs
  | false =>
    have h20 : cd = 0 ∨ cd = 1 ∨ cd = 2 ∨ cd = 3 ∨ cd = 4 ∨ cd = 5 ∨ cd = 6 ∨ cd = 7 ∨ cd = 8 ∨ cd = 9 ∨ cd = 10 ∨ cd = 11 ∨ cd = 12 ∨ cd = 13 ∨ cd = 14 ∨ cd = 15 ∨ cd = 16 ∨ cd = 17 ∨ cd = 18 ∨ cd = 19 := by omega
    clear hc
    rcases h20 with rfl | rfl | rfl | rfl | rfl | rfl | rfl | rfl | rfl | rfl | rfl | rfl | rfl | rfl | rfl | rfl | rfl | rfl | rfl | rfl
    · exact stepShapes_new p s 0 0 ar hd (by decide) (by omega) (by omega) (by simp [stepFree, hd, newK]) base w h hbase hs
    · exact stepShapes_new p s 1 1 ar hd (by decide) (by omega) (by omega) (by simp [stepFree, hd, newK]) base w h hbase hs
    · exact stepShapes_2 p s ar hd base w h hbase hs
    · exact stepShapes_3 p s ar hd base w h hbase hs
    · exact stepShapes_new p s 4 2 ar hd (by decide) (by omega) (by omega) (by simp [stepFree, hd, newK]) base w h hbase hs
    · exact stepShapes_take p s 5 ar hd (by unfold IsTakeOp; simp) (by intro h; simp at h) base w h hbase hs
    · exact stepShapes_take p s 6 ar hd (by unfold IsTakeOp; simp) (by intro h; simp at h) base w h hbase hs
    · exact stepShapes_new p s 7 3 ar hd (by decide) (by omega) (by omega) (by simp [stepFree, hd, newK]) base w h hbase hs
    · exact stepShapes_take p s 8 ar hd (by unfold IsTakeOp; simp) (by intro h; simp at h) base w h hbase hs
    · exact stepShapes_9 p s ar hd base w h hbase hs
    · exact stepShapes_new p s 10 4 ar hd (by decide) (by omega) (by omega) (by simp [stepFree, hd, newK]) base w h hbase hs
    · exact stepShapes_take p s 11 ar hd (by unfold IsTakeOp; simp) (by intro h; simp at h) base w h hbase hs
    · exact stepShapes_12 p s ar hd base w h hbase hs
    · exact stepShapes_new p s 13 5 ar hd (by decide) (by omega) (by omega) (by simp [stepFree, hd, newK]) base w h hbase hs
    · exact stepShapes_take p s 14 ar hd (by unfold IsTakeOp; simp) (by intro h; simp at h) base w h hbase hs
    · exact stepShapes_take p s 15 ar hd (by unfold IsTakeOp; simp) (fun _ => by simp [argMost] at ha; omega) base w h hbase hs
    · exact stepShapes_16 p s ar hd (by simp [argMost] at ha; omega) base w h hbase hs
    · exact stepShapes_take p s 17 ar hd (by unfold IsTakeOp; simp) (by intro h; simp at h) base w h hbase hs
    · exact stepShapes_18 p s ar hd base w h hbase hs
    · exact stepShapes_take p s 19 ar hd (by unfold IsTakeOp; simp) (by intro h; simp at h) base w h hbase hs
end Go.Proofs.YtbihgafkmmcjlaaDoor
