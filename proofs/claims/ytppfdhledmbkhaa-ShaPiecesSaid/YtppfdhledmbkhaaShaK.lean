/- What sha.constants, sha.beginning and the document's own constants return. No condition. -/
import Derived.Test.YtppfdhledmbkhaaShaC
namespace Go.Proofs.Ytppfdhledmbkhaa
open Go.RowKit

theorem info64k : (Try.prog.info? 39).map (·.size) = some (nums .u32 kks).size := info64 kks rfl
theorem info8s : (Try.prog.info? 30).map (·.size) = some (nums .u32 s0.list).size := info8 s0.list rfl

set_option maxHeartbeats 1600000 in
set_option maxRecDepth 100000 in
theorem constants_any (w : World) : Calls Try.prog 27 #[] w fun e w' => e = .returned (.agg (nums .u32 kks)) ∧ Below w.heap.size w w' := by
  go_enter Try.func27, Try.ntmps27
  go_wp2_with (refine wpList_store_row rfl 39 (.tmp 0) (.tmp 1) rfl w.heap.size (nums .u32 kks) rfl rfl _ _ (Arr.new _ _ _) info64k rfl (nums_one _ _) ?_)
  exact bodyPost_ret (v := .agg (nums .u32 kks)) (results_cell_row rfl _ _ w.heap.size _ _ _ _ rfl ((Arr.new _ _ _).row _) Try.underlying39 rfl info64k) rfl ⟨rfl, below_setRow ((Below.refl _ _).alloc (Nat.le_refl _) _) (Nat.le_refl _) _⟩

set_option maxHeartbeats 1600000 in
set_option maxRecDepth 100000 in
theorem refconstants_any (w : World) : Calls Try.prog 13 #[] w fun e w' => e = .returned (.agg (nums .u32 kks)) ∧ Below w.heap.size w w' := by
  go_enter Try.func13, Try.ntmps13
  go_wp2_with (refine wpList_store_row rfl 39 (.tmp 0) (.tmp 1) rfl w.heap.size (nums .u32 kks) rfl rfl _ _ (Arr.new _ _ _) info64k rfl (nums_one _ _) ?_)
  exact bodyPost_ret (v := .agg (nums .u32 kks)) (results_cell_row rfl _ _ w.heap.size _ _ _ _ rfl ((Arr.new _ _ _).row _) Try.underlying39 rfl info64k) rfl ⟨rfl, below_setRow ((Below.refl _ _).alloc (Nat.le_refl _) _) (Nat.le_refl _) _⟩

set_option maxHeartbeats 1600000 in
set_option maxRecDepth 100000 in
theorem beginning_any (w : World) : Calls Try.prog 21 #[] w fun e w' => e = .returned (.agg (nums .u32 s0.list)) ∧ Below w.heap.size w w' := by
  go_enter Try.func21, Try.ntmps21
  go_wp2_with (refine wpList_store_row rfl 30 (.tmp 0) (.tmp 1) rfl w.heap.size (nums .u32 s0.list) rfl rfl _ _ (Arr.new _ _ _) info8s rfl (nums_one _ _) ?_)
  exact bodyPost_ret (v := .agg (nums .u32 s0.list)) (results_cell_row rfl _ _ w.heap.size _ _ _ _ rfl ((Arr.new _ _ _).row _) Try.underlying30 rfl info8s) rfl ⟨rfl, below_setRow ((Below.refl _ _).alloc (Nat.le_refl _) _) (Nat.le_refl _) _⟩

end Go.Proofs.Ytppfdhledmbkhaa
