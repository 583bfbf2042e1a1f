/- HELPER, no statement of the seat: closed facts of the program, for every row alike. -/
import Derived.Test.YtifjenleoagefaaGreatRows
import Derived.WalkKit
import Derived.Carry
import Derived.ChangeOld
import Derived.Lib.SmallJoins
namespace Go.Proofs.YtifjenleoagefaaGreat
open Go.RowKit

set_option maxHeartbeats 4000000 in
theorem clo_laid : laidOutB Tryz.prog = true := by kernel_rfl
set_option maxHeartbeats 4000000 in
theorem clo_maps : mapsRowed Tryz.prog = true := by kernel_rfl
set_option maxHeartbeats 4000000 in
theorem clo_heard : Tryz.prog.stopsHeard = true := by kernel_rfl
set_option maxHeartbeats 4000000 in
theorem clo_enter : Tryz.prog.mayEnter = true := by kernel_rfl
set_option maxHeartbeats 4000000 in
theorem clo_plain0 : Tryz.prog.plainKeys = true := by kernel_rfl
set_option maxHeartbeats 4000000 in
theorem clo_lifts0 : Tryz.prog.liftsFinal = false := by kernel_rfl
theorem clo_plain (b : Bool) (h : b = true) : (b == Tryz.prog.plainKeys) = true := by rw [h, clo_plain0]; rfl
theorem clo_lifts (b : Bool) (h : b = false) : (b == Tryz.prog.liftsFinal) = true := by rw [h, clo_lifts0]; rfl
end Go.Proofs.YtifjenleoagefaaGreat
