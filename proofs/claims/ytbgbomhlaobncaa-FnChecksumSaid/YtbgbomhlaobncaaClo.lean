/- HELPER, no statement of the seat: closed facts of the program, for every row alike. -/
import Derived.Test.YtbgbomhlaobncaaRows
import Derived.WalkKit
import Derived.Carry
import Derived.ChangeOld
import Derived.Lib.SmallJoins
namespace Go.Proofs.Ytbgbomhlaobncaa
open Go.RowKit

set_option maxHeartbeats 4000000 in
theorem clo_laid : laidOutB Try.prog = true := by kernel_rfl
set_option maxHeartbeats 4000000 in
theorem clo_maps : mapsRowed Try.prog = true := by kernel_rfl
set_option maxHeartbeats 4000000 in
theorem clo_heard : Try.prog.stopsHeard = true := by kernel_rfl
set_option maxHeartbeats 4000000 in
theorem clo_enter : Try.prog.mayEnter = true := by kernel_rfl
set_option maxHeartbeats 4000000 in
theorem clo_plain0 : Try.prog.plainKeys = true := by kernel_rfl
set_option maxHeartbeats 4000000 in
theorem clo_lifts0 : Try.prog.liftsFinal = false := by kernel_rfl
theorem clo_plain (b : Bool) (h : b = true) : (b == Try.prog.plainKeys) = true := by rw [h, clo_plain0]; rfl
theorem clo_lifts (b : Bool) (h : b = false) : (b == Try.prog.liftsFinal) = true := by rw [h, clo_lifts0]; rfl
end Go.Proofs.Ytbgbomhlaobncaa
