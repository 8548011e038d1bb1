/- Two facts of the frame: the program's main package, and that no goroutine is started. -/
import Derived.Test.YticpebpicdboaaaGreatDoorCards
import Derived.Test.YticpebpicdboaaaGreatDoorChecked
import Derived.SevenTiedAt
namespace Go.Proofs.YticpebpicdboaaaGreatDoor.fnExactPresenceOf
theorem mains : Tryz.pinned.checked.prog.mainIs = some (true, "e7a8bd5b4c659b9a31a762ba0761641031c8db7552b21f7c371f10dd80a41322".toList) := by kernel_rfl
theorem goes : false = Rows.fnExactPresenceOfRow.goesBy Tryz.pinned.checked.prog := by kernel_rfl
end Go.Proofs.YticpebpicdboaaaGreatDoor.fnExactPresenceOf
