/- Two facts of the frame: the program's main package, and that no goroutine is started. -/
import Derived.Test.YtmmicoiiklcakaaGreatDoorCards
import Derived.Test.YtmmicoiiklcakaaGreatDoorChecked
import Derived.SevenTiedAt
namespace Go.Proofs.YtmmicoiiklcakaaGreatDoor.fnExactCapsOf
theorem mains : Tryz.pinned.checked.prog.mainIs = some (true, "f3cdd2ea248f4c7d319543f7f93f618aab7250efbce2ec1228c775e38fe59bf8".toList) := by kernel_rfl
theorem goes : false = Rows.fnExactCapsOfRow.goesBy Tryz.pinned.checked.prog := by kernel_rfl
end Go.Proofs.YtmmicoiiklcakaaGreatDoor.fnExactCapsOf
