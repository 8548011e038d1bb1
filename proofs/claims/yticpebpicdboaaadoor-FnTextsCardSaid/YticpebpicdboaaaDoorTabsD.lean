/- utf8's two tables (where XIter is not wanted). -/
import Derived.Test.YticpebpicdboaaaDoorBase
import Derived.Test.YticpebpicdboaaaDoorShelf
namespace Go.Proofs.YticpebpicdboaaaDoor
abbrev Tabs (w : World) : Prop := Lib.Utf8Tabs 1 2 w
end Go.Proofs.YticpebpicdboaaaDoor
