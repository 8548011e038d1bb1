/- l1Chance. -/
import Derived.Test.YticpebpicdboaaaDoorDraw
namespace Go.Proofs.YticpebpicdboaaaDoor
open Go.ChangeShapes Go.WideShapes Go.ChangeAt Go.RowKit
set_option linter.unusedVariables false
theorem l1Chance_any (b : Nat) (a : Option Addr) (n c : Nat) (xs : List Int) (k : Nat) (m : Int) (hm0 : 1 ≤ m) (hm : m ≤ 1000000000) (hk : k < 1000000) (w : World) (h : Src w b a n c xs k) :
    Calls Tryd.prog 20 #[.pointer (some ⟨b, 0, none⟩), .int .i64 m] w fun en w' => (∃ t : Bool, en = .returned (.bool t)) ∧ Src w' b a n c xs (k + 1) ∧ w.grownBy w' (some b) := by
  have K := Lib.hid (l1Next_any b a n c xs k m hm0 hm hk w h)
  clear h
  go_enter Tryd.func20, Tryd.ntmps20
  go_wp2_with fail
  refine K.out.mono ?_
  rintro e w1 ⟨r, rfl, hr, hs, hg⟩
  have HS := Lib.hid hs
  have HG := Lib.hid hg
  clear hs hg hr
  go_wp2
  go_ret
  exact ⟨⟨_, rfl⟩, HS.out, HG.out⟩

end Go.Proofs.YticpebpicdboaaaDoor
