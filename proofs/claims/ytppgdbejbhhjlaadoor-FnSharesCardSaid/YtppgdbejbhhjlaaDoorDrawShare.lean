/- The draws of FnShares. -/
import Derived.Test.YtppgdbejbhhjlaaDoorDrawTop
namespace Go.Proofs.YtppgdbejbhhjlaaDoor
open Go.ChangeShapes Go.WideShapes Go.ChangeAt Go.RowKit
set_option linter.unusedVariables false

theorem drawThousandthsOf_any (a : Option Addr) (n c : Nat) (xs : List Int) (w : World) (h : CodeAt w a n c xs) :
    Calls Tryd.prog 7 #[.slice a n c] w (TopInt w) := by
  have HC := Lib.hid h
  clear h
  go_enter Tryd.func7, Tryd.ntmps7
  go_wp2_with fail
  refine (source_any HC.out).mono ?_
  rintro e w1 ⟨rfl, hs, hb⟩
  have hz := hs.lt
  have HS := Lib.hid hs
  have HB := Lib.hid hb
  clear hs hb
  go_wp2_with fail
  refine (l1Pick_any w.heap.size a n c xs 0 w1.heap.size 7 _ rfl (by decide) (by decide) (by decide) _ (HS.out.alloc _) (lit_row w1 _ .i64 [0, 1, 64, 126, 127, 128, -1] 7 rfl (by decide)) (by omega)).mono ?_
  rintro e w2 ⟨r, rfl, _, _, hg⟩
  have HG := Lib.hid (below_step (HB.out.alloc HB.out.size _) hg (Nat.le_refl _))
  clear hg
  go_wp2
  go_ret
  exact ⟨r, rfl, HG.out⟩
theorem drawPriorityOf_any (a : Option Addr) (n c : Nat) (xs : List Int) (w : World) (h : CodeAt w a n c xs) :
    Calls Tryd.prog 9 #[.slice a n c] w (TopInt w) := by
  have HC := Lib.hid h
  clear h
  go_enter Tryd.func9, Tryd.ntmps9
  go_wp2_with fail
  refine (source_any HC.out).mono ?_
  rintro e w1 ⟨rfl, hs, hb⟩
  have hz := hs.lt
  have HS := Lib.hid hs
  have HB := Lib.hid hb
  clear hs hb
  go_wp2_with fail
  refine (l1Pick_any w.heap.size a n c xs 0 w1.heap.size 9 _ rfl (by decide) (by decide) (by decide) _ (HS.out.alloc _) (lit_row w1 _ .i64 [0, 1, 7, 8, 500, 999, 1000, 1001, -1] 9 rfl (by decide)) (by omega)).mono ?_
  rintro e w2 ⟨r, rfl, _, _, hg⟩
  have HG := Lib.hid (below_step (HB.out.alloc HB.out.size _) hg (Nat.le_refl _))
  clear hg
  go_wp2
  go_ret
  exact ⟨r, rfl, HG.out⟩
end Go.Proofs.YtppgdbejbhhjlaaDoor
