/- The draws of FnNumbers. -/
import Derived.Test.YtpafknmfacgccaaDoorDrawTop
namespace Go.Proofs.YtpafknmfacgccaaDoor
open Go.ChangeShapes Go.WideShapes Go.ChangeAt Go.RowKit
set_option linter.unusedVariables false

theorem drawNumberText_any (a : Option Addr) (n c : Nat) (xs : List Int) (w : World) (h : CodeAt w a n c xs) :
    Calls Tryd.prog 8 #[.slice a n c] w (TopInt w) := by
  have HC := Lib.hid h
  clear h
  go_enter Tryd.func8, Tryd.ntmps8
  go_wp2_with fail
  refine (source_any HC.out).mono ?_
  rintro e w1 ⟨rfl, hs, hb⟩
  have hz := hs.lt
  have HS := Lib.hid hs
  have HB := Lib.hid hb
  clear hs hb
  go_wp2_with fail
  refine (l1Pick_any w.heap.size a n c xs 0 w1.heap.size 9 _ rfl (by decide) (by decide) (by decide) _ (HS.out.alloc _) (lit_row w1 _ .i64 [0, 1, -1, 127, -128, 999, 1000, -999, -1000] 9 rfl (by decide)) (by omega)).mono ?_
  rintro e w2 ⟨r, rfl, _, _, hg⟩
  have HG := Lib.hid (below_step (HB.out.alloc HB.out.size _) hg (Nat.le_refl _))
  clear hg
  go_wp2
  go_ret
  exact ⟨r, rfl, HG.out⟩

theorem drawNumberOf_any (a : Option Addr) (n c : Nat) (xs : List Int) (w : World) (h : CodeAt w a n c xs) :
    Calls Tryd.prog 10 #[.slice a n c] w (TopText w 100) := by
  have HC := Lib.hid h
  clear h
  go_enter Tryd.func10, Tryd.ntmps10
  go_wp2_with fail
  refine (source_any (HC.out.below (below1 _ _))).mono ?_
  rintro e w1 ⟨rfl, hs, hb⟩
  have hw := words_of hb 100 14 (by decide +kernel)
  have hz := hb.size
  simp at hz
  have HB := Lib.hid (below_then (below1 w _) hb)
  rw [World.size_alloc] at hs
  have HS := Lib.hid hs
  have HW := Lib.hid hw
  clear hs hb hw
  go_wp2_with fail
  refine (l1Next_any _ a n c xs 0 14 (by decide) (by decide) (by decide) _ HS.out).mono ?_
  rintro e w2 ⟨r, rfl, hr, _, hg⟩
  have hr1 := hr (by decide)
  obtain ⟨s, hs, hsz⟩ := HW.out r (by omega)
  have hc : w2.cell? ⟨w.heap.size, r, none⟩ = some (.string s) := hg.cell hs (by simp)
  have HG := Lib.hid (below_step HB.out hg (by simp))
  have HZ := Lib.hid hsz
  clear hr hg hs hsz
  go_wp2
  go_ret
  exact ⟨s, rfl, HZ.out, HG.out⟩
end Go.Proofs.YtpafknmfacgccaaDoor
