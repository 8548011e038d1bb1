/- szPresence: what came in is small. -/
import Derived.Test.YtpafknmfacgccaaDoorPr
import Derived.Test.YtpafknmfacgccaaDoorSz
namespace Go.Proofs.YtpafknmfacgccaaDoor
open Go.ChangeShapes Go.WideShapes Go.ChangeAt Go.RowKit
set_option linter.unusedVariables false

set_option maxHeartbeats 800000 in
theorem szPresence_any (p : Pr) (a : Option Addr) (n c : Nat) (left : Int) (w : World) (h0 : 0 ≤ left) (h1 : left ≤ 1048576) (hp : PrSize p) (h : ItsAt w a n c p.more) :
    Calls Tryd.prog 16 #[.agg #[.int .i64 p.kind, .string p.sender, .string p.goal, .int .i64 p.shown, .string p.status, .int .i64 p.prio, .slice a n c], .int .i64 left] w (SzRes (Left left (SmallPr p)) w) := by
  obtain ⟨pk, pf, pt, ps, pu, pp, pm⟩ := p
  obtain ⟨s1, s2, s4⟩ := hp
  dsimp only at s1 s2 s4 h ⊢
  by_cases k1 : (pf.size : Int) ≤ left
  case neg =>
    clear h
    go_enter Tryd.func16, Tryd.ntmps16
    go_wp2
    go_ret
    exact SzRes.mk Left.no (below1 _ _)
  by_cases k2 : (pt.size : Int) ≤ left - pf.size
  case neg =>
    clear h
    go_enter Tryd.func16, Tryd.ntmps16
    go_wp2
    go_ret
    exact SzRes.mk Left.no (below1 _ _)
  by_cases k4 : (pu.size : Int) ≤ left - pf.size - pt.size
  case neg =>
    clear h
    go_enter Tryd.func16, Tryd.ntmps16
    go_wp2
    go_ret
    exact SzRes.mk Left.no (below1 _ _)
  have K := Lib.hid (fun o => szItemS_any a n c pm (left - pf.size - pt.size - pu.size) (w.alloc o) (by omega) (by omega) (h.below (below1 w o)))
  clear h
  go_enter Tryd.func16, Tryd.ntmps16
  go_wp2_with fail
  refine (K.out _).mono ?_
  rintro e w2 ⟨r, hr, rfl, hb2⟩
  have HB := Lib.hid (below_then (below1 w _) hb2)
  clear hb2
  rcases hr with rfl | ⟨hr0, hr1, hsm⟩
  · go_wp2
    go_ret
    exact SzRes.mk Left.no HB.out
  · have HSM := Lib.hid hsm
    clear hsm
    go_wp2
    go_ret
    exact SzRes.mk (Left.yes hr0 (by omega) ⟨⟨by show pf.size ≤ _; omega, by show pt.size ≤ _; omega, by show pu.size ≤ _; omega⟩, HSM.out⟩) HB.out
end Go.Proofs.YtpafknmfacgccaaDoor
