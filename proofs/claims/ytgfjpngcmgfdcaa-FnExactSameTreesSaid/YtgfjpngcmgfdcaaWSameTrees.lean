/- The walk of FnExactSameTrees. -/
import Derived.Test.YtgfjpngcmgfdcaaImplSame2
import Derived.Test.YtgfjpngcmgfdcaaSz
import Derived.Test.YtgfjpngcmgfdcaaTo
import Derived.Test.YtgfjpngcmgfdcaaEqIt
namespace Go.Proofs.Ytgfjpngcmgfdcaa
open Go.ChangeShapes Go.WideShapes Go.ChangeAt Go.RowKit
set_option linter.unusedVariables false

set_option maxRecDepth 100000 in
set_option maxHeartbeats 1600000 in
theorem fnExactSameTrees_walk (a : Option Addr) (n c : Nat) (l : List It) (a' : Option Addr) (n' c' : Nat) (l' : List It) (w : World) (h : ItsAt w a n c l) (h' : ItsAt w a' n' c' l') :
    Calls Try.prog 11 #[.slice a n c, .slice a' n' c'] w fun e w' => e = .returned (.bool true) ∧ Below w.heap.size w w' := by
  obtain ⟨bb, hbb⟩ : ∃ bb : Bool, bb = true ↔ l = l' := by
    by_cases e : l = l'
    · exact ⟨true, iff_of_true rfl e⟩
    · exact ⟨false, iff_of_false (by decide) e⟩
  have H := Lib.hid h
  have H' := Lib.hid h'
  have HBB := Lib.hid hbb
  clear h h' hbb
  go_enter Try.func11, Try.ntmps11
  go_wp2_with fail
  refine (szItemS_any a n c l _ _ (by omega) (by omega) H.out).mono ?_
  rintro e w1 ⟨r1, hr1, rfl, hb1⟩
  rcases hr1 with rfl | ⟨hr0, hr1, hsm⟩
  · go_wp2
    go_ret
    exact ⟨rfl, hb1⟩
  have HSM := Lib.hid hsm
  clear hsm
  go_wp2_with fail
  refine (szItemS_any a' n' c' l' _ _ hr0 hr1 (H'.out.below hb1)).mono ?_
  rintro e w2 ⟨r2, hr2, rfl, hb2⟩
  have hb2 := below_then hb1 hb2
  rcases hr2 with rfl | ⟨hr20, hr21, hsm2⟩
  · go_wp2
    go_ret
    exact ⟨rfl, hb2⟩
  have HSM2 := Lib.hid hsm2
  clear hsm2 hb1
  go_wp2_with fail
  refine (toItemS_any a n c l _ HSM.out (H.out.below hb2)).mono ?_
  rintro e w3 ⟨a3, n3, c3, rfl, h3, hb3⟩
  have H3 := Lib.hid h3
  have hbb3 := below_then hb2 hb3
  clear h3 hb2
  go_wp2_with fail
  refine (toItemS_any a' n' c' l' _ HSM2.out (H'.out.below hbb3)).mono ?_
  rintro e w4 ⟨a4, n4, c4, rfl, h4, hb4⟩
  have H4 := Lib.hid h4
  have hbb4 := below_then hbb3 hb4
  clear h4 hbb3 hb3
  go_wp2_with fail
  refine (specSameTrees_any a3 a4 n3 n4 c3 c4 l l' _ bb HBB.out (H3.out.below hb4) H4.out).mono ?_
  rintro e w5 ⟨rfl, nd, rfl⟩
  have hbb5 := below_drewN hbb4 nd
  clear hb4 hbb4
  go_wp2_with fail
  refine (toItemS_any a n c l _ HSM.out (H.out.below hbb5)).mono ?_
  rintro e w6 ⟨a6, n6, c6, rfl, h6, hb6⟩
  have H6 := Lib.hid h6
  have hbb6 := below_then hbb5 hb6
  clear h6 hb6 hbb5
  go_wp2_with fail
  refine (toItemS_any a' n' c' l' _ HSM2.out (H'.out.below hbb6)).mono ?_
  rintro e w7 ⟨a7, n7, c7, rfl, h7, hb7⟩
  have H7 := Lib.hid h7
  have H67 := Lib.hid (H6.out.below hb7)
  have hbb7 := below_then hbb6 hb7
  clear h7 hb7 hbb6
  go_wp2_with fail
  refine (implSameTrees_any a6 a7 n6 n7 c6 c7 l l' _ bb HBB.out H67.out H7.out).mono ?_
  rintro e w8 ⟨rfl, hb8⟩
  have H68 := Lib.hid (H67.out.below hb8)
  have H78 := Lib.hid (H7.out.below hb8)
  have hbb8 := below_then hbb7 hb8
  clear hb8 hbb7
  have q1 : (bb != bb) = false := by simp
  cases bb
  all_goals
    go_wp2_with fail
    refine (toItemS_any a n c l _ HSM.out (H.out.below hbb8)).mono ?_
    rintro e w9 ⟨a9, n9, c9, rfl, h9, hb9⟩
    have H9 := Lib.hid h9
    have H69 := Lib.hid (H68.out.below hb9)
    have H79 := Lib.hid (H78.out.below hb9)
    have hbb9 := below_then hbb8 hb9
    clear h9 hb9
    go_wp2_with fail
    refine (eqItemS_true a6 a9 n6 n9 c6 c9 l _ H69.out H9.out).mono ?_
    rintro e w10 ⟨rfl, hb10⟩
    have H710 := Lib.hid (H79.out.below hb10)
    have hbb10 := below_then hbb9 hb10
    clear hb10
    go_wp2_with fail
    refine (toItemS_any a' n' c' l' _ HSM2.out (H'.out.below hbb10)).mono ?_
    rintro e w11 ⟨a11, n11, c11, rfl, h11, hb11⟩
    have H11 := Lib.hid h11
    have H711 := Lib.hid (H710.out.below hb11)
    have hbb11 := below_then hbb10 hb11
    clear h11 hb11
    go_wp2_with fail
    refine (eqItemS_true a7 a11 n7 n11 c7 c11 l' _ H711.out H11.out).mono ?_
    rintro e w12 ⟨rfl, hb12⟩
    go_wp2
    go_ret
    exact ⟨rfl, below_then hbb11 hb12⟩
end Go.Proofs.Ytgfjpngcmgfdcaa
