/- The walk of FnExactReadString. -/
import Derived.Test.YtmgemchpclmknaaDoorReadString2
namespace Go.Proofs.YtmgemchpclmknaaDoor
open Go.ChangeShapes Go.WideShapes Go.ChangeAt Go.RowKit
set_option linter.unusedVariables false

set_option maxHeartbeats 1600000 in
theorem fnExactReadString_walk (a : Option Addr) (n c : Nat) (xs : List Int) (w : World) (hr : InRow w a n c xs) (hT : Tabs w) (sa : Addr) (hs : Sent w sa) :
    Calls Tryd.prog 9 #[.slice a n c] w fun e w' => e = .returned (.bool true) ∧ Below w.heap.size w w' := by
  have hmx := hr.max
  by_cases hn : n ≤ 1048576
  · have KT := Lib.hid (fun (W : World) (hW : Below w.heap.size w W) => toByteS_any a n c xs W hn (hr.below hW))
    have HBY := Lib.hid hr.byte
    have HS := Lib.hid hs
    have HT := Lib.hid hT
    have HLN := Lib.hid hr.len
    clear hr hs hT
    unfold maxLen at hmx
    go_enter Tryd.func9, Tryd.ntmps9
    go_wp2_with fail
    refine (KT.out _ (Below.refl _ _)).mono ?_
    rintro e w1 ⟨a1, n1, c1, rfl, ho1, hb1⟩
    have R1 := Lib.hid (Row.of_owns ho1)
    have L1 := Lib.hid (owns_length ho1)
    have B1 := Lib.hid hb1
    clear ho1 hb1
    go_wp2_with fail
    refine (specReadString_any a1 n1 c1 xs _ L1.out R1.out HBY.out).mono ?_
    generalize hcd : scode xs = cd
    generalize hvn : stxt xs = v
    generalize hvk : ssz xs = k
    have E := Lib.hid (And.intro hcd (And.intro hvn hvk))
    clear hcd hvn hvk
    rintro e w2 ⟨rfl, hb2⟩
    have B2 := Lib.hid (below_then B1.out hb2)
    clear hb2
    go_wp2_with fail
    refine (KT.out _ (B2.out.alloc B2.out.size _)).mono ?_
    rintro e w3 ⟨a3, n3, c3, rfl, ho3, hb3⟩
    have V3 := (Var3.new w2 44 (.int .i64 cd) (.string v) (.int .i64 k)).below hb3
    have R3 := Lib.hid (Row.of_owns ho3)
    have L3 := Lib.hid (owns_length ho3)
    have B3 := Lib.hid (below_then (B2.out.alloc B2.out.size _) hb3)
    clear ho3 hb3
    go_wp2_with fail
    refine (implReadString_any a3 n3 c3 xs _ sa (HS.out.kept B3.out) (tabs_kept HT.out B3.out) L3.out R3.out HBY.out).mono ?_
    rw [E.out.1, E.out.2.1, E.out.2.2]
    rintro e w4 ⟨rfl, hb4⟩
    have V4 := V3.below hb4
    have R4 := Lib.hid (R3.out.below hb4)
    have B4 := Lib.hid (below_then B3.out hb4)
    clear V3 R3 hb4
    have q0 := V4.lt
    have q1 := V4.c0
    have q2 := V4.c1
    have q3 := V4.c2
    go_wp2_with fail
    refine (eqStringTrue cd k v _).mono ?_
    rintro e w5 ⟨rfl, hb5⟩
    have R5 := Lib.hid (R4.out.below (below_then (below1 _ _) hb5))
    have B5 := Lib.hid (below_then (B4.out.alloc B4.out.size _) hb5)
    clear V4 q0 q1 q2 q3 R4 hb5
    go_wp2_with fail
    refine (KT.out _ B5.out).mono ?_
    rintro e w6 ⟨a6, n6, c6, rfl, ho6, hb6⟩
    have R6 := Lib.hid (R5.out.below hb6)
    have R6' := Lib.hid (Row.of_owns ho6)
    have B6 := Lib.hid (below_then B5.out hb6)
    clear ho6 hb6
    go_wp2_with fail
    refine (eqByteS_any _ _ xs xs _ R6.out R6'.out).mono ?_
    rw [decide_eq_true rfl]
    rintro e w7 ⟨rfl, nd, rfl⟩
    go_wp2
    go_ret
    exact ⟨rfl, below_drewN B6.out _⟩
  · unfold maxLen at hmx
    go_enter Tryd.func9, Tryd.ntmps9
    go_wp2
    go_ret
    exact ⟨rfl, Below.refl _ _⟩
end Go.Proofs.YtmgemchpclmknaaDoor
