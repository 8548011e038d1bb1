/- The walk of FnExactUnescapeText. -/
import Derived.Test.YtkpbamjmdcbflaaDoorSpecUn3
import Derived.Test.YtkpbamjmdcbflaaDoorImplUn
namespace Go.Proofs.YtkpbamjmdcbflaaDoor
open Go.ChangeShapes Go.WideShapes Go.ChangeAt Go.RowKit
set_option linter.unusedVariables false

theorem eqTextTrue (c : Int) (s : ByteArray) (w : World) :
    Calls Tryd.prog 6 #[.agg #[.int .i64 c, .string s], .agg #[.int .i64 c, .string s]] w fun e w' => e = .returned (.bool true) ∧ Below w.heap.size w w' := by
  go_enter Tryd.func6, Tryd.ntmps6
  go_wp2
  go_ret
  exact ⟨rfl, below2 _ _ _⟩

set_option maxHeartbeats 1600000 in
theorem fnExactUnescapeText_walk (s : ByteArray) (w : World) (hs : s.size ≤ maxLen) (hT : Tabs w) (sr : Addr) (hr : 4 < w.heap.size ∧ w.cell? ⟨4, 0, none⟩ = some (.iface 101 (.pointer (some sr)))) (sa : Addr) (hse : SynErr w sa) :
    Calls Tryd.prog 3 #[.string s] w fun e w' => e = .returned (.bool true) ∧ Below w.heap.size w w' := by
  have K1 := Lib.hid (specUnescape_any s hs w)
  have K2 := Lib.hid (fun W (hW : Below w.heap.size w W) => implUnescape_any s hs W (tabs_kept hT hW) sa (hse.kept hW))
  unfold ResT' at K1
  unfold ResT at K2
  generalize unCode s.data.toList = cd at K1 K2
  generalize bst (unText s.data.toList) = tx at K1 K2
  unfold maxLen at hs
  clear hT hse hr
  by_cases h : 1048576 < s.size
  · have h' : (1048576 : Int) < (s.size : Int) := by omega
    go_enter Tryd.func3, Tryd.ntmps3
    go_wp2
    go_ret
    exact ⟨rfl, Below.refl _ _⟩
  · have h' : (s.size : Int) ≤ 1048576 := by omega
    clear h
    go_enter Tryd.func3, Tryd.ntmps3
    go_wp2_with fail
    refine K1.out.mono ?_
    rintro e w1 ⟨rfl, hb1⟩
    have B1 := Lib.hid (hb1.alloc hb1.size (.cells #[.int .i64 cd, .string tx] 23))
    have V1 := Var2.new w1 23 cd (.string tx)
    clear hb1
    go_wp2_with fail
    refine (K2.out _ B1.out).mono ?_
    rintro e w2 ⟨rfl, hb2⟩
    have V2 := V1.below hb2
    have B2 := Lib.hid (below_then B1.out hb2)
    clear hb2 V1
    have q0 := V2.lt
    have q1 := V2.c0
    have q2 := V2.c1
    go_wp2_with fail
    refine (eqTextTrue cd tx _).mono ?_
    rintro e w3 ⟨rfl, hb3⟩
    go_wp2
    go_ret
    exact ⟨rfl, below_then (below_then B2.out (below1 _ _)) hb3⟩
end Go.Proofs.YtkpbamjmdcbflaaDoor
