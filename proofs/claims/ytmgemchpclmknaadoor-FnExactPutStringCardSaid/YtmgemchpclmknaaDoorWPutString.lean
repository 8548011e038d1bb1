/- The walk of FnExactPutString. -/
import Derived.Test.YtmgemchpclmknaaDoorPutString
import Derived.Test.YtmgemchpclmknaaDoorBytes
namespace Go.Proofs.YtmgemchpclmknaaDoor
open Go.ChangeShapes Go.WideShapes Go.ChangeAt Go.RowKit
set_option linter.unusedVariables false

set_option maxHeartbeats 1600000 in
theorem fnExactPutString_walk0 (s : ByteArray) (hs : s.size ≤ 1048576) (w : World) (cd : Int) (xs : List Int) (hlen : xs.length ≤ 61)
    (K1 : Hid (∀ W, Below w.heap.size w W → Calls Tryd.prog 38 #[.string s] W (OwnsRes2 W 5 .u8 cd xs)))
    (K2 : Hid (∀ W, Below w.heap.size w W → Calls Tryd.prog 33 #[.string s] W (OwnsRes2 W 5 .u8 cd xs))) :
    Calls Tryd.prog 8 #[.string s] w fun e w' => e = .returned (.bool true) ∧ Below w.heap.size w w' := by
  go_enter Tryd.func8, Tryd.ntmps8
  go_wp2_with fail
  refine (K1.out _ (Below.refl _ _)).mono ?_
  rintro e w1 ⟨a1, n1, c1, rfl, ho1, hb1⟩
  have HO1 := Lib.hid ho1
  have HL1 := Lib.hid (fun k hk => (ho1.lt k hk).2)
  have HN1 := Lib.hid (owns_length ho1)
  clear ho1
  go_wp2_with fail
  refine (K2.out _ (hb1.alloc hb1.size _)).mono ?_
  rintro e w2 ⟨a2, n2, c2, rfl, ho2, hb2⟩
  have V1 := (Var2.new w1 _ cd (.slice a1 n1 c1)).below hb2
  have HB2 := Lib.hid (below_then ((hb1.alloc hb1.size _)) hb2)
  have HO2 := Lib.hid ho2
  have HL2 := Lib.hid (fun k hk => (ho2.lt k hk).2)
  have HN2 := Lib.hid (owns_length ho2)
  have HO1' := Lib.hid (owns_below (HO1.out.alloc _) hb2)
  have q0 := V1.lt
  have q1 := V1.c0
  have q2 := V1.c1
  clear ho2 hb2 HO1
  go_wp2_with fail
  refine (eqBytesTrue cd _ _ xs _ ((Row.of_owns HO2.out).below (below1 _ _)) ((Row.of_owns HO1'.out).below (below1 _ _))).mono ?_
  rintro e w3 ⟨rfl, hb3⟩
  have V1' := (V1.alloc _).below hb3
  have V2 := (Var2.new w2 _ cd (.slice a2 n2 c2)).below hb3
  have HO3 := Lib.hid (owns_below (HO2.out.alloc _) hb3)
  have HO3' := Lib.hid (owns_below (HO1'.out.alloc _) hb3)
  have HB3 := Lib.hid (below_then (HB2.out.alloc HB2.out.size _) hb3)
  clear q0 q1 q2 V1 HO2 HO1' hb3
  have q0 := V1'.lt
  have q1 := V1'.c0
  have q2 := V1'.c1
  have q3 := V2.lt
  have q4 := V2.c0
  have q5 := V2.c1
  go_wp2_with fail
  refine (markBytes1 cd _ _ n2 xs _ (by have := HN2.out; omega) HO3.out).mono ?_
  rintro e w4 ⟨rfl, ho4, hg4⟩
  have V3 := V1'.grown hg4 (row_other HO3.out (.inl (by simp)))
  have V4 := V2.grown hg4 (fun h => by have := HL2.out _ h.symm; omega)
  have HO4 := Lib.hid ho4
  have HO4' := Lib.hid (HO3'.out.kept hg4 (rows_apart HL1.out HO3.out (by simp)))
  have HB4 := Lib.hid (HB3.out.grown hg4 HB3.out.size (fun k hk => by have h1 := (HO3.out.lt k hk).1; have h2 := hb1.size; simp at h1; omega))
  clear q0 q1 q2 q3 q4 q5 V1' V2 HO3 HO3' ho4 hg4
  have q0 := V3.lt
  have q1 := V3.c0
  have q2 := V3.c1
  have q3 := V4.lt
  have q4 := V4.c0
  have q5 := V4.c1
  have qn : (n2 : Int) ≤ 1152921504606846976 := by have := HN2.out; omega
  go_wp2_with fail
  refine (heldBytes1 cd _ n2 _ (by have := HN2.out; omega) (Row.of_owns HO4.out)).mono ?_
  rintro e w5 ⟨rfl, hb5⟩
  have V5 := V3.below hb5
  have V6 := V4.below hb5
  have HO5 := Lib.hid (owns_below HO4.out hb5)
  have HO5' := Lib.hid (owns_below HO4'.out hb5)
  have HB5 := Lib.hid (below_then HB4.out hb5)
  clear q0 q1 q2 q3 q4 q5 V3 V4 HO4 HO4' hb5
  have q0 := V5.lt
  have q1 := V5.c0
  have q2 := V5.c1
  have q3 := V6.lt
  have q4 := V6.c0
  have q5 := V6.c1
  go_wp2_with fail
  refine (K2.out _ HB5.out).mono ?_
  rintro e w6 ⟨a3, n3, c3, rfl, ho6, hb6⟩
  have V7 := V5.below hb6
  have V8 := V6.below hb6
  have HO6 := Lib.hid (owns_below HO5.out hb6)
  have HO6' := Lib.hid (owns_below HO5'.out hb6)
  have HO6'' := Lib.hid ho6
  have HB6 := Lib.hid (below_then HB5.out hb6)
  clear q0 q1 q2 q3 q4 q5 V5 V6 HO5 HO5' hb6 ho6
  have q0 := V7.lt
  have q1 := V7.c0
  have q2 := V7.c1
  have q3 := V8.lt
  have q4 := V8.c0
  have q5 := V8.c1
  go_wp2_with fail
  refine (eqBytesTrue cd _ _ xs _ ((Row.of_owns HO6''.out).below (below1 _ _)) ((Row.of_owns HO6'.out).below (below1 _ _))).mono ?_
  rintro e w7 ⟨rfl, hb7⟩
  have V9 := (V8.alloc _).below hb7
  have HO7 := Lib.hid (owns_below (HO6.out.alloc _) hb7)
  have HB7 := Lib.hid (below_then (HB6.out.alloc HB6.out.size _) hb7)
  clear q0 q1 q2 q3 q4 q5 V7 V8 HO6 HO6' HO6'' hb7
  have q3 := V9.lt
  have q4 := V9.c0
  have q5 := V9.c1
  go_wp2_with fail
  refine (heldBytes1 cd _ n2 _ (by have := HN2.out; omega) (Row.of_owns HO7.out)).mono ?_
  rintro e w8 ⟨rfl, hb8⟩
  go_wp2
  go_ret
  exact ⟨rfl, below_then HB7.out hb8⟩

theorem fnExactPutString_walk (s : ByteArray) (w : World) (hs : s.size ≤ maxLen) (hT : Tabs w) :
    Calls Tryd.prog 8 #[.string s] w fun e w' => e = .returned (.bool true) ∧ Below w.heap.size w w' := by
  by_cases h : s.size ≤ 1048576
  · exact fnExactPutString_walk0 s h w _ _ (psList_length _) (Lib.hid fun W _ => specPutString_any s h W) (Lib.hid fun W hb => implPutString_any s hs W (tabs_kept hT hb))
  · unfold maxLen at hs
    go_enter Tryd.func8, Tryd.ntmps8
    go_wp2
    go_ret
    exact ⟨rfl, Below.refl _ _⟩
end Go.Proofs.YtmgemchpclmknaaDoor
