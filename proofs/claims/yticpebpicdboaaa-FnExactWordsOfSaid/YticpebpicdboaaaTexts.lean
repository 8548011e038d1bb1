/- A code and a row of texts: the laws' helpers, the law's walk. -/
import Derived.Test.YticpebpicdboaaaStrs
import Derived.Test.YticpebpicdboaaaTextsO
namespace Go.Proofs.Yticpebpicdboaaa
open Go.ChangeShapes Go.WideShapes Go.ChangeAt Go.RowKit
set_option linter.unusedVariables false

set_option maxHeartbeats 800000 in
theorem eqTextsTrue (c : Int) (v1 v2 : Value) (ts : List ByteArray) (w : World) (h1 : RowS w v1 ts) (h2 : RowS w v2 ts) :
    Calls Try.prog 7 #[.agg #[.int .i64 c, v1], .agg #[.int .i64 c, v2]] w fun e w' => e = .returned (.bool true) ∧ Below w.heap.size w w' := by
  have HR1 := Lib.hid h1
  have HR2 := Lib.hid h2
  clear h1 h2
  go_enter Try.func7, Try.ntmps7
  go_wp2_with fail
  refine (eqStringS_true v1 v2 ts _ (HR1.out.below (below2 _ _ _)) (HR2.out.below (below2 _ _ _))).mono ?_
  rintro e w1 ⟨rfl, nd, rfl⟩
  go_wp2
  go_ret
  exact ⟨rfl, below_drewN (below2 _ _ _) _⟩

set_option maxHeartbeats 800000 in
theorem markTexts1 (c : Int) (B : Nat) (v : Value) (n : Nat) (xs : List ByteArray) (w : World) (hn : n ≤ 1000000000) (hown : w.ownsRow B 9 1 v n (xs.map Value.string)) :
    Calls Try.prog 8 #[.agg #[.int .i64 c, v], .int .i64 1] w fun e w' => e = .returned (.int .i64 (1 + (n : Int))) ∧
      w'.ownsRow B 9 1 v n ((markTs 1 n).map Value.string) ∧ w.grownBy w' v.ownBlock := by
  have K := Lib.hid (fun W (h : W.ownsRow B 9 1 v n (xs.map Value.string)) => markStringS_any B v n xs 1 W (by decide) (by decide) hn h)
  rw [Int.natCast_add] at K
  have HO := Lib.hid hown
  clear hown
  go_enter Try.func8, Try.ntmps8
  go_wp2_with fail
  refine (K.out _ (HO.out.alloc _)).mono ?_
  rintro e w1 ⟨rfl, ho, hg⟩
  have HO2 := Lib.hid ho
  have HG := Lib.hid hg
  clear ho hg
  go_wp2
  go_ret
  exact ⟨rfl, HO2.out, grown_trans_row (World.grownBy_alloc _ _ _) HG.out⟩

set_option maxHeartbeats 800000 in
theorem heldTexts1 (c : Int) (v : Value) (n : Nat) (w : World) (hn : n ≤ 1000000000) (h : RowS w v (markTs 1 n)) :
    Calls Try.prog 9 #[.agg #[.int .i64 c, v], .int .i64 1] w fun e w' => e = .returned (.int .i64 (1 + (n : Int))) ∧ Below w.heap.size w w' := by
  have K := Lib.hid (fun W (h : RowS W v (markTs 1 n)) => heldStringS_any v n 1 W (by decide) (by decide) hn h)
  rw [Int.natCast_add] at K
  have HR := Lib.hid h
  clear h
  go_enter Try.func9, Try.ntmps9
  go_wp2_with fail
  refine (K.out _ (HR.out.below (below1 _ _))).mono ?_
  rintro e w1 ⟨rfl, hb1⟩
  go_wp2
  go_ret
  exact ⟨rfl, below_then (below1 _ _) hb1⟩

set_option maxHeartbeats 1600000 in
theorem fnExactWordsOf_walk0 (s : ByteArray) (hs : s.size ≤ 1048576) (w : World) (cd : Int) (xs : List ByteArray) (hlen : xs.length ≤ 3001)
    (K1 : Hid (∀ W, Below w.heap.size w W → Calls Try.prog 5 #[.string s] W (TextsRes W cd xs)))
    (K2 : Hid (∀ W, Below w.heap.size w W → Calls Try.prog 6 #[.string s] W (TextsRes W cd xs))) :
    Calls Try.prog 3 #[.string s] w fun e w' => e = .returned (.bool true) ∧ Below w.heap.size w w' := by
  unfold TextsRes at K1 K2
  go_enter Try.func3, Try.ntmps3
  go_wp2_with fail
  refine (K1.out _ (Below.refl _ _)).mono ?_
  rintro e w1 ⟨a1, n1, c1, rfl, ho1, hb1⟩
  have HO1 := Lib.hid ho1
  have HL1 := Lib.hid (fun k hk => (ho1.lt k hk).2)
  have HN1 := Lib.hid (ownsS_length ho1)
  clear ho1
  go_wp2_with fail
  refine (K2.out _ (hb1.alloc hb1.size _)).mono ?_
  rintro e w2 ⟨a2, n2, c2, rfl, ho2, hb2⟩
  have V1 := (Var2.new w1 _ cd (.slice a1 n1 c1)).below hb2
  have HB2 := Lib.hid (below_then ((hb1.alloc hb1.size _)) hb2)
  have HO2 := Lib.hid ho2
  have HL2 := Lib.hid (fun k hk => (ho2.lt k hk).2)
  have HN2 := Lib.hid (ownsS_length ho2)
  have HO1' := Lib.hid (owns_below (HO1.out.alloc _) hb2)
  have q0 := V1.lt
  have q1 := V1.c0
  have q2 := V1.c1
  clear ho2 hb2 HO1
  go_wp2_with fail
  refine (eqTextsTrue cd _ _ xs _ ((RowS.of_owns HO2.out).below (below1 _ _)) ((RowS.of_owns HO1'.out).below (below1 _ _))).mono ?_
  rintro e w3 ⟨rfl, hb3⟩
  have V1' := (V1.alloc _).below hb3
  have V2 := (Var2.new w2 _ cd (.slice a2 n2 c2)).below hb3
  have HO3 := Lib.hid (owns_below (HO2.out.alloc _) hb3)
  have HO3' := Lib.hid (owns_below (HO1'.out.alloc _) hb3)
  have HB3 := Lib.hid (below_then (HB2.out.alloc HB2.out.size _) hb3)
  clear q0 q1 q2 V1 HO2 HO1' hb3
  have q0 := V1'.lt
  have q1 := V1'.c0
  have q2 := V1'.c1
  have q3 := V2.lt
  have q4 := V2.c0
  have q5 := V2.c1
  go_wp2_with fail
  refine (markTexts1 cd _ _ n2 xs _ (by have := HN2.out; omega) HO3.out).mono ?_
  rintro e w4 ⟨rfl, ho4, hg4⟩
  have V3 := V1'.grown hg4 (row_other HO3.out (.inl (by simp)))
  have V4 := V2.grown hg4 (fun h => by have := HL2.out _ h.symm; omega)
  have HO4 := Lib.hid ho4
  have HO4' := Lib.hid (HO3'.out.kept hg4 (rows_apart HL1.out HO3.out (by simp)))
  have HB4 := Lib.hid (HB3.out.grown hg4 HB3.out.size (fun k hk => by have h1 := (HO3.out.lt k hk).1; have h2 := hb1.size; simp at h1; omega))
  clear q0 q1 q2 q3 q4 q5 V1' V2 HO3 HO3' ho4 hg4
  have q0 := V3.lt
  have q1 := V3.c0
  have q2 := V3.c1
  have q3 := V4.lt
  have q4 := V4.c0
  have q5 := V4.c1
  have qn : (n2 : Int) ≤ 1152921504606846976 := by have := HN2.out; omega
  go_wp2_with fail
  refine (heldTexts1 cd _ n2 _ (by have := HN2.out; omega) (RowS.of_owns HO4.out)).mono ?_
  rintro e w5 ⟨rfl, hb5⟩
  have V5 := V3.below hb5
  have V6 := V4.below hb5
  have HO5 := Lib.hid (owns_below HO4.out hb5)
  have HO5' := Lib.hid (owns_below HO4'.out hb5)
  have HB5 := Lib.hid (below_then HB4.out hb5)
  clear q0 q1 q2 q3 q4 q5 V3 V4 HO4 HO4' hb5
  have q0 := V5.lt
  have q1 := V5.c0
  have q2 := V5.c1
  have q3 := V6.lt
  have q4 := V6.c0
  have q5 := V6.c1
  go_wp2_with fail
  refine (K2.out _ HB5.out).mono ?_
  rintro e w6 ⟨a3, n3, c3, rfl, ho6, hb6⟩
  have V7 := V5.below hb6
  have V8 := V6.below hb6
  have HO6 := Lib.hid (owns_below HO5.out hb6)
  have HO6' := Lib.hid (owns_below HO5'.out hb6)
  have HO6'' := Lib.hid ho6
  have HB6 := Lib.hid (below_then HB5.out hb6)
  clear q0 q1 q2 q3 q4 q5 V5 V6 HO5 HO5' hb6 ho6
  have q0 := V7.lt
  have q1 := V7.c0
  have q2 := V7.c1
  have q3 := V8.lt
  have q4 := V8.c0
  have q5 := V8.c1
  go_wp2_with fail
  refine (eqTextsTrue cd _ _ xs _ ((RowS.of_owns HO6''.out).below (below1 _ _)) ((RowS.of_owns HO6'.out).below (below1 _ _))).mono ?_
  rintro e w7 ⟨rfl, hb7⟩
  have V9 := (V8.alloc _).below hb7
  have HO7 := Lib.hid (owns_below (HO6.out.alloc _) hb7)
  have HB7 := Lib.hid (below_then (HB6.out.alloc HB6.out.size _) hb7)
  clear q0 q1 q2 q3 q4 q5 V7 V8 HO6 HO6' HO6'' hb7
  have q3 := V9.lt
  have q4 := V9.c0
  have q5 := V9.c1
  go_wp2_with fail
  refine (heldTexts1 cd _ n2 _ (by have := HN2.out; omega) (RowS.of_owns HO7.out)).mono ?_
  rintro e w8 ⟨rfl, hb8⟩
  go_wp2
  go_ret
  exact ⟨rfl, below_then HB7.out hb8⟩

end Go.Proofs.Yticpebpicdboaaa
