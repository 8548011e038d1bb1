/- impl.isField, impl.isFilledField, impl.hasFields. -/
import Derived.Test.YtlhflkpbccbofaaDoorDis
import Derived.Test.YtlhflkpbccbofaaDoorImplText
import Derived.Lib.IndexAny
namespace Go.Proofs.YtlhflkpbccbofaaDoor
open Go.ChangeShapes Go.WideShapes Go.ChangeAt Go.RowKit Go.Shelf
set_option linter.unusedVariables false

theorem hasB_index (s : ByteArray) (c : UInt8) : decide (0 ≤ Lib.indexByte s.data.toList c) = hasB (c.toNat : Int) s := by
  rw [← Lib.contains_iff_indexByte, List.contains_eq_any_beq]
  unfold hasB
  congr 1
  funext x
  rw [Bool.eq_iff_iff, beq_iff_eq, beq_iff_eq]
  constructor
  · rintro rfl; rfl
  · intro h
    exact (UInt8.toNat_inj.1 (by omega)).symm
theorem implContains_any (s : ByteArray) (c : UInt8) (cc : Int) (hc : (c.toNat : Int) = cc) (w : World) :
    Calls Tryd.prog 39 #[.string s, .string ⟨#[c]⟩] w fun e w' => e = .returned (.bool (hasB cc s)) ∧ w' = w := by
  refine (Tryd.strings_Contains_one s c w).mono ?_
  rintro e w' ⟨rfl, rfl⟩
  exact ⟨ret_bool (by rw [hasB_index, hc]), rfl⟩

set_option maxHeartbeats 800000 in
theorem isField_any (s : ByteArray) (w : World) (hs : s.size ≤ maxLen) (hT : Tabs w) :
    Calls Tryd.prog 38 #[.string s] w fun en w' => en = .returned (.bool (fldB s)) ∧ Below w.heap.size w w' := by
  have KT := Lib.hid (implTextFault_any s hs w hT)
  have K6 := Lib.hid (fun W => implContains_any s 60 60 rfl W)
  unfold fldB
  generalize textFault s.data.toList = tf at KT ⊢
  generalize hasB 60 s = b6 at K6 ⊢
  obtain ⟨q, hq⟩ : ∃ q, (tf == 0) = q := ⟨_, rfl⟩
  rw [hq]
  clear hs hT
  cases q
  · go_enter Tryd.func38, Tryd.ntmps38
    go_wp2_with fail
    refine KT.out.mono ?_
    rintro en w1 ⟨rfl, hb1⟩
    have B1 := Lib.hid hb1
    clear hb1
    go_wp2
    go_ret
    exact ⟨ret_bool (by simp), B1.out⟩
  · go_enter Tryd.func38, Tryd.ntmps38
    go_wp2_with fail
    refine KT.out.mono ?_
    rintro en w1 ⟨rfl, hb1⟩
    have B1 := Lib.hid hb1
    clear hb1
    go_wp2_with fail
    refine (K6.out _).mono ?_
    rintro en w2 ⟨rfl, rfl⟩
    go_wp2
    go_ret
    exact ⟨ret_bool (by simp), B1.out⟩

set_option maxHeartbeats 800000 in
theorem isFilledField_any (s : ByteArray) (w : World) (hs : s.size ≤ maxLen) (hT : Tabs w) :
    Calls Tryd.prog 26 #[.string s] w fun en w' => en = .returned (.bool (fillB s)) ∧ Below w.heap.size w w' := by
  have KT := Lib.hid (isField_any s w hs hT)
  unfold fillB
  generalize fldB s = b6 at KT ⊢
  obtain ⟨em, hem⟩ : ∃ em, s.toList.isEmpty = em := ⟨_, rfl⟩
  rw [hem]
  clear hs hT
  cases em
  · go_enter Tryd.func26, Tryd.ntmps26
    go_wp2_with fail
    refine KT.out.mono ?_
    rintro en w1 ⟨rfl, hb1⟩
    have B1 := Lib.hid hb1
    clear hb1
    go_wp2
    go_ret
    exact ⟨ret_bool (by simp), B1.out⟩
  · go_enter Tryd.func26, Tryd.ntmps26
    go_wp2
    go_ret
    exact ⟨ret_bool (by simp), Below.refl _ _⟩

set_option maxRecDepth 100000 in
set_option maxHeartbeats 3200000 in
theorem hasFields_any (x : Ident) (w : World) (hs : SmallId x) (hT : Tabs w) :
    Calls Tryd.prog 25 #[.agg #[.string x.cat, .string x.kind, .string x.lang, .string x.name]] w fun en w' => en = .returned (.bool (identB x)) ∧ Below w.heap.size w w' := by
  have K1 := Lib.hid (fun W (hb : Below w.heap.size w W) => isFilledField_any x.cat W (by have := hs.1; unfold maxLen; omega) (tabs_kept hT hb))
  have K2 := Lib.hid (fun W (hb : Below w.heap.size w W) => isFilledField_any x.kind W (by have := hs.2.1; unfold maxLen; omega) (tabs_kept hT hb))
  have K3 := Lib.hid (fun W (hb : Below w.heap.size w W) => isField_any x.lang W (by have := hs.2.2.1; unfold maxLen; omega) (tabs_kept hT hb))
  have K4 := Lib.hid (fun W (hb : Below w.heap.size w W) => isField_any x.name W (by have := hs.2.2.2; unfold maxLen; omega) (tabs_kept hT hb))
  have K5 := Lib.hid (fun W => implContains_any (x.cat ++ x.kind ++ x.lang) 47 47 rfl W)
  rw [← identB_eq]
  unfold identB'
  obtain ⟨h1, h2, h3, h4⟩ := hs
  obtain ⟨s, t, u, v⟩ := x
  dsimp only at K1 K2 K3 K4 K5 h1 h2 h3 h4 ⊢
  generalize fillB s = b1 at K1 ⊢
  generalize fillB t = b2 at K2 ⊢
  generalize fldB u = b3 at K3 ⊢
  generalize fldB v = b4 at K4 ⊢
  generalize hasB 47 (s ++ t ++ u) = b5 at K5 ⊢
  clear hT
  have X := IdAt.new w 40 ⟨s, t, u, v⟩
  have X0 := Lib.hid X
  clear X
  go_enter Tryd.func25, Tryd.ntmps25
  go_wp2_with fail
  refine (K1.out _ (below1 _ _)).mono ?_
  rintro en w1 ⟨rfl, hb1⟩
  have B1 := Lib.hid (below_then (below1 _ _) hb1)
  have X1 := X0.out.below hb1
  have d1 := X1.c1
  have X1 := Lib.hid X1
  clear hb1
  cases b1
  · go_wp2
    go_ret
    exact ⟨ret_bool (by simp), B1.out⟩
  go_wp2_with fail
  refine (K2.out _ B1.out).mono ?_
  rintro en w2 ⟨rfl, hb2⟩
  have B2 := Lib.hid (below_then B1.out hb2)
  have X2 := X1.out.below hb2
  have d2 := X2.c2
  have X2 := Lib.hid X2
  clear hb2
  cases b2
  · go_wp2
    go_ret
    exact ⟨ret_bool (by simp), B2.out⟩
  go_wp2_with fail
  refine (K3.out _ B2.out).mono ?_
  rintro en w3 ⟨rfl, hb3⟩
  have B3 := Lib.hid (below_then B2.out hb3)
  have X3 := X2.out.below hb3
  have d3 := X3.c3
  have X3 := Lib.hid X3
  clear hb3
  cases b3
  · go_wp2
    go_ret
    exact ⟨ret_bool (by simp), B3.out⟩
  go_wp2_with fail
  refine (K4.out _ B3.out).mono ?_
  rintro en w4 ⟨rfl, hb4⟩
  have B4 := Lib.hid (below_then B3.out hb4)
  have X4 := X3.out.below hb4
  have e0 := X4.c0
  have e1 := X4.c1
  have e2 := X4.c2
  have X4 := Lib.hid X4
  clear hb4
  cases b4
  · go_wp2
    go_ret
    exact ⟨ret_bool (by simp), B4.out⟩
  go_wp2_with fail
  refine (K5.out _).mono ?_
  rintro en w5 ⟨rfl, rfl⟩
  go_wp2
  go_ret
  exact ⟨ret_bool (by simp), B4.out⟩
end Go.Proofs.YtlhflkpbccbofaaDoor
