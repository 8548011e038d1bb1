/- The walk of FnNumbers. -/
import Derived.Test.YtpafknmfacgccaaDoorPNumberOf
import Derived.Test.YtpafknmfacgccaaDoorDrawNum
import Derived.Test.YtpafknmfacgccaaDoorLwBig
import Derived.Test.YtpafknmfacgccaaDoorCode
import Derived.Deep.RegionHeld3
namespace Go.Proofs.YtpafknmfacgccaaDoor
open Go.ChangeShapes Go.WideShapes Go.ChangeAt Go.RowKit
set_option linter.unusedVariables false

theorem neqText (x : Int) (s : ByteArray) (w : World) : (binOp .neq 26 (.agg #[.int .i64 x, .string s]) (.agg #[.int .i64 x, .string s])).run Tryd.prog w = .ok (.bool false) w := by
  have u3 := Tryd.underlying2
  have u4 := Tryd.underlying9
  have hS : Tryd.prog.underlying 26 = some (.struct (Tryd.prog.fieldsOf 26)) := by kernel_rfl
  rw [run_neq_struct, show (10000 : Nat) = 9999 + 1 from rfl, run_equalIn_agg w 9999 _ _ _ hS (by kernel_rfl)]
  simp only [Program.fieldsOf, Tryd.underlying26]
  go_simp
theorem eqText0 (s : ByteArray) (w : World) : (binOp .eql 26 (.agg #[.int .i64 0, .string s]) (.agg #[.int .i64 0, .string s])).run Tryd.prog w = .ok (.bool true) w := by
  have u3 := Tryd.underlying2
  have u4 := Tryd.underlying9
  have hS : Tryd.prog.underlying 26 = some (.struct (Tryd.prog.fieldsOf 26)) := by kernel_rfl
  rw [run_eql_struct, show (10000 : Nat) = 9999 + 1 from rfl, run_equalIn_agg w 9999 _ _ _ hS (by kernel_rfl)]
  simp only [Program.fieldsOf, Tryd.underlying26]
  go_simp
theorem neqInt (x y : Int) (w : World) : (binOp .neq 30 (.agg #[.int .i64 x, .int .i64 y]) (.agg #[.int .i64 x, .int .i64 y])).run Tryd.prog w = .ok (.bool false) w := by
  have u3 := Tryd.underlying2
  have hS : Tryd.prog.underlying 30 = some (.struct (Tryd.prog.fieldsOf 30)) := by kernel_rfl
  rw [run_neq_struct, show (10000 : Nat) = 9999 + 1 from rfl, run_equalIn_agg w 9999 _ _ _ hS (by kernel_rfl)]
  simp only [Program.fieldsOf, Tryd.underlying30]
  go_simp
theorem numT_small (m : Int) (h1 : -999 ≤ m) (h2 : m ≤ 999) : (numT m).size ≤ 4 := by
  have hs := digT_size 2 m.natAbs (by have : (10 : Nat) ^ (2 + 1) = 1000 := by decide
                                      omega)
  unfold numT
  split
  · rw [ByteArray.size_append]
    have : (⟨#[45]⟩ : ByteArray).size = 1 := rfl
    omega
  · omega
theorem numText_size (m : Int) : (numText m).size ≤ 4 := by
  unfold numText
  split
  · rename_i h
    have hb : -999 ≤ m ∧ m ≤ 999 := by simpa [inB] using h
    exact numT_small m hb.1 hb.2
  · show (0 : Nat) ≤ 4
    omega
theorem num_back (m : Int) : numCode m = 3 ∨ (numCode m = 0 ∧ numOfCode (numText m).data.toList = 0 ∧ numOfVal (numText m).data.toList = m) := by
  unfold numCode numText
  cases h : inB m (-999) 999
  · exact .inl rfl
  · have hb : -999 ≤ m ∧ m ≤ 999 := by simpa [inB] using h
    refine .inr ⟨rfl, ?_⟩
    simp only [if_true]
    unfold numOfCode numOfVal
    rw [numOf_text m hb.1 hb.2]
    exact ⟨rfl, rfl⟩
theorem num_forth (s : ByteArray) : numOfCode s.data.toList = 5 ∨ (numOfCode s.data.toList = 0 ∧ numCode (numOfVal s.data.toList) = 0 ∧ numText (numOfVal s.data.toList) = s) := by
  unfold numOfCode numOfVal
  cases h : numOf s.data.toList with
  | none => exact .inl rfl
  | some m =>
    obtain ⟨h1, h2, h3⟩ := numOf_some h
    have hi : inB m (-999) 999 = true := by simp [inB]; omega
    refine .inr ⟨rfl, ?_, ?_⟩
    · show numCode m = 0
      unfold numCode
      rw [hi]; rfl
    · show numText m = s
      unfold numText
      rw [hi]
      apply ByteArray.ext
      exact Array.toList_inj.1 h3
theorem held4n {w0 W W' : World} {p1 p2 p3 p4 : Addr} {v1 v2 v3 v4 : Value} (hb : Below W.heap.size W W')
    (h : Below w0.heap.size w0 W ∧ W.cell? p1 = some v1 ∧ W.cell? p2 = some v2 ∧ W.cell? p3 = some v3 ∧ W.cell? p4 = some v4) :
    Below w0.heap.size w0 W' ∧ W'.cell? p1 = some v1 ∧ W'.cell? p2 = some v2 ∧ W'.cell? p3 = some v3 ∧ W'.cell? p4 = some v4 :=
  ⟨below_then h.1 hb, (hb.cell (World.block_lt_of_cell? W _ h.2.1)).trans h.2.1, (hb.cell (World.block_lt_of_cell? W _ h.2.2.1)).trans h.2.2.1, (hb.cell (World.block_lt_of_cell? W _ h.2.2.2.1)).trans h.2.2.2.1, (hb.cell (World.block_lt_of_cell? W _ h.2.2.2.2)).trans h.2.2.2.2⟩

set_option maxRecDepth 100000 in
set_option maxHeartbeats 3200000 in
theorem fnNumbers_walk0 (a : Option Addr) (n c : Nat) (xs : List Int) (w : World) (hC : CodeAt w a n c xs) (hT : Pows w) (rb : Addr) (hr : RngE w rb) (sa : Addr) (hs : SynE w sa) :
    Calls Tryd.prog 3 #[.slice a n c] w fun e w' => e = .returned (.bool true) ∧ Below w.heap.size w w' := by
  have hn := hC.size
  have hbig : decide (1048576 < n) = false := by simp; omega
  have HC := Lib.hid hC
  have HT := Lib.hid (fun W (hb : Below w.heap.size w W) => hT.below hb)
  have HE := Lib.hid (fun W (hb : Below w.heap.size w W) => (show NumErrs w sa rb from ⟨hs.lt, hs.cell, hr.lt, hr.cell⟩).below hb)
  clear hC hT hr hs
  go_enter Tryd.func3, Tryd.ntmps3
  go_wp2_with fail
  refine (lwBig_any a n c (by omega) _).mono ?_
  rintro e w1 ⟨rfl, rfl⟩
  rw [hbig]
  go_wp2_with fail
  refine (drawNumberText_any a n c xs _ HC.out).mono ?_
  rintro e w2 ⟨p, rfl, hb⟩
  have B2 := Lib.hid hb
  clear hb
  have K1 := Lib.hid (fun W => specNumberText_any p W)
  have I1 := Lib.hid (fun W (hb : Below w1.heap.size w1 W) => implNumberText_any p W (HT.out W hb))
  have FB := Lib.hid (num_back p)
  have hts := numText_size p
  have J1 := Lib.hid (fun W (hb : Below w1.heap.size w1 W) => implNumberOf_any (numText p) (by omega) W sa rb (HE.out W hb) (HT.out W hb))
  unfold TxtRes at K1 I1
  unfold Res2 at J1
  generalize numCode p = tc at K1 I1 FB
  generalize numText p = tt at K1 I1 FB J1 hts
  generalize numOfCode tt.data.toList = jc at J1 FB
  generalize numOfVal tt.data.toList = jv at J1 FB
  clear hts
  go_wp2_with fail
  refine (I1.out _ B2.out).mono ?_
  rintro e w3 ⟨rfl, hb⟩
  have B3 := Lib.hid (below_then (below_then B2.out hb) (below1 w3 (.cells #[.int .i64 tc, .string tt] 26)))
  have V3 := Lib.hid (Var2.new w3 26 tc (.string tt))
  clear hb
  go_wp2_with fail
  refine (drawNumberOf_any a n c xs _ (HC.out.below B3.out)).mono ?_
  rintro e w4 ⟨s, rfl, hsz, hb⟩
  have B4 := Lib.hid (below_then B3.out hb)
  have V4 := Lib.hid (V3.out.below hb)
  have K2 := Lib.hid (fun W => specNumberOf_any s (by unfold maxLen; omega) W)
  have I2 := Lib.hid (fun W (hb : Below w1.heap.size w1 W) => implNumberOf_any s (by omega) W sa rb (HE.out W hb) (HT.out W hb))
  have FF := Lib.hid (num_forth s)
  have J2 := Lib.hid (fun W (hb : Below w1.heap.size w1 W) => implNumberText_any (numOfVal s.data.toList) W (HT.out W hb))
  unfold Res2 at K2 I2
  unfold TxtRes at J2
  generalize numCode (numOfVal s.data.toList) = lc at J2 FF
  generalize numText (numOfVal s.data.toList) = lt at J2 FF
  generalize numOfCode s.data.toList = rc at K2 I2 FF
  generalize numOfVal s.data.toList = rv at K2 I2 J2
  clear hb V3
  go_wp2_with fail
  refine (I2.out _ B4.out).mono ?_
  rintro e w5 ⟨rfl, hb⟩
  have B5 := Lib.hid (below_then (below_then B4.out hb) (below1 w5 (.cells #[.int .i64 rc, .int .i64 rv] 30)))
  have V5 := Lib.hid ((V4.out.below hb).below (below1 w5 (.cells #[.int .i64 rc, .int .i64 rv] 30)))
  have U5 := Lib.hid (Var2.new w5 30 rc (.int .i64 rv))
  have hl3 : w3.heap.size < w5.heap.size := (V4.out.below hb).lt
  clear hb V4
  go_wp2_with fail
  generalize w5.alloc (.cells #[.int .i64 rc, .int .i64 rv] 30) = w6 at B5 V5 U5 ⊢
  have q0 := V5.out.c0
  have q1 := V5.out.c1
  have q2 := U5.out.c0
  have q3 := U5.out.c1
  have hlt0 := V5.out.lt
  have hlt1 := U5.out.lt
  have nt := fun W => neqText tc tt W
  have ni := fun W => neqInt rc rv W
  have hS0 : Below w6.heap.size w6 w6.drew ∧ w6.drew.cell? ⟨w3.heap.size, 0, none⟩ = some (.int .i64 tc) ∧ w6.drew.cell? ⟨w3.heap.size, 1, none⟩ = some (.string tt) ∧ w6.drew.cell? ⟨w5.heap.size, 0, none⟩ = some (.int .i64 rc) ∧ w6.drew.cell? ⟨w5.heap.size, 1, none⟩ = some (.int .i64 rv) := ⟨(Below.refl _ _).drew, q0, q1, q2, q3⟩
  first | (go_region_held3 (fun W => Below w6.heap.size w6 W ∧ W.cell? ⟨w3.heap.size, 0, none⟩ = some (.int .i64 tc) ∧ W.cell? ⟨w3.heap.size, 1, none⟩ = some (.string tt) ∧ W.cell? ⟨w5.heap.size, 0, none⟩ = some (.int .i64 rc) ∧ W.cell? ⟨w5.heap.size, 1, none⟩ = some (.int .i64 rv)) (first | assumption | exact held4n hbr (by assumption))
    (first
      | (go_at_call 12; refine (K1.out _).mono ?_; rintro e wx ⟨rfl, hbr⟩)
      | (go_at_call 13; refine (K2.out _).mono ?_; rintro e wy ⟨rfl, hbr⟩))) | fail
  have hB7 : Below w6.heap.size w6 wy := And.left (by assumption)
  have B7 := Lib.hid (below_then B5.out hB7)
  have V7 := Lib.hid (V5.out.below hB7)
  have U7 := Lib.hid (U5.out.below hB7)
  clear hB7 hS0 q0 q1 q2 q3 hlt0 hlt1 V5 U5 B5 nt ni K1 K2 hbr
  have q0 := V7.out.c0
  have q1 := V7.out.c1
  have q2 := U7.out.c0
  have q3 := U7.out.c1
  have hlt0 := V7.out.lt
  have hlt1 := U7.out.lt
  have ni := fun W => neqInt 0 p W
  have nt := fun W => eqText0 s W
  rcases FB.out with rfl | ⟨rfl, rfl, rfl⟩
  · rcases FF.out with rfl | ⟨rfl, rfl, rfl⟩
    · go_wp2
      go_ret
      exact ⟨rfl, B7.out⟩
    · go_wp2_with fail
      refine (J2.out _ B7.out).mono ?_
      rintro e w8 ⟨rfl, hb8⟩
      have B8 := Lib.hid (below_then B7.out hb8)
      clear hb8
      go_wp2
      go_ret
      exact ⟨rfl, B8.out⟩
  · go_wp2_with fail
    refine (J1.out _ B7.out).mono ?_
    rintro e w8 ⟨rfl, hb8⟩
    have B8 := Lib.hid (below_then B7.out hb8)
    have U8 := Lib.hid (U7.out.below hb8)
    have hlt8 := U8.out.lt
    clear hb8 q0 q1 q2 q3 hlt0 hlt1 V7 U7
    have q2 := U8.out.c0
    have q3 := U8.out.c1
    rcases FF.out with rfl | ⟨rfl, rfl, rfl⟩
    · go_wp2
      go_ret
      exact ⟨rfl, B8.out⟩
    · go_wp2_with fail
      refine (J2.out _ B8.out).mono ?_
      rintro e w9 ⟨rfl, hb9⟩
      have B9 := Lib.hid (below_then B8.out hb9)
      clear hb9
      go_wp2
      go_ret
      exact ⟨rfl, B9.out⟩

theorem fnNumbers_walk (a : Option Addr) (n c : Nat) (xs : List Int) (w : World) (h : InRow w a n c xs) (hT : Pows w) (rb : Addr) (hr : RngE w rb) (sa : Addr) (hs : SynE w sa) :
    Calls Tryd.prog 3 #[.slice a n c] w fun e w' => e = .returned (.bool true) ∧ Below w.heap.size w w' := by
  by_cases hs2 : n ≤ 1048576
  · exact fnNumbers_walk0 a n c xs w ⟨h.len, hs2, h.byte, h.row⟩ hT rb hr sa hs
  · have hbig : decide (1048576 < n) = true := by simp; omega
    have hm := h.max
    unfold maxLen at hm
    clear hs hT hr
    go_enter Tryd.func3, Tryd.ntmps3
    go_wp2_with fail
    refine (lwBig_any a n c (by omega) _).mono ?_
    rintro e w1 ⟨rfl, rfl⟩
    rw [hbig]
    go_wp2
    go_ret
    exact ⟨rfl, Below.refl _ _⟩
end Go.Proofs.YtpafknmfacgccaaDoor
