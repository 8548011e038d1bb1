/- The walk of FnShares. -/
import Derived.Test.YtppgdbejbhhjlaaDoorPThou
import Derived.Test.YtppgdbejbhhjlaaDoorThou
import Derived.Test.YtppgdbejbhhjlaaDoorPrioOf
import Derived.Test.YtppgdbejbhhjlaaDoorPPrioOf
import Derived.Test.YtppgdbejbhhjlaaDoorShare
import Derived.Test.YtppgdbejbhhjlaaDoorPShare
import Derived.Test.YtppgdbejbhhjlaaDoorDrawShare
import Derived.Test.YtppgdbejbhhjlaaDoorLwBig
import Derived.Test.YtppgdbejbhhjlaaDoorNeq
import Derived.Test.YtppgdbejbhhjlaaDoorCode
import Derived.Deep.RegionHeld3
namespace Go.Proofs.YtppgdbejbhhjlaaDoor
open Go.ChangeShapes Go.WideShapes Go.ChangeAt Go.RowKit
set_option linter.unusedVariables false

theorem digT_size1 {n : Nat} (h : n < 10) : (digT n).size = 1 := by rw [digT_small h, strOfNums_size]; rfl
theorem digT_sizeS {n : Nat} (h : ¬ n < 10) : (digT n).size = (digT (n / 10)).size + 1 := by rw [digT_big h, ByteArray.size_append, strOfNums_size]; rfl
theorem digT_size4 {n : Nat} (h : 1000 ≤ n) (h2 : n < 10000) : (digT n).size = 4 := by
  rw [digT_sizeS (by omega), digT_sizeS (by omega), digT_sizeS (by omega), digT_size1 (by omega)]
theorem share_size (n : Int) : shareCode n = 3 ∨ (shareCode n = 0 ∧ (shareText n).size = 5) := by
  unfold shareCode shareText
  cases h : inB n 0 1000
  · exact .inl rfl
  · have hb : 0 ≤ n ∧ n ≤ 1000 := by simpa [inB] using h
    refine .inr ⟨rfl, ?_⟩
    simp only [if_true]
    unfold shareT behindT
    rw [ByteArray.size_append, ByteArray.size_append, ByteArray.size_extract, digT_size1 (by omega), digT_size4 (n := 1000 + n.toNat % 1000) (by omega) (by omega)]
    rfl
theorem thou_back (p : Int) : thouCode p = 3 ∨ (thouCode p = 0 ∧ 0 ≤ thouVal p ∧ thouVal p ≤ 1000 ∧ prioCode (thouVal p) = 0 ∧ prioVal (thouVal p) = p) := by
  unfold thouCode thouVal
  cases h : inB p 0 127
  · exact .inl rfl
  · have hb : 0 ≤ p ∧ p ≤ 127 := by simpa [inB] using h
    refine .inr ⟨rfl, ?_⟩
    simp only [if_true]
    have h1 : 0 ≤ (1000 * p + 63) / 127 := by omega
    have h2 : (1000 * p + 63) / 127 ≤ 1000 := by omega
    have hi : inB ((1000 * p + 63) / 127) 0 1000 = true := by unfold inB; exact decide_eq_true ⟨h1, h2⟩
    unfold prioCode prioVal
    rw [hi]
    simp only [if_true]
    exact ⟨h1, h2, trivial, by omega⟩
theorem held6n {w0 W W' : World} {p1 p2 p3 p4 p5 p6 : Addr} {v1 v2 v3 v4 v5 v6 : Value} (hb : Below W.heap.size W W')
    (h : Below w0.heap.size w0 W ∧ W.cell? p1 = some v1 ∧ W.cell? p2 = some v2 ∧ W.cell? p3 = some v3 ∧ W.cell? p4 = some v4 ∧ W.cell? p5 = some v5 ∧ W.cell? p6 = some v6) :
    Below w0.heap.size w0 W' ∧ W'.cell? p1 = some v1 ∧ W'.cell? p2 = some v2 ∧ W'.cell? p3 = some v3 ∧ W'.cell? p4 = some v4 ∧ W'.cell? p5 = some v5 ∧ W'.cell? p6 = some v6 :=
  ⟨below_then h.1 hb, (hb.cell (World.block_lt_of_cell? W _ h.2.1)).trans h.2.1, (hb.cell (World.block_lt_of_cell? W _ h.2.2.1)).trans h.2.2.1, (hb.cell (World.block_lt_of_cell? W _ h.2.2.2.1)).trans h.2.2.2.1, (hb.cell (World.block_lt_of_cell? W _ h.2.2.2.2.1)).trans h.2.2.2.2.1, (hb.cell (World.block_lt_of_cell? W _ h.2.2.2.2.2.1)).trans h.2.2.2.2.2.1, (hb.cell (World.block_lt_of_cell? W _ h.2.2.2.2.2.2)).trans h.2.2.2.2.2.2⟩

set_option maxRecDepth 100000 in
set_option maxHeartbeats 3200000 in
theorem fnShares_walk0 (a : Option Addr) (n c : Nat) (xs : List Int) (w : World) (hC : CodeAt w a n c xs) (hT : Pows w) :
    Calls Tryd.prog 3 #[.slice a n c] w fun e w' => e = .returned (.bool true) ∧ Below w.heap.size w w' := by
  have hn := hC.size
  have hbig : decide (1048576 < n) = false := by simp; omega
  have HC := Lib.hid hC
  have HT := Lib.hid (fun W (hb : Below w.heap.size w W) => hT.below hb)
  clear hC hT
  go_enter Tryd.func3, Tryd.ntmps3
  go_wp2_with fail
  refine (lwBig_any a n c (by omega) _).mono ?_
  rintro e w1 ⟨rfl, rfl⟩
  rw [hbig]
  go_wp2_with fail
  refine (drawThousandthsOf_any a n c xs _ HC.out).mono ?_
  rintro e w2 ⟨p, rfl, hb⟩
  have B2 := Lib.hid hb
  clear hb
  have K1 := Lib.hid (fun W => specThousandthsOf_any p W)
  have I1 := Lib.hid (fun W => implThousandthsOf_any p W)
  have FB := Lib.hid (thou_back p)
  have J1 := Lib.hid (fun W => implPriorityOf_any (thouVal p) W)
  unfold Res2 at K1 I1 J1
  generalize thouCode p = tc at K1 I1 FB
  generalize thouVal p = tv at K1 I1 FB J1
  generalize prioCode tv = jc at J1 FB
  generalize prioVal tv = jv at J1 FB
  go_wp2_with fail
  refine (I1.out _).mono ?_
  rintro e w3 ⟨rfl, hb⟩
  have B3 := Lib.hid (below_then (below_then B2.out hb) (below1 w3 (.cells #[.int .i64 tc, .int .i64 tv] 26)))
  have V3 := Lib.hid (Var2.new w3 26 tc (.int .i64 tv))
  clear hb
  go_wp2_with fail
  refine (drawPriorityOf_any a n c xs _ (HC.out.below B3.out)).mono ?_
  rintro e w4 ⟨m, rfl, hb⟩
  have B4 := Lib.hid (below_then B3.out hb)
  have V4 := Lib.hid (V3.out.below hb)
  have K2 := Lib.hid (fun W => specPriorityOf_any m W)
  have I2 := Lib.hid (fun W => implPriorityOf_any m W)
  have K3 := Lib.hid (fun W => specShareText_any m W)
  have I3 := Lib.hid (fun W (hb : Below w1.heap.size w1 W) => implShareText_any m W (HT.out W hb))
  have FF := Lib.hid (share_size m)
  unfold Res2 at K2 I2
  unfold TxtRes at K3 I3
  generalize prioCode m = rc at K2 I2
  generalize prioVal m = rv at K2 I2
  generalize shareCode m = sc at K3 I3 FF
  generalize shareText m = st at K3 I3 FF
  clear hb V3
  go_wp2_with fail
  refine (I2.out _).mono ?_
  rintro e w5 ⟨rfl, hb⟩
  have B5 := Lib.hid (below_then (below_then B4.out hb) (below1 w5 (.cells #[.int .i64 rc, .int .i64 rv] 26)))
  have V5 := Lib.hid ((V4.out.below hb).below (below1 w5 (.cells #[.int .i64 rc, .int .i64 rv] 26)))
  have U5 := Lib.hid (Var2.new w5 26 rc (.int .i64 rv))
  clear hb V4
  go_wp2_with fail
  refine (I3.out _ B5.out).mono ?_
  rintro e w6 ⟨rfl, hb⟩
  have B6 := Lib.hid (below_then (below_then B5.out hb) (below1 w6 (.cells #[.int .i64 sc, .string st] 29)))
  have V6 := Lib.hid ((V5.out.below hb).below (below1 w6 (.cells #[.int .i64 sc, .string st] 29)))
  have U6 := Lib.hid ((U5.out.below hb).below (below1 w6 (.cells #[.int .i64 sc, .string st] 29)))
  have T6 := Lib.hid (Var2.new w6 29 sc (.string st))
  have hl3 : w3.heap.size < w6.heap.size := (V5.out.below hb).lt
  have hl5 : w5.heap.size < w6.heap.size := (U5.out.below hb).lt
  clear hb V5 U5
  go_wp2_with fail
  generalize w6.alloc (.cells #[.int .i64 sc, .string st] 29) = w7 at B6 V6 U6 T6 ⊢
  have q0 := V6.out.c0
  have q1 := V6.out.c1
  have q2 := U6.out.c0
  have q3 := U6.out.c1
  have q4 := T6.out.c0
  have q5 := T6.out.c1
  have hlt0 := V6.out.lt
  have hlt1 := U6.out.lt
  have hlt2 := T6.out.lt
  have nt := fun W => neqText sc st W
  have ni := fun W => neqInt tc tv W
  have nj := fun W => neqInt rc rv W
  have hS0 : Below w7.heap.size w7 w7.drew ∧ w7.drew.cell? ⟨w3.heap.size, 0, none⟩ = some (.int .i64 tc) ∧ w7.drew.cell? ⟨w3.heap.size, 1, none⟩ = some (.int .i64 tv) ∧ w7.drew.cell? ⟨w5.heap.size, 0, none⟩ = some (.int .i64 rc) ∧ w7.drew.cell? ⟨w5.heap.size, 1, none⟩ = some (.int .i64 rv) ∧ w7.drew.cell? ⟨w6.heap.size, 0, none⟩ = some (.int .i64 sc) ∧ w7.drew.cell? ⟨w6.heap.size, 1, none⟩ = some (.string st) := ⟨(Below.refl _ _).drew, q0, q1, q2, q3, q4, q5⟩
  first | (go_region_held3 (fun W => Below w7.heap.size w7 W ∧ W.cell? ⟨w3.heap.size, 0, none⟩ = some (.int .i64 tc) ∧ W.cell? ⟨w3.heap.size, 1, none⟩ = some (.int .i64 tv) ∧ W.cell? ⟨w5.heap.size, 0, none⟩ = some (.int .i64 rc) ∧ W.cell? ⟨w5.heap.size, 1, none⟩ = some (.int .i64 rv) ∧ W.cell? ⟨w6.heap.size, 0, none⟩ = some (.int .i64 sc) ∧ W.cell? ⟨w6.heap.size, 1, none⟩ = some (.string st)) (first | assumption | exact held6n hbr (by assumption))
    (first
      | (go_at_call 12; refine (K1.out _).mono ?_; rintro e wx ⟨rfl, hbr⟩)
      | (go_at_call 13; refine (K2.out _).mono ?_; rintro e wy ⟨rfl, hbr⟩)
      | (go_at_call 14; refine (K3.out _).mono ?_; rintro e wz ⟨rfl, hbr⟩))) | fail
  have hB8 : Below w7.heap.size w7 wz := And.left (by assumption)
  have B8 := Lib.hid (below_then B6.out hB8)
  have V8 := Lib.hid (V6.out.below hB8)
  have T8 := Lib.hid (T6.out.below hB8)
  clear hB8 hS0 q0 q1 q2 q3 q4 q5 hlt0 hlt1 hlt2 V6 U6 T6 B6 nt ni nj K1 K2 K3 hbr
  have q0 := V8.out.c0
  have q1 := V8.out.c1
  have q4 := T8.out.c0
  have q5 := T8.out.c1
  have hlt0 := V8.out.lt
  have hlt2 := T8.out.lt
  have ni := fun W => neqInt 0 p W
  rcases FB.out with rfl | ⟨rfl, h0, h1, rfl, rfl⟩
  · rcases FF.out with rfl | ⟨rfl, hsz⟩
    · go_wp2
      go_ret
      exact ⟨rfl, B8.out⟩
    · have hsz' : ((st.size : Int) == 5) = true := by rw [hsz]; rfl
      go_wp2
      go_ret
      exact ⟨rfl, B8.out⟩
  · go_wp2_with fail
    refine (J1.out _).mono ?_
    rintro e w9 ⟨rfl, hb9⟩
    have B9 := Lib.hid (below_then B8.out hb9)
    have T9 := Lib.hid (T8.out.below hb9)
    have hlt9 := T9.out.lt
    clear hb9 q0 q1 q4 q5 hlt0 hlt2 V8 T8
    have q4 := T9.out.c0
    have q5 := T9.out.c1
    rcases FF.out with rfl | ⟨rfl, hsz⟩
    · go_wp2
      go_ret
      exact ⟨rfl, B9.out⟩
    · have hsz' : ((st.size : Int) == 5) = true := by rw [hsz]; rfl
      go_wp2
      go_ret
      exact ⟨rfl, B9.out⟩

theorem fnShares_walk (a : Option Addr) (n c : Nat) (xs : List Int) (w : World) (h : InRow w a n c xs) (hT : Pows w) :
    Calls Tryd.prog 3 #[.slice a n c] w fun e w' => e = .returned (.bool true) ∧ Below w.heap.size w w' := by
  by_cases hs2 : n ≤ 1048576
  · exact fnShares_walk0 a n c xs w ⟨h.len, hs2, h.byte, h.row⟩ hT
  · have hbig : decide (1048576 < n) = true := by simp; omega
    have hm := h.max
    unfold maxLen at hm
    clear hT
    go_enter Tryd.func3, Tryd.ntmps3
    go_wp2_with fail
    refine (lwBig_any a n c (by omega) _).mono ?_
    rintro e w1 ⟨rfl, rfl⟩
    rw [hbig]
    go_wp2
    go_ret
    exact ⟨rfl, Below.refl _ _⟩
end Go.Proofs.YtppgdbejbhhjlaaDoor
