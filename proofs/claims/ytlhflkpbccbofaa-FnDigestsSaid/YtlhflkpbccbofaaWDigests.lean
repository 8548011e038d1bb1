/- The walk of FnDigests. -/
import Derived.Test.YtlhflkpbccbofaaDrawSha
import Derived.Test.YtlhflkpbccbofaaShaO
import Derived.Test.YtlhflkpbccbofaaB64Q
import Derived.Test.YtlhflkpbccbofaaLwB
import Derived.Test.YtlhflkpbccbofaaLwAt
import Derived.Test.YtlhflkpbccbofaaNeqT
import Derived.Test.YtlhflkpbccbofaaLBase64Of
import Derived.Test.YtlhflkpbccbofaaField
import Derived.Deep.RegionHeld3
namespace Go.Proofs.Ytlhflkpbccbofaa
open Go.ChangeShapes Go.WideShapes Go.ChangeAt Go.RowKit
set_option linter.unusedVariables false

theorem getD_mem8 {ys : List Int} (h : ∀ y ∈ ys, 0 ≤ y ∧ y ≤ 255) (i : Nat) : 0 ≤ ys.getD i 0 ∧ ys.getD i 0 ≤ 255 := by
  rw [List.getD_eq_getElem?_getD]
  rcases Nat.lt_or_ge i ys.length with hi | hi
  · rw [List.getElem?_eq_getElem hi]; exact h _ (List.getElem_mem hi)
  · rw [List.getElem?_eq_none hi]; decide
theorem b64Pre_take (xs : List Int) (j k : Nat) (hk : k ≤ j) : b64Pre (xs.take (3 * j)) k = b64Pre xs k := by
  induction k with
  | zero => rfl
  | succ k ih =>
    rw [b64Pre_succ, b64Pre_succ, ih (by omega)]
    congr 2
    unfold grpAt
    apply List.ext_getElem?
    intro i
    simp only [List.getElem?_take, List.getElem?_drop]
    by_cases h3 : i < 3
    · rw [if_pos h3, if_pos h3, if_pos (by omega)]
    · rw [if_neg h3, if_neg h3]
theorem b64Pre_drop (xs : List Int) (j k : Nat) : b64Pre xs j ++ b64Pre (xs.drop (3 * j)) k = b64Pre xs (j + k) := by
  induction k with
  | zero => simp [b64Pre]
  | succ k ih =>
    rw [b64Pre_succ, ← List.append_assoc, ih, ← Nat.add_assoc, b64Pre_succ]
    congr 2
    unfold grpAt
    rw [List.drop_drop, Nat.mul_add]
/-- what is written in base 64 is cut between groups -/
theorem b64_cut (xs : List Int) (j : Nat) (hj : 3 * j ≤ xs.length) : b64L (xs.take (3 * j)) ++ b64L (xs.drop (3 * j)) = b64L xs := by
  unfold b64L
  have h1 : b64N (xs.take (3 * j)) = j := by unfold b64N; rw [List.length_take]; omega
  have h2 : j + b64N (xs.drop (3 * j)) = b64N xs := by unfold b64N; rw [List.length_drop]; omega
  rw [h1, b64Pre_take xs j j (Nat.le_refl _), b64Pre_drop, h2]
theorem held4h {w0 W W' : World} {p1 p2 p3 p4 : Addr} {v1 v2 v3 v4 : Value} (hb : Below W.heap.size W W')
    (h : Below w0.heap.size w0 W ∧ W.cell? p1 = some v1 ∧ W.cell? p2 = some v2 ∧ W.cell? p3 = some v3 ∧ W.cell? p4 = some v4) :
    Below w0.heap.size w0 W' ∧ W'.cell? p1 = some v1 ∧ W'.cell? p2 = some v2 ∧ W'.cell? p3 = some v3 ∧ W'.cell? p4 = some v4 :=
  ⟨below_then h.1 hb, (hb.cell (World.block_lt_of_cell? W _ h.2.1)).trans h.2.1, (hb.cell (World.block_lt_of_cell? W _ h.2.2.1)).trans h.2.2.1, (hb.cell (World.block_lt_of_cell? W _ h.2.2.2.1)).trans h.2.2.2.1, (hb.cell (World.block_lt_of_cell? W _ h.2.2.2.2)).trans h.2.2.2.2⟩

theorem held2h {w0 W W' : World} {p1 p2 : Addr} {v1 v2 : Value} (hb : Below W.heap.size W W')
    (h : Below w0.heap.size w0 W ∧ W.cell? p1 = some v1 ∧ W.cell? p2 = some v2) :
    Below w0.heap.size w0 W' ∧ W'.cell? p1 = some v1 ∧ W'.cell? p2 = some v2 :=
  ⟨below_then h.1 hb, (hb.cell (World.block_lt_of_cell? W _ h.2.1)).trans h.2.1, (hb.cell (World.block_lt_of_cell? W _ h.2.2)).trans h.2.2⟩

set_option maxRecDepth 100000 in
set_option maxHeartbeats 6400000 in
theorem fnDigests_walk0 (a : Option Addr) (n c : Nat) (xs : List Int) (w : World) (hC : CodeAt w a n c xs) :
    Calls Try.prog 3 #[.slice a n c] w fun e w' => e = .returned (.bool true) ∧ Below w.heap.size w w' := by
  have hn := hC.size
  have hbig : decide (1048576 < n) = false := by simp; omega
  have HC := Lib.hid hC
  clear hC
  go_enter Try.func3, Try.ntmps3
  go_wp2_with fail
  refine (lwBig_any a n c (by omega) _).mono ?_
  rintro e w1 ⟨rfl, rfl⟩
  rw [hbig]
  go_wp2_with fail
  refine (drawSha1Of_any a n c xs _ HC.out).mono ?_
  rintro e w2 ⟨g2, n2, c2, ys, rfl, ho2, hn2, hy2, hb2⟩
  have B2 := Lib.hid hb2
  have O2 := Lib.hid ho2
  have hc2 := owns_caps ho2
  have hl2 := owns_length ho2
  have KS1 := Lib.hid (fun W (h : Below w2.heap.size w2 W) => specSha1Of_any (some ⟨g2, 0, none⟩) n2 c2 ys W (by omega) (by simp) (inRow_owned (owns_below ho2 h) (getD_mem8 hy2)))
  have KI1 := Lib.hid (implSha1Of_any (some ⟨g2, 0, none⟩) n2 c2 ys w2 (by omega) (by simp) (inRow_owned ho2 (getD_mem8 hy2)))
  unfold OwnsRes2 at KS1 KI1
  have HSH : Hid (shaCode ys ≠ 0 ∨ (shaBytes ys).length = 20) := Lib.hid (by
    unfold shaCode shaBytes
    by_cases h : 3000 < ys.length
    · rw [if_pos h]; exact .inl (by decide)
    · rw [if_neg h, if_neg h]; exact .inr (shaL_length _))
  generalize shaCode ys = sc at *
  generalize shaBytes ys = sb at *
  clear hb2 ho2 hc2 hl2 hy2 hn2
  go_wp2_with fail
  refine KI1.out.mono ?_
  rintro e w3 ⟨a3, n3, c3, rfl, ho3, hb3⟩
  have V3 := Lib.hid (Var2.new w3 26 sc (.slice a3 n3 c3))
  have R3 := Lib.hid (Row.of_owns (ho3.alloc (.cells #[.int .i64 sc, .slice a3 n3 c3] 26)))
  have L3 := Lib.hid (owns_length ho3)
  have D3 := Lib.hid (hb3.alloc hb3.size (.cells #[.int .i64 sc, .slice a3 n3 c3] 26))
  clear ho3 hb3 KI1
  go_wp2_with fail
  refine (drawBase64Of_any a n c xs _ (HC.out.below (below_then B2.out D3.out))).mono ?_
  rintro e w4 ⟨g4, n4, c4, zs, rfl, ho4, hn4, hy4, hb4⟩
  have D4 := Lib.hid (below_then D3.out hb4)
  have V4 := Lib.hid (V3.out.below hb4)
  have R4 := Lib.hid (R3.out.below hb4)
  have hc4 := owns_caps ho4
  have hl4 := owns_length ho4
  have I4 := Lib.hid (fun W (h : Below w4.heap.size w4 W) => inRow_owned (owns_below ho4 h) (getD_mem8 hy4))
  have KS2 := Lib.hid (fun W (h : Below w4.heap.size w4 W) => specBase64Of_any (some ⟨g4, 0, none⟩) n4 c4 zs W (by omega) hc4.1 (I4.out W h))
  have KI2 := Lib.hid (implBase64Of_any (some ⟨g4, 0, none⟩) n4 c4 zs w4 (by omega) hc4.1 hc4.2 (I4.out w4 (Below.refl _ _)))
  have KA := Lib.hid (fun j (hj : 3 * j ≤ n4) W (h : Below w4.heap.size w4 W) => implBase64Of_any (some ⟨g4, 0, none⟩) (3 * j) c4 (zs.take (3 * j)) W (by omega) (by omega) hc4.2 (by
    have := (I4.out W h).part 0 (3 * j) c4 (by omega)
    simpa using this))
  have KB := Lib.hid (fun j (hj : 3 * j ≤ n4) W (h : Below w4.heap.size w4 W) => implBase64Of_any (some ⟨g4, 3 * j, none⟩) (n4 - 3 * j) (c4 - 3 * j) (zs.drop (3 * j)) W (by omega) (by omega) (by omega) (by
    have := (I4.out W h).part (3 * j) (n4 - 3 * j) (c4 - 3 * j) (by omega)
    rw [List.take_of_length_le (by rw [List.length_drop]; omega)] at this
    simpa using this))
  have HCUT : Hid (∀ j, 3 * j ≤ n4 → n4 ≤ 3000 → b64Text (zs.take (3 * j)) ++ b64Text (zs.drop (3 * j)) = b64Text zs) := Lib.hid (fun j hj h3 => by
    unfold b64Text
    rw [if_neg (by rw [List.length_take]; omega), if_neg (by rw [List.length_drop]; omega), if_neg (by omega), ← b64_cut zs j (by omega)]
    apply ByteArray.ext
    simp)
  have HTS : Hid (b64Code zs ≠ 0 ∨ (n4 ≤ 3000 ∧ (b64Text zs).size = (n4 + 2) / 3 * 4)) := Lib.hid (by
    unfold b64Code b64Text
    by_cases h : 3000 < zs.length
    · rw [if_pos h]; exact .inl (by decide)
    · rw [if_neg h, if_neg h]
      refine .inr ⟨by omega, ?_⟩
      show (b64L zs).toArray.size = _
      rw [List.size_toArray]
      unfold b64L
      rw [b64Pre_length]
      unfold b64N
      omega)
  have hcc4 := hc4.1
  generalize b64Code zs = bc at *
  generalize b64Text zs = bt at *
  have HL4 := Lib.hid hl4
  clear ho4 hb4 hc4 hl4 hy4 V3 R3 D3
  go_wp2_with fail
  refine KI2.out.mono ?_
  rintro e w5 ⟨rfl, hb5⟩
  have T5 := Lib.hid (Var2.new w5 29 bc (.string bt))
  have B45 := Lib.hid (hb5.alloc hb5.size (.cells #[.int .i64 bc, .string bt] 29))
  have V5 := Lib.hid (V4.out.below B45.out)
  have R5 := Lib.hid (R4.out.below B45.out)
  have D5 := Lib.hid (below_then D4.out B45.out)
  clear hb5 KI2 V4 R4
  go_wp2_with fail
  generalize w5.alloc (.cells #[.int .i64 bc, .string bt] 29) = w6 at *
  have q0 := V5.out.c0
  have q1 := V5.out.c1
  have q2 := T5.out.c0
  have q3 := T5.out.c1
  have hlt0 := V5.out.lt
  have hlt2 := T5.out.lt
  have nt := fun W => neqText bc bt W
  have hS0 : Below w6.heap.size w6 w6.drew ∧ w6.drew.cell? ⟨w3.heap.size, 0, none⟩ = some (.int .i64 sc) ∧ w6.drew.cell? ⟨w3.heap.size, 1, none⟩ = some (.slice a3 n3 c3) ∧ w6.drew.cell? ⟨w5.heap.size, 0, none⟩ = some (.int .i64 bc) ∧ w6.drew.cell? ⟨w5.heap.size, 1, none⟩ = some (.string bt) := ⟨(Below.refl _ _).drew, q0, q1, q2, q3⟩
  first | (go_region_held3 (fun W => Below w6.heap.size w6 W ∧ W.cell? ⟨w3.heap.size, 0, none⟩ = some (.int .i64 sc) ∧ W.cell? ⟨w3.heap.size, 1, none⟩ = some (.slice a3 n3 c3) ∧ W.cell? ⟨w5.heap.size, 0, none⟩ = some (.int .i64 bc) ∧ W.cell? ⟨w5.heap.size, 1, none⟩ = some (.string bt)) (first | assumption | exact held4h hbr (by assumption))
    (first
      | (go_at_call 12; refine (KS1.out _ (below_then D5.out (And.left (by assumption)))).mono ?_; rintro e wx ⟨ar, nr, cr, rfl, hor, hbr⟩)
      | (go_at_call 11; ((with_reducible refine (lwBytes_true sc _ _ _ _ _ _ sb _ ?_ ?_).mono ?_)); exact R5.out.below (And.left (by assumption)); exact Row.of_owns (by assumption); rintro e wy ⟨rfl, hbr⟩)
      | (go_at_call 13; refine (KS2.out _ (below_then B45.out (And.left (by assumption)))).mono ?_; rintro e wz ⟨rfl, hbr⟩))) | fail
  have hB8 : Below w6.heap.size w6 wz := And.left (by assumption)
  have B8 := Lib.hid (below_then B45.out hB8)
  have BD := Lib.hid (below_then B2.out (below_then D5.out hB8))
  have V8 := Lib.hid (V5.out.below hB8)
  have T8 := Lib.hid (T5.out.below hB8)
  clear hB8 hS0 q0 q1 q2 q3 hlt0 hlt2 nt KS1 KS2 V5 T5 R5 D5 B45 D4 hor hbr
  have q0 := V8.out.c0
  have q1 := V8.out.c1
  have q2 := T8.out.c0
  have q3 := T8.out.c1
  have hlt0 := V8.out.lt
  have hlt2 := T8.out.lt
  have hcase : (sc == 0) = false ∨ ((sc == 0) = true ∧ ((n3 : Int) != 20) = false) := by
    by_cases h0 : sc = 0
    · rcases HSH.out with h | h
      · exact absurd h0 h
      · refine .inr ⟨by rw [beq_iff_eq]; exact h0, ?_⟩
        rw [bne_eq_false_iff_eq]
        have := L3.out
        omega
    · exact .inl (by rw [beq_eq_false_iff_ne]; exact h0)
  clear HSH
  rcases hcase with hsc1 | ⟨hsc1, hn31⟩
  all_goals
    by_cases hbc : bc = 0
    · have hbc1 : (bc != 0) = false := by rw [bne_eq_false_iff_eq]; exact hbc
      obtain ⟨h3, hsz⟩ := HTS.out.resolve_left (fun h => h hbc)
      clear hbc
      obtain ⟨M, hMe⟩ : ∃ M, n4 / 3 = M := ⟨_, rfl⟩
      have mq : (n4 : Int) / 3 = (M : Int) := by omega
      have hM : 3 * M ≤ n4 := by omega
      have m1 : IntKind.i64.wrap ((n4 : Int).tdiv 3) = (M : Int) := by rw [IntWalk.i64_quo (n4 : Int) 3 (by omega), mq]
      have m2 : IntKind.i64.wrap ((M : Int) * 3) = (M : Int) * 3 := IntWalk.i64_in _ (by omega)
      have m3 : IntKind.i64.wrap (((M : Int) * 3).tdiv 3) = (M : Int) := by rw [IntWalk.i64_quo _ _ (by omega)]; omega
      have m4 : IntKind.i64.wrap ((M : Int) + 1) = (M : Int) + 1 := IntWalk.i64_in _ (by omega)
      have KL := Lib.hid (lwAt2_any a n c xs (M + 1) (by omega) (by omega) wz (HC.out.below BD.out))
      rw [show ((M + 1 : Nat) : Int) = (M : Int) + 1 from rfl] at KL
      unfold AtRes at KL
      go_wp2_with fail
      refine KL.out.mono ?_
      rintro e w9 ⟨z, rfl, hz, nd, rfl⟩
      have hzP : 3 * z ≤ n4 := by omega
      have KA1 := Lib.hid (KA.out z hzP)
      have KB1 := Lib.hid (KB.out z hzP)
      have HC1 := Lib.hid (HCUT.out z hzP h3)
      obtain ⟨P, hPe⟩ : ∃ P, 3 * z = P := ⟨_, rfl⟩
      rw [hPe] at KA1 KB1 HC1 hzP
      have m5 : IntKind.i64.wrap ((z : Int) * 3) = (P : Int) := by rw [IntWalk.i64_in _ (by omega)]; omega
      have m5b : (z : Int) * 3 = (P : Int) := by omega
      have HEMP : Hid (n4 = P → ∀ (x : Addr) W, Calls Try.prog 10 #[.slice (some x) 0 0] W fun e w' => e = .returned (.agg #[.int .i64 (b64Code (zs.drop P)), .string (b64Text (zs.drop P))]) ∧ Below W.heap.size W w') := Lib.hid (fun h x W => by
        have hd : zs.drop P = [] := List.drop_eq_nil_of_le (by have := HL4.out; omega)
        rw [hd]
        exact implBase64Of_any (some x) 0 0 [] W (by decide) (Nat.le_refl _) (by decide) ⟨by decide, rfl, fun i => by simp, .inl rfl⟩)
      generalize b64Code (zs.take P) = ca at KA1
      generalize b64Code (zs.drop P) = cb at KB1 HEMP
      generalize b64Text (zs.take P) = ta at KA1 HC1
      generalize b64Text (zs.drop P) = tb at KB1 HC1 HEMP
      obtain ⟨L, hLe⟩ : ∃ L, (n4 + 2) / 3 = L := ⟨_, rfl⟩
      rw [hLe] at hsz
      have mq2 : ((n4 : Int) + 2) / 3 = (L : Int) := by omega
      have m6 : IntKind.i64.wrap ((n4 : Int) + 2) = (n4 : Int) + 2 := IntWalk.i64_in _ (by omega)
      have m7 : IntKind.i64.wrap (((n4 : Int) + 2).tdiv 3) = (L : Int) := by rw [IntWalk.i64_quo _ _ (by omega), mq2]
      have m8 : IntKind.i64.wrap ((L : Int) * 4) = (L : Int) * 4 := IntWalk.i64_in _ (by omega)
      have hbs : ((bt.size : Int) == (L : Int) * 4) = true := by rw [beq_iff_eq]; omega
      have hab : ta.size + tb.size = bt.size := by rw [← HC1.out, ByteArray.size_append]
      have hsum : ¬ 9223372036854775807 < ta.size + tb.size := by omega
      have hsum2 : ¬ (9223372036854775807 : Int) < (ta.size : Int) + (tb.size : Int) := by omega
      have p1 : P ≤ c4 := by omega
      have p2 : (P : Int) ≤ (c4 : Int) := by omega
      have p3 : (P : Int) ≤ (n4 : Int) := by omega
      have hBn : Below wz.heap.size wz (wz.drewN nd) := below_drewN (Below.refl _ _) nd
      have B9 := Lib.hid (below_then B8.out hBn)
      have BD9 := Lib.hid (below_then BD.out hBn)
      have q2 := q2
      have T9 : Var2 (wz.drewN nd) w5.heap.size bc (.string bt) := T8.out.below hBn
      have r2 := T9.c0
      have r3 := T9.c1
      have hlt9 := T9.lt
      clear q0 q1 q2 q3 hlt0 hlt2 V8 T8 KL KA KB HCUT hMe hLe hPe T9 hBn m1 m2 m3 m4 mq hz hM hsz hab
      generalize wz.drewN nd = w9 at *
      have hS0 : Below w9.heap.size w9 w9.drew ∧ w9.drew.cell? ⟨w5.heap.size, 0, none⟩ = some (.int .i64 bc) ∧ w9.drew.cell? ⟨w5.heap.size, 1, none⟩ = some (.string bt) := ⟨(Below.refl _ _).drew, r2, r3⟩
      have HTB : Hid (n4 = P → ∀ (x : Addr) W, Calls Try.prog 10 #[.slice (some x) 0 0] W fun e w' => e = .returned (.agg #[.int .i64 cb, .string tb]) ∧ Below W.heap.size W w') := HEMP
      have fa := fun W => field_text ca ta W
      have fb := fun W => field_text cb tb W
      by_cases hcp : c4 = P
      · have hn4 : n4 = P := by omega
        have KB2 := Lib.hid (HTB.out hn4)
        clear HTB KB1
        subst hcp
        subst hn4
        go_wp2_with fail
        first | (go_region_held3 (fun W => Below w9.heap.size w9 W ∧ W.cell? ⟨w5.heap.size, 0, none⟩ = some (.int .i64 bc) ∧ W.cell? ⟨w5.heap.size, 1, none⟩ = some (.string bt)) (first | assumption | exact held2h hbr (by assumption))
          (first
            | (go_at_call 10; (with_reducible refine (KA1.out _ (below_then B9.out (And.left (by assumption)))).mono ?_); rintro e wx ⟨rfl, hbr⟩)
            | (go_at_call 10; (with_reducible refine (KB2.out _ _).mono ?_); rintro e wy ⟨rfl, hbr⟩))) | fail
        have hBf : Below w9.heap.size w9 wy := And.left (by assumption)
        go_wp2
        go_ret
        exact ⟨ret_bool (by rw [HC1.out]; simp), below_then BD9.out hBf⟩
      · clear HTB
        go_wp2_with fail
        first | (go_region_held3 (fun W => Below w9.heap.size w9 W ∧ W.cell? ⟨w5.heap.size, 0, none⟩ = some (.int .i64 bc) ∧ W.cell? ⟨w5.heap.size, 1, none⟩ = some (.string bt)) (first | assumption | exact held2h hbr (by assumption))
          (first
            | (go_at_call 10; (with_reducible refine (KA1.out _ (below_then B9.out (And.left (by assumption)))).mono ?_); rintro e wx ⟨rfl, hbr⟩)
            | (go_at_call 10; (with_reducible refine (KB1.out _ (below_then B9.out (And.left (by assumption)))).mono ?_); rintro e wy ⟨rfl, hbr⟩))) | fail
        have hBf : Below w9.heap.size w9 wy := And.left (by assumption)
        go_wp2
        go_ret
        exact ⟨ret_bool (by rw [HC1.out]; simp), below_then BD9.out hBf⟩
    · have hbc1 : (bc != 0) = true := by rw [bne_iff_ne]; exact hbc
      go_wp2
      go_ret
      exact ⟨rfl, BD.out⟩

theorem fnDigests_walk (a : Option Addr) (n c : Nat) (xs : List Int) (w : World) (h : InRow w a n c xs) :
    Calls Try.prog 3 #[.slice a n c] w fun e w' => e = .returned (.bool true) ∧ Below w.heap.size w w' := by
  by_cases hs2 : n ≤ 1048576
  · exact fnDigests_walk0 a n c xs w ⟨h.len, hs2, h.byte, h.row⟩
  · have hbig : decide (1048576 < n) = true := by simp; omega
    have hm := h.max
    unfold maxLen at hm
    go_enter Try.func3, Try.ntmps3
    go_wp2_with fail
    refine (lwBig_any a n c (by omega) _).mono ?_
    rintro e w1 ⟨rfl, rfl⟩
    rw [hbig]
    go_wp2
    go_ret
    exact ⟨rfl, Below.refl _ _⟩
end Go.Proofs.Ytlhflkpbccbofaa
