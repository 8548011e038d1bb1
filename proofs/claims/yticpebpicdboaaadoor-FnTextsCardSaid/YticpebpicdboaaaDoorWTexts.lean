/- The walk of FnTexts. -/
import Derived.Test.YticpebpicdboaaaDoorTextsF
import Derived.Test.YticpebpicdboaaaDoorTabsD
import Derived.Test.YticpebpicdboaaaDoorLwBig
import Derived.Test.YticpebpicdboaaaDoorNeqT
import Derived.Test.YticpebpicdboaaaDoorHand
import Derived.Deep.RegionHeld3
namespace Go.Proofs.YticpebpicdboaaaDoor
open Go.ChangeShapes Go.WideShapes Go.ChangeAt Go.RowKit
set_option linter.unusedVariables false
set_option linter.unusedSimpArgs false

/-- three boxes of two cells are kept -/
def Held6 (w0 W : World) (b1 b2 b3 : Nat) (x1 y1 x2 y2 x3 y3 : Value) : Prop :=
  Below w0.heap.size w0 W ∧ W.cell? ⟨b1, 0, none⟩ = some x1 ∧ W.cell? ⟨b1, 1, none⟩ = some y1 ∧ W.cell? ⟨b2, 0, none⟩ = some x2 ∧ W.cell? ⟨b2, 1, none⟩ = some y2 ∧ W.cell? ⟨b3, 0, none⟩ = some x3 ∧ W.cell? ⟨b3, 1, none⟩ = some y3
theorem held6h {w0 W W' : World} {b1 b2 b3 : Nat} {x1 y1 x2 y2 x3 y3 : Value} (hb : Below W.heap.size W W')
    (h : Below w0.heap.size w0 W ∧ W.cell? ⟨b1, 0, none⟩ = some x1 ∧ W.cell? ⟨b1, 1, none⟩ = some y1 ∧ W.cell? ⟨b2, 0, none⟩ = some x2 ∧ W.cell? ⟨b2, 1, none⟩ = some y2 ∧ W.cell? ⟨b3, 0, none⟩ = some x3 ∧ W.cell? ⟨b3, 1, none⟩ = some y3) :
    Below w0.heap.size w0 W' ∧ W'.cell? ⟨b1, 0, none⟩ = some x1 ∧ W'.cell? ⟨b1, 1, none⟩ = some y1 ∧ W'.cell? ⟨b2, 0, none⟩ = some x2 ∧ W'.cell? ⟨b2, 1, none⟩ = some y2 ∧ W'.cell? ⟨b3, 0, none⟩ = some x3 ∧ W'.cell? ⟨b3, 1, none⟩ = some y3 := by
  obtain ⟨h0, h1, h2, h3, h4, h5, h6⟩ := h
  have k : ∀ b o v, W.cell? ⟨b, o, none⟩ = some v → W'.cell? ⟨b, o, none⟩ = some v := fun b o v h => (hb.cell (World.block_lt_of_cell? W _ h)).trans h
  exact ⟨below_then h0 hb, k _ _ _ h1, k _ _ _ h2, k _ _ _ h3, k _ _ _ h4, k _ _ _ h5, k _ _ _ h6⟩
theorem held2t {w0 W W' : World} {b1 b2 o2 : Nat} {x1 x2 : Value} (hb : Below W.heap.size W W')
    (h : Below w0.heap.size w0 W ∧ W.cell? ⟨b1, 1, none⟩ = some x1 ∧ W.cell? ⟨b2, o2, none⟩ = some x2) : Below w0.heap.size w0 W' ∧ W'.cell? ⟨b1, 1, none⟩ = some x1 ∧ W'.cell? ⟨b2, o2, none⟩ = some x2 :=
  ⟨below_then h.1 hb, (hb.cell (World.block_lt_of_cell? W _ h.2.1)).trans h.2.1, (hb.cell (World.block_lt_of_cell? W _ h.2.2)).trans h.2.2⟩
theorem field_w0 (c : Int) (a : Option Addr) (n q : Nat) (W : World) : (Instr.field 32 (.agg #[.int .i64 c, .slice a n q]) 0).run Tryd.prog W = .ok (.int .i64 c) W := by kernel_rfl
theorem field_w1 (c : Int) (a : Option Addr) (n q : Nat) (W : World) : (Instr.field 32 (.agg #[.int .i64 c, .slice a n q]) 1).run Tryd.prog W = .ok (.slice a n q) W := by kernel_rfl
theorem getD_byte {ys : List Int} (h : ∀ y ∈ ys, 0 ≤ y ∧ y ≤ 255) (i : Nat) : 0 ≤ ys.getD i 0 ∧ ys.getD i 0 ≤ 255 := by
  rw [List.getD_eq_getElem?_getD]
  rcases Nat.lt_or_ge i ys.length with hi | hi
  · rw [List.getElem?_eq_getElem hi]; exact h _ (List.getElem_mem hi)
  · rw [List.getElem?_eq_none hi]; decide
theorem row_at {w : World} {B N c : Nat} {a : Option Addr} {ts : List ByteArray} (h : w.ownsRow B 9 1 (.slice a N c) N (ts.map Value.string)) {i : Nat} (hi : i < N) :
    ∃ g, a = some ⟨g, 0, none⟩ ∧ g < w.heap.size ∧ w.cell? ⟨g, i, none⟩ = some (.string (ts.getD i ByteArray.empty)) := by
  have hl := ownsS_length h
  obtain ⟨g, rfl⟩ : ∃ g, a = some ⟨g, 0, none⟩ := by
    rcases h.2 with ⟨hv, h0⟩ | ⟨g, cap, cur, hv, _⟩
    · omega
    · simp only [Value.slice.injEq] at hv
      exact ⟨_, hv.1⟩
  refine ⟨g, rfl, (h.lt g rfl).2, ?_⟩
  have hc := h.cellAt i (by omega)
  rw [hc, List.getElem?_map, List.getElem?_eq_getElem (by omega), List.getD_eq_getElem?_getD, List.getElem?_eq_getElem (by omega)]
  rfl

set_option maxRecDepth 100000 in
set_option maxHeartbeats 6400000 in
theorem fnTexts_walk0 (a : Option Addr) (n c : Nat) (xs : List Int) (w : World) (hC : CodeAt w a n c xs) :
    Calls Tryd.prog 3 #[.slice a n c] w fun e w' => e = .returned (.bool true) ∧ Below w.heap.size w w' := by
  have hn := hC.size
  have hbig : decide (1048576 < n) = false := by simp; omega
  have HC := Lib.hid hC
  clear hC
  go_enter Tryd.func3, Tryd.ntmps3
  go_wp2_with fail
  refine (lwBig_any a n c (by omega) _).mono ?_
  rintro e w1 ⟨rfl, rfl⟩
  rw [hbig]
  go_wp2_with fail
  refine (drawHexText_any a n c xs _ HC.out).mono ?_
  rintro e w2 ⟨g2, n2, c2, ys, rfl, ho2, hn2, hy2, hb2⟩
  have hl2 := owns_length ho2
  have B2 := Lib.hid hb2
  have HR2 := Lib.hid (fun W (h : Below w2.heap.size w2 W) => inRow_owned (owns_below ho2 h) (getD_byte hy2))
  have KS1 := Lib.hid (fun W (h : Below w2.heap.size w2 W) => specHexText_any (some ⟨g2, 0, none⟩) n2 c2 ys W (HR2.out W h))
  have KI1 := Lib.hid (implHexText_any (some ⟨g2, 0, none⟩) n2 c2 ys w2 (HR2.out w2 (Below.refl _ _)))
  have F1 := Lib.hid (hex_len n2 ys (by omega))
  unfold TxtRes at KS1 KI1
  generalize hexCode n2 = hc at *
  generalize hexText n2 ys = ht at *
  clear hb2 ho2 hl2 hy2 HR2
  go_wp2_with fail
  refine KI1.out.mono ?_
  rintro e w3 ⟨rfl, hb3⟩
  have V3 := Lib.hid (Var2.new w3 26 hc (.string ht))
  have D3 := Lib.hid (hb3.alloc hb3.size (.cells #[.int .i64 hc, .string ht] 26))
  clear hb3 KI1
  go_wp2_with fail
  refine (drawRestOf_any a n c xs _ (HC.out.below (below_then B2.out D3.out))).mono ?_
  rintro e w4 ⟨s1, rfl, hs1, hb4⟩
  have D4 := Lib.hid (below_then D3.out hb4)
  have V4 := Lib.hid (V3.out.below hb4)
  have KS2 := Lib.hid (fun W => specRestOf_any s1 (by omega) W)
  have KI2 := Lib.hid (implRestOf_any s1 (by omega) w4)
  have F2 := Lib.hid (rest_tail s1)
  unfold TxtRes at KS2 KI2
  generalize restCode s1 = rc at *
  generalize restText s1 = rt at *
  clear hb4 V3 D3
  go_wp2_with fail
  refine KI2.out.mono ?_
  rintro e w5 ⟨rfl, hb5⟩
  have T5 := Lib.hid (Var2.new w5 26 rc (.string rt))
  have B45 := hb5.alloc hb5.size (.cells #[.int .i64 rc, .string rt] 26)
  have V5 := Lib.hid (V4.out.below B45)
  have D5 := Lib.hid (below_then D4.out B45)
  clear hb5 KI2 V4 D4 B45
  go_wp2_with fail
  refine (drawWordsOf_any a n c xs _ (HC.out.below (below_then B2.out D5.out))).mono ?_
  rintro e w6 ⟨s2, rfl, hs2, hb6⟩
  have D6 := Lib.hid (below_then D5.out hb6)
  have V6 := Lib.hid (V5.out.below hb6)
  have T6 := Lib.hid (T5.out.below hb6)
  have KS3 := Lib.hid (fun W => (specWordsOf_any s2 (by omega) W).mono fun e w' h => texts_n h)
  have KI3 := Lib.hid ((implWordsOf_any s2 (by omega) w6).mono fun e w' h => texts_n h)
  have hN := wordsOf_length s2
  unfold TextsN at KS3 KI3
  generalize wordsCode s2 = wc at *
  generalize wordsOf s2 = ts at *
  obtain ⟨N, hNe⟩ : ∃ N, ts.length = N := ⟨_, rfl⟩
  rw [hNe] at KS3 KI3 hN
  clear hb6 V5 T5 D5 hNe
  go_wp2_with fail
  refine KI3.out.mono ?_
  rintro e w7 ⟨a7, c7, rfl, ho7, hb7⟩
  have U7 := Lib.hid (Var2.new w7 32 wc (.slice a7 N c7))
  have B67 := hb7.alloc hb7.size (.cells #[.int .i64 wc, .slice a7 N c7] 32)
  have O7 := Lib.hid (ho7.alloc (.cells #[.int .i64 wc, .slice a7 N c7] 32))
  have V7 := Lib.hid (V6.out.below B67)
  have T7 := Lib.hid (T6.out.below B67)
  have D7 := Lib.hid (below_then D6.out B67)
  clear hb7 KI3 V6 T6 D6 B67 ho7
  go_wp2_with fail
  generalize w7.alloc (.cells #[.int .i64 wc, .slice a7 N c7] 32) = w8 at *
  have p0 := V7.out.c0
  have p1 := V7.out.c1
  have p2 := T7.out.c0
  have p3 := T7.out.c1
  have p4 := U7.out.c0
  have p5 := U7.out.c1
  have l0 := V7.out.lt
  have l2 := T7.out.lt
  have l4 := U7.out.lt
  have nt := fun W => neqText hc ht W
  have nr := fun W => neqText rc rt W
  have fw0 := fun a n q W => field_w0 wc a n q W
  have fw1 := fun a n q W => field_w1 wc a n q W
  have hS0 : Below w8.heap.size w8 w8.drew ∧ w8.drew.cell? ⟨w3.heap.size, 0, none⟩ = some (.int .i64 hc) ∧ w8.drew.cell? ⟨w3.heap.size, 1, none⟩ = some (.string ht) ∧ w8.drew.cell? ⟨w5.heap.size, 0, none⟩ = some (.int .i64 rc) ∧ w8.drew.cell? ⟨w5.heap.size, 1, none⟩ = some (.string rt) ∧ w8.drew.cell? ⟨w7.heap.size, 0, none⟩ = some (.int .i64 wc) ∧ w8.drew.cell? ⟨w7.heap.size, 1, none⟩ = some (.slice a7 N c7) := ⟨(Below.refl _ _).drew, p0, p1, p2, p3, p4, p5⟩
  (go_region_held3 (fun W => Below w8.heap.size w8 W ∧ W.cell? ⟨w3.heap.size, 0, none⟩ = some (.int .i64 hc) ∧ W.cell? ⟨w3.heap.size, 1, none⟩ = some (.string ht) ∧ W.cell? ⟨w5.heap.size, 0, none⟩ = some (.int .i64 rc) ∧ W.cell? ⟨w5.heap.size, 1, none⟩ = some (.string rt) ∧ W.cell? ⟨w7.heap.size, 0, none⟩ = some (.int .i64 wc) ∧ W.cell? ⟨w7.heap.size, 1, none⟩ = some (.slice a7 N c7)) (first | assumption | exact held6h hbr (by assumption))
    (first
      | (go_at_call 12; refine (KS1.out _ (below_then D7.out (And.left (by assumption)))).mono ?_; rintro e wx ⟨rfl, hbr⟩)
      | (go_at_call 13; refine (KS2.out _).mono ?_; rintro e wy ⟨rfl, hbr⟩)
      | (go_at_call 14; refine (KS3.out _).mono ?_; rintro e wz ⟨az, cz, rfl, hoz, hbr⟩)))
  have hB8 : Below w8.heap.size w8 wz := And.left (by assumption)
  have B8 := Lib.hid hB8
  clear hB8 hS0 p0 p1 p2 p3 p4 p5 l0 l2 l4 nt nr fw0 KS1 KS2 hoz hbr
  go_wp2
  go_loopw [9] (fun i wr => ∃ k : Nat, k ≤ N ∧ i = .int .i64 (k : Int) ∧ Below w8.heap.size w8 wr) (fun i _ => N - (intOf i).toNat)
  case atStart => exact ⟨0, Nat.zero_le _, rfl, B8.out⟩
  case round =>
    obtain ⟨k, hk, rfl, hb⟩ := hrel
    have HB := Lib.hid hb
    have hu := U7.out.below hb
    have p5 := hu.c1
    have l4 := hu.lt
    clear hu
    by_cases hlt : k < N
    · have q0 : (k : Int) < (N : Int) := by omega
      obtain ⟨g7, rfl, hg7, hc7⟩ := row_at O7.out hlt
      have hc7r := (hb.cell (p := ⟨g7, k, none⟩) hg7).trans hc7
      obtain ⟨y, hy⟩ : ∃ y, ts.getD k ByteArray.empty = y := ⟨_, rfl⟩
      rw [hy] at hc7r
      have HY := Lib.hid hy
      clear hy hc7 hb
      go_wp2_with fail
      have hS0 : Below w8.heap.size w8 wr.drew ∧ wr.drew.cell? ⟨w7.heap.size, 1, none⟩ = some (.slice (some ⟨g7, 0, none⟩) N c7) ∧ wr.drew.cell? ⟨g7, k, none⟩ = some (.string y) := ⟨HB.out.drew, p5, hc7r⟩
      refine wp_region_noPanic ?_
      refine wp_region_held_drew (S := (fun W => Below w8.heap.size w8 W ∧ W.cell? ⟨w7.heap.size, 1, none⟩ = some (.slice (some ⟨g7, 0, none⟩) N c7) ∧ W.cell? ⟨g7, k, none⟩ = some (.string y))) (by kernel_rfl) ?_ (fun hHeld => ?_)
      · exact hS0
      refine wpAnyH_take (i := 0) (oi := _) (v := ?_) rfl (by kernel_rfl) (by kernel_rfl) (by kernel_rfl) (fun _ _ _ h => h) (Or.inl ⟨by rfl, ?_⟩) (by with_reducible assumption) ?_
      rotate_left
      · intro w hSw
        (try dsimp only at hSw)
        go_simp
        all_goals (with_reducible rfl)
      try simp only [Act.put, List.getElem_toArray, List.getElem_cons_zero, List.getElem_cons_succ, List.setIfInBounds_toArray, List.set_cons_zero, List.set_cons_succ]
      refine wpAnyH_take (i := 1) (oi := _) (v := ?_) rfl (by kernel_rfl) (by kernel_rfl) (by kernel_rfl) (fun _ _ _ h => h) (Or.inl ⟨by rfl, ?_⟩) (by with_reducible assumption) ?_
      rotate_left
      · intro w hSw
        (try dsimp only at hSw)
        go_simp
        all_goals (with_reducible rfl)
      try simp only [Act.put, List.getElem_toArray, List.getElem_cons_zero, List.getElem_cons_succ, List.setIfInBounds_toArray, List.set_cons_zero, List.set_cons_succ]
      refine wpAnyH_take (i := 2) (oi := _) (v := ?_) rfl (by kernel_rfl) (by kernel_rfl) (by kernel_rfl) (fun _ _ _ h => h) (Or.inl ⟨by rfl, ?_⟩) (by with_reducible assumption) ?_
      rotate_left
      · intro w hSw
        (try dsimp only at hSw)
        go_simp
        all_goals (with_reducible rfl)
      try simp only [Act.put, List.getElem_toArray, List.getElem_cons_zero, List.getElem_cons_succ, List.setIfInBounds_toArray, List.set_cons_zero, List.set_cons_succ]
      refine wpAnyH_take (i := 3) (oi := _) (v := ?_) rfl (by kernel_rfl) (by kernel_rfl) (by kernel_rfl) (fun _ _ _ h => h) (Or.inl ⟨by rfl, ?_⟩) (by with_reducible assumption) ?_
      rotate_left
      · intro w hSw
        (try dsimp only at hSw)
        go_simp
        all_goals (with_reducible rfl)
      try simp only [Act.put, List.getElem_toArray, List.getElem_cons_zero, List.getElem_cons_succ, List.setIfInBounds_toArray, List.set_cons_zero, List.set_cons_succ]
      refine wpAnyH_take (i := 4) (oi := _) (v := ?_) rfl (by kernel_rfl) (by kernel_rfl) (by kernel_rfl) (fun _ _ _ h => h) (Or.inl ⟨by rfl, ?_⟩) (by with_reducible assumption) ?_
      rotate_left
      · intro w hSw
        (try dsimp only at hSw)
        go_simp
        all_goals (with_reducible rfl)
      try simp only [Act.put, List.getElem_toArray, List.getElem_cons_zero, List.getElem_cons_succ, List.setIfInBounds_toArray, List.set_cons_zero, List.set_cons_succ]
      refine wpAnyH_take (i := 5) (oi := _) (v := ?_) rfl (by kernel_rfl) (by kernel_rfl) (by kernel_rfl) (fun _ _ _ h => h) (Or.inl ⟨by rfl, ?_⟩) (by with_reducible assumption) ?_
      rotate_left
      · intro w hSw
        (try dsimp only at hSw)
        go_simp
        all_goals (with_reducible rfl)
      try simp only [Act.put, List.getElem_toArray, List.getElem_cons_zero, List.getElem_cons_succ, List.setIfInBounds_toArray, List.set_cons_zero, List.set_cons_succ]
      refine wpAnyH_take (i := 8) (oi := _) (v := ?_) rfl (by kernel_rfl) (by kernel_rfl) (by kernel_rfl) (fun _ _ _ h => h) (Or.inl ⟨by rfl, ?_⟩) (by with_reducible assumption) ?_
      rotate_left
      · intro w hSw
        (try dsimp only at hSw)
        go_simp
        all_goals (with_reducible rfl)
      try simp only [Act.put, List.getElem_toArray, List.getElem_cons_zero, List.getElem_cons_succ, List.setIfInBounds_toArray, List.set_cons_zero, List.set_cons_succ]
      refine wpAnyH_ready (rs := [6]) (by kernel_rfl) (by simp) ?_
      refine AllReadyH.cons (o := _) rfl (fun K hK => ?_) AllReadyH.nil
      go_simp
      refine (KS3.out _).mono ?_
      rintro e wv ⟨av, cv, rfl, hov, hbr⟩
      obtain ⟨gv, rfl, hgv, hcv⟩ := row_at hov hlt
      rw [HY.out] at hcv
      go_wp2_with fail
      refine hK.out _ _ ?_ (fun hHeld => ?_)
      · exact held2t hbr hHeld
      clear hK K
      try simp only [Act.put, List.getElem_toArray, List.getElem_cons_zero, List.getElem_cons_succ, List.setIfInBounds_toArray, List.set_cons_zero, List.set_cons_succ]
      refine wpAnyH_mono (S' := (fun W => (Below w8.heap.size w8 W ∧ W.cell? ⟨w7.heap.size, 1, none⟩ = some (.slice (some ⟨g7, 0, none⟩) N c7) ∧ W.cell? ⟨g7, k, none⟩ = some (.string y)) ∧ W.cell? ⟨gv, k, none⟩ = some (.string y))) (fun _ h => h.1) _ _ _ _ ?_
      have hHeld2 := And.intro hHeld hcv
      refine wpAnyH_take (i := 7) (oi := _) (v := ?_) rfl (by kernel_rfl) (by kernel_rfl) (by kernel_rfl) (fun _ _ _ h => h) (Or.inl ⟨by rfl, ?_⟩) (by with_reducible assumption) ?_
      rotate_left
      · intro w hSw
        (try dsimp only at hSw)
        go_simp
        all_goals (with_reducible rfl)
      try simp only [Act.put, List.getElem_toArray, List.getElem_cons_zero, List.getElem_cons_succ, List.setIfInBounds_toArray, List.set_cons_zero, List.set_cons_succ]
      refine wpAnyH_take (i := 9) (oi := _) (v := ?_) rfl (by kernel_rfl) (by kernel_rfl) (by kernel_rfl) (fun _ _ _ h => h) (Or.inl ⟨by rfl, ?_⟩) (by with_reducible assumption) ?_
      rotate_left
      · intro w hSw
        (try dsimp only at hSw)
        go_simp
        all_goals (with_reducible rfl)
      try simp only [Act.put, List.getElem_toArray, List.getElem_cons_zero, List.getElem_cons_succ, List.setIfInBounds_toArray, List.set_cons_zero, List.set_cons_succ]
      refine wpAnyH_take (i := 10) (oi := _) (v := ?_) rfl (by kernel_rfl) (by kernel_rfl) (by kernel_rfl) (fun _ _ _ h => h) (Or.inl ⟨by rfl, ?_⟩) (by with_reducible assumption) ?_
      rotate_left
      · intro w hSw
        (try dsimp only at hSw)
        go_simp
        all_goals (with_reducible rfl)
      try simp only [Act.put, List.getElem_toArray, List.getElem_cons_zero, List.getElem_cons_succ, List.setIfInBounds_toArray, List.set_cons_zero, List.set_cons_succ]
      refine wpAnyH_take (i := 11) (oi := _) (v := ?_) rfl (by kernel_rfl) (by kernel_rfl) (by kernel_rfl) (fun _ _ _ h => h) (Or.inl ⟨by rfl, ?_⟩) (by with_reducible assumption) ?_
      rotate_left
      · intro w hSw
        (try dsimp only at hSw)
        go_simp
        all_goals (with_reducible rfl)
      try simp only [Act.put, List.getElem_toArray, List.getElem_cons_zero, List.getElem_cons_succ, List.setIfInBounds_toArray, List.set_cons_zero, List.set_cons_succ]
      refine wpAnyH_done (by kernel_rfl) ?_ _
      refine NoPanic.normal ?_
      have hB9 : Below w8.heap.size w8 wv := hHeld.1
      have B9 := Lib.hid hB9
      clear hB9 hS0 hov hbr hcv hc7r p5 hHeld hHeld2
      go_wp2
      go_roundw
      case rel => exact ⟨k + 1, by omega, by go_num, B9.out⟩
      case measure => simp [intOf]; omega
    · obtain rfl : k = N := by omega
      have hv := V7.out.below hb
      have ht7 := T7.out.below hb
      have p0 := hv.c0
      have p1 := hv.c1
      have l0 := hv.lt
      have p2 := ht7.c0
      have p3 := ht7.c1
      have l2 := ht7.lt
      have DD := Lib.hid (below_then B2.out (below_then D7.out hb))
      have hsz1 : ht.size ≤ 9223372036854775807 ∨ True := .inr trivial
      clear hb hv ht7 V7 T7 U7 O7 KS3 fw1 hsz1
      have m1 : IntKind.i64.wrap (2 * (n2 : Int)) = 2 * (n2 : Int) := IntWalk.i64_in _ (by omega)
      have hcase : (hc == 0) = false ∨ ((hc == 0) = true ∧ ((ht.size : Int) != 2 * (n2 : Int)) = false) := by
        by_cases h0 : hc = 0
        · rcases F1.out with h | h
          · exact absurd h0 h
          · refine .inr ⟨by rw [beq_iff_eq]; exact h0, ?_⟩
            rw [bne_eq_false_iff_eq]
            omega
        · exact .inl (by rw [beq_eq_false_iff_ne]; exact h0)
      have HF2 := Lib.hid F2.out
      clear F1 F2
      rcases hcase with h1 | ⟨h1, h2⟩
      all_goals
        by_cases hr0 : rc = 0
        · have r1 : (rc != 0) = false := by rw [bne_eq_false_iff_eq]; exact hr0
          obtain ⟨r2, r3⟩ := HF2.out.resolve_left (fun h => h hr0)
          clear hr0
          have r4 : (rt.size : Int) < (s1.size : Int) := by omega
          obtain ⟨z, hz⟩ : ∃ z, s1.size - rt.size = z := ⟨_, rfl⟩
          rw [hz] at r3
          have r5 : IntKind.i64.wrap ((s1.size : Int) - (rt.size : Int)) = (z : Int) := by rw [IntWalk.i64_in _ (by omega)]; omega
          have r6 : (z : Int) ≤ (s1.size : Int) := by omega
          have r7 : (0 : Int) ≤ (z : Int) := by omega
          have r8 : (s1.extract z s1.size).toList = rt.toList := by rw [r3]
          go_wp2_with fail
          go_quiet (fail)
          go_wp2
          go_ret
          exact ⟨ret_bool (by simp [r8]), below_drewN DD.out _⟩
        · have r1 : (rc != 0) = true := by rw [bne_iff_ne]; exact hr0
          go_wp2_with fail
          go_quiet (fail)
          go_wp2
          go_ret
          exact ⟨rfl, below_drewN DD.out _⟩

theorem fnTexts_walk (a : Option Addr) (n c : Nat) (xs : List Int) (w : World) (h : InRow w a n c xs) (_ : Tabs w) :
    Calls Tryd.prog 3 #[.slice a n c] w fun e w' => e = .returned (.bool true) ∧ Below w.heap.size w w' := by
  by_cases hs2 : n ≤ 1048576
  · exact fnTexts_walk0 a n c xs w ⟨h.len, hs2, h.byte, h.row⟩
  · have hbig : decide (1048576 < n) = true := by simp; omega
    have hm := h.max
    unfold maxLen at hm
    go_enter Tryd.func3, Tryd.ntmps3
    go_wp2_with fail
    refine (lwBig_any a n c (by omega) _).mono ?_
    rintro e w1 ⟨rfl, rfl⟩
    rw [hbig]
    go_wp2
    go_ret
    exact ⟨rfl, Below.refl _ _⟩
end Go.Proofs.YticpebpicdboaaaDoor
