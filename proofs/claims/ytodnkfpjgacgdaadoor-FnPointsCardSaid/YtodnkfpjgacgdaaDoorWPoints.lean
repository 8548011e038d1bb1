/- The walk of the law on points. -/
import Derived.Test.YtodnkfpjgacgdaaDoorDraw4
import Derived.Test.YtodnkfpjgacgdaaDoorCode
import Derived.Test.YtodnkfpjgacgdaaDoorLw
import Derived.Test.YtodnkfpjgacgdaaDoorFacts
import Derived.Test.YtodnkfpjgacgdaaDoorImplPoints
import Derived.Test.YtodnkfpjgacgdaaDoorSpecText
import Derived.Test.YtodnkfpjgacgdaaDoorImplText
import Derived.Deep.RegionHeld3
import Derived.Deep.DeepCutAuto
namespace Go.Proofs.YtodnkfpjgacgdaaDoor
open Go.ChangeShapes Go.WideShapes Go.ChangeAt Go.RowKit
set_option linter.unusedVariables false

/-- what holds while the answers are compared -/
theorem held_step {w0 W W' : World} {b1 b2 : Nat} {u1 v1 u2 v2 : Value} (hb : Below W.heap.size W W')
    (h : Below w0.heap.size w0 W ∧ W.cell? ⟨b1, 0, none⟩ = some u1 ∧ W.cell? ⟨b1, 1, none⟩ = some v1 ∧ W.cell? ⟨b2, 0, none⟩ = some u2 ∧ W.cell? ⟨b2, 1, none⟩ = some v2) :
    Below w0.heap.size w0 W' ∧ W'.cell? ⟨b1, 0, none⟩ = some u1 ∧ W'.cell? ⟨b1, 1, none⟩ = some v1 ∧ W'.cell? ⟨b2, 0, none⟩ = some u2 ∧ W'.cell? ⟨b2, 1, none⟩ = some v2 := by
  obtain ⟨h0, h1, h2, h3, h4⟩ := h
  exact ⟨below_then h0 hb, (hb.cell (cell_some_lt h1)).trans h1, (hb.cell (cell_some_lt h2)).trans h2, (hb.cell (cell_some_lt h3)).trans h3, (hb.cell (cell_some_lt h4)).trans h4⟩
theorem held_row {w0 W : World} {R : Prop} {e : TypeId} {B : Nat} {k : IntKind} {v : Value} {n : Nat} {xs : List Int} (ho : w0.ownsRow B e 1 v n (xs.map (Value.int k))) (h : Below w0.heap.size w0 W ∧ R) : Row W k v xs :=
  Row.of_owns (owns_below ho h.1)
theorem fldP0 (w : World) (cd : Int) (a : Option Addr) (n c : Nat) : (Instr.field 31 (.agg #[.int .i64 cd, .slice a n c]) 0).run Tryd.prog w = .ok (.int .i64 cd) w := by kernel_rfl
theorem fldP1 (w : World) (cd : Int) (a : Option Addr) (n c : Nat) : (Instr.field 31 (.agg #[.int .i64 cd, .slice a n c]) 1).run Tryd.prog w = .ok (.slice a n c) w := by kernel_rfl
theorem fldB1 (w : World) (cd : Int) (a : Option Addr) (n c : Nat) : (Instr.field 26 (.agg #[.int .i64 cd, .slice a n c]) 1).run Tryd.prog w = .ok (.slice a n c) w := by kernel_rfl
theorem ptsList_len (l : List UInt8) : (ptsList l).length ≤ 1048576 := by
  unfold ptsList
  split
  · simp
  · unfold pts
    have := strm_len l
    split
    · simp
      omega
    · simp
theorem row_cells {W : World} {k : IntKind} {a : Option Addr} {n c : Nat} {xs : List Int} (h : Row W k (.slice a n c) xs) : ∀ i, i < n → ∃ g o, a = some ⟨g, o, none⟩ ∧ g < W.heap.size ∧ W.cell? ⟨g, o + i, none⟩ = some (.int k (xs.getD i 0)) := by
  intro i hi
  rcases h with ⟨hv, _⟩ | ⟨b, o, cap, hv, h1, h2, h3, h4⟩
  · simp only [Value.slice.injEq] at hv
    omega
  · simp only [Value.slice.injEq] at hv
    obtain ⟨rfl, rfl, rfl⟩ := hv
    exact ⟨b, o, rfl, h3, h4 i hi⟩
theorem flat_step (L : List Int) (k : Nat) (h : k < L.length) : L.getD k 0 ∈ L ∧ (L.take (k + 1)).flatMap Lib.encodeRuneZ = (L.take k).flatMap Lib.encodeRuneZ ++ Lib.encodeRuneZ (L.getD k 0) := by
  have e : L.getD k 0 = L[k] := by rw [List.getD_eq_getElem?_getD, List.getElem?_eq_getElem h]; rfl
  rw [e]
  refine ⟨List.getElem_mem h, ?_⟩
  rw [List.take_succ_eq_append_getElem h, List.flatMap_append]
  simp
theorem held_tabs {w0 W : World} {R : Prop} (ht : Tabs w0) (h : Below w0.heap.size w0 W ∧ R) : Tabs W := tabs_kept ht h.1
theorem lwNums_true (v1 v2 : Value) (xs : List Int) (w : World) (h1 : Row w .i64 v1 xs) (h2 : Row w .i64 v2 xs) :
    Calls Tryd.prog 17 #[v1, v2] w fun e w' => e = .returned (.bool true) ∧ Below w.heap.size w w' :=
  (lwNums_any v1 v2 xs xs w h1 h2).mono fun e w' ⟨he, nd, hw⟩ => ⟨by rw [he]; simp, by rw [hw]; exact below_drewN (Below.refl _ _) _⟩

theorem getIsName_spec (s : ByteArray) (hs : s.size ≤ maxLen) (w : World) :
    Calls Tryd.prog 23 #[.string s] w fun e w' => e = .returned (.bool (isNameL s.data.toList)) ∧ Below w.heap.size w w' :=
  (specIsName_any s hs w).mono fun e w' ⟨he, hw⟩ => ⟨he, by rw [hw]; exact Below.refl _ _⟩
theorem getIsChar_spec (p : Int) (w : World) :
    Calls Tryd.prog 19 #[.int .i64 p] w fun e w' => e = .returned (.bool (charB p)) ∧ Below w.heap.size w w' :=
  (specIsChar_any p w).mono fun e w' ⟨he, hw⟩ => ⟨he, by rw [hw]; exact Below.refl _ _⟩

set_option maxRecDepth 100000 in
set_option maxHeartbeats 6400000 in
theorem fnPoints_walk0 (a : Option Addr) (n c : Nat) (xs : List Int) (w : World) (hC : CodeAt w a n c xs) (hT : Tabs w) :
    Calls Tryd.prog 3 #[.slice a n c] w fun e w' => e = .returned (.bool true) ∧ Below w.heap.size w w' := by
  have hn := hC.size
  have hbig : decide (1048576 < n) = false := by simp; omega
  have HC := Lib.hid hC
  have HT := Lib.hid hT
  clear hC hT
  go_enter Tryd.func3, Tryd.ntmps3
  go_wp2_with fail
  refine (lwBig_any a n c (by omega) _).mono ?_
  rintro e w1 ⟨rfl, rfl⟩
  rw [hbig]
  go_wp2_with fail
  refine (drawPutPoint_any a n c xs _ HC.out).mono ?_
  rintro e w2 ⟨p, rfl, hb⟩
  have HB := Lib.hid hb
  clear hb
  go_wp2_with fail
  refine (implPutPoint_any p _).mono ?_
  rintro e w3 ⟨a1, n1, c1, rfl, ho, hb⟩
  have HB3 := Lib.hid (below_then HB.out hb)
  have HV3 := Lib.hid (Var2.new w3 26 (putCode p) (.slice a1 n1 c1))
  have HO3 := Lib.hid (owns_mono ho (HB.out.size))
  clear hb ho HB
  go_wp2_with fail
  refine (drawPointsOf_any a n c xs _ (HC.out.below (HB3.out.alloc HB3.out.size _))).mono ?_
  rintro e w4 ⟨t, rfl, ht, hb⟩
  have HB4 := Lib.hid (below_then (HB3.out.alloc HB3.out.size _) hb)
  have HV4 := Lib.hid (HV3.out.below hb)
  have HO4 := Lib.hid (owns_below (owns_below HO3.out (below1 w3 _)) hb)
  clear hb HB3 HV3 HO3
  go_wp2_with fail
  refine (implPointsOf_any t (by unfold maxLen; omega) _ (tabs_kept HT.out HB4.out)).mono ?_
  rintro e w5 ⟨a2, n2, c2, rfl, ho, hb⟩
  have HB5 := Lib.hid (below_then HB4.out hb)
  have HV5 := Lib.hid (HV4.out.below hb)
  have HO5 := Lib.hid (owns_below HO4.out hb)
  have HU5 := Lib.hid (Var2.new w5 31 (ptsCode t.data.toList) (.slice a2 n2 c2))
  have HP5 := Lib.hid (owns_mono ho (HB4.out.size))
  clear hb ho HB4 HV4 HO4
  go_wp2_with fail
  refine (drawIsChar_any a n c xs _ (HC.out.below (HB5.out.alloc HB5.out.size _))).mono ?_
  rintro e w6 ⟨q, rfl, hb⟩
  have HB6 := Lib.hid (below_then (HB5.out.alloc HB5.out.size _) hb)
  have HV6 := Lib.hid ((HV5.out.alloc _).below hb)
  have HO6 := Lib.hid (owns_below (owns_below HO5.out (below1 w5 _)) hb)
  have HU6 := Lib.hid (HU5.out.below hb)
  have HP6 := Lib.hid (owns_below (owns_below HP5.out (below1 w5 _)) hb)
  clear hb HB5 HV5 HO5 HU5 HP5
  go_wp2_with fail
  refine (drawTextFault_any a n c xs _ (HC.out.below HB6.out)).mono ?_
  rintro e w7 ⟨u, rfl, hu, hb⟩
  have HB7 := Lib.hid (below_then HB6.out hb)
  have HV7 := Lib.hid (HV6.out.below hb)
  have HO7 := Lib.hid (owns_below HO6.out hb)
  have HU7 := Lib.hid (HU6.out.below hb)
  have HP7 := Lib.hid (owns_below HP6.out hb)
  clear hb HB6 HV6 HO6 HU6 HP6
  go_wp2_with fail
  refine (drawIsName_any a n c xs _ (HC.out.below HB7.out)).mono ?_
  rintro e w8 ⟨m, rfl, hm, hb⟩
  have HB8 := Lib.hid (below_then HB7.out hb)
  have HV8 := Lib.hid (HV7.out.below hb)
  have HO8 := Lib.hid (owns_below HO7.out hb)
  have HU8 := Lib.hid (HU7.out.below hb)
  have HP8 := Lib.hid (owns_below HP7.out hb)
  clear hb HB7 HV7 HO7 HU7 HP7
  go_wp2_with fail
  have HT8 := Lib.hid (tabs_kept HT.out HB8.out)
  have hS0 : Below w8.heap.size w8 w8.drew ∧ w8.drew.cell? ⟨w3.heap.size, 0, none⟩ = some (.int .i64 (putCode p)) ∧ w8.drew.cell? ⟨w3.heap.size, 1, none⟩ = some (.slice a1 n1 c1) ∧
      w8.drew.cell? ⟨w5.heap.size, 0, none⟩ = some (.int .i64 (ptsCode t.data.toList)) ∧ w8.drew.cell? ⟨w5.heap.size, 1, none⟩ = some (.slice a2 n2 c2) :=
    held_step ((Below.refl _ _).drew) ⟨Below.refl _ _, HV8.out.c0, HV8.out.c1, HU8.out.c0, HU8.out.c1⟩
  go_cut [70] (fun v wx => v = .bool false ∧ Below w8.heap.size w8 wx ∧ wx.cell? ⟨w3.heap.size, 0, none⟩ = some (.int .i64 (putCode p)) ∧ wx.cell? ⟨w3.heap.size, 1, none⟩ = some (.slice a1 n1 c1) ∧
      wx.cell? ⟨w5.heap.size, 0, none⟩ = some (.int .i64 (ptsCode t.data.toList)) ∧ wx.cell? ⟨w5.heap.size, 1, none⟩ = some (.slice a2 n2 c2))
  case first =>
    have hf0 := fldP0
    have hf1 := fldP1
    have hq0 := HV8.out.c0
    have hq1 := HV8.out.c1
    have hq2 := HU8.out.c0
    have hq3 := HU8.out.c1
    go_region_held3 (fun W => Below w8.heap.size w8 W ∧ W.cell? ⟨w3.heap.size, 0, none⟩ = some (.int .i64 (putCode p)) ∧ W.cell? ⟨w3.heap.size, 1, none⟩ = some (.slice a1 n1 c1) ∧
      W.cell? ⟨w5.heap.size, 0, none⟩ = some (.int .i64 (ptsCode t.data.toList)) ∧ W.cell? ⟨w5.heap.size, 1, none⟩ = some (.slice a2 n2 c2))
      (first | assumption | exact held_step hbr (by assumption))
      (first
        | (go_at_call 15; refine (specPutPoint_any p _).mono ?_; rintro e w' ⟨ar, nr, cr, rfl, hor, hbr⟩)
        | (go_at_call 14; refine (lwBytes_true (putCode p) _ _ _ _ _ _ (putList p) _ ?_ ?_).mono ?_; exact held_row HO8.out (by assumption); exact Row.of_owns (by assumption); rintro e w' ⟨rfl, hbr⟩)
        | (go_at_call 16; refine (specPointsOf_any t (by omega) _).mono ?_; rintro e w' ⟨ar, nr, cr, rfl, hor, hbr⟩)
        | (go_at_call 17; refine (lwNums_true _ _ (ptsList t.data.toList) _ ?_ ?_).mono ?_; exact held_row HP8.out (by assumption); exact Row.of_owns (by assumption); rintro e w' ⟨rfl, hbr⟩)
        | (go_at_call 18; refine (implIsChar_any q _).mono ?_; rintro e w' ⟨rfl, hbr⟩)
        | (go_at_call 19; refine (getIsChar_spec q _).mono ?_; rintro e w' ⟨rfl, hbr⟩)
        | (go_at_call 20; refine (implTextFault_any u (by unfold maxLen; omega) _ ?_).mono ?_; exact held_tabs HT8.out (by assumption); rintro e w' ⟨rfl, hbr⟩)
        | (go_at_call 21; refine (specTextFault_any u (by omega) _).mono ?_; rintro e w' ⟨rfl, hbr⟩)
        | (go_at_call 22; refine (implIsName_any m (by unfold maxLen; omega) _).mono ?_; rintro e w' ⟨rfl, hbr⟩)
        | (go_at_call 23; refine (getIsName_spec m (by unfold maxLen; omega) _).mono ?_; rintro e w' ⟨rfl, hbr⟩))
    all_goals (go_wp2_with fail; go_meet; refine ⟨by simp, ?_⟩; first | assumption | exact held_step hbr (by assumption))
  case rest =>
    obtain ⟨rfl, hS⟩ := hcut
    have HSC := Lib.hid hS
    clear hS0 hS
    go_upto_region 12 with fail
    go_cut [84] (fun v wx => v = .bool false ∧ Below w8.heap.size w8 wx ∧ wx.cell? ⟨w3.heap.size, 0, none⟩ = some (.int .i64 (putCode p)) ∧ wx.cell? ⟨w3.heap.size, 1, none⟩ = some (.slice a1 n1 c1) ∧ wx.cell? ⟨w5.heap.size, 0, none⟩ = some (.int .i64 (ptsCode t.data.toList)) ∧ wx.cell? ⟨w5.heap.size, 1, none⟩ = some (.slice a2 n2 c2))
    case first =>
      obtain ⟨hB, q0, q1, q2, q3⟩ := HSC.out
      clear hB
      cases hp : pointB p
      · have e1 : putCode p = 3 := by simp [putCode, hp]
        rw [e1] at q0
        go_wp2_with fail
        go_meet
        exact ⟨rfl, HSC.out⟩
      · have e1 : putCode p = 0 := by simp [putCode, hp]
        have e2 : putList p = Lib.encodeRuneZ p := by simp [putList, hp]
        rw [e1] at q0
        have hcv := conv_row (P := Tryd.prog) _ Tryd.underlying22 Tryd.underlying5 Tryd.underlying9 (held_row HO8.out HSC.out)
        rw [e2] at hcv
        have hz : (strOfNums (Lib.encodeRuneZ p)).size ≤ maxLen := by
          have := Lib.encodeRuneZ_length p
          rw [strOfNums_size]
          unfold maxLen
          omega
        have hpr := put_read p hp
        have HPR := Lib.hid hpr
        have HZ := Lib.hid hz
        have hf1 := fldP1
        clear hpr hz e1 e2
        go_wp2_with fail
        refine (implPointsOf_any (strOfNums (Lib.encodeRuneZ p)) HZ.out _ (held_tabs HT8.out HSC.out)).mono ?_
        rintro e w9 ⟨a3, n3, c3, rfl, ho, hb⟩
        rw [HPR.out] at ho
        have HS9 := Lib.hid (held_step hb HSC.out)
        have HO9 := Lib.hid ho
        clear ho hb q0 q1 q2 q3
        go_wp2_with fail
        refine (lwNums_true _ _ [p] _ ((Row.of_owns HO9.out).below (below1 _ _)) (lit_row _ _ .i64 [p] 1 rfl (by decide))).mono ?_
        rintro e w10 ⟨rfl, hb⟩
        have HS10 := Lib.hid (held_step hb (held_step (below1 _ _) HS9.out))
        clear hb
        go_wp2_with fail
        go_meet
        exact ⟨rfl, HS10.out⟩
    case rest =>
      obtain ⟨rfl, hS⟩ := hcut
      clear HSC
      have HSC := Lib.hid hS
      clear hS
      go_upto_region 14 with fail
      go_cut [91] (fun v wx => v = .bool false ∧ Below w8.heap.size w8 wx ∧ wx.cell? ⟨w3.heap.size, 0, none⟩ = some (.int .i64 (putCode p)) ∧ wx.cell? ⟨w3.heap.size, 1, none⟩ = some (.slice a1 n1 c1) ∧ wx.cell? ⟨w5.heap.size, 0, none⟩ = some (.int .i64 (ptsCode t.data.toList)) ∧ wx.cell? ⟨w5.heap.size, 1, none⟩ = some (.slice a2 n2 c2))
      case first =>
        go_wp2_with fail
        refine (implIsName_any m (by unfold maxLen; omega) _).mono ?_
        rintro e w9 ⟨rfl, hb⟩
        have HS9 := Lib.hid (held_step hb HSC.out)
        clear hb
        cases hq : isNameL m.data.toList
        · go_wp2_with fail
          go_meet
          exact ⟨rfl, HS9.out⟩
        · have HF := Lib.hid (name_text _ hq)
          go_wp2_with fail
          refine (implTextFault_any m (by unfold maxLen; omega) _ (held_tabs HT8.out HS9.out)).mono ?_
          rintro e w10 ⟨rfl, hb⟩
          have HS10 := Lib.hid (held_step hb HS9.out)
          clear hb
          rw [HF.out]
          go_wp2_with fail
          go_meet
          exact ⟨rfl, HS10.out⟩
      case rest =>
        obtain ⟨rfl, hS⟩ := hcut
        clear HSC
        have HSC := Lib.hid hS
        obtain ⟨hB, q0, q1, q2, q3⟩ := hS
        have hn2 := owns_length HP8.out
        by_cases hcd : ptsCode t.data.toList = 0
        · rw [hcd] at q2
          have HN2 := Lib.hid hn2
          have hL := ptsList_len t.data.toList
          have HBW := Lib.hid (below_then HB8.out hB)
          have HRP := Lib.hid (read_put t hcd)
          have HRC := Lib.hid (row_cells (held_row HP8.out HSC.out))
          have hn3 : n2 ≤ 1048576 := by omega
          clear hB hn2 hL q0 q1 HSC HO8 HP8 HV8 HU8 HT8 HB8 HT
          generalize ptsList t.data.toList = L at HN2 HRP HRC
          go_wp2
          go_loopw [10, 11] (fun v iv wr => ∃ (k l : Nat) (a' : Option Addr) (c' : Nat), iv = .int .i64 k ∧ k ≤ n2 ∧ l ≤ 4 * k ∧ v = .slice a' l c' ∧
              wr.ownsRow wc.heap.size 5 1 (.slice a' l c') l (((L.take k).flatMap Lib.encodeRuneZ).map (Value.int .u8)) ∧ Below wc.heap.size wc wr) (fun _ iv _ => n2 - (intOf iv).toNat)
          case atStart => exact ⟨0, 0, _, _, rfl, Nat.zero_le _, Nat.zero_le _, rfl, lit_owns wc _ .u8 [] 0 rfl (by decide), below1 _ _⟩
          case round =>
            obtain ⟨k, l, a', c', rfl, hk, hl, rfl, ho, hb⟩ := hrel
            have z2 := (hb.cell (cell_some_lt q2)).trans q2
            have z3 := (hb.cell (cell_some_lt q3)).trans q3
            have HO := Lib.hid ho
            have HBR := Lib.hid hb
            clear ho hb q2 q3
            by_cases hlt : k < n2
            · obtain ⟨g2, o2, rfl, hg2, hcell⟩ := HRC.out k hlt
              have hc2 := (HBR.out.cell (p := ⟨g2, o2 + k, none⟩) hg2).trans hcell
              obtain ⟨hmem, htk⟩ := flat_step L k (by rw [← HN2.out]; exact hlt)
              have hpt := HRP.out.2 _ hmem
              generalize L.getD k 0 = x at hc2 hcell htk hpt
              have e2 : putList x = Lib.encodeRuneZ x := by simp [putList, hpt]
              have HTK := Lib.hid htk
              have k1 : (k : Int) < (n2 : Int) := by omega
              have hfB := fldB1
              clear hmem htk hcell hpt
              obtain ⟨i0, hi, hz0, hz1, hz2⟩ := info_parts u8Info
              go_wp2_with fail
              refine (implPutPoint_any x _).mono ?_
              rintro e w9 ⟨a4, n4, c4, rfl, ho4, hb4⟩
              rw [e2] at ho4
              have hn4 := owns_length ho4
              have hle4 := Lib.encodeRuneZ_length x
              have HO9 := Lib.hid (owns_below HO.out hb4)
              have HBR9 := Lib.hid (below_then HBR.out hb4)
              have HO4 := Lib.hid ho4
              clear ho4 hb4 e2
              rcases HO4.out.2 with ⟨hv, h0⟩ | ⟨g, cap, cur, hv, _⟩
              · exfalso
                omega
              · simp only [Value.slice.injEq] at hv
                obtain ⟨rfl, _, rfl⟩ := hv
                have HL4 := Lib.hid hle4
                have HN4 := Lib.hid hn4
                clear hle4 hn4
                go_wp2_with (at_builtin; refine wpList_append_own _ rfl _ _ 22 rfl wc.heap.size 5 i0 (.int .u8 0) 1 1 Tryd.underlying22 hi hz0 hz1 hz2 rfl (by decide) _ _ _ rfl HO9.out ⟨g, 0, none⟩ n4 c4 ((Lib.encodeRuneZ x).map (Value.int .u8)) rfl ?c1 ?c2 ?c3 ?c4 ?c5 ?c6 ?_)
                case c1 => have := HN4.out; simp; omega
                case c2 => exact HO4.out.cells (g := g) rfl
                case c3 => exact ints_oneCell _ _
                case c4 => have := HN4.out; have := HL4.out; unfold maxLen; omega
                case c5 => have := HN4.out; have := HL4.out; omega
                case c6 => exact HBR9.out.size
                intro v' w10 hown' hgrow _
                obtain ⟨a5, c5, rfl⟩ := owns_slice hown'
                have HBR10 := Lib.hid (HBR9.out.grown hgrow HBR9.out.size (fun k e => (HO9.out.lt k e).1))
                have HO10 := Lib.hid hown'
                clear hown' hgrow
                go_wp2
                go_roundw
                case rel => exact ⟨k + 1, l + n4, a5, c5, by go_num, by omega, by have := HN4.out; have := HL4.out; omega, rfl, by rw [HTK.out, List.map_append]; exact HO10.out, HBR10.out⟩
                case measure => simp [intOf]; omega
            · obtain rfl : k = n2 := by omega
              have hrow := Row.of_owns HO.out
              rw [List.take_of_length_le (by rw [← HN2.out]; exact Nat.le_refl _)] at hrow
              have hcv := conv_row (P := Tryd.prog) wr Tryd.underlying22 Tryd.underlying5 Tryd.underlying9 hrow
              rw [HRP.out.1] at hcv
              clear hrow
              go_wp2
              go_ret
              exact ⟨ret_bool (by simp), below_then HBW.out HBR.out⟩
        · have hl0 := fault_none _ hcd
          have HBW := Lib.hid (below_then HB8.out hB)
          rw [hl0] at hn2
          have hn0 : n2 = 0 := hn2
          subst hn0
          have hcb : (ptsCode t.data.toList == 0) = false := by rw [beq_eq_false_iff_ne]; exact hcd
          have hcb2 : (ptsCode t.data.toList != 0) = true := by rw [bne_iff_ne]; exact hcd
          clear hB hn2 HSC HO8 HP8 HV8 HU8 HT8 HB8 HT
          go_wp2
          go_ret
          exact ⟨rfl, HBW.out⟩
theorem fnPoints_walk (a : Option Addr) (n c : Nat) (xs : List Int) (w : World) (h : InRow w a n c xs) (hT : Tabs w) :
    Calls Tryd.prog 3 #[.slice a n c] w fun e w' => e = .returned (.bool true) ∧ Below w.heap.size w w' := by
  by_cases hs : n ≤ 1048576
  · exact fnPoints_walk0 a n c xs w ⟨h.len, hs, h.byte, h.row⟩ hT
  · have hbig : decide (1048576 < n) = true := by simp; omega
    have hm := h.max
    unfold maxLen at hm
    go_enter Tryd.func3, Tryd.ntmps3
    go_wp2_with fail
    refine (lwBig_any a n c (by omega) _).mono ?_
    rintro e w1 ⟨rfl, rfl⟩
    rw [hbig]
    go_wp2
    go_ret
    exact ⟨rfl, Below.refl _ _⟩
end Go.Proofs.YtodnkfpjgacgdaaDoor
