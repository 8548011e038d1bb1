/- impl.fitsKind, impl.PresenceFault. -/
import Derived.Test.YtjkmgpomcnplnaaGreatDoorGS12
import Derived.Test.YtjkmgpomcnplnaaGreatDoorGS13
namespace Go.Proofs.YtjkmgpomcnplnaaGreatDoor
open Go.ChangeShapes Go.WideShapes Go.ChangeAt Go.RowKit
set_option linter.unusedVariables false
set_option maxHeartbeats 1600000 in
theorem fitsKind_any (p : Pr) (a : Option Addr) (n c : Nat) (w : World) (hk : 0 ≤ p.kind) :
    Calls Tryz.prog 58 #[.agg #[.int .i64 p.kind, .string p.sender, .string p.goal, .int .i64 p.shown, .string p.status, .int .i64 p.prio, .slice a n c]] w fun e w' => e = .returned (.bool (fits p)) ∧ Below w.heap.size w w' := by
  obtain ⟨pk, pf, pt, ps, pu, pp, pm⟩ := p
  unfold fits fitsB
  dsimp only at hk ⊢
  obtain ⟨bb, hbb⟩ : ∃ bb, (!((pk != 0) && ((ps != 0) || (pp != 0)) || decide (1 < pk) && !pu.toList.isEmpty)) = bb := ⟨_, rfl⟩
  have HB : Hid ((!((pk != 0) && ((ps != 0) || (pp != 0)) || decide (1 < pk) && !pu.toList.isEmpty)) = bb) := Lib.hid hbb
  rw [hbb]
  clear hbb
  obtain ⟨s0, hs0⟩ : ∃ s0, (ps == 0) = s0 := ⟨_, rfl⟩
  obtain ⟨p0, hp0⟩ : ∃ p0, (pp == 0) = p0 := ⟨_, rfl⟩
  obtain ⟨st, hst⟩ : ∃ st, pu.toList.isEmpty = st := ⟨_, rfl⟩
  have hs1 : (ps != 0) = !s0 := by rw [← hs0]; rfl
  have hp1 : (pp != 0) = !p0 := by rw [← hp0]; rfl
  have hb := HB.out
  rw [hs1, hp1, hst] at hb
  clear hs1 hp1 HB
  have hc : (pk == 0) = true ∨ ((pk == 0) = false ∧ (pk == 1) = true) ∨ ((pk == 0) = false ∧ (pk == 1) = false ∧ 1 < pk) := by
    simp only [beq_iff_eq, beq_eq_false_iff_ne]
    omega
  rcases hc with h0 | ⟨h0, h1⟩ | ⟨h0, h1, h2⟩
  · have e0 : (pk != 0) = false := by rw [bne, h0]; rfl
    have e1 : decide (1 < pk) = false := by have := beq_iff_eq.1 h0; subst this; decide
    rw [e0, e1] at hb
    have HB : Hid (bb = true) := Lib.hid (by rw [← hb]; simp)
    clear hb e0 e1
    cases s0 <;> cases p0
    all_goals
      go_enter Tryz.func58, Tryz.ntmps58
      go_wp2
      go_ret
      exact ⟨ret_bool HB.out.symm, below1 _ _⟩
  · have e0 : (pk != 0) = true := by rw [bne, h0]; rfl
    have e1 : decide (1 < pk) = false := by have := beq_iff_eq.1 h1; subst this; decide
    rw [e0, e1] at hb
    have HB : Hid (bb = (s0 && p0)) := Lib.hid (by rw [← hb]; cases s0 <;> cases p0 <;> rfl)
    clear hb e0 e1
    cases s0 <;> cases p0
    all_goals
      go_enter Tryz.func58, Tryz.ntmps58
      go_wp2
      go_ret
      exact ⟨ret_bool HB.out.symm, below1 _ _⟩
  · have e0 : (pk != 0) = true := by rw [bne, h0]; rfl
    have e1 : decide (1 < pk) = true := decide_eq_true h2
    rw [e0, e1] at hb
    have HB : Hid (bb = (s0 && p0 && st)) := Lib.hid (by rw [← hb]; cases s0 <;> cases p0 <;> cases st <;> rfl)
    clear hb e0 e1 h2
    cases s0 <;> cases p0 <;> cases st
    all_goals
      go_enter Tryz.func58, Tryz.ntmps58
      go_wp2
      go_ret
      exact ⟨ret_bool HB.out.symm, below1 _ _⟩
theorem ne_zero {f : Int} (h : f ≠ 0) : (f != 0) = true := by rw [bne_iff_ne]; exact h
set_option maxRecDepth 100000 in
set_option maxHeartbeats 3200000 in
theorem implPresenceFault_any (p : Pr) (a : Option Addr) (n c : Nat) (w : World) (hT : Tabs w) (hsz : PrSize p) (h : ItsAt w a n c p.more) :
    Calls Tryz.prog 25 #[.agg #[.int .i64 p.kind, .string p.sender, .string p.goal, .int .i64 p.shown, .string p.status, .int .i64 p.prio, .slice a n c]] w fun e w' => e = .returned (.int .i64 (presCode p)) ∧ Below w.heap.size w w' := by
  have K1 := Lib.hid (fun W (hb : Below w.heap.size w W) => implTextFault_any p.sender (by have := hsz.s1; unfold maxLen; omega) W (tabs_kept hT hb))
  have K2 := Lib.hid (fun W (hb : Below w.heap.size w W) => implTextFault_any p.goal (by have := hsz.s2; unfold maxLen; omega) W (tabs_kept hT hb))
  have K3 := Lib.hid (fun W (hb : Below w.heap.size w W) => implTextFault_any p.status (by have := hsz.s4; unfold maxLen; omega) W (tabs_kept hT hb))
  have KM := Lib.hid (fun W (hb : Below w.heap.size w W) => implMoreFault_any a n c p.more W (tabs_kept hT hb) (h.below hb))
  have KF := Lib.hid (fun hk W => fitsKind_any p a n c W hk)
  have KK := Lib.hid (fun W => implKindWord_any p.kind W)
  have KS := Lib.hid (fun W => implShowWord_any p.shown W)
  have hfk := field_code
  have P0 := Lib.hid (PrAt.new w 26 p a n c)
  unfold presCode wordsCode
  clear hT hsz h
  obtain ⟨pk, pf, pt, ps, pu, pp, pm⟩ := p
  unfold kindC TxtRes at KK
  unfold showC TxtRes at KS
  dsimp only at K1 K2 K3 KM KF KK KS P0 ⊢
  have hk0 : inB pk 0 6 = true → 0 ≤ pk := by intro h; have : 0 ≤ pk ∧ pk ≤ 6 := by simpa [inB] using h
                                              exact this.1
  have HK0 := Lib.hid hk0
  clear hk0
  generalize inB pk 0 6 = b1 at KK HK0 ⊢
  generalize inB ps 0 4 = b2 at KS ⊢
  generalize hb3 : inB pp (-128) 127 = b3
  generalize kindT pk = kt at KK
  generalize showT ps = st at KS
  generalize fits ⟨pk, pf, pt, ps, pu, pp, pm⟩ = fb at KF ⊢
  generalize textFault pf.data.toList = f1 at K1 ⊢
  generalize textFault pt.data.toList = f2 at K2 ⊢
  generalize textFault pu.data.toList = f3 at K3 ⊢
  generalize moreCode pm = mc at KM ⊢
  cases b1
  · rw [if_pos (by simp)]
    clear hb3
    go_enter Tryz.func25, Tryz.ntmps25
    go_wp2_with fail
    refine (KK.out _).mono ?_
    rintro e w1 ⟨rfl, hb1⟩
    have B1 := Lib.hid (below_then (below1 w _) hb1)
    clear hb1
    go_wp2
    go_ret
    exact ⟨rfl, B1.out⟩
  cases b2
  · rw [if_pos (by simp)]
    clear hb3
    go_enter Tryz.func25, Tryz.ntmps25
    go_wp2_with fail
    refine (KK.out _).mono ?_
    rintro e w1 ⟨rfl, hb1⟩
    obtain ⟨hc1, hf1⟩ := bcell hb1
    have e3 : w1.cell? ⟨w.heap.size, 3, none⟩ = some (.int .i64 ps) := by rw [hc1 _ _ (by simp)]; simp
    have B1 := Lib.hid (below_then (below1 w _) hb1)
    clear hb1 hc1 hf1
    go_wp2_with fail
    refine (KS.out _).mono ?_
    rintro e w2 ⟨rfl, hb2⟩
    have B2 := Lib.hid (below_then B1.out hb2)
    clear hb2
    go_wp2
    go_ret
    exact ⟨rfl, B2.out⟩
  cases b3
  · rw [if_pos (by simp)]
    have hpp : pp < -128 ∨ 127 < pp := by
      have : ¬ (-128 ≤ pp ∧ pp ≤ 127) := by simpa [inB] using hb3
      omega
    clear hb3
    rcases hpp with h1 | h1
    · go_enter Tryz.func25, Tryz.ntmps25
      go_wp2_with fail
      refine (KK.out _).mono ?_
      rintro e w1 ⟨rfl, hb1⟩
      obtain ⟨hc1, hf1⟩ := bcell hb1
      have e3 : w1.cell? ⟨w.heap.size, 3, none⟩ = some (.int .i64 ps) := by rw [hc1 _ _ (by simp)]; simp
      have e5 : w1.cell? ⟨w.heap.size, 5, none⟩ = some (.int .i64 pp) := by rw [hc1 _ _ (by simp)]; simp
      have hz1 := hb1.size
      simp at hz1
      have B1 := Lib.hid (below_then (below1 w _) hb1)
      clear hb1 hc1 hf1
      go_wp2_with fail
      refine (KS.out _).mono ?_
      rintro e w2 ⟨rfl, hb2⟩
      have e5 := (hb2.cell (p := ⟨w.heap.size, 5, none⟩) (by show w.heap.size < _; omega)).trans e5
      have B2 := Lib.hid (below_then B1.out hb2)
      clear hb2 e3
      go_wp2
      go_ret
      exact ⟨rfl, B2.out⟩
    · have h0 : -128 ≤ pp := by omega
      go_enter Tryz.func25, Tryz.ntmps25
      go_wp2_with fail
      refine (KK.out _).mono ?_
      rintro e w1 ⟨rfl, hb1⟩
      obtain ⟨hc1, hf1⟩ := bcell hb1
      have e3 : w1.cell? ⟨w.heap.size, 3, none⟩ = some (.int .i64 ps) := by rw [hc1 _ _ (by simp)]; simp
      have e5 : w1.cell? ⟨w.heap.size, 5, none⟩ = some (.int .i64 pp) := by rw [hc1 _ _ (by simp)]; simp
      have hz1 := hb1.size
      simp at hz1
      have B1 := Lib.hid (below_then (below1 w _) hb1)
      clear hb1 hc1 hf1
      go_wp2_with fail
      refine (KS.out _).mono ?_
      rintro e w2 ⟨rfl, hb2⟩
      have e5 := (hb2.cell (p := ⟨w.heap.size, 5, none⟩) (by show w.heap.size < _; omega)).trans e5
      have B2 := Lib.hid (below_then B1.out hb2)
      clear hb2 e3
      go_wp2
      go_ret
      exact ⟨rfl, B2.out⟩
  rw [if_neg (by simp)]
  have hpp : -128 ≤ pp ∧ pp ≤ 127 := by simpa [inB] using hb3
  obtain ⟨hp1, hp2⟩ := hpp
  clear hb3
  obtain ⟨cdx, hcdx⟩ : ∃ x, (if (if f1 ≠ 0 then f1 else if f2 ≠ 0 then f2 else f3) ≠ 0 then (if f1 ≠ 0 then f1 else if f2 ≠ 0 then f2 else f3) else if fb = false then 1 else mc) = x := ⟨_, rfl⟩
  rw [hcdx]
  have HC1 : Hid (f1 ≠ 0 → cdx = f1) := Lib.hid fun h => by rw [← hcdx, if_pos h, if_pos h]
  have HC2 : Hid (f1 = 0 → f2 ≠ 0 → cdx = f2) := Lib.hid fun h0 h => by rw [← hcdx, h0]; simp only [ne_eq, not_true_eq_false, if_false]; rw [if_pos h, if_pos h]
  have HC3 : Hid (f1 = 0 → f2 = 0 → f3 ≠ 0 → cdx = f3) := Lib.hid fun h0 h1 h => by rw [← hcdx, h0, h1]; simp only [ne_eq, not_true_eq_false, if_false]; rw [if_pos h]
  have HC4 : Hid (f1 = 0 → f2 = 0 → f3 = 0 → cdx = if fb = false then 1 else mc) := Lib.hid fun h0 h1 h => by rw [← hcdx, h0, h1, h]; simp
  clear hcdx
  have KF2 := Lib.hid (KF.out (HK0.out rfl))
  clear KF HK0
  go_enter Tryz.func25, Tryz.ntmps25
  go_wp2_with fail
  refine (KK.out _).mono ?_
  rintro e w1 ⟨rfl, hb1⟩
  have P1 := Lib.hid (P0.out.below hb1)
  have B1 := Lib.hid (below_then (below1 w _) hb1)
  have e3 := P1.out.c3
  clear hb1 P0
  go_wp2_with fail
  refine (KS.out _).mono ?_
  rintro e w2 ⟨rfl, hb2⟩
  have P2 := Lib.hid (P1.out.below hb2)
  have B2 := Lib.hid (below_then B1.out hb2)
  have hz2 : w.heap.size < w2.heap.size := P2.out.lt
  have d1 := P2.out.c1
  have d2 := P2.out.c2
  have d4 := P2.out.c4
  have d5 := P2.out.c5
  clear hb2 P1 B1 e3
  go_wp2_with fail
  have P3 := Lib.hid (P2.out.below (below1 w2 (.cells #[.string pf, .string pt, .string pu] 9)))
  have B3 := Lib.hid (below_then B2.out (below1 w2 (.cells #[.string pf, .string pt, .string pu] 9)))
  have c0 : (w2.alloc (.cells #[.string pf, .string pt, .string pu] 9)).cell? ⟨w2.heap.size, 0, none⟩ = some (.string pf) := by simp
  have c1 : (w2.alloc (.cells #[.string pf, .string pt, .string pu] 9)).cell? ⟨w2.heap.size, 1, none⟩ = some (.string pt) := by simp
  have c2 : (w2.alloc (.cells #[.string pf, .string pt, .string pu] 9)).cell? ⟨w2.heap.size, 2, none⟩ = some (.string pu) := by simp
  have hl3 : w2.heap.size < (w2.alloc (.cells #[.string pf, .string pt, .string pu] 9)).heap.size := by simp
  generalize w2.alloc (.cells #[.string pf, .string pt, .string pu] 9) = w3 at P3 B3 c0 c1 c2 hl3 ⊢
  clear P2 B2 d1 d2 d4 d5
  go_loopw [36] (fun i wr => ∃ k : Nat, k ≤ 3 ∧ i = .int .i64 k ∧ (1 ≤ k → f1 = 0) ∧ (2 ≤ k → f2 = 0) ∧ (3 ≤ k → f3 = 0) ∧ Below w3.heap.size w3 wr) (fun i _ => 3 - (intOf i).toNat)
  case atStart => exact ⟨0, by omega, rfl, fun h => by omega, fun h => by omega, fun h => by omega, Below.refl _ _⟩
  case round =>
    obtain ⟨k, hk, rfl, hg1, hg2, hg3, hb⟩ := hrel
    have G1 := Lib.hid hg1
    have G2 := Lib.hid hg2
    have G3 := Lib.hid hg3
    have HB := Lib.hid hb
    clear hg1 hg2 hg3 hb
    have hc : k = 0 ∨ k = 1 ∨ k = 2 ∨ k = 3 := by omega
    clear hk
    rcases hc with hk0 | hk1 | hk2 | hk3
    · subst hk0
      rw [show ((0 : Nat) : Int) = 0 from rfl]
      have s := (HB.out.cell (p := ⟨w2.heap.size, 0, none⟩) hl3).trans c0
      go_wp2_with fail
      refine (K1.out _ (below_then B3.out HB.out)).mono ?_
      rintro e w4 ⟨rfl, hb4⟩
      have HB4 := Lib.hid (below_then HB.out hb4)
      clear hb4
      by_cases h1 : f1 = 0
      · have H1 := Lib.hid h1
        have q : (f1 != 0) = false := by rw [h1]; rfl
        clear h1
        go_wp2
        go_roundw
        case rel => exact ⟨1, by omega, rfl, fun _ => H1.out, fun h => by omega, fun h => by omega, HB4.out⟩
        case measure => simp [intOf]
      · have q := ne_zero h1
        have HR := Lib.hid (show f1 = cdx from (HC1.out h1).symm)
        clear h1
        go_wp2
        go_ret
        exact ⟨ret_i HR.out, below_then B3.out HB4.out⟩
    · subst hk1
      rw [show ((1 : Nat) : Int) = 1 from rfl]
      have s := (HB.out.cell (p := ⟨w2.heap.size, 1, none⟩) hl3).trans c1
      go_wp2_with fail
      refine (K2.out _ (below_then B3.out HB.out)).mono ?_
      rintro e w4 ⟨rfl, hb4⟩
      have HB4 := Lib.hid (below_then HB.out hb4)
      clear hb4
      by_cases h1 : f2 = 0
      · have H1 := Lib.hid h1
        have q : (f2 != 0) = false := by rw [h1]; rfl
        clear h1
        go_wp2
        go_roundw
        case rel => exact ⟨2, by omega, rfl, fun _ => G1.out (by omega), fun _ => H1.out, fun h => by omega, HB4.out⟩
        case measure => simp [intOf]
      · have q := ne_zero h1
        have HR := Lib.hid (show f2 = cdx from (HC2.out (G1.out (by omega)) h1).symm)
        clear h1
        go_wp2
        go_ret
        exact ⟨ret_i HR.out, below_then B3.out HB4.out⟩
    · subst hk2
      rw [show ((2 : Nat) : Int) = 2 from rfl]
      have s := (HB.out.cell (p := ⟨w2.heap.size, 2, none⟩) hl3).trans c2
      go_wp2_with fail
      refine (K3.out _ (below_then B3.out HB.out)).mono ?_
      rintro e w4 ⟨rfl, hb4⟩
      have HB4 := Lib.hid (below_then HB.out hb4)
      clear hb4
      by_cases h1 : f3 = 0
      · have H1 := Lib.hid h1
        have q : (f3 != 0) = false := by rw [h1]; rfl
        clear h1
        go_wp2
        go_roundw
        case rel => exact ⟨3, by omega, rfl, fun _ => G1.out (by omega), fun _ => G2.out (by omega), fun _ => H1.out, HB4.out⟩
        case measure => simp [intOf]
      · have q := ne_zero h1
        have HR := Lib.hid (show f3 = cdx from (HC3.out (G1.out (by omega)) (G2.out (by omega)) h1).symm)
        clear h1
        go_wp2
        go_ret
        exact ⟨ret_i HR.out, below_then B3.out HB4.out⟩
    · subst hk3
      rw [show ((3 : Nat) : Int) = 3 from rfl]
      have HC := Lib.hid (HC4.out (G1.out (by omega)) (G2.out (by omega)) (G3.out (by omega)))
      have P5 := Lib.hid (P3.out.below HB.out)
      have B5 := Lib.hid (below_then B3.out HB.out)
      have hz5 : w.heap.size < wr.heap.size := P5.out.lt
      clear HC1 HC2 HC3 HC4 G1 G2 G3 c0 c1 c2
      have d0 := P5.out.c0
      have d1 := P5.out.c1
      have d2 := P5.out.c2
      have d3 := P5.out.c3
      have d4 := P5.out.c4
      have d5 := P5.out.c5
      have d6 := P5.out.c6
      go_wp2_with fail
      refine (KF2.out _).mono ?_
      rintro e w6 ⟨rfl, hb6⟩
      have P6 := Lib.hid (P5.out.below hb6)
      have B6 := Lib.hid (below_then B5.out hb6)
      have hz6 : w.heap.size < w6.heap.size := P6.out.lt
      clear hb6 P5 B5 d0 d1 d2 d3 d4 d5 d6
      have d6 := P6.out.c6
      cases fb
      · go_wp2
        go_ret
        exact ⟨ret_i (by rw [HC.out]; rfl), B6.out⟩
      · go_wp2_with fail
        refine (KM.out _ B6.out).mono ?_
        rintro e w7 ⟨rfl, hb7⟩
        have B7 := Lib.hid (below_then B6.out hb7)
        clear hb7
        go_wp2
        go_ret
        exact ⟨ret_i (by rw [HC.out]; rfl), B7.out⟩
end Go.Proofs.YtjkmgpomcnplnaaGreatDoor
