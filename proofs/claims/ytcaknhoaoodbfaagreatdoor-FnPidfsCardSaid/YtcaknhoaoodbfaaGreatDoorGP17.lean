/- spec.PresenceFault. -/
import Derived.Test.YtcaknhoaoodbfaaGreatDoorGP14
namespace Go.Proofs.YtcaknhoaoodbfaaGreatDoor
open Go.ChangeShapes Go.WideShapes Go.ChangeAt Go.RowKit
set_option linter.unusedVariables false
set_option maxRecDepth 100000 in
set_option maxHeartbeats 3200000 in
theorem specPresenceFault_any (p : Pr) (a : Option Addr) (n c : Nat) (w : World) (hs : SmallPr p) (h : ItsAt w a n c p.more) :
    Calls Tryz.prog 28 #[.agg #[.int .i64 p.kind, .string p.sender, .string p.goal, .int .i64 p.shown, .string p.status, .int .i64 p.prio, .slice a n c]] w fun e w' => e = .returned (.int .i64 (presCode p)) ∧ Below w.heap.size w w' := by
  have KW := Lib.hid (fun b W (h : PrAt W b p a n c) => l7Texts_any b p a n c W hs.texts h)
  have KM := Lib.hid (fun W (hb : Below w.heap.size w W) => specMoreFault_any a n c p.more W hs.more (h.below hb))
  have HN := Lib.hid (fun o : Obj => PrAt.new w 26 p a n c)
  have I1 := Lib.hid (fun W => l1In_any p.kind 0 6 W)
  have I2 := Lib.hid (fun W => l1In_any p.shown 0 4 W)
  have I3 := Lib.hid (fun W => l1In_any p.prio (-128) 127 W)
  have HN := Lib.hid (PrAt.new w 26 p a n c)
  unfold presCode fits
  clear hs h
  obtain ⟨pk, pf, pt, ps, pu, pp, pm⟩ := p
  dsimp only at I1 I2 I3 HN KM ⊢
  generalize inB pk 0 6 = b1 at I1 ⊢
  generalize inB ps 0 4 = b2 at I2 ⊢
  generalize inB pp (-128) 127 = b3 at I3 ⊢
  generalize wordsCode ⟨pk, pf, pt, ps, pu, pp, pm⟩ = wc at KW ⊢
  generalize moreCode pm = mc at KM ⊢
  cases b1
  · rw [if_pos (by simp)]
    go_enter Tryz.func28, Tryz.ntmps28
    go_wp2_with fail
    refine (I1.out _).mono ?_
    rintro e w1 ⟨rfl, rfl⟩
    go_wp2
    go_ret
    exact ⟨rfl, below1 w _⟩
  cases b2
  · rw [if_pos (by simp)]
    go_enter Tryz.func28, Tryz.ntmps28
    go_wp2_with fail
    refine (I1.out _).mono ?_
    rintro e w1 ⟨rfl, rfl⟩
    go_wp2_with fail
    refine (I2.out _).mono ?_
    rintro e w1 ⟨rfl, rfl⟩
    go_wp2
    go_ret
    exact ⟨rfl, below1 w _⟩
  cases b3
  · rw [if_pos (by simp)]
    go_enter Tryz.func28, Tryz.ntmps28
    go_wp2_with fail
    refine (I1.out _).mono ?_
    rintro e w1 ⟨rfl, rfl⟩
    go_wp2_with fail
    refine (I2.out _).mono ?_
    rintro e w1 ⟨rfl, rfl⟩
    go_wp2_with fail
    refine (I3.out _).mono ?_
    rintro e w1 ⟨rfl, rfl⟩
    go_wp2
    go_ret
    exact ⟨rfl, below1 w _⟩
  rw [if_neg (by simp)]
  by_cases hw : wc = 0
  · subst hw
    rw [if_neg (by simp)]
    obtain ⟨k0, hk0⟩ : ∃ k0, (pk != 0) = k0 := ⟨_, rfl⟩
    obtain ⟨s0, hs0⟩ : ∃ s0, (ps != 0) = s0 := ⟨_, rfl⟩
    obtain ⟨p0, hp0⟩ : ∃ p0, (pp != 0) = p0 := ⟨_, rfl⟩
    obtain ⟨k1, hk1⟩ : ∃ k1, decide (1 < pk) = k1 := ⟨_, rfl⟩
    obtain ⟨st, hst⟩ : ∃ st, pu.toList.isEmpty = st := ⟨_, rfl⟩
    rw [hk0, hs0, hp0, hk1, hst]
    have key : ∀ k0 s0 p0 k1 st : Bool, (k0 = true ∧ s0 = true ∧ fitsB k0 s0 p0 k1 (!st) = false) ∨ (k0 = true ∧ s0 = false ∧ p0 = true ∧ fitsB k0 s0 p0 k1 (!st) = false) ∨
        (k0 = true ∧ s0 = false ∧ p0 = false ∧ k1 = true ∧ st = false ∧ fitsB k0 s0 p0 k1 (!st) = false) ∨ (k0 = true ∧ s0 = false ∧ p0 = false ∧ k1 = true ∧ st = true ∧ fitsB k0 s0 p0 k1 (!st) = true) ∨
        (k0 = true ∧ s0 = false ∧ p0 = false ∧ k1 = false ∧ fitsB k0 s0 p0 k1 (!st) = true) ∨
        (k0 = false ∧ k1 = true ∧ st = false ∧ fitsB k0 s0 p0 k1 (!st) = false) ∨ (k0 = false ∧ k1 = true ∧ st = true ∧ fitsB k0 s0 p0 k1 (!st) = true) ∨ (k0 = false ∧ k1 = false ∧ fitsB k0 s0 p0 k1 (!st) = true) := by
      intro k0 s0 p0 k1 st
      cases k0 <;> cases s0 <;> cases p0 <;> cases k1 <;> cases st <;> simp [fitsB]
    rcases key k0 s0 p0 k1 st with ⟨rfl, rfl, e⟩ | ⟨rfl, rfl, rfl, e⟩ | ⟨rfl, rfl, rfl, rfl, rfl, e⟩ | ⟨rfl, rfl, rfl, rfl, rfl, e⟩ | ⟨rfl, rfl, rfl, rfl, e⟩ | ⟨rfl, rfl, rfl, e⟩ | ⟨rfl, rfl, rfl, e⟩ | ⟨rfl, rfl, e⟩
    all_goals
      rw [e]
      clear key e
      go_enter Tryz.func28, Tryz.ntmps28
      go_wp2_with fail
      refine (I1.out _).mono ?_
      rintro e w1 ⟨rfl, rfl⟩
      go_wp2_with fail
      refine (I2.out _).mono ?_
      rintro e w1 ⟨rfl, rfl⟩
      go_wp2_with fail
      refine (I3.out _).mono ?_
      rintro e w1 ⟨rfl, rfl⟩
      go_wp2_with fail
      refine (KW.out _ _ HN.out).mono ?_
      rintro e w2 ⟨rfl, hb2⟩
      have PA := HN.out.below hb2
      have d0 := PA.c0
      have d3 := PA.c3
      have d4 := PA.c4
      have d5 := PA.c5
      have d6 := PA.c6
      have B2 := Lib.hid (below_then (below1 w _) hb2)
      clear PA hb2
      first
        | (go_wp2_with fail
           refine (KM.out _ B2.out).mono ?_
           rintro e w3 ⟨rfl, hb3⟩
           have B3 := Lib.hid (below_then B2.out hb3)
           clear hb3
           go_wp2
           go_ret
           exact ⟨rfl, B3.out⟩)
        | (go_wp2
           go_ret
           exact ⟨rfl, B2.out⟩)
        | fail
  · rw [if_pos hw]
    have q1 : (wc != 0) = true := by rw [bne_iff_ne]; exact hw
    have q2 : (wc == 0) = false := by rw [beq_eq_false_iff_ne]; exact hw
    clear hw
    go_enter Tryz.func28, Tryz.ntmps28
    go_wp2_with fail
    refine (I1.out _).mono ?_
    rintro e w1 ⟨rfl, rfl⟩
    go_wp2_with fail
    refine (I2.out _).mono ?_
    rintro e w1 ⟨rfl, rfl⟩
    go_wp2_with fail
    refine (I3.out _).mono ?_
    rintro e w1 ⟨rfl, rfl⟩
    go_wp2_with fail
    refine (KW.out _ _ HN.out).mono ?_
    rintro e w2 ⟨rfl, hb2⟩
    have B2 := Lib.hid (below_then (below1 w _) hb2)
    clear hb2
    go_wp2
    go_ret
    exact ⟨rfl, B2.out⟩
end Go.Proofs.YtcaknhoaoodbfaaGreatDoor
