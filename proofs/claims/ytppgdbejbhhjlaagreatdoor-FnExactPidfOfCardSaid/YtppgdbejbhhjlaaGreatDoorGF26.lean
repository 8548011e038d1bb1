/- spec.l8Asked. -/
import Derived.Test.YtppgdbejbhhjlaaGreatDoorGF10
import Derived.Test.YtppgdbejbhhjlaaGreatDoorGF25
import Derived.Test.YtppgdbejbhhjlaaGreatDoorGF0
namespace Go.Proofs.YtppgdbejbhhjlaaGreatDoor
open Go.ChangeShapes Go.WideShapes Go.ChangeAt Go.RowKit
set_option linter.unusedVariables false

set_option maxRecDepth 100000 in
set_option maxHeartbeats 1600000 in
theorem l8Asked_any (b : Nat) (p : Pr) (a : Option Addr) (n c : Nat) (w : World) (hs : SmallPr p) (hP : PrAt w b p a n c) (h : ItsAt w a n c p.more) :
    Calls Tryz.prog 96 #[.pointer (some ⟨b, 0, none⟩)] w fun e w' => e = .returned (.int .i64 (projCode p)) ∧ Below w.heap.size w w' := by
  have K0 := Lib.hid (fun W (hb : Below w.heap.size w W) => specPresenceFault_any p a n c W hs (h.below hb))
  have hsz := hs.texts.1
  have P0 := Lib.hid hP
  have hlt := hP.lt
  unfold projCode
  clear hs hP h
  by_cases hcd : presCode p = 0
  case neg =>
    rw [if_pos hcd]
    generalize presCode p = cd at K0 hcd ⊢
    have q1 : (cd != 0) = true := by rw [bne_iff_ne]; exact hcd
    clear hcd
    obtain ⟨pk, pf, pt, ps, pu, pp, pm⟩ := p
    dsimp only at K0 P0
    have d0 := P0.out.c0
    have d1 := P0.out.c1
    have d2 := P0.out.c2
    have d3 := P0.out.c3
    have d4 := P0.out.c4
    have d5 := P0.out.c5
    have d6 := P0.out.c6
    go_enter Tryz.func96, Tryz.ntmps96
    go_wp2_with fail
    refine (K0.out _ (Below.refl _ _)).mono ?_
    rintro e w1 ⟨rfl, hb⟩
    have HB := Lib.hid hb
    clear hb d0 d1 d2 d3 d4 d5 d6
    go_wp2
    go_ret
    exact ⟨rfl, HB.out⟩
  rw [if_neg (by rw [hcd]; simp)]
  rw [hcd] at K0
  clear hcd
  obtain ⟨pk, pf, pt, ps, pu, pp, pm⟩ := p
  dsimp only at K0 P0 hsz ⊢
  obtain ⟨k1, hk1⟩ : ∃ k1, decide (1 < pk) = k1 := ⟨_, rfl⟩
  obtain ⟨em, hem⟩ : ∃ em, pf.toList.isEmpty = em := ⟨_, rfl⟩
  rw [hk1, hem]
  obtain ⟨rc, hrc⟩ : ∃ rc, (if askB k1 em = true then (7 : Int) else if 55 < pf.size then 2 else 0) = rc := ⟨_, rfl⟩
  rw [hrc]
  have HRC := Lib.hid hrc
  clear hrc
  have cases : (k1 = true ∧ rc = 7) ∨ (k1 = false ∧ em = true ∧ rc = 7) ∨ (k1 = false ∧ em = false ∧ 55 < (pf.size : Int) ∧ rc = 2) ∨ (k1 = false ∧ em = false ∧ ¬ (55 < (pf.size : Int)) ∧ rc = 0) := by
    have h := HRC.out
    cases k1 <;> cases em
    · by_cases h5 : 55 < pf.size
      · exact .inr (.inr (.inl ⟨rfl, rfl, by omega, by rw [← h, if_neg (by decide), if_pos h5]⟩))
      · exact .inr (.inr (.inr ⟨rfl, rfl, by omega, by rw [← h, if_neg (by decide), if_neg h5]⟩))
    · exact .inr (.inl ⟨rfl, rfl, by rw [← h, if_pos (by decide)]⟩)
    · exact .inl ⟨rfl, by rw [← h, if_pos (by decide)]⟩
    · exact .inl ⟨rfl, by rw [← h, if_pos (by decide)]⟩
  clear HRC
  rcases cases with ⟨rfl, rfl⟩ | ⟨rfl, rfl, rfl⟩ | ⟨rfl, rfl, h5, rfl⟩ | ⟨rfl, rfl, h5, rfl⟩
  all_goals
    have d0 := P0.out.c0
    have d1 := P0.out.c1
    have d2 := P0.out.c2
    have d3 := P0.out.c3
    have d4 := P0.out.c4
    have d5 := P0.out.c5
    have d6 := P0.out.c6
    go_enter Tryz.func96, Tryz.ntmps96
    go_wp2_with fail
    refine (K0.out _ (Below.refl _ _)).mono ?_
    rintro e w1 ⟨rfl, hb⟩
    have P1 := P0.out.below hb
    have HB := Lib.hid hb
    clear d0 d1 d2 d3 d4 d5 d6
    have d0 := P1.c0
    have d1 := P1.c1
    have hlt1 := P1.lt
    clear hb P1
    go_wp2
    go_ret
    exact ⟨rfl, HB.out⟩
end Go.Proofs.YtppgdbejbhhjlaaGreatDoor

/- The model's l1Max. -/
namespace Go.Proofs.YtppgdbejbhhjlaaGreatDoor
open Go.ChangeShapes Go.WideShapes Go.ChangeAt Go.RowKit
set_option linter.unusedVariables false

def maxI (x y : Int) : Int := if y < x then x else y
theorem l1Max_any (x y : Int) (w : World) : Calls Tryz.prog 153 #[.int .i64 x, .int .i64 y] w fun e w' => e = .returned (.int .i64 (maxI x y)) ∧ w' = w := by
  by_cases h : y < x
  · have e : maxI x y = x := by unfold maxI; rw [if_pos h]
    rw [e]
    clear e
    go_enter Tryz.func153, Tryz.ntmps153
    go_wp2
    go_ret
    exact ⟨rfl, rfl⟩
  · have e : maxI x y = y := by unfold maxI; rw [if_neg h]
    rw [e]
    clear e
    go_enter Tryz.func153, Tryz.ntmps153
    go_wp2
    go_ret
    exact ⟨rfl, rfl⟩
end Go.Proofs.YtppgdbejbhhjlaaGreatDoor
