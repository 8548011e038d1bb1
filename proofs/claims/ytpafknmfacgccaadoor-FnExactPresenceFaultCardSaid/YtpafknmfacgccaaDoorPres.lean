/- Presences: what they are, spec.PresenceFault. -/
import Derived.Test.YtpafknmfacgccaaDoorPr
import Derived.Test.YtpafknmfacgccaaDoorSpecMore
import Derived.Test.YtpafknmfacgccaaDoorSpecText0
namespace Go.Proofs.YtpafknmfacgccaaDoor
open Go.ChangeShapes Go.WideShapes Go.ChangeAt Go.RowKit
set_option linter.unusedVariables false

/-- the code of its texts -/
def wordsCode (p : Pr) : Int := if textFault p.sender.data.toList ≠ 0 then textFault p.sender.data.toList else if textFault p.goal.data.toList ≠ 0 then textFault p.goal.data.toList else textFault p.status.data.toList
/-- its parts fit its kind -/
def fitsB (k0 s0 p0 k1 st : Bool) : Bool := !((k0 && (s0 || p0)) || (k1 && st))
def fits (p : Pr) : Bool := fitsB (p.kind != 0) (p.shown != 0) (p.prio != 0) (decide (1 < p.kind)) (!p.status.toList.isEmpty)
def presCode (p : Pr) : Int :=
  if (inB p.kind 0 6 && inB p.shown 0 4 && inB p.prio (-128) 127) = false then 3
  else if wordsCode p ≠ 0 then wordsCode p
  else if fits p = false then 1
  else moreCode p.more

set_option maxHeartbeats 1600000 in
theorem l7Texts_any (b : Nat) (p : Pr) (a : Option Addr) (n c : Nat) (w : World) (hs : p.sender.size ≤ 1048576 ∧ p.goal.size ≤ 1048576 ∧ p.status.size ≤ 1048576) (h : PrAt w b p a n c) :
    Calls Tryd.prog 30 #[.pointer (some ⟨b, 0, none⟩)] w fun e w' => e = .returned (.int .i64 (wordsCode p)) ∧ Below w.heap.size w w' := by
  obtain ⟨pk, pf, pt, ps, pu, pp, pm⟩ := p
  unfold wordsCode
  dsimp only at hs ⊢
  obtain ⟨hf, ht, hu⟩ := hs
  have K1 := Lib.hid (fun W => specTextFault_any pf (by omega) W)
  have K2 := Lib.hid (fun W => specTextFault_any pt (by omega) W)
  have K3 := Lib.hid (fun W => specTextFault_any pu (by omega) W)
  have H := Lib.hid h
  have d1 := h.c1
  clear h hf ht hu
  generalize textFault pf.data.toList = f1 at K1 ⊢
  generalize textFault pt.data.toList = f2 at K2 ⊢
  generalize textFault pu.data.toList = f3 at K3 ⊢
  by_cases h1 : f1 = 0
  · subst h1
    simp only [ne_eq, not_true_eq_false, if_false]
    by_cases h2 : f2 = 0
    · subst h2
      simp only [not_true_eq_false, if_false]
      go_enter Tryd.func30, Tryd.ntmps30
      go_wp2_with fail
      refine (K1.out _).mono ?_
      rintro e w1 ⟨rfl, hb1⟩
      have B1 := Lib.hid hb1
      have d2 := (H.out.below hb1).c2
      clear d1 hb1
      go_wp2_with fail
      refine (K2.out _).mono ?_
      rintro e w2 ⟨rfl, hb2⟩
      have B2 := Lib.hid (below_then B1.out hb2)
      have d4 := (H.out.below (below_then B1.out hb2)).c4
      clear d2 hb2
      go_wp2_with fail
      refine (K3.out _).mono ?_
      rintro e w3 ⟨rfl, hb3⟩
      have B3 := Lib.hid (below_then B2.out hb3)
      clear hb3 d4
      go_wp2
      go_ret
      exact ⟨rfl, B3.out⟩
    · have q1 : (f2 != 0) = true := by rw [bne_iff_ne]; exact h2
      have q2 : (f2 == 0) = false := by rw [beq_eq_false_iff_ne]; exact h2
      rw [if_pos h2]
      clear h2
      go_enter Tryd.func30, Tryd.ntmps30
      go_wp2_with fail
      refine (K1.out _).mono ?_
      rintro e w1 ⟨rfl, hb1⟩
      have B1 := Lib.hid hb1
      have d2 := (H.out.below hb1).c2
      clear d1 hb1
      go_wp2_with fail
      refine (K2.out _).mono ?_
      rintro e w2 ⟨rfl, hb2⟩
      have B2 := Lib.hid (below_then B1.out hb2)
      clear d2 hb2
      go_wp2
      go_ret
      exact ⟨rfl, B2.out⟩
  · have q1 : (f1 != 0) = true := by rw [bne_iff_ne]; exact h1
    have q2 : (f1 == 0) = false := by rw [beq_eq_false_iff_ne]; exact h1
    rw [if_pos h1]
    clear h1
    go_enter Tryd.func30, Tryd.ntmps30
    go_wp2_with fail
    refine (K1.out _).mono ?_
    rintro e w1 ⟨rfl, hb1⟩
    have B1 := Lib.hid hb1
    clear d1 hb1
    go_wp2
    go_ret
    exact ⟨rfl, B1.out⟩
end Go.Proofs.YtpafknmfacgccaaDoor
