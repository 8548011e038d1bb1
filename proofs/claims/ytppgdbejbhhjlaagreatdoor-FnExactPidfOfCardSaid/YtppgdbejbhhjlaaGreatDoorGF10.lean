/- Presences: what they are, spec.PresenceFault. -/
import Derived.Test.YtppgdbejbhhjlaaGreatDoorGF1
import Derived.Test.YtppgdbejbhhjlaaGreatDoorGF9
import Derived.Test.YtppgdbejbhhjlaaGreatDoorGF8
namespace Go.Proofs.YtppgdbejbhhjlaaGreatDoor
open Go.ChangeShapes Go.WideShapes Go.ChangeAt Go.RowKit
set_option linter.unusedVariables false

/-- the code of its texts -/
def wordsCode (p : Pr) : Int := if textFault p.sender.data.toList ≠ 0 then textFault p.sender.data.toList else if textFault p.goal.data.toList ≠ 0 then textFault p.goal.data.toList else textFault p.status.data.toList
/-- its parts fit its kind -/
def fitsB (k0 s0 p0 k1 st : Bool) : Bool := !((k0 && (s0 || p0)) || (k1 && st))
def fits (p : Pr) : Bool := fitsB (p.kind != 0) (p.shown != 0) (p.prio != 0) (decide (1 < p.kind)) (!p.status.toList.isEmpty)
def presCode (p : Pr) : Int :=
  if (inB p.kind 0 6 && inB p.shown 0 4 && inB p.prio (-128) 127) = false then 3
  else if wordsCode p ≠ 0 then wordsCode p
  else if fits p = false then 1
  else moreCode p.more

set_option maxHeartbeats 1600000 in
theorem l7Texts_any (b : Nat) (p : Pr) (a : Option Addr) (n c : Nat) (w : World) (hs : p.sender.size ≤ 1048576 ∧ p.goal.size ≤ 1048576 ∧ p.status.size ≤ 1048576) (h : PrAt w b p a n c) :
    Calls Tryz.prog 89 #[.pointer (some ⟨b, 0, none⟩)] w fun e w' => e = .returned (.int .i64 (wordsCode p)) ∧ Below w.heap.size w w' := by
  obtain ⟨pk, pf, pt, ps, pu, pp, pm⟩ := p
  unfold wordsCode
  dsimp only at hs ⊢
  obtain ⟨hf, ht, hu⟩ := hs
  have K1 := Lib.hid (fun W => specTextFault_any pf (by omega) W)
  have K2 := Lib.hid (fun W => specTextFault_any pt (by omega) W)
  have K3 := Lib.hid (fun W => specTextFault_any pu (by omega) W)
  have H := Lib.hid h
  have d1 := h.c1
  clear h hf ht hu
  generalize textFault pf.data.toList = f1 at K1 ⊢
  generalize textFault pt.data.toList = f2 at K2 ⊢
  generalize textFault pu.data.toList = f3 at K3 ⊢
  by_cases h1 : f1 = 0
  · subst h1
    simp only [ne_eq, not_true_eq_false, if_false]
    by_cases h2 : f2 = 0
    · subst h2
      simp only [not_true_eq_false, if_false]
      go_enter Tryz.func89, Tryz.ntmps89
      go_wp2_with fail
      refine (K1.out _).mono ?_
      rintro e w1 ⟨rfl, hb1⟩
      have B1 := Lib.hid hb1
      have d2 := (H.out.below hb1).c2
      clear d1 hb1
      go_wp2_with fail
      refine (K2.out _).mono ?_
      rintro e w2 ⟨rfl, hb2⟩
      have B2 := Lib.hid (below_then B1.out hb2)
      have d4 := (H.out.below (below_then B1.out hb2)).c4
      clear d2 hb2
      go_wp2_with fail
      refine (K3.out _).mono ?_
      rintro e w3 ⟨rfl, hb3⟩
      have B3 := Lib.hid (below_then B2.out hb3)
      clear hb3 d4
      go_wp2
      go_ret
      exact ⟨rfl, B3.out⟩
    · have q1 : (f2 != 0) = true := by rw [bne_iff_ne]; exact h2
      have q2 : (f2 == 0) = false := by rw [beq_eq_false_iff_ne]; exact h2
      rw [if_pos h2]
      clear h2
      go_enter Tryz.func89, Tryz.ntmps89
      go_wp2_with fail
      refine (K1.out _).mono ?_
      rintro e w1 ⟨rfl, hb1⟩
      have B1 := Lib.hid hb1
      have d2 := (H.out.below hb1).c2
      clear d1 hb1
      go_wp2_with fail
      refine (K2.out _).mono ?_
      rintro e w2 ⟨rfl, hb2⟩
      have B2 := Lib.hid (below_then B1.out hb2)
      clear d2 hb2
      go_wp2
      go_ret
      exact ⟨rfl, B2.out⟩
  · have q1 : (f1 != 0) = true := by rw [bne_iff_ne]; exact h1
    have q2 : (f1 == 0) = false := by rw [beq_eq_false_iff_ne]; exact h1
    rw [if_pos h1]
    clear h1
    go_enter Tryz.func89, Tryz.ntmps89
    go_wp2_with fail
    refine (K1.out _).mono ?_
    rintro e w1 ⟨rfl, hb1⟩
    have B1 := Lib.hid hb1
    clear d1 hb1
    go_wp2
    go_ret
    exact ⟨rfl, B1.out⟩
end Go.Proofs.YtppgdbejbhhjlaaGreatDoor

/- What another format can say of a presence, in plain words. -/
namespace Go.Proofs.YtppgdbejbhhjlaaGreatDoor
open Go.ChangeShapes Go.WideShapes Go.ChangeAt Go.RowKit
set_option linter.unusedVariables false

/-- the Show that the other format can say -/
def sharedS (s : Int) : Int := if s = 2 then 0 else if s = 4 then 1 else s
def prioS (p : Int) : Int := if 0 < p then p else 0
def proj (p : Pr) : Pr := ⟨p.kind, p.sender, ByteArray.empty, sharedS p.shown, p.status, prioS p.prio, []⟩
def zeroPr : Pr := ⟨0, ByteArray.empty, ByteArray.empty, 0, ByteArray.empty, 0, []⟩
def askB (k e : Bool) : Bool := k || e
def projCode (p : Pr) : Int :=
  if presCode p ≠ 0 then presCode p
  else if askB (decide (1 < p.kind)) p.sender.toList.isEmpty = true then 7
  else if 55 < p.sender.size then 2 else 0
def projT (p : Pr) : Pr := if projCode p = 0 then proj p else zeroPr
theorem projT_more (p : Pr) : (projT p).more = [] := by unfold projT; split <;> rfl
theorem presCode_kind {p : Pr} (h : presCode p = 0) : 0 ≤ p.kind ∧ p.kind ≤ 6 := by
  unfold presCode at h
  split at h
  · omega
  · rename_i h1
    rw [Bool.not_eq_false, Bool.and_eq_true, Bool.and_eq_true] at h1
    simpa [inB] using h1.1.1
end Go.Proofs.YtppgdbejbhhjlaaGreatDoor
