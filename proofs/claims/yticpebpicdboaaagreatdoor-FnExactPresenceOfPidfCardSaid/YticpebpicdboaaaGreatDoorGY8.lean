/- Presences: what they are, spec.PresenceFault. -/
import Derived.Test.YticpebpicdboaaaGreatDoorGY0
import Derived.Test.YticpebpicdboaaaGreatDoorGY7
import Derived.Test.YticpebpicdboaaaGreatDoorGY6
import Derived.Test.YticpebpicdboaaaGreatDoorGY1
import Derived.IntWalk
import Derived.Lib.IndexBytes
namespace Go.Proofs.YticpebpicdboaaaGreatDoor
open Go.ChangeShapes Go.WideShapes Go.ChangeAt Go.RowKit
set_option linter.unusedVariables false

/-- the code of its texts -/
def wordsCode (p : Pr) : Int := if textFault p.sender.data.toList ≠ 0 then textFault p.sender.data.toList else if textFault p.goal.data.toList ≠ 0 then textFault p.goal.data.toList else textFault p.status.data.toList
/-- its parts fit its kind -/
def fitsB (k0 s0 p0 k1 st : Bool) : Bool := !((k0 && (s0 || p0)) || (k1 && st))
def fits (p : Pr) : Bool := fitsB (p.kind != 0) (p.shown != 0) (p.prio != 0) (decide (1 < p.kind)) (!p.status.toList.isEmpty)
def presCode (p : Pr) : Int :=
  if (inB p.kind 0 6 && inB p.shown 0 4 && inB p.prio (-128) 127) = false then 3
  else if wordsCode p ≠ 0 then wordsCode p
  else if fits p = false then 1
  else moreCode p.more

set_option maxHeartbeats 1600000 in
theorem l7Texts_any (b : Nat) (p : Pr) (a : Option Addr) (n c : Nat) (w : World) (hs : p.sender.size ≤ 1048576 ∧ p.goal.size ≤ 1048576 ∧ p.status.size ≤ 1048576) (h : PrAt w b p a n c) :
    Calls Tryz.prog 96 #[.pointer (some ⟨b, 0, none⟩)] w fun e w' => e = .returned (.int .i64 (wordsCode p)) ∧ Below w.heap.size w w' := by
  obtain ⟨pk, pf, pt, ps, pu, pp, pm⟩ := p
  unfold wordsCode
  dsimp only at hs ⊢
  obtain ⟨hf, ht, hu⟩ := hs
  have K1 := Lib.hid (fun W => specTextFault_any pf (by omega) W)
  have K2 := Lib.hid (fun W => specTextFault_any pt (by omega) W)
  have K3 := Lib.hid (fun W => specTextFault_any pu (by omega) W)
  have H := Lib.hid h
  have d1 := h.c1
  clear h hf ht hu
  generalize textFault pf.data.toList = f1 at K1 ⊢
  generalize textFault pt.data.toList = f2 at K2 ⊢
  generalize textFault pu.data.toList = f3 at K3 ⊢
  by_cases h1 : f1 = 0
  · subst h1
    simp only [ne_eq, not_true_eq_false, if_false]
    by_cases h2 : f2 = 0
    · subst h2
      simp only [not_true_eq_false, if_false]
      go_enter Tryz.func96, Tryz.ntmps96
      go_wp2_with fail
      refine (K1.out _).mono ?_
      rintro e w1 ⟨rfl, hb1⟩
      have B1 := Lib.hid hb1
      have d2 := (H.out.below hb1).c2
      clear d1 hb1
      go_wp2_with fail
      refine (K2.out _).mono ?_
      rintro e w2 ⟨rfl, hb2⟩
      have B2 := Lib.hid (below_then B1.out hb2)
      have d4 := (H.out.below (below_then B1.out hb2)).c4
      clear d2 hb2
      go_wp2_with fail
      refine (K3.out _).mono ?_
      rintro e w3 ⟨rfl, hb3⟩
      have B3 := Lib.hid (below_then B2.out hb3)
      clear hb3 d4
      go_wp2
      go_ret
      exact ⟨rfl, B3.out⟩
    · have q1 : (f2 != 0) = true := by rw [bne_iff_ne]; exact h2
      have q2 : (f2 == 0) = false := by rw [beq_eq_false_iff_ne]; exact h2
      rw [if_pos h2]
      clear h2
      go_enter Tryz.func96, Tryz.ntmps96
      go_wp2_with fail
      refine (K1.out _).mono ?_
      rintro e w1 ⟨rfl, hb1⟩
      have B1 := Lib.hid hb1
      have d2 := (H.out.below hb1).c2
      clear d1 hb1
      go_wp2_with fail
      refine (K2.out _).mono ?_
      rintro e w2 ⟨rfl, hb2⟩
      have B2 := Lib.hid (below_then B1.out hb2)
      clear d2 hb2
      go_wp2
      go_ret
      exact ⟨rfl, B2.out⟩
  · have q1 : (f1 != 0) = true := by rw [bne_iff_ne]; exact h1
    have q2 : (f1 == 0) = false := by rw [beq_eq_false_iff_ne]; exact h1
    rw [if_pos h1]
    clear h1
    go_enter Tryz.func96, Tryz.ntmps96
    go_wp2_with fail
    refine (K1.out _).mono ?_
    rintro e w1 ⟨rfl, hb1⟩
    have B1 := Lib.hid hb1
    clear d1 hb1
    go_wp2
    go_ret
    exact ⟨rfl, B1.out⟩
end Go.Proofs.YticpebpicdboaaaGreatDoor

/- What another format can say of a presence, in plain words. -/
namespace Go.Proofs.YticpebpicdboaaaGreatDoor
open Go.ChangeShapes Go.WideShapes Go.ChangeAt Go.RowKit
set_option linter.unusedVariables false

/-- the Show that the other format can say -/
def sharedS (s : Int) : Int := if s = 2 then 0 else if s = 4 then 1 else s
def prioS (p : Int) : Int := if 0 < p then p else 0
def proj (p : Pr) : Pr := ⟨p.kind, p.sender, ByteArray.empty, sharedS p.shown, p.status, prioS p.prio, []⟩
def zeroPr : Pr := ⟨0, ByteArray.empty, ByteArray.empty, 0, ByteArray.empty, 0, []⟩
def askB (k e : Bool) : Bool := k || e
def projCode (p : Pr) : Int :=
  if presCode p ≠ 0 then presCode p
  else if askB (decide (1 < p.kind)) p.sender.toList.isEmpty = true then 7
  else if 55 < p.sender.size then 2 else 0
def projT (p : Pr) : Pr := if projCode p = 0 then proj p else zeroPr
theorem projT_more (p : Pr) : (projT p).more = [] := by unfold projT; split <;> rfl
theorem presCode_kind {p : Pr} (h : presCode p = 0) : 0 ≤ p.kind ∧ p.kind ≤ 6 := by
  unfold presCode at h
  split at h
  · omega
  · rename_i h1
    rw [Bool.not_eq_false, Bool.and_eq_true, Bool.and_eq_true] at h1
    simpa [inB] using h1.1.1
end Go.Proofs.YticpebpicdboaaaGreatDoor

/- Numbers in digits: the model's l1Digits. -/
namespace Go.Proofs.YticpebpicdboaaaGreatDoor
open Go.ChangeShapes Go.WideShapes Go.ChangeAt Go.RowKit
set_option linter.unusedVariables false

/-- a number in digits -/
def digT (n : Nat) : ByteArray := if n < 10 then strOfNums [48 + (n : Int)] else digT (n / 10) ++ strOfNums [48 + (n : Int) % 10]
theorem digT_small {n : Nat} (h : n < 10) : digT n = strOfNums [48 + (n : Int)] := by rw [digT, if_pos h]
theorem digT_big {n : Nat} (h : ¬ n < 10) : digT n = digT (n / 10) ++ strOfNums [48 + (n : Int) % 10] := by rw [digT, if_neg h]

theorem digT_size : ∀ (k n : Nat), n < 10 ^ (k + 1) → (digT n).size ≤ k + 1
  | 0, n, h => by
    rw [digT_small (by simpa using h), strOfNums_size]
    simp
  | k + 1, n, h => by
    by_cases h1 : n < 10
    · rw [digT_small h1, strOfNums_size]
      simp
    · have h2 : n / 10 < 10 ^ (k + 1) := by
        rw [Nat.div_lt_iff_lt_mul (by decide)]
        rw [Nat.pow_succ] at h
        exact h
      have h3 := digT_size k (n / 10) h2
      rw [digT_big h1, ByteArray.size_append, strOfNums_size]
      simp
      omega
theorem digT_size19 {n : Nat} (h : (n : Int) ≤ 9223372036854775807) : (digT n).size ≤ 19 := by
  have h2 : (10 : Nat) ^ (18 + 1) = 10000000000000000000 := by decide
  exact digT_size 18 n (by rw [h2]; omega)
theorem digT_pos (n : Nat) : 1 ≤ (digT n).size := by
  by_cases h : n < 10
  · rw [digT_small h, strOfNums_size]; simp
  · rw [digT_big h, ByteArray.size_append, strOfNums_size]; simp
theorem row1 (W : World) (c : Int) : Row (W.alloc (.cells #[.int .u8 c] 5)) .u8 (.slice (some ⟨W.heap.size, 0, none⟩) 1 1) [c] :=
  .inr ⟨W.heap.size, 0, 1, rfl, by simp, by unfold maxLen; omega, by simp, fun i hi => match i, hi with | 0, _ => by simp⟩
theorem conv1 {W : World} {b : Nat} {c : Int} (h : Row W .u8 (.slice (some ⟨b, 0, none⟩) 1 1) [c]) : (convert 22 9 (.slice (some ⟨b, 0, none⟩) 1 1)).run Tryz.prog W = .ok (.string (strOfNums [c])) W :=
  conv_row (P := Tryz.prog) W Tryz.underlying22 Tryz.underlying5 Tryz.underlying9 h
/-- a text is handed back, and memory made -/
def TextB (s : ByteArray) (w : World) (e : Ending) (w' : World) : Prop := e = .returned (.string s) ∧ Below w.heap.size w w'

set_option maxRecDepth 100000 in
set_option maxHeartbeats 800000 in
theorem l1Digits_any (n : Nat) : (n : Int) ≤ 9223372036854775807 → ∀ w, Calls Tryz.prog 226 #[.int .i64 n] w (TextB (digT n) w) := by
  induction n using Nat.strongRecOn with
  | ind n ih =>
    intro hb w
    unfold TextB
    by_cases h : n < 10
    · rw [digT_small h]
      have h' : (n : Int) < 10 := by omega
      have hcv := conv1 (row1 w (48 + (n : Int)))
      clear ih hb h
      go_enter Tryz.func226, Tryz.ntmps226
      go_wp2
      go_ret
      exact ⟨rfl, below1 _ _⟩
    · have K := Lib.hid (ih (n / 10) (by omega) (by omega))
      unfold TextB at K
      rw [digT_big h]
      have e : ((n / 10 : Nat) : Int) = (n : Int) / 10 := by omega
      rw [e] at K
      have hsz := digT_size19 (n := n / 10) (by omega)
      generalize digT (n / 10) = t at K hsz ⊢
      have h' : 10 ≤ (n : Int) := by omega
      have q1 : 0 ≤ (n : Int) % 10 := by omega
      have q2 : (n : Int) % 10 < 10 := by omega
      have hs1 : (strOfNums [48 + (n : Int) % 10]).size ≤ 1 := by rw [strOfNums_size]; simp
      have hr0 := Lib.hid (row1 w (48 + (n : Int) % 10))
      have hcv0 := conv1 (W := (w.alloc (.cells #[.int .u8 (48 + (n : Int) % 10)] 5)).drew) (hr0.out.drewN 1)
      have k1 : IntKind.i64.wrap ((n : Int) / 10) = (n : Int) / 10 := IntWalk.i64_in _ (by omega)
      have k2 : (n : Int).tmod 10 = (n : Int) % 10 := Int.tmod_eq_emod_of_nonneg (by omega)
      have k3 : IntKind.i64.wrap (48 + (n : Int) % 10) = 48 + (n : Int) % 10 := IntWalk.i64_in _ (by omega)
      have k4 : IntKind.u8.wrap (48 + (n : Int) % 10) = 48 + (n : Int) % 10 := IntWalk.u8_in _ (by omega)
      clear ih h e
      go_enter Tryz.func226, Tryz.ntmps226
      go_wp2
      go_region_with (go_at_call 226; refine (K.out _).mono ?_; rintro e w1 ⟨rfl, hb1⟩; have hcv1 := conv1 (row1 w1 (48 + (n : Int) % 10)); try (have hcv2 := conv1 ((hr0.out.drewN 1).below hb1)))
      all_goals
        go_wp2
        go_ret
        first
          | exact ⟨rfl, (below_of_drew hb1).alloc (below_of_drew hb1).size _⟩
          | exact ⟨rfl, ((below1 w _).drew).trans (hb1.mono (by simp))⟩
theorem dig_data (x : Nat) (h : x < 10) : (strOfNums [48 + (x : Int)]).data.toList = [UInt8.ofNat (48 + x)] := by
  rw [strOfNums_data]
  simp only [List.map_cons, List.map_nil]
  rw [show (48 + (x : Int)).toNat = 48 + x by omega]
theorem digT_data {n : Nat} (h : ¬ n < 10) : (digT n).data.toList = (digT (n / 10)).data.toList ++ [UInt8.ofNat (48 + n % 10)] := by
  rw [digT_big h, ByteArray.data_append, Array.toList_append]
  have e : (48 + (n : Int) % 10) = 48 + ((n % 10 : Nat) : Int) := by omega
  rw [e, dig_data _ (by omega)]
end Go.Proofs.YticpebpicdboaaaGreatDoor

/- Thousandths: what they are, in plain words. -/
namespace Go.Proofs.YticpebpicdboaaaGreatDoor
open Go.ChangeShapes Go.WideShapes Go.ChangeAt Go.RowKit
set_option linter.unusedVariables false

/-- what stands behind the first sign -/
def behindT (s : ByteArray) : ByteArray := s.extract 1 s.size
/-- thousandths as a text -/
def shareT (n : Nat) : ByteArray := digT (n / 1000) ++ ⟨#[46]⟩ ++ behindT (digT (1000 + n % 1000))
def shareCode (n : Int) : Int := if inB n 0 1000 then 0 else 3
def shareText (n : Int) : ByteArray := if inB n 0 1000 then shareT n.toNat else ByteArray.empty
theorem behind_2000 : behindT (digT 2000) = behindT (digT 1000) := by
  rw [digT_big (n := 2000) (by decide), digT_big (n := 2000 / 10) (by decide), digT_big (n := 2000 / 10 / 10) (by decide), digT_small (n := 2000 / 10 / 10 / 10) (by decide)]
  rw [digT_big (n := 1000) (by decide), digT_big (n := 1000 / 10) (by decide), digT_big (n := 1000 / 10 / 10) (by decide), digT_small (n := 1000 / 10 / 10 / 10) (by decide)]
  decide +kernel
/-- a whole more keeps the noughts ahead -/
theorem behind_share (n : Nat) (h : n ≤ 1000) : behindT (digT (1000 + n)) = behindT (digT (1000 + n % 1000)) := by
  by_cases h1 : n < 1000
  · rw [Nat.mod_eq_of_lt h1]
  · obtain rfl : n = 1000 := by omega
    exact behind_2000
end Go.Proofs.YticpebpicdboaaaGreatDoor

/- Thousandths of priorities, in plain words. -/
namespace Go.Proofs.YticpebpicdboaaaGreatDoor
open Go.ChangeShapes Go.WideShapes Go.ChangeAt Go.RowKit
set_option linter.unusedVariables false

def thouCode (p : Int) : Int := if inB p 0 127 then 0 else 3
def thouVal (p : Int) : Int := if inB p 0 127 then (1000 * p + 63) / 127 else 0
def prioCode (n : Int) : Int := if inB n 0 1000 then 0 else 3
def prioVal (n : Int) : Int := if inB n 0 1000 then (127 * n + 500) / 1000 else 0
end Go.Proofs.YticpebpicdboaaaGreatDoor
