/- A number's code and text. -/
import Derived.Test.YticpebpicdboaaaGreatDoorGQ16
import Derived.Test.YticpebpicdboaaaGreatDoorGQ13
import Derived.Test.YticpebpicdboaaaGreatDoorGQ15
import Derived.Test.YticpebpicdboaaaGreatDoorGQ7
import Derived.Lib.AppendIntMem
import Derived.Test.YticpebpicdboaaaGreatDoorGQ1
namespace Go.Proofs.YticpebpicdboaaaGreatDoor
open Go.ChangeShapes Go.WideShapes Go.ChangeAt Go.RowKit
set_option linter.unusedVariables false
def numCode (n : Int) : Int := if inB n (-999) 999 then 0 else 3
def numText (n : Int) : ByteArray := if inB n (-999) 999 then numT n else ByteArray.empty
end Go.Proofs.YticpebpicdboaaaGreatDoor

/- strconv.FormatInt in digits: the library's table, and what a number is written as. -/
namespace Go.Proofs.YticpebpicdboaaaGreatDoor
open Go.ChangeShapes Go.WideShapes Go.ChangeAt Go.RowKit Go.Shelf
set_option linter.unusedVariables false

/-- the library's table of powers of ten lies in its variable -/
def Pows (w : World) : Prop := Lib.TabIs Tryz.prog w "internal/strconv.uint64pow10" .u64 Lib.pow10Tab
theorem Pows.below {w w' : World} (h : Pows w) (hb : Below w.heap.size w w') : Pows w' := Lib.tabBelow_of_tabIs h w' hb
theorem decDigits_digT (n : Nat) : Lib.decDigits n = (digT n).data.toList := by
  induction n using Nat.strongRecOn with
  | ind n ih =>
    by_cases h : n < 10
    · rw [Lib.decDigits, dif_pos h, digT_small h, dig_data n h]
    · rw [Lib.decDigits, dif_neg h, digT_data h, ih (n / 10) (by omega)]
theorem itoa_digT (n : Nat) : (⟨(Lib.itoa (n : Int)).toArray⟩ : ByteArray) = digT n := by
  apply ByteArray.ext
  apply Array.toList_inj.1
  rw [List.toList_toArray]
  unfold Lib.itoa
  rw [if_neg (by omega), decDigits_digT, show ((n : Int)).toNat = n by omega]
end Go.Proofs.YticpebpicdboaaaGreatDoor

/- The program's NumberText: strconv.FormatInt. -/
namespace Go.Proofs.YticpebpicdboaaaGreatDoor
open Go.ChangeShapes Go.WideShapes Go.ChangeAt Go.RowKit Go.Shelf
set_option linter.unusedVariables false

theorem itoa_numT (n : Int) : (⟨(Lib.itoa n).toArray⟩ : ByteArray) = numT n := by
  apply ByteArray.ext
  apply Array.toList_inj.1
  rw [List.toList_toArray]
  unfold Lib.itoa numT
  by_cases h : n < 0
  · rw [if_pos h, if_pos h, ByteArray.data_append, Array.toList_append, decDigits_digT]
    rfl
  · rw [if_neg h, if_neg h, decDigits_digT, show n.toNat = n.natAbs by omega]
set_option maxHeartbeats 800000 in
theorem implNumberText_any (n : Int) (w : World) (hT : Pows w) : Calls Tryz.prog 137 #[.int .i64 n] w (TxtRes w (numCode n) (numText n)) := by
  unfold numCode numText
  cases h : inB n (-999) 999
  · have hb : n < -999 ∨ 999 < n := by
      have : ¬ (-999 ≤ n ∧ n ≤ 999) := by simpa [inB] using h
      omega
    clear h hT
    rcases hb with h | h
    · go_enter Tryz.func137, Tryz.ntmps137
      go_wp2
      exact bodyPost_ret (v := .agg #[.int .i64 3, .string _]) (by simp [results, Tryz.results137, go_sem]; rfl) rfl ⟨rfl, below1 w _⟩
    · have h0 : -999 ≤ n := by omega
      go_enter Tryz.func137, Tryz.ntmps137
      go_wp2
      exact bodyPost_ret (v := .agg #[.int .i64 3, .string _]) (by simp [results, Tryz.results137, go_sem]; rfl) rfl ⟨rfl, below1 w _⟩
  · have hb : -999 ≤ n ∧ n ≤ 999 := by simpa [inB] using h
    obtain ⟨h1, h2⟩ := hb
    have K : Hid (∀ W, Pows W → Calls Tryz.prog 222 #[.int .i64 n, .int .i64 10] W fun e w' => e = .returned (.string (numT n)) ∧ Below W.heap.size W w') := by
      refine Lib.hid fun W hW => ?_
      refine (Tryz.strconv_FormatInt_10 n (by omega) (by omega) W hW).mono ?_
      rintro e w' ⟨rfl, k, os, rfl⟩
      exact ⟨by rw [itoa_numT], Lib.below_grow _ _ (Nat.le_refl _) _ _⟩
    have HT := Lib.hid (fun o => hT.below (below1 w o))
    simp only [if_true]
    generalize numT n = t at K ⊢
    clear h hT
    go_enter Tryz.func137, Tryz.ntmps137
    go_wp2_with fail
    refine (K.out _ (HT.out _)).mono ?_
    rintro e w1 ⟨rfl, hb⟩
    obtain ⟨hc, hf⟩ := bcell hb
    have HB := Lib.hid hb
    have hz := hb.size
    simp at hz
    clear hb
    go_wp2
    exact bodyPost_ret (v := .agg #[.int .i64 0, .string t]) (by simp [results, Tryz.results137, go_sem, hc]) rfl ⟨rfl, (((below1 w _).trans (HB.out.mono (by simp))).setCell (by simp) _).setCell (by simp) _⟩
end Go.Proofs.YticpebpicdboaaaGreatDoor

/- The fields of a code and a text. -/
namespace Go.Proofs.YticpebpicdboaaaGreatDoor
open Go.ChangeShapes Go.WideShapes Go.ChangeAt Go.RowKit
set_option linter.unusedVariables false
theorem field_code (c : Int) (t : ByteArray) (W : World) : (Instr.field 42 (.agg #[.int .i64 c, .string t]) 0).run Tryz.prog W = .ok (.int .i64 c) W := by kernel_rfl
theorem field_text (c : Int) (t : ByteArray) (W : World) : (Instr.field 42 (.agg #[.int .i64 c, .string t]) 1).run Tryz.prog W = .ok (.string t) W := by kernel_rfl
end Go.Proofs.YticpebpicdboaaaGreatDoor

/- A number's text, or the code that says that it is none, in plain words. -/
namespace Go.Proofs.YticpebpicdboaaaGreatDoor
open Go.ChangeShapes Go.WideShapes Go.ChangeAt Go.RowKit
set_option linter.unusedVariables false
def numOfCode (l : List UInt8) : Int := if (numOf l).isSome then 0 else 5
def numOfVal (l : List UInt8) : Int := (numOf l).getD 0
theorem numOf_is {l : List UInt8} {m : Int} {b : Bool} (h : numOf l = if b then some m else none) : numOfCode l = (if b then 0 else 5) ∧ numOfVal l = (if b then m else 0) := by
  unfold numOfCode numOfVal
  rw [h]
  cases b <;> exact ⟨rfl, rfl⟩
end Go.Proofs.YticpebpicdboaaaGreatDoor
