/- The program's ThousandthsOf. -/
import Derived.Test.YticpebpicdboaaaGreatDoorGY8
import Derived.Test.YticpebpicdboaaaGreatDoorGY14
import Derived.IntWalk
import Derived.Test.YticpebpicdboaaaGreatDoorGY3
import Derived.Lib.AppendIntMem
import Derived.Test.YticpebpicdboaaaGreatDoorGY0
namespace Go.Proofs.YticpebpicdboaaaGreatDoor
open Go.ChangeShapes Go.WideShapes Go.ChangeAt Go.RowKit
set_option linter.unusedVariables false

set_option maxHeartbeats 800000 in
theorem implThousandthsOf_any (n : Int) (w : World) : Calls Tryz.prog 244 #[.int .i64 n] w (Res2 w (thouCode n) (thouVal n)) := by
  unfold thouCode thouVal
  cases h : inB n 0 127
  · have hb : n < 0 ∨ 127 < n := by
      have : ¬ (0 ≤ n ∧ n ≤ 127) := by simpa [inB] using h
      omega
    clear h
    rcases hb with h | h
    · go_enter Tryz.func244, Tryz.ntmps244
      go_wp2
      exact bodyPost_ret (v := .agg #[.int .i64 3, .int .i64 0]) (by simp [results, Tryz.results244, go_sem]) rfl ⟨rfl, below1 w _⟩
    · have h0 : 0 ≤ n := by omega
      go_enter Tryz.func244, Tryz.ntmps244
      go_wp2
      exact bodyPost_ret (v := .agg #[.int .i64 3, .int .i64 0]) (by simp [results, Tryz.results244, go_sem]) rfl ⟨rfl, below1 w _⟩
  · have hb : 0 ≤ n ∧ n ≤ 127 := by simpa [inB] using h
    obtain ⟨h0, h1⟩ := hb
    have k1 : IntKind.i64.wrap (1000 * n) = 1000 * n := IntWalk.i64_in _ (by omega)
    have k2 : IntKind.i64.wrap (1000 * n + 63) = 1000 * n + 63 := IntWalk.i64_in _ (by omega)
    have k3 : (1000 * n + 63).tdiv 127 = (1000 * n + 63) / 127 := Int.tdiv_eq_ediv_of_nonneg (by omega)
    have k4 : IntKind.i64.wrap ((1000 * n + 63) / 127) = (1000 * n + 63) / 127 := IntWalk.i64_in _ (by omega)
    simp only [if_true]
    clear h
    go_enter Tryz.func244, Tryz.ntmps244
    go_wp2
    exact bodyPost_ret (v := .agg #[.int .i64 0, .int .i64 ((1000 * n + 63) / 127)]) (by simp [results, Tryz.results244, go_sem]) rfl ⟨rfl, below1 w _⟩
end Go.Proofs.YticpebpicdboaaaGreatDoor

/- The program's isShare. -/
namespace Go.Proofs.YticpebpicdboaaaGreatDoor
open Go.ChangeShapes Go.WideShapes Go.ChangeAt Go.RowKit
set_option linter.unusedVariables false

set_option maxHeartbeats 400000 in
theorem isShare_any (n : Int) (w : World) :
    Calls Tryz.prog 286 #[.int .i64 n] w fun e w' => e = .returned (.bool (inB n 0 1000)) ∧ w' = w := by
  by_cases h1 : 0 ≤ n
  · by_cases h2 : n ≤ 1000
    · go_enter Tryz.func286, Tryz.ntmps286
      go_wp2
      go_ret
      exact ⟨ret_bool (by simp [inB, h1, h2]), rfl⟩
    · go_enter Tryz.func286, Tryz.ntmps286
      go_wp2
      go_ret
      exact ⟨ret_bool (by simp [inB, h1, h2]), rfl⟩
  · go_enter Tryz.func286, Tryz.ntmps286
    go_wp2
    go_ret
    exact ⟨ret_bool (by simp [inB]; omega), rfl⟩
end Go.Proofs.YticpebpicdboaaaGreatDoor

/- strconv.FormatInt in digits: the library's table, and what a number is written as. -/
namespace Go.Proofs.YticpebpicdboaaaGreatDoor
open Go.ChangeShapes Go.WideShapes Go.ChangeAt Go.RowKit Go.Shelf
set_option linter.unusedVariables false

/-- the library's table of powers of ten lies in its variable -/
def Pows (w : World) : Prop := Lib.TabIs Tryz.prog w "internal/strconv.uint64pow10" .u64 Lib.pow10Tab
theorem Pows.below {w w' : World} (h : Pows w) (hb : Below w.heap.size w w') : Pows w' := Lib.tabBelow_of_tabIs h w' hb
theorem decDigits_digT (n : Nat) : Lib.decDigits n = (digT n).data.toList := by
  induction n using Nat.strongRecOn with
  | ind n ih =>
    by_cases h : n < 10
    · rw [Lib.decDigits, dif_pos h, digT_small h, dig_data n h]
    · rw [Lib.decDigits, dif_neg h, digT_data h, ih (n / 10) (by omega)]
theorem itoa_digT (n : Nat) : (⟨(Lib.itoa (n : Int)).toArray⟩ : ByteArray) = digT n := by
  apply ByteArray.ext
  apply Array.toList_inj.1
  rw [List.toList_toArray]
  unfold Lib.itoa
  rw [if_neg (by omega), decDigits_digT, show ((n : Int)).toNat = n by omega]
end Go.Proofs.YticpebpicdboaaaGreatDoor

/- A code and a text: handed back. -/
namespace Go.Proofs.YticpebpicdboaaaGreatDoor
open Go.ChangeShapes Go.WideShapes Go.ChangeAt Go.RowKit
set_option linter.unusedVariables false
/-- a struct of a code and a text is handed back -/
def TxtRes (w : World) (c : Int) (s : ByteArray) (e : Ending) (w' : World) : Prop := e = .returned (.agg #[.int .i64 c, .string s]) ∧ Below w.heap.size w w'
end Go.Proofs.YticpebpicdboaaaGreatDoor

/- The program's ShareText. -/
namespace Go.Proofs.YticpebpicdboaaaGreatDoor
open Go.ChangeShapes Go.WideShapes Go.ChangeAt Go.RowKit Go.Shelf
set_option linter.unusedVariables false

set_option maxRecDepth 100000 in
set_option maxHeartbeats 1600000 in
theorem implShareText_any (n : Int) (w : World) (hT : Pows w) : Calls Tryz.prog 243 #[.int .i64 n] w (TxtRes w (shareCode n) (shareText n)) := by
  unfold shareCode shareText
  cases h : inB n 0 1000
  · clear hT
    go_enter Tryz.func243, Tryz.ntmps243
    go_wp2_with fail
    refine (isShare_any _ _).mono ?_
    rw [h]
    rintro e w1 ⟨rfl, rfl⟩
    go_wp2
    exact bodyPost_ret (v := .agg #[.int .i64 3, .string _]) (by simp [results, Tryz.results243, go_sem]; rfl) rfl ⟨rfl, below1 w _⟩
  · have hb : 0 ≤ n ∧ n ≤ 1000 := by simpa [inB] using h
    obtain ⟨m, rfl⟩ : ∃ m : Nat, n = (m : Int) := ⟨n.toNat, by omega⟩
    have hm : m ≤ 1000 := by omega
    have KF : ∀ (k : Nat) W, k ≤ 2000 → Pows W → Calls Tryz.prog 222 #[.int .i64 k, .int .i64 10] W fun e w' => e = .returned (.string (digT k)) ∧ Below W.heap.size W w' := by
      intro k W hk hW
      refine (Tryz.strconv_FormatInt_10 k (by omega) (by omega) W hW).mono ?_
      rintro e w' ⟨rfl, kk, os, rfl⟩
      refine ⟨?_, Lib.below_grow _ _ (Nat.le_refl _) _ _⟩
      rw [itoa_digT]
    have K1 := Lib.hid (fun W hW => KF (1000 + m) W (by omega) hW)
    have K2 := Lib.hid (fun W hW => KF (m / 1000) W (by omega) hW)
    have e1 : ((1000 + m : Nat) : Int) = 1000 + (m : Int) := by omega
    have e2 : ((m / 1000 : Nat) : Int) = (m : Int) / 1000 := by omega
    rw [e1] at K1
    rw [e2] at K2
    have HT := Lib.hid (fun W (hb : Below w.heap.size w W) => hT.below hb)
    have s1 := digT_size19 (n := m / 1000) (by omega)
    have s2 := digT_size19 (n := 1000 + m) (by omega)
    have s3 := digT_pos (1000 + m)
    have HX : Hid (shareT (m : Int).toNat = digT (m / 1000) ++ ⟨#[46]⟩ ++ behindT (digT (1000 + m))) := Lib.hid (by
      unfold shareT
      rw [show (m : Int).toNat = m by omega, behind_share m hm])
    simp only [if_true]
    generalize shareT (m : Int).toNat = tx at HX ⊢
    generalize digT (m / 1000) = t1 at *
    generalize digT (1000 + m) = t2 at *
    have s4 : (behindT t2).size ≤ 18 := by unfold behindT; rw [ByteArray.size_extract]; omega
    have e3 : t2.extract 1 t2.size = behindT t2 := rfl
    have HE := Lib.hid e3
    generalize behindT t2 = t3 at *
    have k1 : IntKind.i64.wrap ((m : Int) / 1000) = (m : Int) / 1000 := IntWalk.i64_in _ (by omega)
    have k2 : (m : Int).tdiv 1000 = (m : Int) / 1000 := Int.tdiv_eq_ediv_of_nonneg (by omega)
    have k3 : IntKind.i64.wrap (1000 + (m : Int)) = 1000 + (m : Int) := IntWalk.i64_in _ (by omega)
    have k5 : (1 : Int) ≤ (t2.size : Int) := by omega
    have k6 : ((t2.size : Int)).toNat = t2.size := by omega
    clear e1 e2 KF hT
    go_enter Tryz.func243, Tryz.ntmps243
    go_wp2_with fail
    refine (isShare_any _ _).mono ?_
    rw [h]
    rintro e w1 ⟨rfl, rfl⟩
    clear h
    go_wp2_with fail
    refine (K1.out _ (HT.out _ (below1 _ _))).mono ?_
    rintro e w2 ⟨rfl, hb2⟩
    have B2 := Lib.hid (below_then (below1 w _) hb2)
    have C2 := Lib.hid hb2
    clear hb2
    go_wp2_with fail
    first | (go_region_with (go_at_call 222; refine (K2.out _ ?_).mono ?_; exact HT.out _ B2.out.drew; rintro e w3 ⟨rfl, hb3⟩; have C3 := below_then C2.out (below_of_drew hb3); obtain ⟨hc, hf⟩ := bcell C3; have HB := Lib.hid C3; have hz := C3.size; simp at hz; clear hb3 C3)) | fail
    all_goals
      go_wp2
      exact bodyPost_ret (v := .agg #[.int .i64 0, .string _]) (by simp [results, Tryz.results243, go_sem, hc]; rfl) rfl ⟨by rw [HX.out], (((below1 w _).trans (HB.out.mono (by simp))).setCell (by simp) _).setCell (by simp) _⟩
end Go.Proofs.YticpebpicdboaaaGreatDoor
