/- The program's ShareText. -/
import Derived.Test.YtppgdbejbhhjlaaGreatDoorGF30
import Derived.Test.YtppgdbejbhhjlaaGreatDoorGF11
import Derived.Test.YtppgdbejbhhjlaaGreatDoorGF31
import Derived.Test.YtppgdbejbhhjlaaGreatDoorGF0
namespace Go.Proofs.YtppgdbejbhhjlaaGreatDoor
open Go.ChangeShapes Go.WideShapes Go.ChangeAt Go.RowKit Go.Shelf
set_option linter.unusedVariables false

set_option maxRecDepth 100000 in
set_option maxHeartbeats 1600000 in
theorem implShareText_any (n : Int) (w : World) (hT : Pows w) : Calls Tryz.prog 197 #[.int .i64 n] w (TxtRes w (shareCode n) (shareText n)) := by
  unfold shareCode shareText
  cases h : inB n 0 1000
  · clear hT
    go_enter Tryz.func197, Tryz.ntmps197
    go_wp2_with fail
    refine (isShare_any _ _).mono ?_
    rw [h]
    rintro e w1 ⟨rfl, rfl⟩
    go_wp2
    exact bodyPost_ret (v := .agg #[.int .i64 3, .string _]) (by simp [results, Tryz.results197, go_sem]; rfl) rfl ⟨rfl, below1 w _⟩
  · have hb : 0 ≤ n ∧ n ≤ 1000 := by simpa [inB] using h
    obtain ⟨m, rfl⟩ : ∃ m : Nat, n = (m : Int) := ⟨n.toNat, by omega⟩
    have hm : m ≤ 1000 := by omega
    have KF : ∀ (k : Nat) W, k ≤ 2000 → Pows W → Calls Tryz.prog 173 #[.int .i64 k, .int .i64 10] W fun e w' => e = .returned (.string (digT k)) ∧ Below W.heap.size W w' := by
      intro k W hk hW
      refine (Tryz.strconv_FormatInt_10 k (by omega) (by omega) W hW).mono ?_
      rintro e w' ⟨rfl, kk, os, rfl⟩
      refine ⟨?_, Lib.below_grow _ _ (Nat.le_refl _) _ _⟩
      rw [itoa_digT]
    have K1 := Lib.hid (fun W hW => KF (1000 + m) W (by omega) hW)
    have K2 := Lib.hid (fun W hW => KF (m / 1000) W (by omega) hW)
    have e1 : ((1000 + m : Nat) : Int) = 1000 + (m : Int) := by omega
    have e2 : ((m / 1000 : Nat) : Int) = (m : Int) / 1000 := by omega
    rw [e1] at K1
    rw [e2] at K2
    have HT := Lib.hid (fun W (hb : Below w.heap.size w W) => hT.below hb)
    have s1 := digT_size19 (n := m / 1000) (by omega)
    have s2 := digT_size19 (n := 1000 + m) (by omega)
    have s3 := digT_pos (1000 + m)
    have HX : Hid (shareT (m : Int).toNat = digT (m / 1000) ++ ⟨#[46]⟩ ++ behindT (digT (1000 + m))) := Lib.hid (by
      unfold shareT
      rw [show (m : Int).toNat = m by omega, behind_share m hm])
    simp only [if_true]
    generalize shareT (m : Int).toNat = tx at HX ⊢
    generalize digT (m / 1000) = t1 at *
    generalize digT (1000 + m) = t2 at *
    have s4 : (behindT t2).size ≤ 18 := by unfold behindT; rw [ByteArray.size_extract]; omega
    have e3 : t2.extract 1 t2.size = behindT t2 := rfl
    have HE := Lib.hid e3
    generalize behindT t2 = t3 at *
    have k1 : IntKind.i64.wrap ((m : Int) / 1000) = (m : Int) / 1000 := IntWalk.i64_in _ (by omega)
    have k2 : (m : Int).tdiv 1000 = (m : Int) / 1000 := Int.tdiv_eq_ediv_of_nonneg (by omega)
    have k3 : IntKind.i64.wrap (1000 + (m : Int)) = 1000 + (m : Int) := IntWalk.i64_in _ (by omega)
    have k5 : (1 : Int) ≤ (t2.size : Int) := by omega
    have k6 : ((t2.size : Int)).toNat = t2.size := by omega
    clear e1 e2 KF hT
    go_enter Tryz.func197, Tryz.ntmps197
    go_wp2_with fail
    refine (isShare_any _ _).mono ?_
    rw [h]
    rintro e w1 ⟨rfl, rfl⟩
    clear h
    go_wp2_with fail
    refine (K1.out _ (HT.out _ (below1 _ _))).mono ?_
    rintro e w2 ⟨rfl, hb2⟩
    have B2 := Lib.hid (below_then (below1 w _) hb2)
    have C2 := Lib.hid hb2
    clear hb2
    go_wp2_with fail
    first | (go_region_with (go_at_call 173; refine (K2.out _ ?_).mono ?_; exact HT.out _ B2.out.drew; rintro e w3 ⟨rfl, hb3⟩; have C3 := below_then C2.out (below_of_drew hb3); obtain ⟨hc, hf⟩ := bcell C3; have HB := Lib.hid C3; have hz := C3.size; simp at hz; clear hb3 C3)) | fail
    all_goals
      go_wp2
      exact bodyPost_ret (v := .agg #[.int .i64 0, .string _]) (by simp [results, Tryz.results197, go_sem, hc]; rfl) rfl ⟨by rw [HX.out], (((below1 w _).trans (HB.out.mono (by simp))).setCell (by simp) _).setCell (by simp) _⟩
end Go.Proofs.YtppgdbejbhhjlaaGreatDoor

/- The fields of a code and a text. -/
namespace Go.Proofs.YtppgdbejbhhjlaaGreatDoor
open Go.ChangeShapes Go.WideShapes Go.ChangeAt Go.RowKit
set_option linter.unusedVariables false
theorem field_code (c : Int) (t : ByteArray) (W : World) : (Instr.field 42 (.agg #[.int .i64 c, .string t]) 0).run Tryz.prog W = .ok (.int .i64 c) W := by kernel_rfl
theorem field_text (c : Int) (t : ByteArray) (W : World) : (Instr.field 42 (.agg #[.int .i64 c, .string t]) 1).run Tryz.prog W = .ok (.string t) W := by kernel_rfl
end Go.Proofs.YtppgdbejbhhjlaaGreatDoor
