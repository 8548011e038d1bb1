/- impl.pidfElement, basicWords, activityWords, shareOf. -/
import Derived.Test.YtcaknhoaoodbfaaGreatDoorGP14
import Derived.Test.YtcaknhoaoodbfaaGreatDoorGP20
import Derived.Test.YtcaknhoaoodbfaaGreatDoorGP0
namespace Go.Proofs.YtcaknhoaoodbfaaGreatDoor
open Go.ChangeShapes Go.WideShapes Go.ChangeAt Go.RowKit
set_option linter.unusedVariables false
set_option linter.unusedSimpArgs false
set_option maxHeartbeats 800000 in
theorem pidfElement_any (d : Int) (nm : ByteArray) (a : Option Addr) (n c : Nat) (w : World) :
    Calls Tryz.prog 143 #[.int .i64 d, .string nm, .slice a n c] w fun e w' => e = .returned (.agg #[.int .i64 d, .string ⟨#[]⟩, .string ⟨#[117, 114, 110, 58, 105, 101, 116, 102, 58, 112, 97, 114, 97, 109, 115, 58, 120, 109, 108, 58, 110, 115, 58, 112, 105, 100, 102]⟩, .string nm, .slice a n c]) ∧ Below w.heap.size w w' := by
  go_enter Tryz.func143, Tryz.ntmps143
  go_wp2
  exact bodyPost_ret (v := .agg #[.int .i64 d, .string ⟨#[]⟩, .string ⟨#[117, 114, 110, 58, 105, 101, 116, 102, 58, 112, 97, 114, 97, 109, 115, 58, 120, 109, 108, 58, 110, 115, 58, 112, 105, 100, 102]⟩, .string nm, .slice a n c]) (by simp [results, Tryz.results143, go_sem]) rfl ⟨rfl, below1 w _⟩
theorem basicWords_any (w : World) : Calls Tryz.prog 144 #[] w fun e w' =>
    e = .returned (.slice (some ⟨w.heap.size, 0, none⟩) 2 2) ∧ Below w.heap.size w w' ∧ w'.cell? ⟨w.heap.size, 0, none⟩ = some (.string ⟨#[111, 112, 101, 110]⟩) ∧ w'.cell? ⟨w.heap.size, 1, none⟩ = some (.string ⟨#[99, 108, 111, 115, 101, 100]⟩) := by
  go_enter Tryz.func144, Tryz.ntmps144
  go_wp2
  go_ret
  refine ⟨rfl, below1 _ _, ?_, ?_⟩ <;> simp
theorem activityWords_any (w : World) : Calls Tryz.prog 145 #[] w fun e w' =>
    e = .returned (.slice (some ⟨w.heap.size, 0, none⟩) 4 4) ∧ Below w.heap.size w w' ∧ w'.cell? ⟨w.heap.size, 1, none⟩ = some (.string ⟨#[97, 119, 97, 121]⟩) ∧ w'.cell? ⟨w.heap.size, 3, none⟩ = some (.string ⟨#[98, 117, 115, 121]⟩) := by
  go_enter Tryz.func145, Tryz.ntmps145
  go_wp2
  go_ret
  refine ⟨rfl, below1 _ _, ?_, ?_⟩ <;> simp
theorem field_ivalP (c v : Int) (W : World) : (Instr.field 163 (.agg #[.int .i64 c, .int .i64 v]) 1).run Tryz.prog W = .ok (.int .i64 v) W := by kernel_rfl
theorem shareOf_any (n : Int) (w : World) (hT : Pows w) : Calls Tryz.prog 146 #[.int .i64 n] w fun e w' => e = .returned (.string (shareText (thouVal n))) ∧ Below w.heap.size w w' := by
  have K1 := Lib.hid (implThousandthsOf_any n w)
  have K2 := Lib.hid (fun W (hb : Below w.heap.size w W) => implShareText_any (thouVal n) W (hT.below hb))
  unfold Res2 at K1
  unfold TxtRes at K2
  generalize thouCode n = tc at K1
  generalize thouVal n = tv at K1 K2 ⊢
  generalize shareCode tv = sc at K2
  generalize shareText tv = st at K2 ⊢
  have h1 := fun W => field_ivalP tc tv W
  have h2 := fun W => field_text sc st W
  clear hT
  go_enter Tryz.func146, Tryz.ntmps146
  go_wp2_with fail
  refine K1.out.mono ?_
  rintro e w1 ⟨rfl, hb1⟩
  have B1 := Lib.hid hb1
  clear hb1
  go_wp2_with fail
  refine (K2.out _ B1.out).mono ?_
  rintro e w2 ⟨rfl, hb2⟩
  have B2 := Lib.hid (below_then B1.out hb2)
  clear hb2
  go_wp2
  go_ret
  exact ⟨rfl, B2.out⟩
def prioWith (s : ByteArray) : Int := match (List.range' 1 127).find? (fun p => (shareText (thouVal ((p : Nat) : Int))).toList == s.toList) with | some p => ((p : Nat) : Int) | none => 0
theorem range_at {k : Nat} (h : k < 127) : (List.range' 1 127).getD k 0 = k + 1 := by
  rw [List.getD_eq_getElem?_getD, List.getElem?_range' h]
  simp
  omega
theorem prioWith_at {s : ByteArray} {k : Nat} (h1 : 1 ≤ k) (h2 : k ≤ 127) (h3 : ∀ j, 1 ≤ j → j < k → ((shareText (thouVal ((j : Nat) : Int))).toList == s.toList) = false) (h4 : ((shareText (thouVal ((k : Nat) : Int))).toList == s.toList) = true) : prioWith s = (k : Int) := by
  unfold prioWith
  have e : (List.range' 1 127).getD (k - 1) 0 = k := by rw [range_at (by omega)]; omega
  rw [find_at (List.range' 1 127) 0 _ (k - 1) (by simp; omega) (fun j hj => by rw [range_at (by omega)]; exact h3 (j + 1) (by omega) (by omega)) (by rw [e]; exact h4), e]
theorem prioWith_no {s : ByteArray} (h3 : ∀ j, 1 ≤ j → j ≤ 127 → ((shareText (thouVal ((j : Nat) : Int))).toList == s.toList) = false) : prioWith s = 0 := by
  unfold prioWith
  have hn : ∀ j, j < (List.range' 1 127).length → ((shareText (thouVal (((List.range' 1 127).getD j 0 : Nat) : Int))).toList == s.toList) = false := by
    intro j hj
    have hj2 : j < 127 := by simpa using hj
    rw [range_at hj2]
    exact h3 (j + 1) (by omega) (by omega)
  rw [find_no (List.range' 1 127) 0 (fun p => (shareText (thouVal ((p : Nat) : Int))).toList == s.toList) hn]
set_option maxRecDepth 100000 in
set_option maxHeartbeats 1600000 in
theorem prioWith_any (s : ByteArray) (w : World) (hT : Pows w) :
    Calls Tryz.prog 151 #[.string s] w fun e w' => e = .returned (.int .i64 (prioWith s)) ∧ Below w.heap.size w w' := by
  have K := Lib.hid (fun (n : Int) W (hW : Below w.heap.size w W) => shareOf_any n W (hT.below hW))
  have HA : Hid (∀ k : Nat, 1 ≤ k → k ≤ 127 → (∀ j, 1 ≤ j → j < k → ((shareText (thouVal ((j : Nat) : Int))).toList == s.toList) = false) → ((shareText (thouVal ((k : Nat) : Int))).toList == s.toList) = true → prioWith s = (k : Int)) := Lib.hid fun k h1 h2 h3 h4 => prioWith_at h1 h2 h3 h4
  have HN : Hid ((∀ j, 1 ≤ j → j ≤ 127 → ((shareText (thouVal ((j : Nat) : Int))).toList == s.toList) = false) → prioWith s = 0) := Lib.hid fun h => prioWith_no h
  generalize prioWith s = r at HA HN ⊢
  clear hT
  go_enter Tryz.func151, Tryz.ntmps151
  go_wp2
  go_loopw [3] (fun i wr => ∃ k : Nat, 1 ≤ k ∧ k ≤ 128 ∧ i = .int .i64 (k : Int) ∧ (∀ j, 1 ≤ j → j < k → ((shareText (thouVal ((j : Nat) : Int))).toList == s.toList) = false) ∧ Below w.heap.size w wr) (fun i _ => 128 - (intOf i).toNat)
  case atStart => exact ⟨1, Nat.le_refl _, by omega, rfl, fun j h1 h2 => by omega, Below.refl _ _⟩
  case round =>
    obtain ⟨k, h1, h2, rfl, hz, hb⟩ := hrel
    have HZ := Lib.hid hz
    have HB := Lib.hid hb
    clear hz hb
    by_cases hlt : k ≤ 127
    · have q0 : (k : Int) ≤ 127 := by omega
      have HA2 := Lib.hid (HA.out k h1 hlt HZ.out)
      have HZ2 : Hid (((shareText (thouVal ((k : Nat) : Int))).toList == s.toList) = false → ∀ j, 1 ≤ j → j < k + 1 → ((shareText (thouVal ((j : Nat) : Int))).toList == s.toList) = false) := Lib.hid fun e j g1 g2 => by
        rcases Nat.lt_or_ge j k with h | h
        · exact HZ.out j g1 h
        · obtain rfl : j = k := by omega
          exact e
      have KK := Lib.hid (K.out (k : Int) wr HB.out)
      generalize shareText (thouVal (k : Int)) = x at HA2 HZ2 KK
      cases hq : x.toList == s.toList
      · have HZ3 := Lib.hid (HZ2.out hq)
        clear HZ2 HA2
        go_wp2_with fail
        refine KK.out.mono ?_
        rintro e w1 ⟨rfl, hb1⟩
        go_wp2
        go_roundw
        case rel => exact ⟨k + 1, by omega, by omega, by go_num, HZ3.out, below_then HB.out hb1⟩
        case measure => simp [intOf]; omega
      · have HA3 := Lib.hid (HA2.out hq)
        clear HZ2 HA2
        go_wp2_with fail
        refine KK.out.mono ?_
        rintro e w1 ⟨rfl, hb1⟩
        go_wp2
        go_ret
        exact ⟨ret_i HA3.out.symm, below_then HB.out hb1⟩
    · obtain rfl : k = 128 := by omega
      have HN2 := Lib.hid (HN.out fun j g1 g2 => HZ.out j g1 (by omega))
      go_wp2
      go_ret
      exact ⟨ret_i HN2.out.symm, HB.out⟩
end Go.Proofs.YtcaknhoaoodbfaaGreatDoor
