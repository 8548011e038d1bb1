/- The model's l8Share. -/
import Derived.Test.YtppgdbejbhhjlaaDoorShareP
namespace Go.Proofs.YtppgdbejbhhjlaaDoor
open Go.ChangeShapes Go.WideShapes Go.ChangeAt Go.RowKit
set_option linter.unusedVariables false

set_option maxRecDepth 100000 in
set_option maxHeartbeats 1600000 in
theorem l8Share_any (n : Nat) (hn : n ≤ 1000) (w : World) : Calls Tryd.prog 30 #[.int .i64 n] w (TextB (shareT n) w) := by
  have K1 := Lib.hid (l1Digits_any (n / 1000) (by omega))
  have K2 := Lib.hid (l1Digits_any (1000 + n % 1000) (by omega))
  have s1 := digT_size19 (n := n / 1000) (by omega)
  have s2 := digT_size19 (n := 1000 + n % 1000) (by omega)
  have s3 := digT_pos (1000 + n % 1000)
  have e1 : ((n / 1000 : Nat) : Int) = (n : Int) / 1000 := by omega
  have e2 : ((1000 + n % 1000 : Nat) : Int) = 1000 + (n : Int) % 1000 := by omega
  rw [e1] at K1
  rw [e2] at K2
  unfold shareT
  unfold TextB at *
  generalize digT (n / 1000) = t1 at *
  generalize digT (1000 + n % 1000) = t2 at *
  have s4 : (behindT t2).size ≤ 18 := by unfold behindT; rw [ByteArray.size_extract]; omega
  have e3 : t2.extract 1 t2.size = behindT t2 := rfl
  have HE := Lib.hid e3
  generalize behindT t2 = t3 at *
  have k1 : IntKind.i64.wrap ((n : Int) / 1000) = (n : Int) / 1000 := IntWalk.i64_in _ (by omega)
  have k2 : (n : Int).tmod 1000 = (n : Int) % 1000 := Int.tmod_eq_emod_of_nonneg (by omega)
  have k3 : IntKind.i64.wrap (1000 + (n : Int) % 1000) = 1000 + (n : Int) % 1000 := IntWalk.i64_in _ (by omega)
  have k5 : (1 : Int) ≤ (t2.size : Int) := by omega
  have k6 : ((t2.size : Int)).toNat = t2.size := by omega
  clear e1 e2
  go_enter Tryd.func30, Tryd.ntmps30
  go_wp2_with fail
  refine (K1.out _).mono ?_
  rintro e w1 ⟨rfl, hb1⟩
  go_wp2_with fail
  refine (K2.out _).mono ?_
  rintro e w2 ⟨rfl, hb2⟩
  go_wp2
  go_ret
  exact ⟨rfl, below_then hb1 hb2⟩
end Go.Proofs.YtppgdbejbhhjlaaDoor
