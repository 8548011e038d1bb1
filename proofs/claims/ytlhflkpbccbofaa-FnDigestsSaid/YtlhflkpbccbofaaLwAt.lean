/- The laws' lwAt at 2. -/
import Derived.Test.YtlhflkpbccbofaaDrawTop
import Derived.StillTailTactics
import Derived.IntWalk
namespace Go.Proofs.Ytlhflkpbccbofaa
open Go.ChangeShapes Go.WideShapes Go.ChangeAt Go.RowKit
set_option linter.unusedVariables false

/-- a number below the bound is handed back -/
def AtRes (w : World) (N : Nat) (en : Ending) (w' : World) : Prop := ∃ z : Nat, en = .returned (.int .i64 z) ∧ z < N ∧ ∃ nd, w' = w.drewN nd

set_option maxRecDepth 100000 in
set_option maxHeartbeats 3200000 in
theorem lwAt2_any (a : Option Addr) (n c : Nat) (xs : List Int) (N : Nat) (hN1 : 1 ≤ N) (hN2 : N ≤ 100000) (w : World) (h : CodeAt w a n c xs) :
    Calls Try.prog 14 #[.slice a n c, .int .i64 2, .int .i64 N] w (AtRes w N) := by
  have hsz := h.size
  have hby := h.byte
  have HR := Lib.hid h.row
  clear h
  unfold AtRes
  by_cases h1 : N ≤ 1
  · obtain rfl : N = 1 := by omega
    go_enter Try.func14, Try.ntmps14
    go_wp2
    go_ret
    exact ⟨0, rfl, by decide, 0, rfl⟩
  · have q1 : ¬ ((N : Int) ≤ 1) := by omega
    have q2 : (N : Int) ≠ 0 := by omega
    by_cases h0 : n = 0
    · subst h0
      have e1 : (14 : Int).tmod (N : Int) = ((14 % N : Nat) : Int) := by rw [Int.tmod_eq_emod_of_nonneg (by decide)]; rfl
      go_enter Try.func14, Try.ntmps14
      go_wp2
      go_ret
      exact ⟨14 % N, rfl, Nat.mod_lt _ (by omega), 0, rfl⟩
    · obtain ⟨rb, ro, rfl, hrb, hcl⟩ := HR.out.resolve_left h0
      have hn0 : (n : Int) ≠ 0 := by omega
      have hn0b : ((n : Int) == 0) = false := by rw [beq_eq_false_iff_ne]; exact hn0
      have d1 := hcl (2 % n) (Nat.mod_lt _ (by omega))
      have d2 := hcl (3 % n) (Nat.mod_lt _ (by omega))
      have i1 : 2 % n < n := Nat.mod_lt _ (by omega)
      have i2 : 3 % n < n := Nat.mod_lt _ (by omega)
      have m1 : (2 : Int).tmod (n : Int) = ((2 % n : Nat) : Int) := by rw [Int.tmod_eq_emod_of_nonneg (by decide)]; rfl
      have m2 : (3 : Int).tmod (n : Int) = ((3 % n : Nat) : Int) := by rw [Int.tmod_eq_emod_of_nonneg (by decide)]; rfl
      have hq2 : 2 / n ≤ 2 := Nat.div_le_self _ _
      have m3 : IntKind.i64.wrap ((2 : Int).tdiv (n : Int)) = ((2 / n : Nat) : Int) := by
        rw [Int.tdiv_eq_ediv_of_nonneg (by decide)]
        exact IntWalk.i64_in (((2 / n : Nat) : Nat) : Int) ⟨Int.le_trans (by decide) (Int.natCast_nonneg _), Int.le_trans (Int.ofNat_le.2 hq2) (by decide)⟩
      have y1 := hby (2 % n)
      have y2 := hby (3 % n)
      clear hby hcl
      generalize 2 % n = j1 at *
      generalize 3 % n = j2 at *
      generalize 2 / n = qn at *
      generalize xs.getD j1 0 = x1 at *
      generalize xs.getD j2 0 = x2 at *
      obtain ⟨y10, y11⟩ := y1
      obtain ⟨y20, y21⟩ := y2
      obtain ⟨X1, rfl⟩ := Int.eq_ofNat_of_zero_le y10
      obtain ⟨X2, rfl⟩ := Int.eq_ofNat_of_zero_le y20
      have v1 : IntKind.i64.wrap (X1 : Int) = (X1 : Int) := IntWalk.i64_in _ (by omega)
      have v2 : IntKind.i64.wrap (X2 : Int) = (X2 : Int) := IntWalk.i64_in _ (by omega)
      have v3 : IntKind.i64.wrap ((qn : Int) * 3) = (qn : Int) * 3 := IntWalk.i64_in _ (by omega)
      have v4 : IntKind.i64.wrap ((X1 : Int) + (qn : Int) * 3) = (X1 : Int) + (qn : Int) * 3 := IntWalk.i64_in _ (by omega)
      have j1i : (j1 : Int) < (n : Int) := by omega
      have j2i : (j2 : Int) < (n : Int) := by omega
      by_cases h2 : 200 < N
      · have q3 : (200 : Int) < (N : Int) := by omega
        have v5 : IntKind.i64.wrap (((X1 : Int) + (qn : Int) * 3) * 251) = ((X1 : Int) + (qn : Int) * 3) * 251 := IntWalk.i64_in _ (by omega)
        have v6 : IntKind.i64.wrap (((X1 : Int) + (qn : Int) * 3) * 251 + (X2 : Int)) = ((X1 : Int) + (qn : Int) * 3) * 251 + (X2 : Int) := IntWalk.i64_in _ (by omega)
        have e1 : (((X1 : Int) + (qn : Int) * 3) * 251 + (X2 : Int)).tmod (N : Int) = ((((X1 + qn * 3) * 251 + X2) % N : Nat) : Int) := by rw [Int.tmod_eq_emod_of_nonneg (by omega)]; simp
        go_enter Try.func14, Try.ntmps14
        go_wp2
        refine wp_region_still_lit (by kernel_rfl) (by kernel_rfl) ?_
        repeat still_step
        refine wpStill_nil ?_
        rw [show ({ w with drawn := w.drawn + 1 } : World) = w.drew from rfl]
        go_wp2
        go_ret
        exact ⟨((X1 + qn * 3) * 251 + X2) % N, by simp, Nat.mod_lt _ (by omega), 1, rfl⟩
      · have q3 : ¬ ((200 : Int) < (N : Int)) := by omega
        have e1 : ((X1 : Int) + (qn : Int) * 3).tmod (N : Int) = (((X1 + qn * 3) % N : Nat) : Int) := by rw [Int.tmod_eq_emod_of_nonneg (by omega)]; simp
        go_enter Try.func14, Try.ntmps14
        go_wp2
        refine wp_region_still_lit (by kernel_rfl) (by kernel_rfl) ?_
        repeat still_step
        refine wpStill_nil ?_
        rw [show ({ w with drawn := w.drawn + 1 } : World) = w.drew from rfl]
        go_wp2
        go_ret
        exact ⟨(X1 + qn * 3) % N, by simp, Nat.mod_lt _ (by omega), 1, rfl⟩
end Go.Proofs.Ytlhflkpbccbofaa
