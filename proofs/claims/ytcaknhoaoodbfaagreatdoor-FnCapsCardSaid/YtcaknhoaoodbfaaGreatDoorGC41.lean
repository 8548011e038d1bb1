/- The model's l9Pad. -/
import Derived.Test.YtcaknhoaoodbfaaGreatDoorGC40
namespace Go.Proofs.YtcaknhoaoodbfaaGreatDoor
open Go.ChangeShapes Go.WideShapes Go.ChangeAt Go.RowKit
set_option linter.unusedVariables false

theorem highs8 (x : Int) (h0 : 0 ≤ x) (h1 : x ≤ 24000) : highs x 8 = [0, 0, 0, 0, 0, x / 65536, x / 256 % 256, x % 256] := by
  have e7 : x / 72057594037927936 = 0 := by omega
  have e6 : x / 281474976710656 = 0 := by omega
  have e5 : x / 1099511627776 = 0 := by omega
  have e4 : x / 4294967296 = 0 := by omega
  have e3 : x / 16777216 = 0 := by omega
  have e2 : x / 65536 % 256 = x / 65536 := by omega
  simp [highs, e7, e6, e5, e4, e3, e2]
theorem eight_u8 (W : World) (x y z x' y' z' : Int) (hx : x = x') (hy : y = y') (hz : z = z') : ∀ (j : Nat) (u : Value), ([0, 0, 0, 0, 0, x', y', z'].map (Value.int .u8))[j]? = some u → (W.alloc (.cells #[.int .u8 0, .int .u8 0, .int .u8 0, .int .u8 0, .int .u8 0, .int .u8 x, .int .u8 y, .int .u8 z] 5)).cell? (Addr.add ⟨W.heap.size, 0, none⟩ j) = some u := by
  intro j u hj
  subst hx hy hz
  match j, hj with
  | 0, hj => simp at hj; subst hj; simp [Addr.add]
  | 1, hj => simp at hj; subst hj; simp [Addr.add]
  | 2, hj => simp at hj; subst hj; simp [Addr.add]
  | 3, hj => simp at hj; subst hj; simp [Addr.add]
  | 4, hj => simp at hj; subst hj; simp [Addr.add]
  | 5, hj => simp at hj; subst hj; simp [Addr.add]
  | 6, hj => simp at hj; subst hj; simp [Addr.add]
  | 7, hj => simp at hj; subst hj; simp [Addr.add]

set_option maxRecDepth 100000 in
set_option maxHeartbeats 3200000 in
theorem l9Pad_any (a : Option Addr) (n c : Nat) (xs : List Int) (w : World) (hn : n ≤ 3000) (hnil : a = none → c = 0) (h : InRow w a n c xs) :
    Calls Tryz.prog 172 #[.slice a n c] w (OwnsRes w 5 .u8 (padL xs)) := by
  obtain ⟨i0, hi, hz0, hz1, hz2⟩ := info_parts cpInfo
  have K := Lib.hid (l1Copy_any a n c xs w (by omega) hnil h)
  have HL := Lib.hid h.len
  unfold OwnsRes at K
  unfold OwnsRes padL
  have HF := Lib.hid (And.intro (fills_le n) (fill_is n))
  have HFN := Lib.hid (fun j hj => fill_not (n := n) (j := j) hj)
  clear hnil h
  go_enter Tryz.func172, Tryz.ntmps172
  go_wp2_with fail
  refine K.out.mono ?_
  rintro e w1 ⟨a1, n1, c1, rfl, ho1, hb1⟩
  have hn1 : n1 = n := (owns_length ho1).trans HL.out
  subst hn1
  have HO1 := Lib.hid ho1
  have HB1 := Lib.hid hb1
  have hz1' := hb1.size
  clear ho1 hb1
  go_wp2_with (at_builtin; refine wpList_append_own _ rfl _ _ 22 rfl w.heap.size 5 i0 (.int .u8 0) 1 1 Tryz.underlying22 hi hz0 hz1 hz2 rfl (by decide) _ n1 _ rfl (HO1.out.alloc _) ⟨w1.heap.size, 0, none⟩ 1 1 [.int .u8 128] rfl rfl (one_u8 w1 _) (by simp [Value.oneCell']) (by unfold maxLen; omega) (by omega) (by simp; omega) ?_)
  intro v' w2 hown hgrow _
  obtain ⟨a2, c2, rfl⟩ := owns_slice hown
  have HO2 := Lib.hid hown
  have HB2 := Lib.hid (below_appended HB1.out HO1.out hgrow)
  clear hown hgrow
  go_wp2
  go_loopw [3] (fun v wr => ∃ (j : Nat) (a' : Option Addr) (m' c' : Nat), j ≤ fills n1 ∧ v = .slice a' m' c' ∧ m' = n1 + 1 + j ∧ wr.ownsRow w.heap.size 5 1 (.slice a' m' c') m' ((xs ++ [128] ++ List.replicate j 0).map (Value.int .u8)) ∧ Below w.heap.size w wr) (fun v _ => match v with | .slice _ m _ => n1 + 1 + fills n1 - m | _ => 0)
  case atStart => exact ⟨0, a2, n1 + 1, c2, Nat.zero_le _, rfl, rfl, by simpa using HO2.out, HB2.out⟩
  case round =>
    clear HO2 HB2 HB1
    obtain ⟨j, a', m', c', hj, rfl, hm', ho, hb⟩ := hrel
    have HO := Lib.hid ho
    have HB := Lib.hid hb
    have hsz := hb.size
    have hf63 := HF.out.1
    clear ho hb
    by_cases hlt : j < fills n1
    · have hne := HFN.out j hlt
      rw [← hm'] at hne
      have hne2 : ((m' : Int).tmod 64 == 56) = false := by rw [beq_eq_false_iff_ne, Int.tmod_eq_emod_of_nonneg (by omega)]; omega
      have hne3 : ((m' : Int) % 64 == 56) = false := by rw [beq_eq_false_iff_ne]; omega
      have HM := Lib.hid hm'
      have hm2 : m' ≤ 4000 := by omega
      clear hm' hne
      go_wp2_with (at_builtin; refine wpList_append_own _ rfl _ _ 22 rfl w.heap.size 5 i0 (.int .u8 0) 1 1 Tryz.underlying22 hi hz0 hz1 hz2 rfl (by decide) _ m' _ rfl (HO.out.alloc _) ⟨wr.heap.size, 0, none⟩ 1 1 [.int .u8 0] rfl rfl (one_u8 wr _) (by simp [Value.oneCell']) (by unfold maxLen; omega) (by omega) (by simp; omega) ?_)
      intro v' w3 hown hgrow _
      obtain ⟨a3, c3, rfl⟩ := owns_slice hown
      have HO3 := Lib.hid hown
      have HB3 := Lib.hid (below_appended HB.out HO.out hgrow)
      clear hown hgrow
      go_wp2
      go_roundw
      case rel => exact ⟨j + 1, a3, m' + 1, c3, by omega, rfl, by have := HM.out; omega, by rw [← rep_snoc]; simpa using HO3.out, HB3.out⟩
      case measure => have := HM.out; simp; omega
    · obtain rfl : j = fills n1 := by omega
      have heq := HF.out.2
      rw [← hm'] at heq
      have hne2 : ((m' : Int).tmod 64 == 56) = true := by rw [beq_iff_eq, Int.tmod_eq_emod_of_nonneg (by omega)]; omega
      have hne3 : ((m' : Int) % 64 == 56) = true := by rw [beq_iff_eq]; omega
      have hm2 : m' ≤ 4000 := by omega
      have HH := Lib.hid (highs8 (8 * (n1 : Int)) (by omega) (by omega))
      have HLN := Lib.hid (show (n1 : Int) = (xs.length : Int) by have := HL.out; omega)
      have HLN2 := Lib.hid (show n1 = xs.length by have := HL.out; omega)
      have k1 : 8 * (n1 : Int) / 65536 ≤ 255 := by omega
      clear hm' heq
      go_wp2_with (at_builtin; refine wpList_append_own _ rfl _ _ 22 rfl w.heap.size 5 i0 (.int .u8 0) 1 1 Tryz.underlying22 hi hz0 hz1 hz2 rfl (by decide) _ m' _ rfl (HO.out.alloc _) ⟨wr.heap.size, 0, none⟩ 8 8 ([0, 0, 0, 0, 0, 8 * (n1 : Int) / 65536, 8 * (n1 : Int) / 256 % 256, 8 * (n1 : Int) % 256].map (Value.int .u8)) rfl rfl (eight_u8 wr _ _ _ _ _ _ ?c1 ?c2 ?c3) (by simp [Value.oneCell']) (by unfold maxLen; omega) (by omega) (by simp; omega) ?_)
      case c1 => rfl
      case c2 => omega
      case c3 => rfl
      intro v' w3 hown hgrow _
      obtain ⟨a3, c3, rfl⟩ := owns_slice hown
      have HO3 := Lib.hid hown
      have HB3 := Lib.hid (below_appended HB.out HO.out hgrow)
      clear hown hgrow
      go_wp2
      go_ret
      refine ⟨a3, m' + 8, c3, rfl, ?_, HB3.out⟩
      have := HO3.out
      rw [← HLN.out, ← HLN2.out, HH.out]
      simpa using this
end Go.Proofs.YtcaknhoaoodbfaaGreatDoor
