/- The program's heap of texts: firstOf. -/
import Derived.Test.YtcaknhoaoodbfaaGreatDoorGC14
import Derived.BigQuiet
import Derived.IntWalk
namespace Go.Proofs.YtcaknhoaoodbfaaGreatDoor
open Go.ChangeShapes Go.WideShapes Go.ChangeAt Go.RowKit
set_option linter.unusedVariables false

/-- the first of three places -/
def FirstAt (L : List ByteArray) (p m : Nat) : Prop := (m = p ∨ m = 2 * p + 1 ∨ m = 2 * p + 2) ∧ m < L.length ∧ ∀ j, (j = p ∨ j = 2 * p + 1 ∨ j = 2 * p + 2) → j < L.length → leT (ix L m) (ix L j)
def FirstRes (w : World) (L : List ByteArray) (p : Nat) (e : Ending) (w' : World) : Prop := ∃ m : Nat, e = .returned (.int .i64 m) ∧ Hid (FirstAt L p m) ∧ ∃ k, w' = w.drewN k
theorem first_start (L : List ByteArray) (p n : Nat) : ∀ j, (j = p ∨ (2 * p + 1 ≤ j ∧ j < 2 * p + 1 + 0)) → j < n → leT (ix L p) (ix L j) := by
  intro j hj _
  rcases hj with rfl | hj
  · exact leT_refl _
  · omega
set_option maxRecDepth 100000 in
set_option maxHeartbeats 6400000 in
theorem firstOf_any (hb g n c : Nat) (L : List ByteArray) (p : Nat) (w : World) (hn : L.length = n) (hc : n ≤ 1000) (hp : p < n) (hH : HeapC w hb (.slice (some ⟨g, 0, none⟩) n c)) (hR : RowC w g L) :
    Calls Tryz.prog 209 #[.pointer (some ⟨hb, 0, none⟩), .int .i64 p] w (FirstRes w L p) := by
  have c0 := hH.c0
  have c1 := hH.c1
  have HR := Lib.hid hR
  have HN := Lib.hid hn
  have hg := hR.lt
  clear hH hR hn
  unfold FirstRes
  go_enter Tryz.func209, Tryz.ntmps209
  go_wp2
  go_loopw [5, 6] (fun f b wr => ∃ (m k : Nat), f = .int .i64 m ∧ b = .int .i64 ((2 * p + 1 + k : Nat) : Int) ∧ k ≤ 2 ∧ (m = p ∨ m = 2 * p + 1 ∨ m = 2 * p + 2) ∧ m < n ∧ Hid (∀ j, (j = p ∨ (2 * p + 1 ≤ j ∧ j < 2 * p + 1 + k)) → j < n → leT (ix L m) (ix L j)) ∧ ∃ q, wr = w.drewN q) (fun _ b _ => 2 * p + 3 - (intOf b).toNat)
  case atStart => exact ⟨p, 0, rfl, by go_num, by omega, .inl rfl, hp, Lib.hid (first_start L p n), 0, rfl⟩
  case round =>
    obtain ⟨m, k, rfl, rfl, hk, hm, hmn, HLE, nq, rfl⟩ := hrel
    by_cases hk2 : k < 2
    · by_cases hbn : 2 * p + 1 + k < n
      · have d1 := HR.out.cell (2 * p + 1 + k) (by have := HN.out; omega)
        have d2 := HR.out.cell m (by have := HN.out; omega)
        obtain ⟨bq, hbq⟩ : ∃ bq, 2 * p + 1 + k = bq := ⟨_, rfl⟩
        rw [hbq] at d1 ⊢
        generalize hs : ix L bq = s at d1
        generalize ht : ix L m = t at d2
        have HS := Lib.hid hs
        have HT := Lib.hid ht
        have HBQ := Lib.hid hbq
        have q1 : (bq : Int) ≤ 2 * (p : Int) + 2 := by omega
        have q2 : (bq : Int) < (n : Int) := by omega
        have q3 : (m : Int) < (n : Int) := by omega
        have K := Lib.hid (fun W => isAhead_any s t W)
        cases hl : Op.bytesLess s.toList t.toList
        · rw [hl] at K
          have HN2 : Hid (∀ j, (j = p ∨ (2 * p + 1 ≤ j ∧ j < 2 * p + 1 + (k + 1))) → j < n → leT (ix L m) (ix L j)) := Lib.hid (fun j hj hjn => by
            by_cases e : j = 2 * p + 1 + k
            · rw [e, HBQ.out, HS.out, HT.out]; exact hl
            · exact HLE.out j (by omega) hjn)
          clear hs ht hbq
          go_wp2_with fail
          go_quiet ((refine (K.out _).mono ?_; rintro _ _ ⟨he, hw⟩; exact ⟨he, _, hw⟩))
          go_wp2
          go_roundw
          case rel => exact ⟨m, k + 1, rfl, by have := HBQ.out; first | (congr 1; omega) | (go_num), by omega, hm, hmn, HN2.out, _, rfl⟩
          case measure => simp [intOf]; have := HBQ.out; omega
        · rw [hl] at K
          have HN2 : Hid (∀ j, (j = p ∨ (2 * p + 1 ≤ j ∧ j < 2 * p + 1 + (k + 1))) → j < n → leT (ix L bq) (ix L j)) := Lib.hid (fun j hj hjn => by
            have hlt : leT (ix L bq) (ix L m) := by rw [HS.out, HT.out]; exact leT_of_less hl
            by_cases e : j = 2 * p + 1 + k
            · rw [e, HBQ.out]; exact leT_refl _
            · exact leT_trans hlt (HLE.out j (by omega) hjn))
          clear hs ht hbq
          go_wp2_with fail
          go_quiet ((refine (K.out _).mono ?_; rintro _ _ ⟨he, hw⟩; exact ⟨he, _, hw⟩))
          go_wp2
          go_roundw
          case rel => exact ⟨bq, k + 1, rfl, by have := HBQ.out; first | (congr 1; omega) | (go_num), by omega, by have := HBQ.out; omega, by have := HBQ.out; omega, HN2.out, _, rfl⟩
          case measure => simp [intOf]; have := HBQ.out; omega
      · obtain ⟨bq, hbq⟩ : ∃ bq, 2 * p + 1 + k = bq := ⟨_, rfl⟩
        rw [hbq]
        have HF : Hid (FirstAt L p m) := Lib.hid ⟨hm, by have := HN.out; omega, fun j hj hjn => HLE.out j (by have := HN.out; omega) (by have := HN.out; omega)⟩
        have q1 : (bq : Int) ≤ 2 * (p : Int) + 2 := by omega
        have q2 : ¬ (bq : Int) < (n : Int) := by omega
        clear hbq
        go_wp2
        go_ret
        exact ⟨m, rfl, HF.out, _, rfl⟩
    · obtain rfl : k = 2 := by omega
      obtain ⟨bq, hbq⟩ : ∃ bq, 2 * p + 1 + 2 = bq := ⟨_, rfl⟩
      rw [hbq]
      have HF : Hid (FirstAt L p m) := Lib.hid ⟨hm, by have := HN.out; omega, fun j hj hjn => HLE.out j (by have := HN.out; omega) (by have := HN.out; omega)⟩
      have q1 : ¬ (bq : Int) ≤ 2 * (p : Int) + 2 := by omega
      clear hbq
      go_wp2
      go_ret
      exact ⟨m, rfl, HF.out, _, rfl⟩
end Go.Proofs.YtcaknhoaoodbfaaGreatDoor
