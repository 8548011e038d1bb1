/- Contracts of the model's points. -/
import Derived.Test.YtcaknhoaoodbfaaGreatDoorGP7
import Derived.Test.YtcaknhoaoodbfaaGreatDoorGP2
import Derived.Deep.RegionWith
namespace Go.Proofs.YtcaknhoaoodbfaaGreatDoor
open Go.ChangeShapes Go.WideShapes Go.ChangeAt Go.RowKit
set_option linter.unusedVariables false
theorem ret2 {a b c d : Value} (h : a = c) (k : b = d) : Ending.returned (.tuple #[a, b]) = .returned (.tuple #[c, d]) := by rw [h, k]
theorem int_eq {k : IntKind} {a b : Int} (h : a = b) : Value.int k a = .int k b := by rw [h]
theorem l1Lead_any (c : Int) (h0 : 0 ≤ c) (h1 : c ≤ 255) (w : World) :
    Calls Tryz.prog 255 #[.int .u8 c] w fun e w' => e = .returned (.tuple #[.int .i64 (leadN c : Int), .int .i64 (leadP c)]) ∧ w' = w := by
  by_cases a1 : c < 128
  · have e1 : leadN c = 1 := by simp [leadN, a1]
    have e2 : leadP c = c := leadP_1 a1
    rw [e1, e2]
    clear e1 e2
    go_enter Tryz.func255, Tryz.ntmps255
    go_wp2
    go_ret2
    exact ⟨rfl, rfl⟩
  · by_cases a2 : 192 ≤ c ∧ c < 224
    · have e1 : leadN c = 2 := by unfold leadN; rw [if_neg a1, if_pos a2]
      have e2 : leadP c = c - 192 := leadP_2 a2
      rw [e1, e2]
      clear e1 e2
      obtain ⟨b1, b2⟩ := a2
      go_enter Tryz.func255, Tryz.ntmps255
      go_wp2
      go_ret2
      exact ⟨rfl, rfl⟩
    · by_cases a3 : 224 ≤ c ∧ c < 240
      · have e1 : leadN c = 3 := by unfold leadN; rw [if_neg a1, if_neg a2, if_pos a3]
        have e2 : leadP c = c - 224 := leadP_3 a3
        rw [e1, e2]
        clear e1 e2 a2
        obtain ⟨b1, b2⟩ := a3
        go_enter Tryz.func255, Tryz.ntmps255
        go_wp2
        go_ret2
        exact ⟨rfl, rfl⟩
      · by_cases a4 : 240 ≤ c ∧ c < 248
        · have e1 : leadN c = 4 := by unfold leadN; rw [if_neg a1, if_neg a2, if_neg a3, if_pos a4]
          have e2 : leadP c = c - 240 := leadP_4 a4
          rw [e1, e2]
          clear e1 e2 a2 a3
          obtain ⟨b1, b2⟩ := a4
          go_enter Tryz.func255, Tryz.ntmps255
          go_wp2
          go_ret2
          exact ⟨rfl, rfl⟩
        · have e1 : leadN c = 0 := by unfold leadN; rw [if_neg a1, if_neg a2, if_neg a3, if_neg a4]
          have e2 : leadP c = 0 := by unfold leadP; rw [if_neg a1, if_neg a2, if_neg a3, if_neg a4]
          rw [e1, e2]
          clear e1 e2
          by_cases b1 : c < 192
          · clear a2 a3 a4
            go_enter Tryz.func255, Tryz.ntmps255
            go_wp2
            go_ret2
            exact ⟨rfl, rfl⟩
          · have b2 : 248 ≤ c := by omega
            clear a2 a3 a4
            go_enter Tryz.func255, Tryz.ntmps255
            go_wp2
            go_ret2
            exact ⟨rfl, rfl⟩
def firstPt (l : List UInt8) : Int := if badB l then 0 else ((Lib.decodeL l).1 : Int)
def firstSz (l : List UInt8) : Nat := if badB l then 0 else (Lib.decodeL l).2
theorem leadN_cases (b : Int) : leadN b = 0 ∨ leadN b = 1 ∨ leadN b = 2 ∨ leadN b = 3 ∨ leadN b = 4 := by
  unfold leadN
  repeat' split
  all_goals simp
set_option maxHeartbeats 800000 in
theorem l1First_short (s : ByteArray) (hs : s.size ≤ maxLen) (hp : 0 < s.size) (hl : leadN (by' s.data.toList 0) = 0 ∨ s.size < leadN (by' s.data.toList 0)) (w : World) :
    Calls Tryz.prog 240 #[.string s] w fun e w' => e = .returned (.tuple #[.int .i64 0, .int .i64 0]) ∧ w' = w := by
  unfold maxLen at hs
  have hb : by' s.data.toList 0 = (s[0].toNat : Int) := by
    unfold by'
    rw [List.getD_eq_getElem?_getD, head_byte s hp]
  rw [hb] at hl
  have q0 : (0 : Int) ≤ (s[0].toNat : Int) := by omega
  have q1 : (s[0].toNat : Int) ≤ 255 := by have := s[0].toNat_lt; omega
  have hc := leadN_cases (s[0].toNat : Int)
  generalize hn : leadN (s[0].toNat : Int) = n at hl hc
  have HN := Lib.hid hn
  clear hn hb
  by_cases h0 : n = 0
  · subst h0
    clear hl hc
    go_enter Tryz.func240, Tryz.ntmps240
    go_wp2_with fail
    refine (l1Lead_any _ q0 q1 _).mono ?_
    rintro e w' ⟨rfl, rfl⟩
    rw [HN.out]
    go_wp2
    go_ret2
    exact ⟨rfl, rfl⟩
  · have hl2 : (s.size : Int) < (n : Int) := by omega
    have hb0 : ((n : Int) == 0) = false := by rw [beq_eq_false_iff_ne]; omega
    clear hl hc h0
    go_enter Tryz.func240, Tryz.ntmps240
    go_wp2_with fail
    refine (l1Lead_any _ q0 q1 _).mono ?_
    rintro e w' ⟨rfl, rfl⟩
    rw [HN.out]
    go_wp2
    go_ret2
    exact ⟨rfl, rfl⟩
theorem foldP_bound (l : List UInt8) (k : Nat) (hk : 1 ≤ k) (h4 : k ≤ 4) (h0 : 0 ≤ by' l 0) (h1 : by' l 0 ≤ 255) : 0 ≤ foldP l k ∧ foldP l k ≤ 33554431 := by
  have hp : 0 ≤ leadP (by' l 0) ∧ leadP (by' l 0) ≤ 127 := by
    unfold leadP
    repeat' split
    all_goals omega
  have a1 : 0 ≤ by' l 1 % 64 ∧ by' l 1 % 64 ≤ 63 := by omega
  have a2 : 0 ≤ by' l 2 % 64 ∧ by' l 2 % 64 ≤ 63 := by omega
  have a3 : 0 ≤ by' l 3 % 64 ∧ by' l 3 % 64 ≤ 63 := by omega
  match k, hk, h4 with
  | 1, _, _ => rw [foldP_1]; omega
  | 2, _, _ => rw [foldP_2]; omega
  | 3, _, _ => rw [foldP_3]; omega
  | 4, _, _ => rw [foldP_4]; omega
set_option maxRecDepth 100000 in
set_option maxHeartbeats 800000 in
theorem l1First_long (s : ByteArray) (hs : s.size ≤ maxLen) (hp : 0 < s.size) (h0 : leadN (by' s.data.toList 0) ≠ 0) (hl : leadN (by' s.data.toList 0) ≤ s.size) (w : World) :
    Calls Tryz.prog 240 #[.string s] w fun e w' => e = .returned (.tuple #[.int .i64 (firstPt s.data.toList), .int .i64 (firstSz s.data.toList : Int)]) ∧ Below w.heap.size w w' := by
  unfold maxLen at hs
  have hb : by' s.data.toList 0 = (s[0].toNat : Int) := by
    unfold by'
    rw [List.getD_eq_getElem?_getD, head_byte s hp]
  have q0 : (0 : Int) ≤ (s[0].toNat : Int) := by omega
  have q1 : (s[0].toNat : Int) ≤ 255 := by have := s[0].toNat_lt; omega
  have hc := leadN_cases (by' s.data.toList 0)
  have hfb := fun k a b => foldP_bound s.data.toList k a b (by rw [hb]; exact q0) (by rw [hb]; exact q1)
  have hf1 : foldP s.data.toList 1 = leadP (s[0].toNat : Int) := by rw [foldP_1, hb]
  have hne : s.data.toList ≠ [] := by
    intro h
    have := congrArg List.length h
    rw [show s.data.toList.length = s.size by simp] at this
    change s.size = 0 at this
    omega
  have hfi := first_is s.data.toList hne h0 (by simpa using hl)
  generalize hn : leadN (by' s.data.toList 0) = n at h0 hl hc hfi
  rw [hb] at hn
  have n1 : 1 ≤ n := by omega
  have n4 : n ≤ 4 := by omega
  have HN := Lib.hid hn
  have HF1 := Lib.hid hf1
  have HFI := Lib.hid hfi
  have HFB := Lib.hid hfb
  clear hn hb hc hf1 hfi hfb hne h0
  have hb0 : ((n : Int) == 0) = false := by rw [beq_eq_false_iff_ne]; omega
  have hl2 : (n : Int) ≤ (s.size : Int) := by omega
  have n4' : (n : Int) ≤ 4 := by omega
  go_enter Tryz.func240, Tryz.ntmps240
  go_wp2_with fail
  refine (l1Lead_any _ q0 q1 _).mono ?_
  rintro e w' ⟨rfl, rfl⟩
  rw [HN.out, ← HF1.out]
  go_wp2
  go_loop [5, 6] (fun p i => ∃ k : Nat, 1 ≤ k ∧ k ≤ n ∧ i = .int .i64 k ∧ p = .int .i64 (foldP s.data.toList k)) (fun _ i => n - (intOf i).toNat)
  case atStart => exact ⟨1, Nat.le_refl _, n1, rfl, rfl⟩
  case round =>
    obtain ⟨k, k1, hk, rfl, rfl⟩ := hrel
    obtain ⟨f0, f1⟩ := HFB.out k k1 (by omega)
    by_cases hlt : k < n
    · have hks : k < s.size := by omega
      have hby : foldP s.data.toList (k + 1) = foldP s.data.toList k * 64 + (s[k].toNat : Int) % 64 := by
        obtain ⟨j, rfl⟩ : ∃ j, k = j + 1 := ⟨k - 1, by omega⟩
        show foldP s.data.toList (j + 1) * 64 + by' s.data.toList (j + 1) % 64 = _
        unfold by'
        rw [List.getD_eq_getElem?_getD, List.getElem?_eq_getElem (by simpa using hks)]
        rfl
      have HB := Lib.hid hby
      have r0 : (0 : Int) ≤ (s[k].toNat : Int) := by omega
      have r1 : (s[k].toNat : Int) ≤ 255 := by have := s[k].toNat_lt; omega
      clear hby
      generalize foldP s.data.toList k = pk at f0 f1 HB
      go_wp2
      go_round
      case rel => exact ⟨k + 1, by omega, by omega, by go_num, by rw [HB.out]⟩
      case measure => simp [intOf]; omega
    · obtain rfl : k = n := by omega
      go_wp2
      generalize hpk : foldP s.data.toList k = pk at *
      have HPK := Lib.hid hpk
      clear hpk
      cases hq : pointB pk
      · have HQ := Lib.hid hq
        have HBD := Lib.hid (first_not _ _ _ HPK.out HFI.out HQ.out)
        go_quiet ((go_at_call 221; exact Calls.quiet_of_same (l1Point_any _ _)))
        go_wp2
        go_ret2
        exact ⟨ret2 (int_eq (by simp [firstPt, HBD.out])) (int_eq (by simp [firstSz, HBD.out])), below_drewN (Below.refl _ _) _⟩
      · have HQ := Lib.hid hq
        have ht := first_test s k pk HPK.out HFI.out hq
        cases hbd : badB s.data.toList
        · rw [hbd] at ht
          have HBD := Lib.hid hbd
          simp only [Bool.not_false] at ht
          have hfi2 := HFI.out.2 HBD.out
          rw [HPK.out] at hfi2
          have HFI2 := Lib.hid hfi2
          clear hbd hfi2
          go_region_with (first | (go_at_call 221; refine (l1Point_any _ _).mono ?_; rintro e w' ⟨rfl, rfl⟩) | (go_at_call 184; refine (l1Put_any _ HQ.out _).mono ?_; rintro e w2 ⟨a, m, c, rfl, ho, hbl⟩; have hcv := conv_row (P := Tryz.prog) w2 Tryz.underlying22 Tryz.underlying5 Tryz.underlying9 (Row.of_owns ho); clear ho))
          go_wp2
          go_ret2
          exact ⟨ret2 (int_eq (by simp [firstPt, HBD.out, HFI2.out.1])) (int_eq (by simp [firstSz, HBD.out, HFI2.out.2])), below_of_drew hbl⟩
        · rw [hbd] at ht
          have HBD := Lib.hid hbd
          simp only [Bool.not_true] at ht
          clear hbd
          go_region_with (first | (go_at_call 221; refine (l1Point_any _ _).mono ?_; rintro e w' ⟨rfl, rfl⟩) | (go_at_call 184; refine (l1Put_any _ HQ.out _).mono ?_; rintro e w2 ⟨a, m, c, rfl, ho, hbl⟩; have hcv := conv_row (P := Tryz.prog) w2 Tryz.underlying22 Tryz.underlying5 Tryz.underlying9 (Row.of_owns ho); clear ho))
          go_wp2
          go_ret2
          exact ⟨ret2 (int_eq (by simp [firstPt, HBD.out])) (int_eq (by simp [firstSz, HBD.out])), below_of_drew hbl⟩
theorem l1First_any (s : ByteArray) (hs : s.size ≤ maxLen) (hp : 0 < s.size) (w : World) :
    Calls Tryz.prog 240 #[.string s] w fun e w' => e = .returned (.tuple #[.int .i64 (firstPt s.data.toList), .int .i64 (firstSz s.data.toList : Int)]) ∧ Below w.heap.size w w' := by
  have hne : s.data.toList ≠ [] := by
    intro h
    have := congrArg List.length h
    rw [show s.data.toList.length = s.size by simp] at this
    change s.size = 0 at this
    omega
  by_cases h : leadN (by' s.data.toList 0) = 0 ∨ s.size < leadN (by' s.data.toList 0)
  · have hb := bad_lead s.data.toList hne (by simpa using h)
    refine (l1First_short s hs hp h w).mono fun e w' ⟨he, hw⟩ => ⟨?_, by rw [hw]; exact Below.refl _ _⟩
    rw [he]
    exact ret2 (int_eq (by simp [firstPt, hb])) (int_eq (by simp [firstSz, hb]))
  · exact l1First_long s hs hp (fun e => h (.inl e)) (by omega) w
end Go.Proofs.YtcaknhoaoodbfaaGreatDoor
