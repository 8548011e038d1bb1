/- Texts laid together, part 1. -/
import Derived.Test.YtbfjhjkllaceaaaGreatDoorGA0
import Derived.Deep.RegionWith
import Derived.IntWalk
import Derived.Deep.RegionLaw
import Derived.Deep.RegionHeld3
import Derived.Maps.AppendAt

/- Contracts of the model's points. -/
namespace Go.Proofs.YtbfjhjkllaceaaaGreatDoor
open Go.ChangeShapes Go.WideShapes Go.ChangeAt Go.RowKit
set_option linter.unusedVariables false

theorem ret2 {a b c d : Value} (h : a = c) (k : b = d) : Ending.returned (.tuple #[a, b]) = .returned (.tuple #[c, d]) := by rw [h, k]
theorem int_eq {k : IntKind} {a b : Int} (h : a = b) : Value.int k a = .int k b := by rw [h]

theorem l1Lead_any (c : Int) (h0 : 0 ≤ c) (h1 : c ≤ 255) (w : World) :
    Calls Tryz.prog 119 #[.int .u8 c] w fun e w' => e = .returned (.tuple #[.int .i64 (leadN c : Int), .int .i64 (leadP c)]) ∧ w' = w := by
  by_cases a1 : c < 128
  · have e1 : leadN c = 1 := by simp [leadN, a1]
    have e2 : leadP c = c := leadP_1 a1
    rw [e1, e2]
    clear e1 e2
    go_enter Tryz.func119, Tryz.ntmps119
    go_wp2
    go_ret2
    exact ⟨rfl, rfl⟩
  · by_cases a2 : 192 ≤ c ∧ c < 224
    · have e1 : leadN c = 2 := by unfold leadN; rw [if_neg a1, if_pos a2]
      have e2 : leadP c = c - 192 := leadP_2 a2
      rw [e1, e2]
      clear e1 e2
      obtain ⟨b1, b2⟩ := a2
      go_enter Tryz.func119, Tryz.ntmps119
      go_wp2
      go_ret2
      exact ⟨rfl, rfl⟩
    · by_cases a3 : 224 ≤ c ∧ c < 240
      · have e1 : leadN c = 3 := by unfold leadN; rw [if_neg a1, if_neg a2, if_pos a3]
        have e2 : leadP c = c - 224 := leadP_3 a3
        rw [e1, e2]
        clear e1 e2 a2
        obtain ⟨b1, b2⟩ := a3
        go_enter Tryz.func119, Tryz.ntmps119
        go_wp2
        go_ret2
        exact ⟨rfl, rfl⟩
      · by_cases a4 : 240 ≤ c ∧ c < 248
        · have e1 : leadN c = 4 := by unfold leadN; rw [if_neg a1, if_neg a2, if_neg a3, if_pos a4]
          have e2 : leadP c = c - 240 := leadP_4 a4
          rw [e1, e2]
          clear e1 e2 a2 a3
          obtain ⟨b1, b2⟩ := a4
          go_enter Tryz.func119, Tryz.ntmps119
          go_wp2
          go_ret2
          exact ⟨rfl, rfl⟩
        · have e1 : leadN c = 0 := by unfold leadN; rw [if_neg a1, if_neg a2, if_neg a3, if_neg a4]
          have e2 : leadP c = 0 := by unfold leadP; rw [if_neg a1, if_neg a2, if_neg a3, if_neg a4]
          rw [e1, e2]
          clear e1 e2
          by_cases b1 : c < 192
          · clear a2 a3 a4
            go_enter Tryz.func119, Tryz.ntmps119
            go_wp2
            go_ret2
            exact ⟨rfl, rfl⟩
          · have b2 : 248 ≤ c := by omega
            clear a2 a3 a4
            go_enter Tryz.func119, Tryz.ntmps119
            go_wp2
            go_ret2
            exact ⟨rfl, rfl⟩

/-- what the model's first point tells: the point and its size; or two noughts -/
def firstPt (l : List UInt8) : Int := if badB l then 0 else ((Lib.decodeL l).1 : Int)
def firstSz (l : List UInt8) : Nat := if badB l then 0 else (Lib.decodeL l).2

theorem leadN_cases (b : Int) : leadN b = 0 ∨ leadN b = 1 ∨ leadN b = 2 ∨ leadN b = 3 ∨ leadN b = 4 := by
  unfold leadN
  repeat' split
  all_goals simp

set_option maxHeartbeats 800000 in
theorem l1First_short (s : ByteArray) (hs : s.size ≤ maxLen) (hp : 0 < s.size) (hl : leadN (by' s.data.toList 0) = 0 ∨ s.size < leadN (by' s.data.toList 0)) (w : World) :
    Calls Tryz.prog 114 #[.string s] w fun e w' => e = .returned (.tuple #[.int .i64 0, .int .i64 0]) ∧ w' = w := by
  unfold maxLen at hs
  have hb : by' s.data.toList 0 = (s[0].toNat : Int) := by
    unfold by'
    rw [List.getD_eq_getElem?_getD, head_byte s hp]
  rw [hb] at hl
  have q0 : (0 : Int) ≤ (s[0].toNat : Int) := by omega
  have q1 : (s[0].toNat : Int) ≤ 255 := by have := s[0].toNat_lt; omega
  have hc := leadN_cases (s[0].toNat : Int)
  generalize hn : leadN (s[0].toNat : Int) = n at hl hc
  have HN := Lib.hid hn
  clear hn hb
  by_cases h0 : n = 0
  · subst h0
    clear hl hc
    go_enter Tryz.func114, Tryz.ntmps114
    go_wp2_with fail
    refine (l1Lead_any _ q0 q1 _).mono ?_
    rintro e w' ⟨rfl, rfl⟩
    rw [HN.out]
    go_wp2
    go_ret2
    exact ⟨rfl, rfl⟩
  · have hl2 : (s.size : Int) < (n : Int) := by omega
    have hb0 : ((n : Int) == 0) = false := by rw [beq_eq_false_iff_ne]; omega
    clear hl hc h0
    go_enter Tryz.func114, Tryz.ntmps114
    go_wp2_with fail
    refine (l1Lead_any _ q0 q1 _).mono ?_
    rintro e w' ⟨rfl, rfl⟩
    rw [HN.out]
    go_wp2
    go_ret2
    exact ⟨rfl, rfl⟩

theorem foldP_bound (l : List UInt8) (k : Nat) (hk : 1 ≤ k) (h4 : k ≤ 4) (h0 : 0 ≤ by' l 0) (h1 : by' l 0 ≤ 255) : 0 ≤ foldP l k ∧ foldP l k ≤ 33554431 := by
  have hp : 0 ≤ leadP (by' l 0) ∧ leadP (by' l 0) ≤ 127 := by
    unfold leadP
    repeat' split
    all_goals omega
  have a1 : 0 ≤ by' l 1 % 64 ∧ by' l 1 % 64 ≤ 63 := by omega
  have a2 : 0 ≤ by' l 2 % 64 ∧ by' l 2 % 64 ≤ 63 := by omega
  have a3 : 0 ≤ by' l 3 % 64 ∧ by' l 3 % 64 ≤ 63 := by omega
  match k, hk, h4 with
  | 1, _, _ => rw [foldP_1]; omega
  | 2, _, _ => rw [foldP_2]; omega
  | 3, _, _ => rw [foldP_3]; omega
  | 4, _, _ => rw [foldP_4]; omega

set_option maxRecDepth 100000 in
set_option maxHeartbeats 800000 in
theorem l1First_long (s : ByteArray) (hs : s.size ≤ maxLen) (hp : 0 < s.size) (h0 : leadN (by' s.data.toList 0) ≠ 0) (hl : leadN (by' s.data.toList 0) ≤ s.size) (w : World) :
    Calls Tryz.prog 114 #[.string s] w fun e w' => e = .returned (.tuple #[.int .i64 (firstPt s.data.toList), .int .i64 (firstSz s.data.toList : Int)]) ∧ Below w.heap.size w w' := by
  unfold maxLen at hs
  have hb : by' s.data.toList 0 = (s[0].toNat : Int) := by
    unfold by'
    rw [List.getD_eq_getElem?_getD, head_byte s hp]
  have q0 : (0 : Int) ≤ (s[0].toNat : Int) := by omega
  have q1 : (s[0].toNat : Int) ≤ 255 := by have := s[0].toNat_lt; omega
  have hc := leadN_cases (by' s.data.toList 0)
  have hfb := fun k a b => foldP_bound s.data.toList k a b (by rw [hb]; exact q0) (by rw [hb]; exact q1)
  have hf1 : foldP s.data.toList 1 = leadP (s[0].toNat : Int) := by rw [foldP_1, hb]
  have hne : s.data.toList ≠ [] := by
    intro h
    have := congrArg List.length h
    rw [show s.data.toList.length = s.size by simp] at this
    change s.size = 0 at this
    omega
  have hfi := first_is s.data.toList hne h0 (by simpa using hl)
  generalize hn : leadN (by' s.data.toList 0) = n at h0 hl hc hfi
  rw [hb] at hn
  have n1 : 1 ≤ n := by omega
  have n4 : n ≤ 4 := by omega
  have HN := Lib.hid hn
  have HF1 := Lib.hid hf1
  have HFI := Lib.hid hfi
  have HFB := Lib.hid hfb
  clear hn hb hc hf1 hfi hfb hne h0
  have hb0 : ((n : Int) == 0) = false := by rw [beq_eq_false_iff_ne]; omega
  have hl2 : (n : Int) ≤ (s.size : Int) := by omega
  have n4' : (n : Int) ≤ 4 := by omega
  go_enter Tryz.func114, Tryz.ntmps114
  go_wp2_with fail
  refine (l1Lead_any _ q0 q1 _).mono ?_
  rintro e w' ⟨rfl, rfl⟩
  rw [HN.out, ← HF1.out]
  go_wp2
  go_loop [5, 6] (fun p i => ∃ k : Nat, 1 ≤ k ∧ k ≤ n ∧ i = .int .i64 k ∧ p = .int .i64 (foldP s.data.toList k)) (fun _ i => n - (intOf i).toNat)
  case atStart => exact ⟨1, Nat.le_refl _, n1, rfl, rfl⟩
  case round =>
    obtain ⟨k, k1, hk, rfl, rfl⟩ := hrel
    obtain ⟨f0, f1⟩ := HFB.out k k1 (by omega)
    by_cases hlt : k < n
    · have hks : k < s.size := by omega
      have hby : foldP s.data.toList (k + 1) = foldP s.data.toList k * 64 + (s[k].toNat : Int) % 64 := by
        obtain ⟨j, rfl⟩ : ∃ j, k = j + 1 := ⟨k - 1, by omega⟩
        show foldP s.data.toList (j + 1) * 64 + by' s.data.toList (j + 1) % 64 = _
        unfold by'
        rw [List.getD_eq_getElem?_getD, List.getElem?_eq_getElem (by simpa using hks)]
        rfl
      have HB := Lib.hid hby
      have r0 : (0 : Int) ≤ (s[k].toNat : Int) := by omega
      have r1 : (s[k].toNat : Int) ≤ 255 := by have := s[k].toNat_lt; omega
      clear hby
      generalize foldP s.data.toList k = pk at f0 f1 HB
      go_wp2
      go_round
      case rel => exact ⟨k + 1, by omega, by omega, by go_num, by rw [HB.out]⟩
      case measure => simp [intOf]; omega
    · obtain rfl : k = n := by omega
      go_wp2
      generalize hpk : foldP s.data.toList k = pk at *
      have HPK := Lib.hid hpk
      clear hpk
      cases hq : pointB pk
      · have HQ := Lib.hid hq
        have HBD := Lib.hid (first_not _ _ _ HPK.out HFI.out HQ.out)
        go_quiet ((go_at_call 97; exact Calls.quiet_of_same (l1Point_any _ _)))
        go_wp2
        go_ret2
        exact ⟨ret2 (int_eq (by simp [firstPt, HBD.out])) (int_eq (by simp [firstSz, HBD.out])), below_drewN (Below.refl _ _) _⟩
      · have HQ := Lib.hid hq
        have ht := first_test s k pk HPK.out HFI.out hq
        cases hbd : badB s.data.toList
        · rw [hbd] at ht
          have HBD := Lib.hid hbd
          simp only [Bool.not_false] at ht
          have hfi2 := HFI.out.2 HBD.out
          rw [HPK.out] at hfi2
          have HFI2 := Lib.hid hfi2
          clear hbd hfi2
          go_region_with (first | (go_at_call 97; refine (l1Point_any _ _).mono ?_; rintro e w' ⟨rfl, rfl⟩) | (go_at_call 84; refine (l1Put_any _ HQ.out _).mono ?_; rintro e w2 ⟨a, m, c, rfl, ho, hbl⟩; have hcv := conv_row (P := Tryz.prog) w2 Tryz.underlying22 Tryz.underlying5 Tryz.underlying9 (Row.of_owns ho); clear ho))
          go_wp2
          go_ret2
          exact ⟨ret2 (int_eq (by simp [firstPt, HBD.out, HFI2.out.1])) (int_eq (by simp [firstSz, HBD.out, HFI2.out.2])), below_of_drew hbl⟩
        · rw [hbd] at ht
          have HBD := Lib.hid hbd
          simp only [Bool.not_true] at ht
          clear hbd
          go_region_with (first | (go_at_call 97; refine (l1Point_any _ _).mono ?_; rintro e w' ⟨rfl, rfl⟩) | (go_at_call 84; refine (l1Put_any _ HQ.out _).mono ?_; rintro e w2 ⟨a, m, c, rfl, ho, hbl⟩; have hcv := conv_row (P := Tryz.prog) w2 Tryz.underlying22 Tryz.underlying5 Tryz.underlying9 (Row.of_owns ho); clear ho))
          go_wp2
          go_ret2
          exact ⟨ret2 (int_eq (by simp [firstPt, HBD.out])) (int_eq (by simp [firstSz, HBD.out])), below_of_drew hbl⟩

/-- the model's first point of a text that is not empty -/
theorem l1First_any (s : ByteArray) (hs : s.size ≤ maxLen) (hp : 0 < s.size) (w : World) :
    Calls Tryz.prog 114 #[.string s] w fun e w' => e = .returned (.tuple #[.int .i64 (firstPt s.data.toList), .int .i64 (firstSz s.data.toList : Int)]) ∧ Below w.heap.size w w' := by
  have hne : s.data.toList ≠ [] := by
    intro h
    have := congrArg List.length h
    rw [show s.data.toList.length = s.size by simp] at this
    change s.size = 0 at this
    omega
  by_cases h : leadN (by' s.data.toList 0) = 0 ∨ s.size < leadN (by' s.data.toList 0)
  · have hb := bad_lead s.data.toList hne (by simpa using h)
    refine (l1First_short s hs hp h w).mono fun e w' ⟨he, hw⟩ => ⟨?_, by rw [hw]; exact Below.refl _ _⟩
    rw [he]
    exact ret2 (int_eq (by simp [firstPt, hb])) (int_eq (by simp [firstSz, hb]))
  · exact l1First_long s hs hp (fun e => h (.inl e)) (by omega) w
end Go.Proofs.YtbfjhjkllaceaaaGreatDoor

/- Contract of the model's l2Read. -/
namespace Go.Proofs.YtbfjhjkllaceaaaGreatDoor
open Go.ChangeShapes Go.WideShapes Go.ChangeAt Go.RowKit
set_option linter.unusedVariables false

theorem nums_test (xs ys : List Int) (hx : ∀ x ∈ xs, 0 ≤ x ∧ x < 256) (hy : ∀ x ∈ ys, 0 ≤ x ∧ x < 256) : ((strOfNums xs).toList == (strOfNums ys).toList) = decide (xs = ys) := by
  rw [ByteArray.toList_eq, ByteArray.toList_eq, strOfNums_data, strOfNums_data, Bool.eq_iff_iff, beq_iff_eq, decide_eq_true_iff]
  constructor
  · intro h
    have h2 := (ofNums_inj xs _ hx).1 h
    rw [(ofNums_inj ys _ hy).1 rfl, h2]
  · intro h; rw [h]
theorem getD_bytes {xs : List Int} (h : ∀ i, 0 ≤ xs.getD i 0 ∧ xs.getD i 0 ≤ 255) : ∀ x ∈ xs, 0 ≤ x ∧ x < 256 := by
  intro x hx
  obtain ⟨i, hi, rfl⟩ := List.mem_iff_getElem.1 hx
  have := h i
  rw [List.getD_eq_getElem?_getD, List.getElem?_eq_getElem hi] at this
  simp at this
  omega
theorem vval_drop (l : List Int) (q : Nat) (h : q < l.length) : vval (l.drop q) = l.getD q 0 % 128 + 128 * vval (l.drop (q + 1)) := by
  rw [List.drop_eq_getElem_cons h, List.getD_eq_getElem?_getD, List.getElem?_eq_getElem h]; rfl
theorem vval_drop_le (l : List Int) (q : Nat) (h : l.length ≤ 9) (hq : 1 ≤ q) : 0 ≤ vval (l.drop q) ∧ vval (l.drop q) ≤ 72057594037927935 := by
  refine ⟨vval_nonneg _, ?_⟩
  have h2 := vval_lt (l.drop q)
  have h4 : (128 : Nat) ^ (l.drop q).length ≤ 128 ^ 8 := Nat.pow_le_pow_right (by decide) (by simp; omega)
  have h5 : (128 : Nat) ^ 8 = 72057594037927936 := by decide
  have h6 : (128 : Int) ^ (l.drop q).length = ((128 ^ (l.drop q).length : Nat) : Int) := by simp
  omega

/-- what l2Read answers -/
def ReadRes (xs : List Int) (w : World) (e : Ending) (w' : World) : Prop :=
  e = .returned (.tuple #[.int .i64 (vreadN xs), .int .i64 (vreadK xs)]) ∧ Below w.heap.size w w'
theorem read_none {xs : List Int} (h : vreadOk xs = false) : vreadN xs = 0 ∧ vreadK xs = 0 := by unfold vreadN vreadK; simp [h]
theorem read_some {xs : List Int} {j : Nat} (hj : lead xs = j) (h : vreadOk xs = true) : vreadN xs = vval (xs.take (j + 1)) ∧ vreadK xs = j + 1 := by unfold vreadN vreadK; simp [h, hj]
theorem vread_short {xs : List Int} (h : xs.length = 0) : vreadOk xs = false := by unfold vreadOk; simp; omega

theorem l2Read_nil (w : World) : Calls Tryz.prog 73 #[.slice none 0 0] w (ReadRes [] w) := by
  go_enter Tryz.func73, Tryz.ntmps73
  go_wp2
  go_loop [4] (fun k => k = .int .i64 0) (fun _ => 0)
  case atStart => rfl
  case round =>
    obtain rfl := hrel
    go_wp2
    go_ret2
    exact ⟨rfl, Below.refl _ _⟩

set_option maxRecDepth 100000 in
set_option maxHeartbeats 3200000 in
theorem l2Read_at (b o c n : Nat) (xs : List Int) (w : World) (hn : n = xs.length) (hc : n ≤ c) (hm : c ≤ maxLen) (hlt : b < w.heap.size) (hx : ∀ i, i < n → w.cell? ⟨b, o + i, none⟩ = some (.int .u8 (xs.getD i 0)))
    (hby : ∀ i, 0 ≤ xs.getD i 0 ∧ xs.getD i 0 ≤ 255) :
    Calls Tryz.prog 73 #[.slice (some ⟨b, o, none⟩) n c] w (ReadRes xs w) := by
  have HX := Lib.hid hx
  have HY := Lib.hid hby
  have HN := Lib.hid hn
  clear hx hby hn
  unfold maxLen at hm
  go_enter Tryz.func73, Tryz.ntmps73
  go_wp2
  go_loop [4] (fun k => ∃ j : Nat, j ≤ n ∧ j ≤ 9 ∧ k = .int .i64 j ∧ Hid (∀ i, i < j → 128 ≤ xs.getD i 0)) (fun k => n - (intOf k).toNat)
  case atStart => exact ⟨0, Nat.zero_le _, by omega, rfl, Lib.hid (fun i hi => by omega)⟩
  case round =>
    obtain ⟨j, hj, h9, rfl, H128⟩ := hrel
    by_cases hjn : j < n
    · have hcj := HX.out j hjn
      have hbj := HY.out j
      by_cases hj9 : j < 9
      · by_cases hz : 128 ≤ xs.getD j 0
        · have H128' : Hid (∀ i, i < j + 1 → 128 ≤ xs.getD i 0) := Lib.hid (fun i hi => by
            by_cases h : i < j
            · exact H128.out i h
            · obtain rfl : i = j := by omega
              exact hz)
          generalize xs.getD j 0 = x at hcj hbj hz
          go_wp2
          go_round
          case rel => exact ⟨j + 1, by omega, by omega, by go_num, H128'⟩
          case measure => simp [intOf]; omega
        · have hz0 : xs.getD j 0 < 128 := by omega
          have hlead := lead_is xs j H128.out (by have := HN.out; omega) h9 (fun _ _ => hz0)
          have htl : (xs.take (j + 1)).length = j + 1 := by have := HN.out; simp; omega
          have HT := Lib.hid htl
          have htg : ∀ i, i < j + 1 → (xs.take (j + 1)).getD i 0 = xs.getD i 0 := fun i hi => by
            simp only [List.getD_eq_getElem?_getD, List.getElem?_take, hi, if_true]
          have HTG := Lib.hid htg
          have htb : ∀ i, 0 ≤ (xs.take (j + 1)).getD i 0 ∧ (xs.take (j + 1)).getD i 0 ≤ 255 := fun i => by
            by_cases hi : i < j + 1
            · rw [htg i hi]; exact HY.out i
            · rw [List.getD_eq_getElem?_getD, List.getElem?_eq_none (by rw [htl]; omega)]; simp
          have hput := vread_put xs (fun i _ => HY.out i) j (by have := HN.out; omega) H128.out hz0
          have htest := nums_test (vput (vval (xs.take (j + 1))).toNat) (xs.take (j + 1)) (fun x hx => by have := vput_bytes _ _ (Nat.le_refl _) x hx; omega) (getD_bytes htb)
          have hle9 := vval_le9 (xs.take (j + 1)) (by omega)
          have hge0 := vval_nonneg (xs.take (j + 1))
          have hall : vval ((xs.take (j + 1)).drop (j + 1)) = 0 := by rw [List.drop_of_length_le (by omega)]; rfl
          have hdl := fun q => vval_drop_le (xs.take (j + 1)) q (by omega)
          have hds := fun q (h : q < j + 1) => vval_drop (xs.take (j + 1)) q (by omega)
          have HLD := Lib.hid hlead
          have HP := Lib.hid hput
          have HB := Lib.hid hle9
          have HA := Lib.hid hall
          have HDL := Lib.hid hdl
          have HDS := Lib.hid hds
          have HZ := Lib.hid hz0
          have HRow : Hid (Row w .u8 (.slice (some ⟨b, o, none⟩) (j + 1) c) (xs.take (j + 1))) := Lib.hid (.inr ⟨b, o, c, by rw [htl], by rw [htl]; omega, by unfold maxLen; omega, hlt, fun i hi => by
            rw [htl] at hi
            rw [htg i hi]
            exact HX.out i (by omega)⟩)
          clear hlead htl htg htb hput hle9 hall hdl hds
          have hzz := hz
          clear hz hz0
          generalize hTT : xs.take (j + 1) = T at *
          have HTT := Lib.hid hTT
          clear hTT
          generalize hxj : xs.getD j 0 = x at hcj hbj hzz
          have HXJ := Lib.hid hxj
          clear hxj
          go_wp2
          go_loop [5, 6] (fun m i => ∃ q : Nat, q ≤ j + 1 ∧ ((∃ r : Nat, q = r + 1 ∧ i = .int .i64 r) ∨ (q = 0 ∧ i = .int .i64 (-1))) ∧ m = .int .i64 (vval (T.drop q))) (fun _ i => (intOf i + 1).toNat)
          case atStart => exact ⟨j + 1, Nat.le_refl _, .inl ⟨j, rfl, rfl⟩, by rw [HA.out]⟩
          case round =>
            obtain ⟨q, hq, hi, rfl⟩ := hrel
            rcases hi with ⟨r, rfl, rfl⟩ | ⟨rfl, rfl⟩
            · have hrj : r ≤ j := by omega
              have hcr := HX.out r (by omega)
              have hyr := HY.out r
              have hd1 := HDL.out (r + 1) (by omega)
              have hds := HDS.out r (by omega)
              rw [HTG.out r (by omega)] at hds
              generalize xs.getD r 0 = y at hcr hyr hds
              generalize vval (T.drop (r + 1)) = m at hd1 hds
              have HDS2 := Lib.hid hds
              clear hds
              go_wp2
              go_round
              case rel =>
                refine ⟨r, by omega, ?_, by rw [HDS2.out]; exact vint (by omega)⟩
                cases r with
                | zero => exact .inr ⟨rfl, vint (by omega)⟩
                | succ r' => exact .inl ⟨r', rfl, vint (by omega)⟩
              case measure => simp [intOf]
            · simp only [List.drop_zero]
              obtain ⟨N, hN⟩ : ∃ N : Nat, vval T = N := ⟨(vval T).toNat, by omega⟩
              have hN9 : N ≤ 9223372036854775807 := by have := HB.out; omega
              rw [hN] at htest hge0 ⊢
              rw [Int.toNat_natCast] at htest
              have HP2 := Lib.hid HP.out
              rw [hN, Int.toNat_natCast] at HP2
              have HNN := Lib.hid hN
              have KP := Lib.hid (l2Put_any N hN9)
              have hcv0 := conv_row (P := Tryz.prog) w.drew Tryz.underlying22 Tryz.underlying5 Tryz.underlying9 (HRow.out.drewN 1)
              clear hN hN9 hcj
              by_cases hq : j = 0 ∨ xs.getD j 0 ≠ 0
              · have hd : decide (vput N = T) = true := by rw [decide_eq_true_iff]; exact HP2.out.2 hq
                rw [hd] at htest
                have HOK : Hid (vreadOk xs = true) := Lib.hid (by unfold vreadOk; rw [decide_eq_true_iff, HLD.out]; exact ⟨by have := HN.out; omega, hj9, hq⟩)
                clear hd hq
                have hjc : (j : Int) + 1 ≤ (c : Int) := by omega
                go_wp2
                have k1 : IntKind.i64.wrap ((j : Int) + 1) = (j : Int) + 1 := IntWalk.i64_in _ (by omega)
                have k2 : 0 ≤ (j : Int) + 1 := by omega
                have k3 : ((j : Int) + 1).toNat = j + 1 := by omega
                go_region_with (go_at_call 53; refine (KP.out _).mono ?_; rintro e w2 ⟨a2, n2, c2, rfl, ho, hbl⟩; have hcv := conv_row (P := Tryz.prog) w2 Tryz.underlying22 Tryz.underlying5 Tryz.underlying9 (Row.of_owns ho); have hcv2 := conv_row (P := Tryz.prog) w2 Tryz.underlying22 Tryz.underlying5 Tryz.underlying9 (HRow.out.below (below_of_drew hbl)); clear ho)
                all_goals
                  clear k1 k2 k3
                  go_wp2
                  go_ret2
                  obtain ⟨e1, e2⟩ := read_some HLD.out HOK.out
                  rw [HTT.out, HNN.out] at e1
                  exact ⟨ret2 (int_eq (by rw [e1])) (int_eq (by rw [e2]; omega)), below_of_drew hbl⟩
              · have hd : decide (vput N = T) = false := by rw [decide_eq_false_iff_not]; exact fun h => hq (HP2.out.1 h)
                rw [hd] at htest
                have HOK : Hid (vreadOk xs = false) := Lib.hid (by unfold vreadOk; rw [decide_eq_false_iff_not, HLD.out]; exact fun h => hq h.2.2)
                clear hd hq
                have hjc : (j : Int) + 1 ≤ (c : Int) := by omega
                go_wp2
                have k1 : IntKind.i64.wrap ((j : Int) + 1) = (j : Int) + 1 := IntWalk.i64_in _ (by omega)
                have k2 : 0 ≤ (j : Int) + 1 := by omega
                have k3 : ((j : Int) + 1).toNat = j + 1 := by omega
                go_region_with (go_at_call 53; refine (KP.out _).mono ?_; rintro e w2 ⟨a2, n2, c2, rfl, ho, hbl⟩; have hcv := conv_row (P := Tryz.prog) w2 Tryz.underlying22 Tryz.underlying5 Tryz.underlying9 (Row.of_owns ho); have hcv2 := conv_row (P := Tryz.prog) w2 Tryz.underlying22 Tryz.underlying5 Tryz.underlying9 (HRow.out.below (below_of_drew hbl)); clear ho)
                all_goals
                  clear k1 k2 k3
                  go_wp2
                  go_ret2
                  obtain ⟨e1, e2⟩ := read_none HOK.out
                  exact ⟨ret2 (int_eq (by rw [e1])) (int_eq (by rw [e2]; rfl)), below_of_drew hbl⟩
      · have HL : Hid (vreadOk xs = false) := Lib.hid (by
          have := lead_is xs j H128.out (by have := HN.out; omega) h9 (fun _ h => absurd h hj9)
          unfold vreadOk; simp [this]; omega)
        clear hbj
        generalize xs.getD j 0 = x at hcj
        go_wp2
        go_ret2
        obtain ⟨e1, e2⟩ := read_none HL.out
        exact ⟨by rw [e1, e2]; rfl, Below.refl _ _⟩
    · have HL : Hid (vreadOk xs = false) := Lib.hid (by
        have hnn := HN.out
        have := lead_is xs j H128.out (by omega) h9 (fun h _ => by omega)
        unfold vreadOk; simp [this]; omega)
      go_wp2
      go_ret2
      obtain ⟨e1, e2⟩ := read_none HL.out
      exact ⟨by rw [e1, e2]; rfl, Below.refl _ _⟩

theorem l2Read_any (a : Option Addr) (n c : Nat) (xs : List Int) (w : World) (hn : n = xs.length) (h : Row w .u8 (.slice a n c) xs) (hby : ∀ i, 0 ≤ xs.getD i 0 ∧ xs.getD i 0 ≤ 255) :
    Calls Tryz.prog 73 #[.slice a n c] w (ReadRes xs w) := by
  rcases h with ⟨hv, h0⟩ | ⟨b, o, cap, hv, h1, h2, h3, h4⟩
  · simp only [Value.slice.injEq] at hv
    obtain ⟨rfl, rfl, rfl⟩ := hv
    subst h0
    exact l2Read_nil w
  · simp only [Value.slice.injEq] at hv
    obtain ⟨rfl, rfl, rfl⟩ := hv
    exact l2Read_at b o c xs.length xs w rfl h1 h2 h3 h4 hby

end Go.Proofs.YtbfjhjkllaceaaaGreatDoor

/- Contracts of the model's lists of points, and of its two faces. -/
namespace Go.Proofs.YtbfjhjkllaceaaaGreatDoor
open Go.ChangeShapes Go.WideShapes Go.ChangeAt Go.RowKit
set_option linter.unusedVariables false

theorem i64Info : (Tryz.prog.info? 2).map (fun i => (i.zero, i.size, i.bytes)) = some (some (.int .i64 0), 1, 8) := by kernel_rfl

/-- a list of points and whether it is so -/
def PtsRes (w : World) (l : List UInt8) (en : Ending) (w' : World) : Prop :=
  ∃ a n c, en = .returned (.tuple #[.slice a n c, .bool (pts l).isSome]) ∧ w'.ownsRow w.heap.size 2 1 (.slice a n c) n (((pts l).getD []).map (Value.int .i64)) ∧ Below w.heap.size w w'

theorem pts_bad {l u : List UInt8} {done : List Int} (h : strm l = done.map (fun p => (p, true)) ++ strm u) (hu : u ≠ []) (hb : badB u = true) : pts l = none := by
  unfold pts
  rw [h, strm_bad u hu hb]
  simp
theorem pts_end {l : List UInt8} {done : List Int} (h : strm l = done.map (fun p => (p, true)) ++ strm []) : pts l = some done := by
  unfold pts
  rw [h, strm_nil]
  simp [Function.comp_def]
theorem strm_next {l u : List UInt8} {done : List Int} (h : strm l = done.map (fun p => (p, true)) ++ strm u) (hu : u ≠ []) (hb : badB u = false) :
    strm l = (done ++ [((Lib.decodeL u).1 : Int)]).map (fun p => (p, true)) ++ strm (u.drop (Lib.decodeL u).2) := by
  rw [h, strm_step u hu hb]
  simp
theorem strm_done_le {l u : List UInt8} {done : List Int} (h : strm l = done.map (fun p => (p, true)) ++ strm u) : done.length ≤ l.length := by
  have h1 := strm_len l
  rw [h] at h1
  simp at h1
  omega

set_option maxHeartbeats 1600000 in
theorem l1Points_any (s : ByteArray) (hs : s.size ≤ 1048576) (w : World) :
    Calls Tryz.prog 109 #[.string s] w (PtsRes w s.data.toList) := by
  obtain ⟨i0, hi, hz0, hz1, hz2⟩ := info_parts i64Info
  go_enter Tryz.func109, Tryz.ntmps109
  go_wp2
  go_loopw [0, 4] (fun t v wr => ∃ (u : ByteArray) (done : List Int) (a : Option Addr) (n c : Nat), t = .string u ∧ u.size ≤ s.size ∧ v = .slice a n c ∧ strm s.data.toList = done.map (fun p => (p, true)) ++ strm u.data.toList ∧
      wr.ownsRow w.heap.size 2 1 (.slice a n c) n (done.map (Value.int .i64)) ∧ Below w.heap.size w wr)
    (fun t _ _ => strSize t)
  case atStart => exact ⟨s, [], _, _, _, rfl, Nat.le_refl _, rfl, rfl, lit_owns w _ .i64 [] 0 rfl (by decide), below1 _ _⟩
  case round =>
    obtain ⟨u, done, a, n, c, rfl, hu, rfl, hst, ho, hb⟩ := hrel
    have hnl := owns_length ho
    have hdl := strm_done_le hst
    rw [show s.data.toList.length = s.size by simp] at hdl
    have HST := Lib.hid hst
    have HO := Lib.hid ho
    have HB := Lib.hid hb
    have HNL := Lib.hid hnl
    have hn1 : n ≤ s.size := by omega
    clear hst ho hb hnl hdl
    by_cases hlt : 0 < u.size
    · have hne : u.data.toList ≠ [] := by
        intro h
        have := congrArg List.length h
        rw [show u.data.toList.length = u.size by simp] at this
        change u.size = 0 at this
        omega
      have hle := Lib.decodeL_le u.data.toList hne
      have hwd := Lib.decodeL_width u.data.toList
      rw [show u.data.toList.length = u.size by simp] at hle
      have HNE := Lib.hid hne
      clear hne
      cases hbd : badB u.data.toList
      · have HBD := Lib.hid hbd
        have e1 : firstPt u.data.toList = ((Lib.decodeL u.data.toList).1 : Int) := by simp [firstPt, hbd]
        have e2 : firstSz u.data.toList = (Lib.decodeL u.data.toList).2 := by simp [firstSz, hbd]
        have K := Lib.hid (l1First_any u (by unfold maxLen; omega) hlt)
        rw [e1, e2] at K
        clear e1 e2 hbd
        have HN := Lib.hid (strm_next HST.out HNE.out HBD.out)
        have hdrop : (u.extract (Lib.decodeL u.data.toList).2 u.size).data.toList = u.data.toList.drop (Lib.decodeL u.data.toList).2 := Lib.extract_to_end _ _
        generalize ((Lib.decodeL u.data.toList).1 : Int) = pt at K HN
        generalize (Lib.decodeL u.data.toList).2 = k at K HN hle hwd hdrop
        have HD := Lib.hid hdrop
        clear hdrop
        have hk0 : ((k : Int) == 0) = false := by rw [beq_eq_false_iff_ne]; omega
        have hk1 : (0 : Int) ≤ (k : Int) := by omega
        have hk2 : (k : Int) ≤ (u.size : Int) := by omega
        go_wp2_with fail
        refine (K.out _).mono ?_
        rintro e w1 ⟨rfl, hb1⟩
        have HO1 := Lib.hid (owns_below HO.out hb1)
        have HB1 := Lib.hid (HB.out.trans (hb1.mono HB.out.size))
        clear hb1
        go_wp2_with (at_builtin; refine wpList_append_own _ rfl _ _ 58 rfl w.heap.size 2 i0 (.int .i64 0) 1 8 Tryz.underlying58 hi hz0 hz1 hz2 rfl (by decide) _ _ _ rfl (HO1.out.alloc _) ⟨w1.heap.size, 0, none⟩ 1 1 [.int .i64 pt] rfl rfl ?c1 ?c2 ?c3 ?c4 ?c5 ?_)
        case c1 =>
          intro j v hj
          match j, hj with
          | 0, hj => simp at hj; subst hj; simp [Addr.add]
        case c2 => intro v hv; simp at hv; subst hv; rfl
        case c3 => unfold maxLen; omega
        case c4 => omega
        case c5 => have := HB1.out.size; simp; omega
        intro v' w2 hown' hgrow _
        obtain ⟨a', c', rfl⟩ := owns_slice hown'
        have HB2 := Lib.hid (below_appended HB1.out HO1.out hgrow)
        have HO2 := Lib.hid hown'
        clear hown' hgrow
        go_wp2
        go_roundw
        case rel =>
          refine ⟨u.extract k u.size, done ++ [pt], a', _, c', rfl, ?_, rfl, ?_, ?_, HB2.out⟩
          · rw [ByteArray.size_extract]; omega
          · rw [HD.out]; exact HN.out
          · rw [List.map_append]; exact HO2.out
        case measure => simp only [strSize, ByteArray.size_extract]; omega
      · have HBD := Lib.hid hbd
        have e1 : firstPt u.data.toList = 0 := by simp [firstPt, hbd]
        have e2 : firstSz u.data.toList = 0 := by simp [firstSz, hbd]
        have K := Lib.hid (l1First_any u (by unfold maxLen; omega) hlt)
        rw [e1, e2] at K
        clear e1 e2 hbd
        go_wp2_with fail
        refine (K.out _).mono ?_
        rintro e w1 ⟨rfl, hb1⟩
        go_wp2
        go_ret2
        have hp := pts_bad HST.out HNE.out HBD.out
        exact ⟨none, 0, 0, by rw [hp]; rfl, by rw [hp]; exact World.ownsRow_nil _ _ _ _, HB.out.trans (hb1.mono HB.out.size)⟩
    · have hu0 : u.data.toList = [] := by
        apply List.eq_nil_of_length_eq_zero
        rw [show u.data.toList.length = u.size by simp]
        omega
      have HU := Lib.hid hu0
      clear hu0
      go_wp2
      go_ret2
      have hst := HST.out
      rw [HU.out] at hst
      have hp := pts_end hst
      exact ⟨a, n, c, by rw [hp]; rfl, by rw [hp]; exact HO.out, HB.out⟩
end Go.Proofs.YtbfjhjkllaceaaaGreatDoor

/- Contract of the model's l1Chars. -/
namespace Go.Proofs.YtbfjhjkllaceaaaGreatDoor
open Go.ChangeShapes Go.WideShapes Go.ChangeAt Go.RowKit
set_option linter.unusedVariables false

theorem charsB_eq (l : List UInt8) : charsB l = ((pts l).isSome && ((pts l).getD []).all charB) := by
  unfold charsB pts
  have h : (strm l).all goodB = ((strm l).all (·.2) && ((strm l).map (·.1)).all charB) := by
    induction strm l with
    | nil => rfl
    | cons x r ih =>
      simp only [List.all_cons, List.map_cons, ih, goodB]
      cases x.2 <;> cases charB x.1 <;> simp
  rw [h]
  cases (strm l).all (·.2) <;> simp

theorem allTake_succ (L : List Int) (k : Nat) (h : k < L.length) (f : Int → Bool) : (L.take (k + 1)).all f = ((L.take k).all f && f (L.getD k 0)) := by
  rw [List.take_succ_eq_append_getElem h, List.all_append, List.getD_eq_getElem?_getD, List.getElem?_eq_getElem h]
  simp only [List.all_cons, List.all_nil, Bool.and_true, Option.getD_some]

set_option maxHeartbeats 1600000 in
theorem l1Chars_any (s : ByteArray) (hs : s.size ≤ 1048576) (w : World) :
    Calls Tryz.prog 101 #[.string s] w fun e w' => e = .returned (.bool (charsB s.data.toList)) ∧ Below w.heap.size w w' := by
  rw [charsB_eq]
  have hln : ((pts s.data.toList).getD []).length ≤ s.size := by
    unfold pts
    split
    · have := strm_len s.data.toList
      rw [show s.data.toList.length = s.size by simp] at this
      simpa using this
    · simp
  have K := Lib.hid (l1Points_any s hs)
  unfold PtsRes at K
  generalize (pts s.data.toList).isSome = ok0 at K
  generalize (pts s.data.toList).getD [] = L at K hln
  go_enter Tryz.func101, Tryz.ntmps101
  go_wp2_with fail
  refine (K.out _).mono ?_
  rintro e w1 ⟨a, n, c, rfl, ho, hb⟩
  have hnl := owns_length ho
  have HR := Lib.hid (Row.of_owns ho)
  have HB := Lib.hid hb
  have hn1 : n ≤ s.size := by omega
  have HNL := Lib.hid hnl
  clear ho hb hnl
  go_wp2
  go_loop [4, 13] (fun b i => ∃ k : Nat, k ≤ n ∧ i = .int .i64 k ∧ b = .bool (ok0 && (L.take k).all charB)) (fun _ i => n - (intOf i).toNat)
  case atStart => exact ⟨0, Nat.zero_le _, rfl, by simp⟩
  case round =>
    obtain ⟨k, hk, rfl, rfl⟩ := hrel
    by_cases hlt : k < n
    · rcases HR.out with ⟨hv, h0⟩ | ⟨b, o, cap, hv, h1, h2, h3, h4⟩
      · exfalso
        have := HNL.out
        rw [h0] at this
        simp at this
        omega
      · simp only [Value.slice.injEq] at hv
        obtain ⟨rfl, hnn, rfl⟩ := hv
        have hc := h4 k (by omega)
        have hsu := allTake_succ L k (by omega) charB
        generalize L.getD k 0 = pt at hc hsu
        have HSU := Lib.hid hsu
        have HNN := Lib.hid hnn
        clear hsu h4 hnn
        generalize hbb : (ok0 && (L.take k).all charB) = bb
        have HBB := Lib.hid hbb
        clear hbb
        cases bb
        · go_wp2
          go_round
          case rel => exact ⟨k + 1, by omega, by go_num, by rw [HSU.out, ← Bool.and_assoc, HBB.out]; rfl⟩
          case measure => simp [intOf]; omega
        · go_wp2_with fail
          refine (specIsChar_any pt _).mono ?_
          rintro e w2 ⟨rfl, rfl⟩
          go_wp2
          go_round
          case rel => exact ⟨k + 1, by omega, by go_num, by rw [HSU.out, ← Bool.and_assoc, HBB.out]; rfl⟩
          case measure => simp [intOf]; omega
    · obtain rfl : k = n := by omega
      generalize hbb : (ok0 && (L.take k).all charB) = bb
      have HBB := Lib.hid hbb
      clear hbb
      go_wp2
      go_ret
      refine ⟨ret_bool ?_, HB.out⟩
      rw [← HBB.out, HNL.out, List.take_length]

end Go.Proofs.YtbfjhjkllaceaaaGreatDoor

/- Contracts of the model's TextFault. -/
namespace Go.Proofs.YtbfjhjkllaceaaaGreatDoor
open Go.ChangeShapes Go.WideShapes Go.ChangeAt Go.RowKit
set_option linter.unusedVariables false

theorem specTextFault_any (s : ByteArray) (hs : s.size ≤ 1048576) (w : World) :
    Calls Tryz.prog 91 #[.string s] w fun e w' => e = .returned (.int .i64 (textFault s.data.toList)) ∧ Below w.heap.size w w' := by
  have K := Lib.hid (l1Chars_any s hs)
  have hl : s.data.toList.length = s.size := by simp
  unfold textFault
  rw [hl]
  clear hl
  generalize charsB s.data.toList = b at K
  by_cases h : 60 < s.size
  · rw [if_pos h]
    go_enter Tryz.func91, Tryz.ntmps91
    go_wp2
    go_ret
    exact ⟨rfl, Below.refl _ _⟩
  · rw [if_neg h]
    cases b
    all_goals
      go_enter Tryz.func91, Tryz.ntmps91
      go_wp2_with fail
      refine (K.out _).mono ?_
      rintro e w1 ⟨rfl, hb⟩
      go_wp2
      go_ret
      exact ⟨rfl, hb⟩
end Go.Proofs.YtbfjhjkllaceaaaGreatDoor

/- A text without a fault is short. -/
namespace Go.Proofs.YtbfjhjkllaceaaaGreatDoor
theorem fault_size {l : List UInt8} (h : textFault l = 0) : l.length ≤ 60 := by
  unfold textFault at h
  split at h
  · omega
  · omega
end Go.Proofs.YtbfjhjkllaceaaaGreatDoor

/- Contract of the model's l2Text. -/
namespace Go.Proofs.YtbfjhjkllaceaaaGreatDoor
open Go.ChangeShapes Go.WideShapes Go.ChangeAt Go.RowKit
set_option linter.unusedVariables false

/-- the text that bytes tell behind their number -/
def sbody (xs : List Int) : ByteArray := strOfNums ((xs.drop (vreadK xs)).take (vreadN xs).toNat)
def sOk (xs : List Int) : Bool := vreadOk xs && (decide (vreadN xs ≤ (xs.length : Int) - (vreadK xs : Int)) && decide (textFault (sbody xs).data.toList = 0))
def stxt (xs : List Int) : ByteArray := if sOk xs then sbody xs else ⟨#[]⟩
def ssz (xs : List Int) : Int := if sOk xs then (vreadK xs : Int) + vreadN xs else 0
theorem s_none {xs : List Int} (h : sOk xs = false) : stxt xs = ⟨#[]⟩ ∧ ssz xs = 0 := by unfold stxt ssz; simp [h]
theorem s_some {xs : List Int} (h : sOk xs = true) : stxt xs = sbody xs ∧ ssz xs = (vreadK xs : Int) + vreadN xs := by unfold stxt ssz; simp [h]
theorem str_eq {a b : ByteArray} (h : a = b) : Value.string a = .string b := by rw [h]
/-- a piece of a row -/
theorem Row.piece {w : World} {b o n c : Nat} {xs : List Int} (h : Row w .u8 (.slice (some ⟨b, o, none⟩) n c) xs) (k m : Nat) (hk : k + m ≤ n) : Row w .u8 (.slice (some ⟨b, o + k, none⟩) m (c - k)) ((xs.drop k).take m) := by
  rcases h with ⟨hv, _⟩ | ⟨b', o', cap, hv, h1, h2, h3, h4⟩
  · cases hv
  · simp only [Value.slice.injEq, Option.some.injEq, Addr.mk.injEq] at hv
    obtain ⟨⟨rfl, rfl, _⟩, hn, rfl⟩ := hv
    have hl : ((xs.drop k).take m).length = m := by simp; omega
    refine .inr ⟨b, o + k, c - k, by rw [hl], by rw [hl]; omega, by unfold maxLen at *; omega, h3, fun i hi => ?_⟩
    rw [hl] at hi
    have := h4 (k + i) (by omega)
    rw [show o + k + i = o + (k + i) by omega, this]
    simp [List.getD_eq_getElem?_getD, hi]
theorem Row.empty {w : World} {b o c : Nat} (hm : c ≤ maxLen) (hlt : b < w.heap.size) : Row w .u8 (.slice (some ⟨b, o, none⟩) 0 c) [] := .inr ⟨b, o, c, rfl, by simp, hm, hlt, fun i hi => by simp at hi⟩
theorem sbody_size (xs : List Int) (h : vreadN xs ≤ (xs.length : Int) - (vreadK xs : Int)) : ((sbody xs).size : Int) = vreadN xs := by
  have h0 := (vreadN_bd xs).1
  unfold sbody strOfNums
  simp [ByteArray.size]
  omega

/-- what l2Text answers -/
def TextRes (xs : List Int) (w : World) (e : Ending) (w' : World) : Prop :=
  e = .returned (.tuple #[.string (stxt xs), .int .i64 (ssz xs)]) ∧ Below w.heap.size w w'

set_option maxRecDepth 100000 in
set_option maxHeartbeats 1600000 in
theorem l2Text_bad (a : Option Addr) (n c : Nat) (xs : List Int) (w : World) (hn : n = xs.length) (h : Row w .u8 (.slice a n c) xs) (hby : ∀ i, 0 ≤ xs.getD i 0 ∧ xs.getD i 0 ≤ 255) (hk : vreadOk xs = false) :
    Calls Tryz.prog 72 #[.slice a n c] w (TextRes xs w) := by
  have K := Lib.hid (l2Read_any a n c xs w hn h hby)
  have HOK : Hid (sOk xs = false) := Lib.hid (by unfold sOk; rw [hk]; rfl)
  unfold ReadRes at K
  obtain ⟨e1, e2⟩ := read_none hk
  rw [e1, e2] at K
  clear hn h hby hk e1 e2
  go_enter Tryz.func72, Tryz.ntmps72
  go_wp2_with fail
  refine K.out.mono ?_
  rintro e w1 ⟨rfl, hb⟩
  have HB := Lib.hid hb
  clear hb
  go_wp2
  go_ret2
  obtain ⟨e1, e2⟩ := s_none HOK.out
  exact ⟨ret2 (str_eq (by rw [e1])) (int_eq (by rw [e2])), HB.out⟩

set_option maxRecDepth 100000 in
set_option maxHeartbeats 3200000 in
theorem l2Text_ok (b o n c : Nat) (xs : List Int) (w : World) (hn : n = xs.length) (h : Row w .u8 (.slice (some ⟨b, o, none⟩) n c) xs) (hby : ∀ i, 0 ≤ xs.getD i 0 ∧ xs.getD i 0 ≤ 255) (hk : vreadOk xs = true) :
    Calls Tryz.prog 72 #[.slice (some ⟨b, o, none⟩) n c] w (TextRes xs w) := by
  have K := Lib.hid (l2Read_any (some ⟨b, o, none⟩) n c xs w hn h hby)
  unfold ReadRes at K
  have HR := Lib.hid h
  have hkn := (vreadK_le xs).1
  rw [← hn] at hkn
  have hk9 := (vreadK_le xs).2
  have hv0 := (vreadN_bd xs).1
  have hv1 := (vreadN_bd xs).2
  have hk1 : 1 ≤ vreadK xs := by unfold vreadK; rw [hk]; simp
  have hcm : n ≤ c ∧ c ≤ maxLen ∧ b < w.heap.size := by
    rcases h with ⟨hv, _⟩ | ⟨b', o', cap, hv, h1, h2, h3, h4⟩
    · cases hv
    · simp only [Value.slice.injEq, Option.some.injEq, Addr.mk.injEq] at hv
      obtain ⟨⟨rfl, rfl, _⟩, hn', rfl⟩ := hv
      exact ⟨by omega, h2, h3⟩
  obtain ⟨hnc, hcm, hbw⟩ := hcm
  have HCM := Lib.hid hcm
  unfold maxLen at hcm
  have HBD := Lib.hid (sbody_size xs)
  rw [← hn] at HBD
  have HOK : Hid (sOk xs = (decide (vreadN xs ≤ (n : Int) - (vreadK xs : Int)) && decide (textFault (sbody xs).data.toList = 0))) := Lib.hid (by unfold sOk; rw [hk, hn]; simp)
  have HSB : Hid (sbody xs = strOfNums ((xs.drop (vreadK xs)).take (vreadN xs).toNat)) := Lib.hid rfl
  have HSOME := Lib.hid (s_some (xs := xs))
  clear hn h hby hk
  generalize vreadK xs = k at *
  generalize vreadN xs = v at *
  obtain ⟨N, rfl⟩ : ∃ N : Nat, v = N := ⟨v.toNat, by omega⟩
  rw [Int.toNat_natCast] at HSB
  have HV1 := Lib.hid hv1
  clear hv1 hv0
  have hk0 : ((k : Int) == 0) = false := by rw [beq_eq_false_iff_ne]; omega
  by_cases hlen : (N : Int) ≤ (n : Int) - (k : Int)
  · rw [decide_eq_true hlen, Bool.true_and] at HOK
    by_cases h60 : (N : Int) ≤ 60
    · have hNn : N ≤ n := by omega
      have hkN : k + N ≤ n := by omega
      have KT := Lib.hid (fun (W : World) => specTextFault_any (sbody xs) (by have := HBD.out hlen; omega) W)
      have HCV : Hid (∀ W, Below w.heap.size w W → (convert 22 9 (.slice (some ⟨b, o + k, none⟩) N (c - k))).run Tryz.prog W = .ok (.string (sbody xs)) W) := Lib.hid (fun W hW => by
        rw [HSB.out]
        exact conv_row (P := Tryz.prog) W Tryz.underlying22 Tryz.underlying5 Tryz.underlying9 ((HR.out.below hW).piece k N (by omega)))
      generalize sbody xs = T at *
      generalize textFault T.data.toList = t at *
      by_cases hkc : k < c
      · by_cases ht : t = 0
        · subst ht
          rw [decide_eq_true rfl] at HOK
          go_enter Tryz.func72, Tryz.ntmps72
          go_wp2_with fail
          refine K.out.mono ?_
          rintro e w1 ⟨rfl, hb⟩
          have HB := Lib.hid hb
          clear hb
          have hcv := HCV.out _ HB.out
          go_wp2_with fail
          refine (KT.out _).mono ?_
          rintro e w2 ⟨rfl, hb2⟩
          have HB2 := Lib.hid (below_then HB.out hb2)
          clear hb2
          go_wp2
          go_ret2
          obtain ⟨e1, e2⟩ := HSOME.out HOK.out
          exact ⟨ret2 (str_eq e1.symm) (int_eq (by rw [e2]; first | done | simp)), HB2.out⟩
        · rw [decide_eq_false ht] at HOK
          have h0 : (t == 0) = false := by simpa using ht
          have h1 : (t != 0) = true := by simpa using ht
          clear ht
          go_enter Tryz.func72, Tryz.ntmps72
          go_wp2_with fail
          refine K.out.mono ?_
          rintro e w1 ⟨rfl, hb⟩
          have HB := Lib.hid hb
          clear hb
          have hcv := HCV.out _ HB.out
          go_wp2_with fail
          refine (KT.out _).mono ?_
          rintro e w2 ⟨rfl, hb2⟩
          have HB2 := Lib.hid (below_then HB.out hb2)
          clear hb2
          go_wp2
          go_ret2
          obtain ⟨e1, e2⟩ := s_none HOK.out
          exact ⟨ret2 (str_eq (by rw [e1])) (int_eq (by rw [e2])), HB2.out⟩
      · obtain rfl : c = k := by omega
        obtain rfl : N = 0 := by omega
        have HCV2 : Hid (∀ W, Below w.heap.size w W → (convert 22 9 (.slice (some ⟨b, o, none⟩) 0 0)).run Tryz.prog W = .ok (.string T) W) := Lib.hid (fun W hW => by
          rw [HSB.out]
          exact conv_row (P := Tryz.prog) W Tryz.underlying22 Tryz.underlying5 Tryz.underlying9 (Row.empty (by decide) (Nat.lt_of_lt_of_le hbw hW.size)))
        by_cases ht : t = 0
        · subst ht
          rw [decide_eq_true rfl] at HOK
          go_enter Tryz.func72, Tryz.ntmps72
          go_wp2_with fail
          refine K.out.mono ?_
          rintro e w1 ⟨rfl, hb⟩
          have HB := Lib.hid hb
          clear hb
          have hcv := HCV2.out _ HB.out
          go_wp2_with fail
          refine (KT.out _).mono ?_
          rintro e w2 ⟨rfl, hb2⟩
          have HB2 := Lib.hid (below_then HB.out hb2)
          clear hb2
          go_wp2
          go_ret2
          obtain ⟨e1, e2⟩ := HSOME.out HOK.out
          exact ⟨ret2 (str_eq e1.symm) (int_eq (by rw [e2]; first | done | simp)), HB2.out⟩
        · rw [decide_eq_false ht] at HOK
          have h0 : (t == 0) = false := by simpa using ht
          have h1 : (t != 0) = true := by simpa using ht
          clear ht
          go_enter Tryz.func72, Tryz.ntmps72
          go_wp2_with fail
          refine K.out.mono ?_
          rintro e w1 ⟨rfl, hb⟩
          have HB := Lib.hid hb
          clear hb
          have hcv := HCV2.out _ HB.out
          go_wp2_with fail
          refine (KT.out _).mono ?_
          rintro e w2 ⟨rfl, hb2⟩
          have HB2 := Lib.hid (below_then HB.out hb2)
          clear hb2
          go_wp2
          go_ret2
          obtain ⟨e1, e2⟩ := s_none HOK.out
          exact ⟨ret2 (str_eq (by rw [e1])) (int_eq (by rw [e2])), HB2.out⟩
    · have HOK2 : Hid (sOk xs = false) := Lib.hid (by
        rw [HOK.out, decide_eq_false_iff_not]
        intro hf
        have h1 := fault_size hf
        have h2 := HBD.out hlen
        have h3 : (sbody xs).data.toList.length = (sbody xs).size := by simp
        omega)
      clear HOK
      have HOK := HOK2
      have h60' : (60 : Int) < (N : Int) := by omega
      go_enter Tryz.func72, Tryz.ntmps72
      go_wp2_with fail
      refine K.out.mono ?_
      rintro e w1 ⟨rfl, hb⟩
      have HB := Lib.hid hb
      clear hb
      go_wp2
      go_ret2
      obtain ⟨e1, e2⟩ := s_none HOK.out
      exact ⟨ret2 (str_eq (by rw [e1])) (int_eq (by rw [e2])), HB.out⟩
  · rw [decide_eq_false hlen, Bool.false_and] at HOK
    have hlen' : (n : Int) - (k : Int) < (N : Int) := by omega
    have hv9 : (N : Int) ≤ 9223372036854775807 := HV1.out
    clear hlen
    by_cases h60 : (60 : Int) < (N : Int)
    · skip
      go_enter Tryz.func72, Tryz.ntmps72
      go_wp2_with fail
      refine K.out.mono ?_
      rintro e w1 ⟨rfl, hb⟩
      have HB := Lib.hid hb
      clear hb
      go_wp2
      go_ret2
      obtain ⟨e1, e2⟩ := s_none HOK.out
      exact ⟨ret2 (str_eq (by rw [e1])) (int_eq (by rw [e2])), HB.out⟩
    · skip
      go_enter Tryz.func72, Tryz.ntmps72
      go_wp2_with fail
      refine K.out.mono ?_
      rintro e w1 ⟨rfl, hb⟩
      have HB := Lib.hid hb
      clear hb
      go_wp2
      go_ret2
      obtain ⟨e1, e2⟩ := s_none HOK.out
      exact ⟨ret2 (str_eq (by rw [e1])) (int_eq (by rw [e2])), HB.out⟩
theorem row_some {w : World} {a : Option Addr} {n c : Nat} {xs : List Int} (h : Row w .u8 (.slice a n c) xs) (hk : vreadOk xs = true) : ∃ b o, a = some ⟨b, o, none⟩ := by
  rcases h with ⟨hv, h0⟩ | ⟨b, o, cap, hv, _⟩
  · subst h0
    exact absurd hk (by decide)
  · simp only [Value.slice.injEq] at hv
    exact ⟨b, o, hv.1⟩
theorem l2Text_any (a : Option Addr) (n c : Nat) (xs : List Int) (w : World) (hn : n = xs.length) (h : Row w .u8 (.slice a n c) xs) (hby : ∀ i, 0 ≤ xs.getD i 0 ∧ xs.getD i 0 ≤ 255) :
    Calls Tryz.prog 72 #[.slice a n c] w (TextRes xs w) := by
  cases hk : vreadOk xs
  · exact l2Text_bad a n c xs w hn h hby hk
  · obtain ⟨b, o, rfl⟩ := row_some h hk
    exact l2Text_ok b o n c xs w hn h hby hk

end Go.Proofs.YtbfjhjkllaceaaaGreatDoor

/- Rows of texts. -/
namespace Go.Proofs.YtbfjhjkllaceaaaGreatDoor
open Go.ChangeShapes Go.WideShapes Go.ChangeAt Go.RowKit
set_option linter.unusedVariables false

/-- A slice value that reads as these texts. -/
def RowS (w : World) (v : Value) (ts : List ByteArray) : Prop :=
  (v = .slice none 0 0 ∧ ts = []) ∨ ∃ b o cap, v = .slice (some ⟨b, o, none⟩) ts.length cap ∧ ts.length ≤ cap ∧ cap ≤ maxLen ∧ b < w.heap.size ∧ ∀ i, i < ts.length → w.cell? ⟨b, o + i, none⟩ = some (.string (ts.getD i ByteArray.empty))
theorem RowS.of_owns {w : World} {base : Nat} {e : TypeId} {v : Value} {n : Nat} {ts : List ByteArray} (h : w.ownsRow base e 1 v n (ts.map Value.string)) : RowS w v ts := by
  have hl : ts.length = n := by have := h.1; simpa using this
  subst hl
  rcases h.2 with ⟨hv, hn⟩ | ⟨g, cap, cur, hv, hg, hh, hnc, hm, hs, ht⟩
  · have : ts = [] := List.length_eq_zero_iff.1 hn
    subst this
    exact .inl ⟨hv, rfl⟩
  · subst hv
    have hlt := (h.lt g rfl).2
    refine .inr ⟨g, 0, cap, rfl, hnc, hm, hlt, fun i hi => ?_⟩
    rw [Nat.zero_add, h.cellAt i (by omega), List.getElem?_map, List.getElem?_eq_getElem hi, List.getD_eq_getElem?_getD, List.getElem?_eq_getElem hi]
    rfl
theorem RowS.below {w w' : World} {v : Value} {ts : List ByteArray} (h : RowS w v ts) (hb : Below w.heap.size w w') : RowS w' v ts := by
  rcases h with h | ⟨b, o, cap, hv, h1, h2, h3, h4⟩
  · exact .inl h
  · exact .inr ⟨b, o, cap, hv, h1, h2, Nat.lt_of_lt_of_le h3 hb.size, fun i hi => (hb.cell (by exact h3)).trans (h4 i hi)⟩
theorem ownsS_length {w : World} {base : Nat} {e : TypeId} {v : Value} {n : Nat} {ts : List ByteArray} (h : w.ownsRow base e 1 v n (ts.map Value.string)) : n = ts.length := by
  have := h.1
  simpa using this.symm

theorem strInfo : (Tryz.prog.info? 9).map (fun i => (i.zero, i.size, i.bytes)) = some (some (.string ByteArray.empty), 1, 16) := by kernel_rfl
theorem strCells1 (W : World) (t : ByteArray) (j : Nat) (u : Value) (hj : [Value.string t][j]? = some u) : ((W.alloc (.cells #[.string t] 9))).cell? (Addr.add ⟨W.heap.size, 0, none⟩ j) = some u := by
  match j, hj with
  | 0, hj => simp at hj; subst hj; simp [Addr.add]
theorem ownsDrew {w : World} {base : Nat} {e : TypeId} {size : Nat} {v : Value} {n : Nat} {xs : List Value} (h : w.ownsRow base e size v n xs) : w.drew.ownsRow base e size v n xs := h
theorem grownDrew {w w1 : World} {r : Option Nat} (h : w.drew.grownBy w1 r) : w.grownBy w1 r := ⟨h.os, h.tape, h.output, h.size, h.block⟩

/-- a new row of texts is handed back -/
def OwnsStr (w : World) (ts : List ByteArray) (en : Ending) (w' : World) : Prop :=
  ∃ a c, en = .returned (.slice a ts.length c) ∧ w'.ownsRow w.heap.size 9 1 (.slice a ts.length c) ts.length (ts.map Value.string) ∧ Below w.heap.size w w'

end Go.Proofs.YtbfjhjkllaceaaaGreatDoor

/- An append to a row of the call's own, as one step of a region that draws its order. -/
namespace Go.Proofs.YtbfjhjkllaceaaaGreatDoor
open Go.ChangeShapes Go.WideShapes Go.ChangeAt Go.RowKit
set_option linter.unusedVariables false

theorem step_own {P : Program} {ops : Array Oper} {o : Oper} {a : Act} {w : World} {K : Act → World → Prop} {Q : Exit → Act → World → Prop} {E : Prop} (hw : Region.wanted o (yielded ops a.tmps) = true) (s x : Operand) (t : TypeId)
    (ho : o.op = .call { callee := .builtin .append, args := #[s, x], argTypes := #[t, t] })
    (e : TypeId) (i : TypeInfo) (z : Value) (size bytes : Nat) (ht : P.underlying t = some (.slice e)) (hi : P.info? e = some i) (hz : i.zero = some z) (hsize : i.size = size) (hby : i.bytes = bytes) (hzc : z.cells.size = size) (hpos : 0 < size)
    (base : Nat) (v : Value) (n : Nat) (xs : List Value) (hs : a.eval s = v) (hown : w.ownsRow base e size v n xs)
    (ad : Addr) (m c : Nat) (ys : List Value) (hx : a.eval x = .slice (some ad) m c) (hn : ys.length = m * size) (hcells : ∀ j u, ys[j]? = some u → w.cell? (ad.add j) = some u) (h1c : ∀ u ∈ ys, u.oneCell' = true)
    (b1 : n + m ≤ maxLen) (b2 : (n + m) * bytes ≤ 140737488355328) (hbase : base ≤ w.heap.size)
    (h : ∀ v' w', w'.ownsRow base e size v' (n + m) (xs ++ ys) → w.grownBy w' v.ownBlock → K (a.put o.dst v') w') :
    if Region.wanted o (yielded ops a.tmps) = true then Oper.wp P o a w K Q else E := by
  rw [if_pos hw]
  refine wp_append_own w s x t ho base e i _ size bytes ht hi hz hsize hby hzc hpos v n xs (by rw [hs]) hown ad m c ys hx hn hcells h1c b1 b2 hbase ?_
  intro v' w' hown' hgrow hnil
  exact h v' w' hown' hgrow
theorem step_own_at {P : Program} {ops : Array Oper} {o : Oper} {a : Act} {w : World} {K : Act → World → Prop} {Q : Exit → Act → World → Prop} {E : Prop} (hw : Region.wanted o (yielded ops a.tmps) = true) (s x : Operand) (t : TypeId)
    (ho : o.op = .call { callee := .builtin .append, args := #[s, x], argTypes := #[t, t] })
    (e : TypeId) (i : TypeInfo) (z : Value) (size bytes : Nat) (ht : P.underlying t = some (.slice e)) (hi : P.info? e = some i) (hz : i.zero = some z) (hsize : i.size = size) (hby : i.bytes = bytes) (hzc : z.cells.size = size) (hpos : 0 < size)
    (base : Nat) (v : Value) (n : Nat) (xs : List Value) (hs : a.eval s = v) (hown : w.ownsRow base e size v n xs)
    (ad : Addr) (m c : Nat) (ys : List Value) (hx : a.eval x = .slice (some ad) m c) (hn : ys.length = m * size) (hcells : ∀ j u, ys[j]? = some u → w.cell? (ad.add j) = some u) (h1c : ∀ u ∈ ys, u.oneCell' = true)
    (b1 : n + m ≤ maxLen) (b2 : (n + m) * bytes ≤ 140737488355328) (hbase : base ≤ w.heap.size)
    (h : ∀ v' w', w'.ownsRow base e size v' (n + m) (xs ++ ys) → w.grownBy w' v.ownBlock → (v'.ownBlock = v.ownBlock ∨ v'.ownBlock = some w.heap.size) → K (a.put o.dst v') w') :
    if Region.wanted o (yielded ops a.tmps) = true then Oper.wp P o a w K Q else E := by
  rw [if_pos hw]
  obtain ⟨v', w', hr, h2, h3, h4, h5⟩ := run_append_own_at (P := P) w base t o.type e i z size bytes ht hi hz hsize hby hzc hpos v n xs hown ad m c ys hn hcells h1c b1 b2 hbase
  unfold Oper.wp execOp
  simp only [ho, resolve, invoke, builtin, Sem.run_bind, Sem.run_pure, Result.andThen_ok, List.map_toArray, List.map_cons, List.map_nil, hs, hx, hr]
  exact h v' w' h2 h3 h5
end Go.Proofs.YtbfjhjkllaceaaaGreatDoor
