/- Contracts of the model's points. -/
import Derived.Test.YtpafknmfacgccaaGreatDoorGT3
import Derived.Test.YtpafknmfacgccaaGreatDoorGT5
import Derived.Deep.RegionWith
namespace Go.Proofs.YtpafknmfacgccaaGreatDoor
open Go.ChangeShapes Go.WideShapes Go.ChangeAt Go.RowKit
set_option linter.unusedVariables false

theorem ret2 {a b c d : Value} (h : a = c) (k : b = d) : Ending.returned (.tuple #[a, b]) = .returned (.tuple #[c, d]) := by rw [h, k]
theorem int_eq {k : IntKind} {a b : Int} (h : a = b) : Value.int k a = .int k b := by rw [h]

theorem l1Lead_any (c : Int) (h0 : 0 ≤ c) (h1 : c ≤ 255) (w : World) :
    Calls Tryz.prog 179 #[.int .u8 c] w fun e w' => e = .returned (.tuple #[.int .i64 (leadN c : Int), .int .i64 (leadP c)]) ∧ w' = w := by
  by_cases a1 : c < 128
  · have e1 : leadN c = 1 := by simp [leadN, a1]
    have e2 : leadP c = c := leadP_1 a1
    rw [e1, e2]
    clear e1 e2
    go_enter Tryz.func179, Tryz.ntmps179
    go_wp2
    go_ret2
    exact ⟨rfl, rfl⟩
  · by_cases a2 : 192 ≤ c ∧ c < 224
    · have e1 : leadN c = 2 := by unfold leadN; rw [if_neg a1, if_pos a2]
      have e2 : leadP c = c - 192 := leadP_2 a2
      rw [e1, e2]
      clear e1 e2
      obtain ⟨b1, b2⟩ := a2
      go_enter Tryz.func179, Tryz.ntmps179
      go_wp2
      go_ret2
      exact ⟨rfl, rfl⟩
    · by_cases a3 : 224 ≤ c ∧ c < 240
      · have e1 : leadN c = 3 := by unfold leadN; rw [if_neg a1, if_neg a2, if_pos a3]
        have e2 : leadP c = c - 224 := leadP_3 a3
        rw [e1, e2]
        clear e1 e2 a2
        obtain ⟨b1, b2⟩ := a3
        go_enter Tryz.func179, Tryz.ntmps179
        go_wp2
        go_ret2
        exact ⟨rfl, rfl⟩
      · by_cases a4 : 240 ≤ c ∧ c < 248
        · have e1 : leadN c = 4 := by unfold leadN; rw [if_neg a1, if_neg a2, if_neg a3, if_pos a4]
          have e2 : leadP c = c - 240 := leadP_4 a4
          rw [e1, e2]
          clear e1 e2 a2 a3
          obtain ⟨b1, b2⟩ := a4
          go_enter Tryz.func179, Tryz.ntmps179
          go_wp2
          go_ret2
          exact ⟨rfl, rfl⟩
        · have e1 : leadN c = 0 := by unfold leadN; rw [if_neg a1, if_neg a2, if_neg a3, if_neg a4]
          have e2 : leadP c = 0 := by unfold leadP; rw [if_neg a1, if_neg a2, if_neg a3, if_neg a4]
          rw [e1, e2]
          clear e1 e2
          by_cases b1 : c < 192
          · clear a2 a3 a4
            go_enter Tryz.func179, Tryz.ntmps179
            go_wp2
            go_ret2
            exact ⟨rfl, rfl⟩
          · have b2 : 248 ≤ c := by omega
            clear a2 a3 a4
            go_enter Tryz.func179, Tryz.ntmps179
            go_wp2
            go_ret2
            exact ⟨rfl, rfl⟩

/-- what the model's first point tells: the point and its size; or two noughts -/
def firstPt (l : List UInt8) : Int := if badB l then 0 else ((Lib.decodeL l).1 : Int)
def firstSz (l : List UInt8) : Nat := if badB l then 0 else (Lib.decodeL l).2

theorem leadN_cases (b : Int) : leadN b = 0 ∨ leadN b = 1 ∨ leadN b = 2 ∨ leadN b = 3 ∨ leadN b = 4 := by
  unfold leadN
  repeat' split
  all_goals simp

set_option maxHeartbeats 800000 in
theorem l1First_short (s : ByteArray) (hs : s.size ≤ maxLen) (hp : 0 < s.size) (hl : leadN (by' s.data.toList 0) = 0 ∨ s.size < leadN (by' s.data.toList 0)) (w : World) :
    Calls Tryz.prog 168 #[.string s] w fun e w' => e = .returned (.tuple #[.int .i64 0, .int .i64 0]) ∧ w' = w := by
  unfold maxLen at hs
  have hb : by' s.data.toList 0 = (s[0].toNat : Int) := by
    unfold by'
    rw [List.getD_eq_getElem?_getD, head_byte s hp]
  rw [hb] at hl
  have q0 : (0 : Int) ≤ (s[0].toNat : Int) := by omega
  have q1 : (s[0].toNat : Int) ≤ 255 := by have := s[0].toNat_lt; omega
  have hc := leadN_cases (s[0].toNat : Int)
  generalize hn : leadN (s[0].toNat : Int) = n at hl hc
  have HN := Lib.hid hn
  clear hn hb
  by_cases h0 : n = 0
  · subst h0
    clear hl hc
    go_enter Tryz.func168, Tryz.ntmps168
    go_wp2_with fail
    refine (l1Lead_any _ q0 q1 _).mono ?_
    rintro e w' ⟨rfl, rfl⟩
    rw [HN.out]
    go_wp2
    go_ret2
    exact ⟨rfl, rfl⟩
  · have hl2 : (s.size : Int) < (n : Int) := by omega
    have hb0 : ((n : Int) == 0) = false := by rw [beq_eq_false_iff_ne]; omega
    clear hl hc h0
    go_enter Tryz.func168, Tryz.ntmps168
    go_wp2_with fail
    refine (l1Lead_any _ q0 q1 _).mono ?_
    rintro e w' ⟨rfl, rfl⟩
    rw [HN.out]
    go_wp2
    go_ret2
    exact ⟨rfl, rfl⟩

theorem foldP_bound (l : List UInt8) (k : Nat) (hk : 1 ≤ k) (h4 : k ≤ 4) (h0 : 0 ≤ by' l 0) (h1 : by' l 0 ≤ 255) : 0 ≤ foldP l k ∧ foldP l k ≤ 33554431 := by
  have hp : 0 ≤ leadP (by' l 0) ∧ leadP (by' l 0) ≤ 127 := by
    unfold leadP
    repeat' split
    all_goals omega
  have a1 : 0 ≤ by' l 1 % 64 ∧ by' l 1 % 64 ≤ 63 := by omega
  have a2 : 0 ≤ by' l 2 % 64 ∧ by' l 2 % 64 ≤ 63 := by omega
  have a3 : 0 ≤ by' l 3 % 64 ∧ by' l 3 % 64 ≤ 63 := by omega
  match k, hk, h4 with
  | 1, _, _ => rw [foldP_1]; omega
  | 2, _, _ => rw [foldP_2]; omega
  | 3, _, _ => rw [foldP_3]; omega
  | 4, _, _ => rw [foldP_4]; omega

set_option maxRecDepth 100000 in
set_option maxHeartbeats 800000 in
theorem l1First_long (s : ByteArray) (hs : s.size ≤ maxLen) (hp : 0 < s.size) (h0 : leadN (by' s.data.toList 0) ≠ 0) (hl : leadN (by' s.data.toList 0) ≤ s.size) (w : World) :
    Calls Tryz.prog 168 #[.string s] w fun e w' => e = .returned (.tuple #[.int .i64 (firstPt s.data.toList), .int .i64 (firstSz s.data.toList : Int)]) ∧ Below w.heap.size w w' := by
  unfold maxLen at hs
  have hb : by' s.data.toList 0 = (s[0].toNat : Int) := by
    unfold by'
    rw [List.getD_eq_getElem?_getD, head_byte s hp]
  have q0 : (0 : Int) ≤ (s[0].toNat : Int) := by omega
  have q1 : (s[0].toNat : Int) ≤ 255 := by have := s[0].toNat_lt; omega
  have hc := leadN_cases (by' s.data.toList 0)
  have hfb := fun k a b => foldP_bound s.data.toList k a b (by rw [hb]; exact q0) (by rw [hb]; exact q1)
  have hf1 : foldP s.data.toList 1 = leadP (s[0].toNat : Int) := by rw [foldP_1, hb]
  have hne : s.data.toList ≠ [] := by
    intro h
    have := congrArg List.length h
    rw [show s.data.toList.length = s.size by simp] at this
    change s.size = 0 at this
    omega
  have hfi := first_is s.data.toList hne h0 (by simpa using hl)
  generalize hn : leadN (by' s.data.toList 0) = n at h0 hl hc hfi
  rw [hb] at hn
  have n1 : 1 ≤ n := by omega
  have n4 : n ≤ 4 := by omega
  have HN := Lib.hid hn
  have HF1 := Lib.hid hf1
  have HFI := Lib.hid hfi
  have HFB := Lib.hid hfb
  clear hn hb hc hf1 hfi hfb hne h0
  have hb0 : ((n : Int) == 0) = false := by rw [beq_eq_false_iff_ne]; omega
  have hl2 : (n : Int) ≤ (s.size : Int) := by omega
  have n4' : (n : Int) ≤ 4 := by omega
  go_enter Tryz.func168, Tryz.ntmps168
  go_wp2_with fail
  refine (l1Lead_any _ q0 q1 _).mono ?_
  rintro e w' ⟨rfl, rfl⟩
  rw [HN.out, ← HF1.out]
  go_wp2
  go_loop [5, 6] (fun p i => ∃ k : Nat, 1 ≤ k ∧ k ≤ n ∧ i = .int .i64 k ∧ p = .int .i64 (foldP s.data.toList k)) (fun _ i => n - (intOf i).toNat)
  case atStart => exact ⟨1, Nat.le_refl _, n1, rfl, rfl⟩
  case round =>
    obtain ⟨k, k1, hk, rfl, rfl⟩ := hrel
    obtain ⟨f0, f1⟩ := HFB.out k k1 (by omega)
    by_cases hlt : k < n
    · have hks : k < s.size := by omega
      have hby : foldP s.data.toList (k + 1) = foldP s.data.toList k * 64 + (s[k].toNat : Int) % 64 := by
        obtain ⟨j, rfl⟩ : ∃ j, k = j + 1 := ⟨k - 1, by omega⟩
        show foldP s.data.toList (j + 1) * 64 + by' s.data.toList (j + 1) % 64 = _
        unfold by'
        rw [List.getD_eq_getElem?_getD, List.getElem?_eq_getElem (by simpa using hks)]
        rfl
      have HB := Lib.hid hby
      have r0 : (0 : Int) ≤ (s[k].toNat : Int) := by omega
      have r1 : (s[k].toNat : Int) ≤ 255 := by have := s[k].toNat_lt; omega
      clear hby
      generalize foldP s.data.toList k = pk at f0 f1 HB
      go_wp2
      go_round
      case rel => exact ⟨k + 1, by omega, by omega, by go_num, by rw [HB.out]⟩
      case measure => simp [intOf]; omega
    · obtain rfl : k = n := by omega
      go_wp2
      generalize hpk : foldP s.data.toList k = pk at *
      have HPK := Lib.hid hpk
      clear hpk
      cases hq : pointB pk
      · have HQ := Lib.hid hq
        have HBD := Lib.hid (first_not _ _ _ HPK.out HFI.out HQ.out)
        go_quiet ((go_at_call 152; exact Calls.quiet_of_same (l1Point_any _ _)))
        go_wp2
        go_ret2
        exact ⟨ret2 (int_eq (by simp [firstPt, HBD.out])) (int_eq (by simp [firstSz, HBD.out])), below_drewN (Below.refl _ _) _⟩
      · have HQ := Lib.hid hq
        have ht := first_test s k pk HPK.out HFI.out hq
        cases hbd : badB s.data.toList
        · rw [hbd] at ht
          have HBD := Lib.hid hbd
          simp only [Bool.not_false] at ht
          have hfi2 := HFI.out.2 HBD.out
          rw [HPK.out] at hfi2
          have HFI2 := Lib.hid hfi2
          clear hbd hfi2
          go_region_with (first | (go_at_call 152; refine (l1Point_any _ _).mono ?_; rintro e w' ⟨rfl, rfl⟩) | (go_at_call 125; refine (l1Put_any _ HQ.out _).mono ?_; rintro e w2 ⟨a, m, c, rfl, ho, hbl⟩; have hcv := conv_row (P := Tryz.prog) w2 Tryz.underlying22 Tryz.underlying5 Tryz.underlying9 (Row.of_owns ho); clear ho))
          go_wp2
          go_ret2
          exact ⟨ret2 (int_eq (by simp [firstPt, HBD.out, HFI2.out.1])) (int_eq (by simp [firstSz, HBD.out, HFI2.out.2])), below_of_drew hbl⟩
        · rw [hbd] at ht
          have HBD := Lib.hid hbd
          simp only [Bool.not_true] at ht
          clear hbd
          go_region_with (first | (go_at_call 152; refine (l1Point_any _ _).mono ?_; rintro e w' ⟨rfl, rfl⟩) | (go_at_call 125; refine (l1Put_any _ HQ.out _).mono ?_; rintro e w2 ⟨a, m, c, rfl, ho, hbl⟩; have hcv := conv_row (P := Tryz.prog) w2 Tryz.underlying22 Tryz.underlying5 Tryz.underlying9 (Row.of_owns ho); clear ho))
          go_wp2
          go_ret2
          exact ⟨ret2 (int_eq (by simp [firstPt, HBD.out])) (int_eq (by simp [firstSz, HBD.out])), below_of_drew hbl⟩

/-- the model's first point of a text that is not empty -/
theorem l1First_any (s : ByteArray) (hs : s.size ≤ maxLen) (hp : 0 < s.size) (w : World) :
    Calls Tryz.prog 168 #[.string s] w fun e w' => e = .returned (.tuple #[.int .i64 (firstPt s.data.toList), .int .i64 (firstSz s.data.toList : Int)]) ∧ Below w.heap.size w w' := by
  have hne : s.data.toList ≠ [] := by
    intro h
    have := congrArg List.length h
    rw [show s.data.toList.length = s.size by simp] at this
    change s.size = 0 at this
    omega
  by_cases h : leadN (by' s.data.toList 0) = 0 ∨ s.size < leadN (by' s.data.toList 0)
  · have hb := bad_lead s.data.toList hne (by simpa using h)
    refine (l1First_short s hs hp h w).mono fun e w' ⟨he, hw⟩ => ⟨?_, by rw [hw]; exact Below.refl _ _⟩
    rw [he]
    exact ret2 (int_eq (by simp [firstPt, hb])) (int_eq (by simp [firstSz, hb]))
  · exact l1First_long s hs hp (fun e => h (.inl e)) (by omega) w
end Go.Proofs.YtpafknmfacgccaaGreatDoor

/- Contracts of the model's lists of points, and of its two faces. -/
namespace Go.Proofs.YtpafknmfacgccaaGreatDoor
open Go.ChangeShapes Go.WideShapes Go.ChangeAt Go.RowKit
set_option linter.unusedVariables false

theorem i64Info : (Tryz.prog.info? 2).map (fun i => (i.zero, i.size, i.bytes)) = some (some (.int .i64 0), 1, 8) := by kernel_rfl

/-- a list of points and whether it is so -/
def PtsRes (w : World) (l : List UInt8) (en : Ending) (w' : World) : Prop :=
  ∃ a n c, en = .returned (.tuple #[.slice a n c, .bool (pts l).isSome]) ∧ w'.ownsRow w.heap.size 2 1 (.slice a n c) n (((pts l).getD []).map (Value.int .i64)) ∧ Below w.heap.size w w'

theorem pts_bad {l u : List UInt8} {done : List Int} (h : strm l = done.map (fun p => (p, true)) ++ strm u) (hu : u ≠ []) (hb : badB u = true) : pts l = none := by
  unfold pts
  rw [h, strm_bad u hu hb]
  simp
theorem pts_end {l : List UInt8} {done : List Int} (h : strm l = done.map (fun p => (p, true)) ++ strm []) : pts l = some done := by
  unfold pts
  rw [h, strm_nil]
  simp [Function.comp_def]
theorem strm_next {l u : List UInt8} {done : List Int} (h : strm l = done.map (fun p => (p, true)) ++ strm u) (hu : u ≠ []) (hb : badB u = false) :
    strm l = (done ++ [((Lib.decodeL u).1 : Int)]).map (fun p => (p, true)) ++ strm (u.drop (Lib.decodeL u).2) := by
  rw [h, strm_step u hu hb]
  simp
theorem strm_done_le {l u : List UInt8} {done : List Int} (h : strm l = done.map (fun p => (p, true)) ++ strm u) : done.length ≤ l.length := by
  have h1 := strm_len l
  rw [h] at h1
  simp at h1
  omega

set_option maxHeartbeats 1600000 in
theorem l1Points_any (s : ByteArray) (hs : s.size ≤ 1048576) (w : World) :
    Calls Tryz.prog 158 #[.string s] w (PtsRes w s.data.toList) := by
  obtain ⟨i0, hi, hz0, hz1, hz2⟩ := info_parts i64Info
  go_enter Tryz.func158, Tryz.ntmps158
  go_wp2
  go_loopw [0, 4] (fun t v wr => ∃ (u : ByteArray) (done : List Int) (a : Option Addr) (n c : Nat), t = .string u ∧ u.size ≤ s.size ∧ v = .slice a n c ∧ strm s.data.toList = done.map (fun p => (p, true)) ++ strm u.data.toList ∧
      wr.ownsRow w.heap.size 2 1 (.slice a n c) n (done.map (Value.int .i64)) ∧ Below w.heap.size w wr)
    (fun t _ _ => strSize t)
  case atStart => exact ⟨s, [], _, _, _, rfl, Nat.le_refl _, rfl, rfl, lit_owns w _ .i64 [] 0 rfl (by decide), below1 _ _⟩
  case round =>
    obtain ⟨u, done, a, n, c, rfl, hu, rfl, hst, ho, hb⟩ := hrel
    have hnl := owns_length ho
    have hdl := strm_done_le hst
    rw [show s.data.toList.length = s.size by simp] at hdl
    have HST := Lib.hid hst
    have HO := Lib.hid ho
    have HB := Lib.hid hb
    have HNL := Lib.hid hnl
    have hn1 : n ≤ s.size := by omega
    clear hst ho hb hnl hdl
    by_cases hlt : 0 < u.size
    · have hne : u.data.toList ≠ [] := by
        intro h
        have := congrArg List.length h
        rw [show u.data.toList.length = u.size by simp] at this
        change u.size = 0 at this
        omega
      have hle := Lib.decodeL_le u.data.toList hne
      have hwd := Lib.decodeL_width u.data.toList
      rw [show u.data.toList.length = u.size by simp] at hle
      have HNE := Lib.hid hne
      clear hne
      cases hbd : badB u.data.toList
      · have HBD := Lib.hid hbd
        have e1 : firstPt u.data.toList = ((Lib.decodeL u.data.toList).1 : Int) := by simp [firstPt, hbd]
        have e2 : firstSz u.data.toList = (Lib.decodeL u.data.toList).2 := by simp [firstSz, hbd]
        have K := Lib.hid (l1First_any u (by unfold maxLen; omega) hlt)
        rw [e1, e2] at K
        clear e1 e2 hbd
        have HN := Lib.hid (strm_next HST.out HNE.out HBD.out)
        have hdrop : (u.extract (Lib.decodeL u.data.toList).2 u.size).data.toList = u.data.toList.drop (Lib.decodeL u.data.toList).2 := Lib.extract_to_end _ _
        generalize ((Lib.decodeL u.data.toList).1 : Int) = pt at K HN
        generalize (Lib.decodeL u.data.toList).2 = k at K HN hle hwd hdrop
        have HD := Lib.hid hdrop
        clear hdrop
        have hk0 : ((k : Int) == 0) = false := by rw [beq_eq_false_iff_ne]; omega
        have hk1 : (0 : Int) ≤ (k : Int) := by omega
        have hk2 : (k : Int) ≤ (u.size : Int) := by omega
        go_wp2_with fail
        refine (K.out _).mono ?_
        rintro e w1 ⟨rfl, hb1⟩
        have HO1 := Lib.hid (owns_below HO.out hb1)
        have HB1 := Lib.hid (HB.out.trans (hb1.mono HB.out.size))
        clear hb1
        go_wp2_with (at_builtin; refine wpList_append_own _ rfl _ _ 128 rfl w.heap.size 2 i0 (.int .i64 0) 1 8 Tryz.underlying128 hi hz0 hz1 hz2 rfl (by decide) _ _ _ rfl (HO1.out.alloc _) ⟨w1.heap.size, 0, none⟩ 1 1 [.int .i64 pt] rfl rfl ?c1 ?c2 ?c3 ?c4 ?c5 ?_)
        case c1 =>
          intro j v hj
          match j, hj with
          | 0, hj => simp at hj; subst hj; simp [Addr.add]
        case c2 => intro v hv; simp at hv; subst hv; rfl
        case c3 => unfold maxLen; omega
        case c4 => omega
        case c5 => have := HB1.out.size; simp; omega
        intro v' w2 hown' hgrow _
        obtain ⟨a', c', rfl⟩ := owns_slice hown'
        have HB2 := Lib.hid (below_appended HB1.out HO1.out hgrow)
        have HO2 := Lib.hid hown'
        clear hown' hgrow
        go_wp2
        go_roundw
        case rel =>
          refine ⟨u.extract k u.size, done ++ [pt], a', _, c', rfl, ?_, rfl, ?_, ?_, HB2.out⟩
          · rw [ByteArray.size_extract]; omega
          · rw [HD.out]; exact HN.out
          · rw [List.map_append]; exact HO2.out
        case measure => simp only [strSize, ByteArray.size_extract]; omega
      · have HBD := Lib.hid hbd
        have e1 : firstPt u.data.toList = 0 := by simp [firstPt, hbd]
        have e2 : firstSz u.data.toList = 0 := by simp [firstSz, hbd]
        have K := Lib.hid (l1First_any u (by unfold maxLen; omega) hlt)
        rw [e1, e2] at K
        clear e1 e2 hbd
        go_wp2_with fail
        refine (K.out _).mono ?_
        rintro e w1 ⟨rfl, hb1⟩
        go_wp2
        go_ret2
        have hp := pts_bad HST.out HNE.out HBD.out
        exact ⟨none, 0, 0, by rw [hp]; rfl, by rw [hp]; exact World.ownsRow_nil _ _ _ _, HB.out.trans (hb1.mono HB.out.size)⟩
    · have hu0 : u.data.toList = [] := by
        apply List.eq_nil_of_length_eq_zero
        rw [show u.data.toList.length = u.size by simp]
        omega
      have HU := Lib.hid hu0
      clear hu0
      go_wp2
      go_ret2
      have hst := HST.out
      rw [HU.out] at hst
      have hp := pts_end hst
      exact ⟨a, n, c, by rw [hp]; rfl, by rw [hp]; exact HO.out, HB.out⟩
end Go.Proofs.YtpafknmfacgccaaGreatDoor
