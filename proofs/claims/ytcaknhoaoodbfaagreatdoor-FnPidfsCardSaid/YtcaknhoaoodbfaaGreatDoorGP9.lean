/- Contracts of the model's lists of points, and of its two faces. -/
import Derived.Test.YtcaknhoaoodbfaaGreatDoorGP8
import Derived.Test.YtcaknhoaoodbfaaGreatDoorGP7
import Derived.WalkLawsBesides
namespace Go.Proofs.YtcaknhoaoodbfaaGreatDoor
open Go.ChangeShapes Go.WideShapes Go.ChangeAt Go.RowKit
set_option linter.unusedVariables false
theorem i64Info : (Tryz.prog.info? 2).map (fun i => (i.zero, i.size, i.bytes)) = some (some (.int .i64 0), 1, 8) := by kernel_rfl
def PtsRes (w : World) (l : List UInt8) (en : Ending) (w' : World) : Prop :=
  ∃ a n c, en = .returned (.tuple #[.slice a n c, .bool (pts l).isSome]) ∧ w'.ownsRow w.heap.size 2 1 (.slice a n c) n (((pts l).getD []).map (Value.int .i64)) ∧ Below w.heap.size w w'
theorem pts_bad {l u : List UInt8} {done : List Int} (h : strm l = done.map (fun p => (p, true)) ++ strm u) (hu : u ≠ []) (hb : badB u = true) : pts l = none := by
  unfold pts
  rw [h, strm_bad u hu hb]
  simp
theorem pts_end {l : List UInt8} {done : List Int} (h : strm l = done.map (fun p => (p, true)) ++ strm []) : pts l = some done := by
  unfold pts
  rw [h, strm_nil]
  simp [Function.comp_def]
theorem strm_next {l u : List UInt8} {done : List Int} (h : strm l = done.map (fun p => (p, true)) ++ strm u) (hu : u ≠ []) (hb : badB u = false) :
    strm l = (done ++ [((Lib.decodeL u).1 : Int)]).map (fun p => (p, true)) ++ strm (u.drop (Lib.decodeL u).2) := by
  rw [h, strm_step u hu hb]
  simp
theorem strm_done_le {l u : List UInt8} {done : List Int} (h : strm l = done.map (fun p => (p, true)) ++ strm u) : done.length ≤ l.length := by
  have h1 := strm_len l
  rw [h] at h1
  simp at h1
  omega
set_option maxHeartbeats 1600000 in
theorem l1Points_any (s : ByteArray) (hs : s.size ≤ 1048576) (w : World) :
    Calls Tryz.prog 224 #[.string s] w (PtsRes w s.data.toList) := by
  obtain ⟨i0, hi, hz0, hz1, hz2⟩ := info_parts i64Info
  go_enter Tryz.func224, Tryz.ntmps224
  go_wp2
  go_loopw [0, 4] (fun t v wr => ∃ (u : ByteArray) (done : List Int) (a : Option Addr) (n c : Nat), t = .string u ∧ u.size ≤ s.size ∧ v = .slice a n c ∧ strm s.data.toList = done.map (fun p => (p, true)) ++ strm u.data.toList ∧
      wr.ownsRow w.heap.size 2 1 (.slice a n c) n (done.map (Value.int .i64)) ∧ Below w.heap.size w wr)
    (fun t _ _ => strSize t)
  case atStart => exact ⟨s, [], _, _, _, rfl, Nat.le_refl _, rfl, rfl, lit_owns w _ .i64 [] 0 rfl (by decide), below1 _ _⟩
  case round =>
    obtain ⟨u, done, a, n, c, rfl, hu, rfl, hst, ho, hb⟩ := hrel
    have hnl := owns_length ho
    have hdl := strm_done_le hst
    rw [show s.data.toList.length = s.size by simp] at hdl
    have HST := Lib.hid hst
    have HO := Lib.hid ho
    have HB := Lib.hid hb
    have HNL := Lib.hid hnl
    have hn1 : n ≤ s.size := by omega
    clear hst ho hb hnl hdl
    by_cases hlt : 0 < u.size
    · have hne : u.data.toList ≠ [] := by
        intro h
        have := congrArg List.length h
        rw [show u.data.toList.length = u.size by simp] at this
        change u.size = 0 at this
        omega
      have hle := Lib.decodeL_le u.data.toList hne
      have hwd := Lib.decodeL_width u.data.toList
      rw [show u.data.toList.length = u.size by simp] at hle
      have HNE := Lib.hid hne
      clear hne
      cases hbd : badB u.data.toList
      · have HBD := Lib.hid hbd
        have e1 : firstPt u.data.toList = ((Lib.decodeL u.data.toList).1 : Int) := by simp [firstPt, hbd]
        have e2 : firstSz u.data.toList = (Lib.decodeL u.data.toList).2 := by simp [firstSz, hbd]
        have K := Lib.hid (l1First_any u (by unfold maxLen; omega) hlt)
        rw [e1, e2] at K
        clear e1 e2 hbd
        have HN := Lib.hid (strm_next HST.out HNE.out HBD.out)
        have hdrop : (u.extract (Lib.decodeL u.data.toList).2 u.size).data.toList = u.data.toList.drop (Lib.decodeL u.data.toList).2 := Lib.extract_to_end _ _
        generalize ((Lib.decodeL u.data.toList).1 : Int) = pt at K HN
        generalize (Lib.decodeL u.data.toList).2 = k at K HN hle hwd hdrop
        have HD := Lib.hid hdrop
        clear hdrop
        have hk0 : ((k : Int) == 0) = false := by rw [beq_eq_false_iff_ne]; omega
        have hk1 : (0 : Int) ≤ (k : Int) := by omega
        have hk2 : (k : Int) ≤ (u.size : Int) := by omega
        go_wp2_with fail
        refine (K.out _).mono ?_
        rintro e w1 ⟨rfl, hb1⟩
        have HO1 := Lib.hid (owns_below HO.out hb1)
        have HB1 := Lib.hid (HB.out.trans (hb1.mono HB.out.size))
        clear hb1
        go_wp2_with (at_builtin; refine wpList_append_own _ rfl _ _ 148 rfl w.heap.size 2 i0 (.int .i64 0) 1 8 Tryz.underlying148 hi hz0 hz1 hz2 rfl (by decide) _ _ _ rfl (HO1.out.alloc _) ⟨w1.heap.size, 0, none⟩ 1 1 [.int .i64 pt] rfl rfl ?c1 ?c2 ?c3 ?c4 ?c5 ?_)
        case c1 =>
          intro j v hj
          match j, hj with
          | 0, hj => simp at hj; subst hj; simp [Addr.add]
        case c2 => intro v hv; simp at hv; subst hv; rfl
        case c3 => unfold maxLen; omega
        case c4 => omega
        case c5 => have := HB1.out.size; simp; omega
        intro v' w2 hown' hgrow _
        obtain ⟨a', c', rfl⟩ := owns_slice hown'
        have HB2 := Lib.hid (below_appended HB1.out HO1.out hgrow)
        have HO2 := Lib.hid hown'
        clear hown' hgrow
        go_wp2
        go_roundw
        case rel =>
          refine ⟨u.extract k u.size, done ++ [pt], a', _, c', rfl, ?_, rfl, ?_, ?_, HB2.out⟩
          · rw [ByteArray.size_extract]; omega
          · rw [HD.out]; exact HN.out
          · rw [List.map_append]; exact HO2.out
        case measure => simp only [strSize, ByteArray.size_extract]; omega
      · have HBD := Lib.hid hbd
        have e1 : firstPt u.data.toList = 0 := by simp [firstPt, hbd]
        have e2 : firstSz u.data.toList = 0 := by simp [firstSz, hbd]
        have K := Lib.hid (l1First_any u (by unfold maxLen; omega) hlt)
        rw [e1, e2] at K
        clear e1 e2 hbd
        go_wp2_with fail
        refine (K.out _).mono ?_
        rintro e w1 ⟨rfl, hb1⟩
        go_wp2
        go_ret2
        have hp := pts_bad HST.out HNE.out HBD.out
        exact ⟨none, 0, 0, by rw [hp]; rfl, by rw [hp]; exact World.ownsRow_nil _ _ _ _, HB.out.trans (hb1.mono HB.out.size)⟩
    · have hu0 : u.data.toList = [] := by
        apply List.eq_nil_of_length_eq_zero
        rw [show u.data.toList.length = u.size by simp]
        omega
      have HU := Lib.hid hu0
      clear hu0
      go_wp2
      go_ret2
      have hst := HST.out
      rw [HU.out] at hst
      have hp := pts_end hst
      exact ⟨a, n, c, by rw [hp]; rfl, by rw [hp]; exact HO.out, HB.out⟩
theorem charsB_eq (l : List UInt8) : charsB l = ((pts l).isSome && ((pts l).getD []).all charB) := by
  unfold charsB pts
  have h : (strm l).all goodB = ((strm l).all (·.2) && ((strm l).map (·.1)).all charB) := by
    induction strm l with
    | nil => rfl
    | cons x r ih =>
      simp only [List.all_cons, List.map_cons, ih, goodB]
      cases x.2 <;> cases charB x.1 <;> simp
  rw [h]
  cases (strm l).all (·.2) <;> simp
theorem allTake_succ (L : List Int) (k : Nat) (h : k < L.length) (f : Int → Bool) : (L.take (k + 1)).all f = ((L.take k).all f && f (L.getD k 0)) := by
  rw [List.take_succ_eq_append_getElem h, List.all_append, List.getD_eq_getElem?_getD, List.getElem?_eq_getElem h]
  simp only [List.all_cons, List.all_nil, Bool.and_true, Option.getD_some]
set_option maxHeartbeats 1600000 in
theorem l1Chars_any (s : ByteArray) (hs : s.size ≤ 1048576) (w : World) :
    Calls Tryz.prog 194 #[.string s] w fun e w' => e = .returned (.bool (charsB s.data.toList)) ∧ Below w.heap.size w w' := by
  rw [charsB_eq]
  have hln : ((pts s.data.toList).getD []).length ≤ s.size := by
    unfold pts
    split
    · have := strm_len s.data.toList
      rw [show s.data.toList.length = s.size by simp] at this
      simpa using this
    · simp
  have K := Lib.hid (l1Points_any s hs)
  unfold PtsRes at K
  generalize (pts s.data.toList).isSome = ok0 at K
  generalize (pts s.data.toList).getD [] = L at K hln
  go_enter Tryz.func194, Tryz.ntmps194
  go_wp2_with fail
  refine (K.out _).mono ?_
  rintro e w1 ⟨a, n, c, rfl, ho, hb⟩
  have hnl := owns_length ho
  have HR := Lib.hid (Row.of_owns ho)
  have HB := Lib.hid hb
  have hn1 : n ≤ s.size := by omega
  have HNL := Lib.hid hnl
  clear ho hb hnl
  go_wp2
  go_loop [4, 13] (fun b i => ∃ k : Nat, k ≤ n ∧ i = .int .i64 k ∧ b = .bool (ok0 && (L.take k).all charB)) (fun _ i => n - (intOf i).toNat)
  case atStart => exact ⟨0, Nat.zero_le _, rfl, by simp⟩
  case round =>
    obtain ⟨k, hk, rfl, rfl⟩ := hrel
    by_cases hlt : k < n
    · rcases HR.out with ⟨hv, h0⟩ | ⟨b, o, cap, hv, h1, h2, h3, h4⟩
      · exfalso
        have := HNL.out
        rw [h0] at this
        simp at this
        omega
      · simp only [Value.slice.injEq] at hv
        obtain ⟨rfl, hnn, rfl⟩ := hv
        have hc := h4 k (by omega)
        have hsu := allTake_succ L k (by omega) charB
        generalize L.getD k 0 = pt at hc hsu
        have HSU := Lib.hid hsu
        have HNN := Lib.hid hnn
        clear hsu h4 hnn
        generalize hbb : (ok0 && (L.take k).all charB) = bb
        have HBB := Lib.hid hbb
        clear hbb
        cases bb
        · go_wp2
          go_round
          case rel => exact ⟨k + 1, by omega, by go_num, by rw [HSU.out, ← Bool.and_assoc, HBB.out]; rfl⟩
          case measure => simp [intOf]; omega
        · go_wp2_with fail
          refine (specIsChar_any pt _).mono ?_
          rintro e w2 ⟨rfl, rfl⟩
          go_wp2
          go_round
          case rel => exact ⟨k + 1, by omega, by go_num, by rw [HSU.out, ← Bool.and_assoc, HBB.out]; rfl⟩
          case measure => simp [intOf]; omega
    · obtain rfl : k = n := by omega
      generalize hbb : (ok0 && (L.take k).all charB) = bb
      have HBB := Lib.hid hbb
      clear hbb
      go_wp2
      go_ret
      refine ⟨ret_bool ?_, HB.out⟩
      rw [← HBB.out, HNL.out, List.take_length]
theorem specTextFault_any (s : ByteArray) (hs : s.size ≤ 1048576) (w : World) :
    Calls Tryz.prog 138 #[.string s] w fun e w' => e = .returned (.int .i64 (textFault s.data.toList)) ∧ Below w.heap.size w w' := by
  have K := Lib.hid (l1Chars_any s hs)
  have hl : s.data.toList.length = s.size := by simp
  unfold textFault
  rw [hl]
  clear hl
  generalize charsB s.data.toList = b at K
  by_cases h : 60 < s.size
  · rw [if_pos h]
    go_enter Tryz.func138, Tryz.ntmps138
    go_wp2
    go_ret
    exact ⟨rfl, Below.refl _ _⟩
  · rw [if_neg h]
    cases b
    all_goals
      go_enter Tryz.func138, Tryz.ntmps138
      go_wp2_with fail
      refine (K.out _).mono ?_
      rintro e w1 ⟨rfl, hb⟩
      go_wp2
      go_ret
      exact ⟨rfl, hb⟩
set_option maxRecDepth 100000 in
set_option maxHeartbeats 1600000 in
theorem specAttrs_any (a : Option Addr) (n c : Nat) (l : List At) (w : World) (hn : SmallAts l) (h : AtsAt w a n c l) :
    Calls Tryz.prog 140 #[.slice a n c] w fun e w' => e = .returned (.int .i64 (attrsCode l)) ∧ Below w.heap.size w w' := by
  have hm := h.max
  have HR := Lib.hid h.row
  have HL := Lib.hid h.len
  have HN := Lib.hid hn.2
  have HZ := Lib.hid h.size
  by_cases h5 : 5 < n
  · have HC := Lib.hid (attrsCode_many (l := l) (by have := h.len; omega))
    clear h hn
    generalize attrsCode l = cd at HC
    go_enter Tryz.func140, Tryz.ntmps140
    go_wp2
    go_ret
    exact ⟨ret_i HC.out.symm, Below.refl _ _⟩
  · have HC1 : Hid (∀ k, k < n → (∀ j, j < k → atFault (l.getD j dAt) = 0) → atFault (l.getD k dAt) ≠ 0 → attrsCode l = atFault (l.getD k dAt)) := Lib.hid fun k hk h0 h1 => attrsCode_at (by have := h.len; omega) (by have := h.len; omega) h0 h1
    have HC2 : Hid ((∀ j, j < n → atFault (l.getD j dAt) = 0) → attrsCode l = if rises l = true then 0 else 6) := Lib.hid fun h0 => attrsCode_end (by have := h.len; omega) (fun j hj => h0 j (by have := h.len; omega))
    clear h hn
    generalize attrsCode l = cd at HC1 HC2
    go_enter Tryz.func140, Tryz.ntmps140
    go_wp2
    go_loopw [11] (fun i wr => ∃ k : Nat, k ≤ n ∧ i = .int .i64 k ∧ (∀ j, j < k → atFault (l.getD j dAt) = 0) ∧ Below w.heap.size w wr) (fun i _ => n - (intOf i).toNat)
    case atStart => exact ⟨0, Nat.zero_le _, rfl, fun j hj => by omega, Below.refl _ _⟩
    case round =>
      obtain ⟨k, hk, rfl, hz, hb⟩ := hrel
      have HK := Lib.hid hz
      clear hz
      by_cases hlt : k < n
      · rcases HR.out with e0 | ⟨b, o, rfl, h3, h4⟩
        · omega
        have d0 := (hb.cell (p := ⟨b, o + k * 2, none⟩) h3).trans (h4 k hlt).1
        have d1 := (hb.cell (p := ⟨b, o + k * 2 + 1, none⟩) h3).trans (h4 k hlt).2
        have HX : Hid (SmallAt (l.getD k dAt)) := Lib.hid (HN.out k (by have := HL.out; omega))
        have HY : Hid (atFault (l.getD k dAt) ≠ 0 → cd = atFault (l.getD k dAt)) := Lib.hid (HC1.out k hlt HK.out)
        have HK2 : Hid (atFault (l.getD k dAt) = 0 → ∀ j, j < k + 1 → atFault (l.getD j dAt) = 0) := Lib.hid fun hx j hj => by
          rcases Nat.lt_or_ge j k with h | h
          · exact HK.out j h
          · obtain rfl : j = k := by omega
            exact hx
        have hbb := h3
        clear h4 h3
        generalize l.getD k dAt = x at d0 d1 HX HY HK2
        obtain ⟨s, t⟩ := x
        dsimp only at d0 d1
        have hsm : s.size ≤ 1048576 := HX.out.1
        have htm : t.size ≤ 1048576 := HX.out.2
        have HB := Lib.hid hb
        clear hb
        cases hkey : isKeyL s
        · have HKEY := Lib.hid hkey
          go_wp2_with fail
          refine (specIsKey_any s (by unfold maxLen; omega) _).mono ?_
          rintro e w1 ⟨rfl, rfl⟩
          go_wp2
          go_ret
          have e5 : atFault ⟨s, t⟩ = 5 := by unfold atFault; rw [show (⟨s, t⟩ : At).name = s from rfl, HKEY.out]; rfl
          exact ⟨ret_i (by rw [HY.out (by rw [e5]; decide), e5]), HB.out⟩
        · have HKEY := Lib.hid hkey
          have ef : atFault ⟨s, t⟩ = textFault t.data.toList := by unfold atFault; rw [show (⟨s, t⟩ : At).name = s from rfl, hkey]; rfl
          rw [ef] at HY HK2
          have K := Lib.hid (fun W => specTextFault_any t htm W)
          generalize textFault t.data.toList = tf at HY HK2 K
          by_cases h0 : tf = 0
          · subst h0
            have HK3 := Lib.hid (HK2.out rfl)
            clear HK2 HY ef
            go_wp2_with fail
            refine (specIsKey_any s (by unfold maxLen; omega) _).mono ?_
            rintro e w1 ⟨rfl, rfl⟩
            go_wp2_with fail
            refine (K.out _).mono ?_
            rintro e w2 ⟨rfl, hb2⟩
            go_wp2
            go_roundw
            case rel => exact ⟨k + 1, by omega, by go_num, HK3.out, below_then HB.out hb2⟩
            case measure => simp [intOf]; omega
          · have HY2 := Lib.hid (HY.out h0)
            have q1 : (tf != 0) = true := by simpa using h0
            have q2 : (tf == 0) = false := by simpa using h0
            clear HK2 HY ef h0
            go_wp2_with fail
            refine (specIsKey_any s (by unfold maxLen; omega) _).mono ?_
            rintro e w1 ⟨rfl, rfl⟩
            go_wp2_with fail
            refine (K.out _).mono ?_
            rintro e w2 ⟨rfl, hb2⟩
            go_wp2
            go_ret
            exact ⟨ret_i HY2.out.symm, below_then HB.out hb2⟩
      · obtain rfl : k = n := by omega
        have HC3 := Lib.hid (HC2.out HK.out)
        clear HC1 HC2 HK
        go_wp2
        go_loopw [5] (fun i wx => ∃ k2 : Nat, 1 ≤ k2 ∧ (k2 ≤ k ∨ k2 = 1) ∧ i = .int .i64 k2 ∧ (∀ j, 1 ≤ j → j < k2 → lessAt (l.getD (j - 1) dAt) (l.getD j dAt) = true) ∧ Below w.heap.size w wx) (fun i _ => k - (intOf i).toNat)
        case atStart => exact ⟨1, Nat.le_refl _, .inr rfl, rfl, fun j h1 h2 => by omega, hb⟩
        case round =>
          obtain ⟨k2, hk1, hk2, rfl, hz2, hb2⟩ := hrel
          have HZ2 := Lib.hid hz2
          clear hz2
          by_cases hlt2 : k2 < k
          · rcases HR.out with e0 | ⟨b, o, rfl, h3, h4⟩
            · omega
            have d0 := (hb2.cell (p := ⟨b, o + k2 * 2, none⟩) h3).trans (h4 k2 hlt2).1
            have d1 := (hb2.cell (p := ⟨b, o + (k2 - 1) * 2, none⟩) h3).trans (h4 (k2 - 1) (by omega)).1
            have HN2 : Hid (lessAt (l.getD (k2 - 1) dAt) (l.getD k2 dAt) = false → cd = 6) := Lib.hid fun e => by
              rw [HC3.out, rises_no hk1 (by have := HL.out; omega) e]; rfl
            have HY2 : Hid (lessAt (l.getD (k2 - 1) dAt) (l.getD k2 dAt) = true → ∀ j, 1 ≤ j → j < k2 + 1 → lessAt (l.getD (j - 1) dAt) (l.getD j dAt) = true) := Lib.hid fun e j h1 h2 => by
              rcases Nat.lt_or_ge j k2 with h | h
              · exact HZ2.out j h1 h
              · obtain rfl : j = k2 := by omega
                exact e
            have q0 : (k2 : Int) < (k : Int) := by omega
            have q1 : (0 : Int) ≤ (k2 : Int) - 1 := by omega
            have q2 : (1 : Int) ≤ (k2 : Int) := by omega
            have q3 : (k2 : Int) - 1 < (k : Int) := by omega
            clear h4 h3
            generalize l.getD k2 dAt = x at d0 HN2 HY2
            generalize l.getD (k2 - 1) dAt = y at d1 HN2 HY2
            obtain ⟨s, t⟩ := x
            obtain ⟨s2, t2⟩ := y
            unfold lessAt at HN2 HY2
            dsimp only at d0 d1 HN2 HY2
            have HB2 := Lib.hid hb2
            clear hb2
            cases hless : Op.bytesLess s2.toList s.toList
            · have HF := Lib.hid (HN2.out hless)
              clear HN2 HY2
              rcases less_no hless with g1 | ⟨g1, g2⟩
              all_goals
                go_wp2_with fail
                go_quiet (fail)
                go_wp2
                go_ret
                exact ⟨ret_i HF.out.symm, below_drewN HB2.out _⟩
            · have HF := Lib.hid (HY2.out hless)
              clear HN2 HY2
              obtain ⟨g1, g2⟩ := less_yes hless
              go_wp2_with fail
              go_quiet (fail)
              go_wp2
              go_roundw
              case rel => exact ⟨k2 + 1, by omega, .inl (by omega), by go_num, HF.out, below_drewN HB2.out _⟩
              case measure => simp [intOf]; omega
          · have HF : Hid (cd = 0) := Lib.hid (by
              rw [HC3.out, rises_yes fun i h1 h2 => HZ2.out i h1 (by have := HL.out; omega)]; rfl)
            go_wp2
            go_ret
            exact ⟨ret_i HF.out.symm, hb2⟩
theorem inB_yes {d : Int} (h : ¬ (d < 0 ∨ 6 < d)) : inB d 0 6 = true := by unfold inB; rw [decide_eq_true_iff]; omega
theorem inB_no {d : Int} (h : d < 0 ∨ 6 < d) : inB d 0 6 = false := by unfold inB; rw [decide_eq_false_iff_not]; omega
set_option maxRecDepth 100000 in
set_option maxHeartbeats 1600000 in
theorem specItemFault_any (x : It) (a : Option Addr) (n c : Nat) (w : World) (hs : SmallIt x) (h : AtsAt w a n c x.attrs) :
    Calls Tryz.prog 77 #[.agg #[.int .i64 x.depth, .string x.text, .string x.space, .string x.name, .slice a n c]] w fun e w' => e = .returned (.int .i64 (itemCode x)) ∧ Below w.heap.size w w' := by
  have HA := Lib.hid h
  have hm := h.max
  have HL := Lib.hid h.len
  have KA := Lib.hid (fun W (hb : Below w.heap.size w W) => specAttrs_any a n c x.attrs W hs.2 (h.below hb))
  have KT := Lib.hid (fun W => specTextFault_any x.text hs.1.1 W)
  have KS := Lib.hid (fun W => specTextFault_any x.space hs.1.2.1 W)
  have KN := Lib.hid (fun W => specIsName_any x.name (by unfold maxLen; have := hs.1.2.2; omega) W)
  obtain ⟨cd, hcd⟩ : ∃ cd, itemCode x = cd := ⟨_, rfl⟩
  rw [hcd]
  unfold itemCode textCode elemCode at hcd
  clear h hs
  obtain ⟨d, s, t, u, l⟩ := x
  dsimp only at HA HL KA KT KS KN hcd ⊢
  by_cases hd : d < 0 ∨ 6 < d
  · rw [if_pos hd] at hcd
    have hin := inB_no hd
    have HC := Lib.hid hcd
    clear hcd hd
    go_enter Tryz.func77, Tryz.ntmps77
    go_wp2_with fail
    refine (l1In_any d 0 6 _).mono ?_
    rintro e w1 ⟨rfl, rfl⟩
    go_wp2
    go_ret
    exact ⟨ret_i HC.out, below1 _ _⟩
  rw [if_neg hd] at hcd
  have hin := inB_yes hd
  clear hd
  cases hu : u.toList.isEmpty
  · rw [hu, if_neg (by decide)] at hcd
    cases hs : s.toList.isEmpty
    · rw [hs, if_pos rfl] at hcd
      have HC := Lib.hid hcd
      clear hcd
      go_enter Tryz.func77, Tryz.ntmps77
      go_wp2_with fail
      refine (l1In_any d 0 6 _).mono ?_
      rintro e w1 ⟨rfl, rfl⟩
      go_wp2
      go_ret
      exact ⟨ret_i HC.out, below1 _ _⟩
    rw [hs, if_neg (by decide)] at hcd
    cases hn : isNameL u.data.toList
    · rw [hn, if_pos rfl] at hcd
      have HC := Lib.hid hcd
      have HN := Lib.hid hn
      clear hcd
      go_enter Tryz.func77, Tryz.ntmps77
      go_wp2_with fail
      refine (l1In_any d 0 6 _).mono ?_
      rintro e w1 ⟨rfl, rfl⟩
      go_wp2_with fail
      refine (KN.out _).mono ?_
      rintro e w1 ⟨rfl, rfl⟩
      go_wp2
      go_ret
      exact ⟨ret_i HC.out, below1 _ _⟩
    rw [hn, if_neg (by decide)] at hcd
    by_cases h0 : textFault t.data.toList = 0
    · rw [if_pos h0] at hcd
      rw [h0] at KS
      rw [hcd] at KA
      clear hcd h0
      go_enter Tryz.func77, Tryz.ntmps77
      go_wp2_with fail
      refine (l1In_any d 0 6 _).mono ?_
      rintro e w1 ⟨rfl, rfl⟩
      go_wp2_with fail
      refine (KN.out _).mono ?_
      rintro e w1 ⟨rfl, rfl⟩
      go_wp2_with fail
      refine (KS.out _).mono ?_
      rintro e w1 ⟨rfl, hb1⟩
      obtain ⟨hc, hf⟩ := bcell hb1
      have hz := hb1.size
      simp at hz
      have HB1 := Lib.hid hb1
      clear hb1
      go_wp2_with fail
      refine (KA.out _ (below_then (below1 _ _) HB1.out)).mono ?_
      rintro e w2 ⟨rfl, hb2⟩
      go_wp2
      go_ret
      exact ⟨rfl, below_then (below_then (below1 _ _) HB1.out) hb2⟩
    · rw [if_neg h0] at hcd
      rw [hcd] at KS h0
      have q1 : (cd != 0) = true := by simpa using h0
      have q2 : (cd == 0) = false := by simpa using h0
      clear hcd h0
      go_enter Tryz.func77, Tryz.ntmps77
      go_wp2_with fail
      refine (l1In_any d 0 6 _).mono ?_
      rintro e w1 ⟨rfl, rfl⟩
      go_wp2_with fail
      refine (KN.out _).mono ?_
      rintro e w1 ⟨rfl, rfl⟩
      go_wp2_with fail
      refine (KS.out _).mono ?_
      rintro e w1 ⟨rfl, hb1⟩
      go_wp2
      go_ret
      exact ⟨rfl, below_then (below1 _ _) hb1⟩
  · rw [hu, if_pos rfl] at hcd
    by_cases hbad : t.toList.isEmpty = false ∨ 0 < l.length ∨ s.toList.isEmpty = true
    · rw [if_pos hbad] at hcd
      have HC := Lib.hid hcd
      clear hcd
      cases ht : t.toList.isEmpty
      · clear hbad
        go_enter Tryz.func77, Tryz.ntmps77
        go_wp2_with fail
        refine (l1In_any d 0 6 _).mono ?_
        rintro e w1 ⟨rfl, rfl⟩
        go_wp2
        go_ret
        exact ⟨ret_i HC.out, below1 _ _⟩
      · by_cases hl : 0 < l.length
        · have hn0 : 0 < n := by have := HL.out; omega
          have q1 : ((n : Int) != 0) = true := by rw [bne_iff_ne]; omega
          have q2 : ((n : Int) == 0) = false := by rw [beq_eq_false_iff_ne]; omega
          clear hbad hl hn0
          go_enter Tryz.func77, Tryz.ntmps77
          go_wp2_with fail
          refine (l1In_any d 0 6 _).mono ?_
          rintro e w1 ⟨rfl, rfl⟩
          go_wp2
          go_ret
          exact ⟨ret_i HC.out, below1 _ _⟩
        · have hs : s.toList.isEmpty = true := by
            rcases hbad with h | h | h
            · rw [ht] at h; cases h
            · exact absurd h hl
            · exact h
          obtain rfl : n = 0 := by have := HL.out; omega
          clear hbad hl
          go_enter Tryz.func77, Tryz.ntmps77
          go_wp2_with fail
          refine (l1In_any d 0 6 _).mono ?_
          rintro e w1 ⟨rfl, rfl⟩
          go_wp2
          go_ret
          exact ⟨ret_i HC.out, below1 _ _⟩
    · rw [if_neg hbad] at hcd
      have ht : t.toList.isEmpty = true := by
        cases hq : t.toList.isEmpty
        · exact absurd (.inl hq) hbad
        · rfl
      obtain rfl : n = 0 := by
        have := HL.out
        rcases Nat.eq_zero_or_pos n with h | h
        · exact h
        · exact absurd (.inr (.inl (by omega))) hbad
      have hs : s.toList.isEmpty = false := by
        cases hq : s.toList.isEmpty
        · rfl
        · exact absurd (.inr (.inr hq)) hbad
      rw [hcd] at KT
      clear hcd hbad
      go_enter Tryz.func77, Tryz.ntmps77
      go_wp2_with fail
      refine (l1In_any d 0 6 _).mono ?_
      rintro e w1 ⟨rfl, rfl⟩
      go_wp2_with fail
      refine (KT.out _).mono ?_
      rintro e w1 ⟨rfl, hb1⟩
      go_wp2
      go_ret
      exact ⟨rfl, below_then (below1 _ _) hb1⟩
end Go.Proofs.YtcaknhoaoodbfaaGreatDoor
