/- Contracts of the model's TextFault. -/
import Derived.Test.YtppgdbejbhhjlaaGreatDoorGF7
import Derived.Test.YtppgdbejbhhjlaaGreatDoorGF4
import Derived.WalkLawsBesides
namespace Go.Proofs.YtppgdbejbhhjlaaGreatDoor
open Go.ChangeShapes Go.WideShapes Go.ChangeAt Go.RowKit
set_option linter.unusedVariables false

theorem specTextFault_any (s : ByteArray) (hs : s.size ≤ 1048576) (w : World) :
    Calls Tryz.prog 136 #[.string s] w fun e w' => e = .returned (.int .i64 (textFault s.data.toList)) ∧ Below w.heap.size w w' := by
  have K := Lib.hid (l1Chars_any s hs)
  have hl : s.data.toList.length = s.size := by simp
  unfold textFault
  rw [hl]
  clear hl
  generalize charsB s.data.toList = b at K
  by_cases h : 60 < s.size
  · rw [if_pos h]
    go_enter Tryz.func136, Tryz.ntmps136
    go_wp2
    go_ret
    exact ⟨rfl, Below.refl _ _⟩
  · rw [if_neg h]
    cases b
    all_goals
      go_enter Tryz.func136, Tryz.ntmps136
      go_wp2_with fail
      refine (K.out _).mono ?_
      rintro e w1 ⟨rfl, hb⟩
      go_wp2
      go_ret
      exact ⟨rfl, hb⟩
end Go.Proofs.YtppgdbejbhhjlaaGreatDoor

/- spec.l4Attrs, spec.ItemFault. -/
namespace Go.Proofs.YtppgdbejbhhjlaaGreatDoor
open Go.ChangeShapes Go.WideShapes Go.ChangeAt Go.RowKit
set_option linter.unusedVariables false

set_option maxRecDepth 100000 in
set_option maxHeartbeats 1600000 in
theorem specAttrs_any (a : Option Addr) (n c : Nat) (l : List At) (w : World) (hn : SmallAts l) (h : AtsAt w a n c l) :
    Calls Tryz.prog 138 #[.slice a n c] w fun e w' => e = .returned (.int .i64 (attrsCode l)) ∧ Below w.heap.size w w' := by
  have hm := h.max
  have HR := Lib.hid h.row
  have HL := Lib.hid h.len
  have HN := Lib.hid hn.2
  have HZ := Lib.hid h.size
  by_cases h5 : 5 < n
  · have HC := Lib.hid (attrsCode_many (l := l) (by have := h.len; omega))
    clear h hn
    generalize attrsCode l = cd at HC
    go_enter Tryz.func138, Tryz.ntmps138
    go_wp2
    go_ret
    exact ⟨ret_i HC.out.symm, Below.refl _ _⟩
  · have HC1 : Hid (∀ k, k < n → (∀ j, j < k → atFault (l.getD j dAt) = 0) → atFault (l.getD k dAt) ≠ 0 → attrsCode l = atFault (l.getD k dAt)) := Lib.hid fun k hk h0 h1 => attrsCode_at (by have := h.len; omega) (by have := h.len; omega) h0 h1
    have HC2 : Hid ((∀ j, j < n → atFault (l.getD j dAt) = 0) → attrsCode l = if rises l = true then 0 else 6) := Lib.hid fun h0 => attrsCode_end (by have := h.len; omega) (fun j hj => h0 j (by have := h.len; omega))
    clear h hn
    generalize attrsCode l = cd at HC1 HC2
    go_enter Tryz.func138, Tryz.ntmps138
    go_wp2
    go_loopw [11] (fun i wr => ∃ k : Nat, k ≤ n ∧ i = .int .i64 k ∧ (∀ j, j < k → atFault (l.getD j dAt) = 0) ∧ Below w.heap.size w wr) (fun i _ => n - (intOf i).toNat)
    case atStart => exact ⟨0, Nat.zero_le _, rfl, fun j hj => by omega, Below.refl _ _⟩
    case round =>
      obtain ⟨k, hk, rfl, hz, hb⟩ := hrel
      have HK := Lib.hid hz
      clear hz
      by_cases hlt : k < n
      · rcases HR.out with e0 | ⟨b, o, rfl, h3, h4⟩
        · omega
        have d0 := (hb.cell (p := ⟨b, o + k * 2, none⟩) h3).trans (h4 k hlt).1
        have d1 := (hb.cell (p := ⟨b, o + k * 2 + 1, none⟩) h3).trans (h4 k hlt).2
        have HX : Hid (SmallAt (l.getD k dAt)) := Lib.hid (HN.out k (by have := HL.out; omega))
        have HY : Hid (atFault (l.getD k dAt) ≠ 0 → cd = atFault (l.getD k dAt)) := Lib.hid (HC1.out k hlt HK.out)
        have HK2 : Hid (atFault (l.getD k dAt) = 0 → ∀ j, j < k + 1 → atFault (l.getD j dAt) = 0) := Lib.hid fun hx j hj => by
          rcases Nat.lt_or_ge j k with h | h
          · exact HK.out j h
          · obtain rfl : j = k := by omega
            exact hx
        have hbb := h3
        clear h4 h3
        generalize l.getD k dAt = x at d0 d1 HX HY HK2
        obtain ⟨s, t⟩ := x
        dsimp only at d0 d1
        have hsm : s.size ≤ 1048576 := HX.out.1
        have htm : t.size ≤ 1048576 := HX.out.2
        have HB := Lib.hid hb
        clear hb
        cases hkey : isKeyL s
        · have HKEY := Lib.hid hkey
          go_wp2_with fail
          refine (specIsKey_any s (by unfold maxLen; omega) _).mono ?_
          rintro e w1 ⟨rfl, rfl⟩
          go_wp2
          go_ret
          have e5 : atFault ⟨s, t⟩ = 5 := by unfold atFault; rw [show (⟨s, t⟩ : At).name = s from rfl, HKEY.out]; rfl
          exact ⟨ret_i (by rw [HY.out (by rw [e5]; decide), e5]), HB.out⟩
        · have HKEY := Lib.hid hkey
          have ef : atFault ⟨s, t⟩ = textFault t.data.toList := by unfold atFault; rw [show (⟨s, t⟩ : At).name = s from rfl, hkey]; rfl
          rw [ef] at HY HK2
          have K := Lib.hid (fun W => specTextFault_any t htm W)
          generalize textFault t.data.toList = tf at HY HK2 K
          by_cases h0 : tf = 0
          · subst h0
            have HK3 := Lib.hid (HK2.out rfl)
            clear HK2 HY ef
            go_wp2_with fail
            refine (specIsKey_any s (by unfold maxLen; omega) _).mono ?_
            rintro e w1 ⟨rfl, rfl⟩
            go_wp2_with fail
            refine (K.out _).mono ?_
            rintro e w2 ⟨rfl, hb2⟩
            go_wp2
            go_roundw
            case rel => exact ⟨k + 1, by omega, by go_num, HK3.out, below_then HB.out hb2⟩
            case measure => simp [intOf]; omega
          · have HY2 := Lib.hid (HY.out h0)
            have q1 : (tf != 0) = true := by simpa using h0
            have q2 : (tf == 0) = false := by simpa using h0
            clear HK2 HY ef h0
            go_wp2_with fail
            refine (specIsKey_any s (by unfold maxLen; omega) _).mono ?_
            rintro e w1 ⟨rfl, rfl⟩
            go_wp2_with fail
            refine (K.out _).mono ?_
            rintro e w2 ⟨rfl, hb2⟩
            go_wp2
            go_ret
            exact ⟨ret_i HY2.out.symm, below_then HB.out hb2⟩
      · obtain rfl : k = n := by omega
        have HC3 := Lib.hid (HC2.out HK.out)
        clear HC1 HC2 HK
        go_wp2
        go_loopw [5] (fun i wx => ∃ k2 : Nat, 1 ≤ k2 ∧ (k2 ≤ k ∨ k2 = 1) ∧ i = .int .i64 k2 ∧ (∀ j, 1 ≤ j → j < k2 → lessAt (l.getD (j - 1) dAt) (l.getD j dAt) = true) ∧ Below w.heap.size w wx) (fun i _ => k - (intOf i).toNat)
        case atStart => exact ⟨1, Nat.le_refl _, .inr rfl, rfl, fun j h1 h2 => by omega, hb⟩
        case round =>
          obtain ⟨k2, hk1, hk2, rfl, hz2, hb2⟩ := hrel
          have HZ2 := Lib.hid hz2
          clear hz2
          by_cases hlt2 : k2 < k
          · rcases HR.out with e0 | ⟨b, o, rfl, h3, h4⟩
            · omega
            have d0 := (hb2.cell (p := ⟨b, o + k2 * 2, none⟩) h3).trans (h4 k2 hlt2).1
            have d1 := (hb2.cell (p := ⟨b, o + (k2 - 1) * 2, none⟩) h3).trans (h4 (k2 - 1) (by omega)).1
            have HN2 : Hid (lessAt (l.getD (k2 - 1) dAt) (l.getD k2 dAt) = false → cd = 6) := Lib.hid fun e => by
              rw [HC3.out, rises_no hk1 (by have := HL.out; omega) e]; rfl
            have HY2 : Hid (lessAt (l.getD (k2 - 1) dAt) (l.getD k2 dAt) = true → ∀ j, 1 ≤ j → j < k2 + 1 → lessAt (l.getD (j - 1) dAt) (l.getD j dAt) = true) := Lib.hid fun e j h1 h2 => by
              rcases Nat.lt_or_ge j k2 with h | h
              · exact HZ2.out j h1 h
              · obtain rfl : j = k2 := by omega
                exact e
            have q0 : (k2 : Int) < (k : Int) := by omega
            have q1 : (0 : Int) ≤ (k2 : Int) - 1 := by omega
            have q2 : (1 : Int) ≤ (k2 : Int) := by omega
            have q3 : (k2 : Int) - 1 < (k : Int) := by omega
            clear h4 h3
            generalize l.getD k2 dAt = x at d0 HN2 HY2
            generalize l.getD (k2 - 1) dAt = y at d1 HN2 HY2
            obtain ⟨s, t⟩ := x
            obtain ⟨s2, t2⟩ := y
            unfold lessAt at HN2 HY2
            dsimp only at d0 d1 HN2 HY2
            have HB2 := Lib.hid hb2
            clear hb2
            cases hless : Op.bytesLess s2.toList s.toList
            · have HF := Lib.hid (HN2.out hless)
              clear HN2 HY2
              rcases less_no hless with g1 | ⟨g1, g2⟩
              all_goals
                go_wp2_with fail
                go_quiet (fail)
                go_wp2
                go_ret
                exact ⟨ret_i HF.out.symm, below_drewN HB2.out _⟩
            · have HF := Lib.hid (HY2.out hless)
              clear HN2 HY2
              obtain ⟨g1, g2⟩ := less_yes hless
              go_wp2_with fail
              go_quiet (fail)
              go_wp2
              go_roundw
              case rel => exact ⟨k2 + 1, by omega, .inl (by omega), by go_num, HF.out, below_drewN HB2.out _⟩
              case measure => simp [intOf]; omega
          · have HF : Hid (cd = 0) := Lib.hid (by
              rw [HC3.out, rises_yes fun i h1 h2 => HZ2.out i h1 (by have := HL.out; omega)]; rfl)
            go_wp2
            go_ret
            exact ⟨ret_i HF.out.symm, hb2⟩
end Go.Proofs.YtppgdbejbhhjlaaGreatDoor
