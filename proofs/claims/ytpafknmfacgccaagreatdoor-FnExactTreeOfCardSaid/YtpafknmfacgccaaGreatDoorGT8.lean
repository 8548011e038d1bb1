/- spec.l4Attrs, spec.ItemFault. -/
import Derived.Test.YtpafknmfacgccaaGreatDoorGT4
import Derived.Test.YtpafknmfacgccaaGreatDoorGT7
import Derived.WalkLawsBesides
namespace Go.Proofs.YtpafknmfacgccaaGreatDoor
open Go.ChangeShapes Go.WideShapes Go.ChangeAt Go.RowKit
set_option linter.unusedVariables false

set_option maxRecDepth 100000 in
set_option maxHeartbeats 1600000 in
theorem specAttrs_any (a : Option Addr) (n c : Nat) (l : List At) (w : World) (hn : SmallAts l) (h : AtsAt w a n c l) :
    Calls Tryz.prog 114 #[.slice a n c] w fun e w' => e = .returned (.int .i64 (attrsCode l)) ∧ Below w.heap.size w w' := by
  have hm := h.max
  have HR := Lib.hid h.row
  have HL := Lib.hid h.len
  have HN := Lib.hid hn.2
  have HZ := Lib.hid h.size
  by_cases h5 : 5 < n
  · have HC := Lib.hid (attrsCode_many (l := l) (by have := h.len; omega))
    clear h hn
    generalize attrsCode l = cd at HC
    go_enter Tryz.func114, Tryz.ntmps114
    go_wp2
    go_ret
    exact ⟨ret_i HC.out.symm, Below.refl _ _⟩
  · have HC1 : Hid (∀ k, k < n → (∀ j, j < k → atFault (l.getD j dAt) = 0) → atFault (l.getD k dAt) ≠ 0 → attrsCode l = atFault (l.getD k dAt)) := Lib.hid fun k hk h0 h1 => attrsCode_at (by have := h.len; omega) (by have := h.len; omega) h0 h1
    have HC2 : Hid ((∀ j, j < n → atFault (l.getD j dAt) = 0) → attrsCode l = if rises l = true then 0 else 6) := Lib.hid fun h0 => attrsCode_end (by have := h.len; omega) (fun j hj => h0 j (by have := h.len; omega))
    clear h hn
    generalize attrsCode l = cd at HC1 HC2
    go_enter Tryz.func114, Tryz.ntmps114
    go_wp2
    go_loopw [11] (fun i wr => ∃ k : Nat, k ≤ n ∧ i = .int .i64 k ∧ (∀ j, j < k → atFault (l.getD j dAt) = 0) ∧ Below w.heap.size w wr) (fun i _ => n - (intOf i).toNat)
    case atStart => exact ⟨0, Nat.zero_le _, rfl, fun j hj => by omega, Below.refl _ _⟩
    case round =>
      obtain ⟨k, hk, rfl, hz, hb⟩ := hrel
      have HK := Lib.hid hz
      clear hz
      by_cases hlt : k < n
      · rcases HR.out with e0 | ⟨b, o, rfl, h3, h4⟩
        · omega
        have d0 := (hb.cell (p := ⟨b, o + k * 2, none⟩) h3).trans (h4 k hlt).1
        have d1 := (hb.cell (p := ⟨b, o + k * 2 + 1, none⟩) h3).trans (h4 k hlt).2
        have HX : Hid (SmallAt (l.getD k dAt)) := Lib.hid (HN.out k (by have := HL.out; omega))
        have HY : Hid (atFault (l.getD k dAt) ≠ 0 → cd = atFault (l.getD k dAt)) := Lib.hid (HC1.out k hlt HK.out)
        have HK2 : Hid (atFault (l.getD k dAt) = 0 → ∀ j, j < k + 1 → atFault (l.getD j dAt) = 0) := Lib.hid fun hx j hj => by
          rcases Nat.lt_or_ge j k with h | h
          · exact HK.out j h
          · obtain rfl : j = k := by omega
            exact hx
        have hbb := h3
        clear h4 h3
        generalize l.getD k dAt = x at d0 d1 HX HY HK2
        obtain ⟨s, t⟩ := x
        dsimp only at d0 d1
        have hsm : s.size ≤ 1048576 := HX.out.1
        have htm : t.size ≤ 1048576 := HX.out.2
        have HB := Lib.hid hb
        clear hb
        cases hkey : isKeyL s
        · have HKEY := Lib.hid hkey
          go_wp2_with fail
          refine (specIsKey_any s (by unfold maxLen; omega) _).mono ?_
          rintro e w1 ⟨rfl, rfl⟩
          go_wp2
          go_ret
          have e5 : atFault ⟨s, t⟩ = 5 := by unfold atFault; rw [show (⟨s, t⟩ : At).name = s from rfl, HKEY.out]; rfl
          exact ⟨ret_i (by rw [HY.out (by rw [e5]; decide), e5]), HB.out⟩
        · have HKEY := Lib.hid hkey
          have ef : atFault ⟨s, t⟩ = textFault t.data.toList := by unfold atFault; rw [show (⟨s, t⟩ : At).name = s from rfl, hkey]; rfl
          rw [ef] at HY HK2
          have K := Lib.hid (fun W => specTextFault_any t htm W)
          generalize textFault t.data.toList = tf at HY HK2 K
          by_cases h0 : tf = 0
          · subst h0
            have HK3 := Lib.hid (HK2.out rfl)
            clear HK2 HY ef
            go_wp2_with fail
            refine (specIsKey_any s (by unfold maxLen; omega) _).mono ?_
            rintro e w1 ⟨rfl, rfl⟩
            go_wp2_with fail
            refine (K.out _).mono ?_
            rintro e w2 ⟨rfl, hb2⟩
            go_wp2
            go_roundw
            case rel => exact ⟨k + 1, by omega, by go_num, HK3.out, below_then HB.out hb2⟩
            case measure => simp [intOf]; omega
          · have HY2 := Lib.hid (HY.out h0)
            have q1 : (tf != 0) = true := by simpa using h0
            have q2 : (tf == 0) = false := by simpa using h0
            clear HK2 HY ef h0
            go_wp2_with fail
            refine (specIsKey_any s (by unfold maxLen; omega) _).mono ?_
            rintro e w1 ⟨rfl, rfl⟩
            go_wp2_with fail
            refine (K.out _).mono ?_
            rintro e w2 ⟨rfl, hb2⟩
            go_wp2
            go_ret
            exact ⟨ret_i HY2.out.symm, below_then HB.out hb2⟩
      · obtain rfl : k = n := by omega
        have HC3 := Lib.hid (HC2.out HK.out)
        clear HC1 HC2 HK
        go_wp2
        go_loopw [5] (fun i wx => ∃ k2 : Nat, 1 ≤ k2 ∧ (k2 ≤ k ∨ k2 = 1) ∧ i = .int .i64 k2 ∧ (∀ j, 1 ≤ j → j < k2 → lessAt (l.getD (j - 1) dAt) (l.getD j dAt) = true) ∧ Below w.heap.size w wx) (fun i _ => k - (intOf i).toNat)
        case atStart => exact ⟨1, Nat.le_refl _, .inr rfl, rfl, fun j h1 h2 => by omega, hb⟩
        case round =>
          obtain ⟨k2, hk1, hk2, rfl, hz2, hb2⟩ := hrel
          have HZ2 := Lib.hid hz2
          clear hz2
          by_cases hlt2 : k2 < k
          · rcases HR.out with e0 | ⟨b, o, rfl, h3, h4⟩
            · omega
            have d0 := (hb2.cell (p := ⟨b, o + k2 * 2, none⟩) h3).trans (h4 k2 hlt2).1
            have d1 := (hb2.cell (p := ⟨b, o + (k2 - 1) * 2, none⟩) h3).trans (h4 (k2 - 1) (by omega)).1
            have HN2 : Hid (lessAt (l.getD (k2 - 1) dAt) (l.getD k2 dAt) = false → cd = 6) := Lib.hid fun e => by
              rw [HC3.out, rises_no hk1 (by have := HL.out; omega) e]; rfl
            have HY2 : Hid (lessAt (l.getD (k2 - 1) dAt) (l.getD k2 dAt) = true → ∀ j, 1 ≤ j → j < k2 + 1 → lessAt (l.getD (j - 1) dAt) (l.getD j dAt) = true) := Lib.hid fun e j h1 h2 => by
              rcases Nat.lt_or_ge j k2 with h | h
              · exact HZ2.out j h1 h
              · obtain rfl : j = k2 := by omega
                exact e
            have q0 : (k2 : Int) < (k : Int) := by omega
            have q1 : (0 : Int) ≤ (k2 : Int) - 1 := by omega
            have q2 : (1 : Int) ≤ (k2 : Int) := by omega
            have q3 : (k2 : Int) - 1 < (k : Int) := by omega
            clear h4 h3
            generalize l.getD k2 dAt = x at d0 HN2 HY2
            generalize l.getD (k2 - 1) dAt = y at d1 HN2 HY2
            obtain ⟨s, t⟩ := x
            obtain ⟨s2, t2⟩ := y
            unfold lessAt at HN2 HY2
            dsimp only at d0 d1 HN2 HY2
            have HB2 := Lib.hid hb2
            clear hb2
            cases hless : Op.bytesLess s2.toList s.toList
            · have HF := Lib.hid (HN2.out hless)
              clear HN2 HY2
              rcases less_no hless with g1 | ⟨g1, g2⟩
              all_goals
                go_wp2_with fail
                go_quiet (fail)
                go_wp2
                go_ret
                exact ⟨ret_i HF.out.symm, below_drewN HB2.out _⟩
            · have HF := Lib.hid (HY2.out hless)
              clear HN2 HY2
              obtain ⟨g1, g2⟩ := less_yes hless
              go_wp2_with fail
              go_quiet (fail)
              go_wp2
              go_roundw
              case rel => exact ⟨k2 + 1, by omega, .inl (by omega), by go_num, HF.out, below_drewN HB2.out _⟩
              case measure => simp [intOf]; omega
          · have HF : Hid (cd = 0) := Lib.hid (by
              rw [HC3.out, rises_yes fun i h1 h2 => HZ2.out i h1 (by have := HL.out; omega)]; rfl)
            go_wp2
            go_ret
            exact ⟨ret_i HF.out.symm, hb2⟩
end Go.Proofs.YtpafknmfacgccaaGreatDoor

/- spec.ItemFault. -/
namespace Go.Proofs.YtpafknmfacgccaaGreatDoor
open Go.ChangeShapes Go.WideShapes Go.ChangeAt Go.RowKit
set_option linter.unusedVariables false

theorem inB_yes {d : Int} (h : ¬ (d < 0 ∨ 6 < d)) : inB d 0 6 = true := by unfold inB; rw [decide_eq_true_iff]; omega
theorem inB_no {d : Int} (h : d < 0 ∨ 6 < d) : inB d 0 6 = false := by unfold inB; rw [decide_eq_false_iff_not]; omega

set_option maxRecDepth 100000 in
set_option maxHeartbeats 1600000 in
theorem specItemFault_any (x : It) (a : Option Addr) (n c : Nat) (w : World) (hs : SmallIt x) (h : AtsAt w a n c x.attrs) :
    Calls Tryz.prog 71 #[.agg #[.int .i64 x.depth, .string x.text, .string x.space, .string x.name, .slice a n c]] w fun e w' => e = .returned (.int .i64 (itemCode x)) ∧ Below w.heap.size w w' := by
  have HA := Lib.hid h
  have hm := h.max
  have HL := Lib.hid h.len
  have KA := Lib.hid (fun W (hb : Below w.heap.size w W) => specAttrs_any a n c x.attrs W hs.2 (h.below hb))
  have KT := Lib.hid (fun W => specTextFault_any x.text hs.1.1 W)
  have KS := Lib.hid (fun W => specTextFault_any x.space hs.1.2.1 W)
  have KN := Lib.hid (fun W => specIsName_any x.name (by unfold maxLen; have := hs.1.2.2; omega) W)
  obtain ⟨cd, hcd⟩ : ∃ cd, itemCode x = cd := ⟨_, rfl⟩
  rw [hcd]
  unfold itemCode textCode elemCode at hcd
  clear h hs
  obtain ⟨d, s, t, u, l⟩ := x
  dsimp only at HA HL KA KT KS KN hcd ⊢
  by_cases hd : d < 0 ∨ 6 < d
  · rw [if_pos hd] at hcd
    have hin := inB_no hd
    have HC := Lib.hid hcd
    clear hcd hd
    go_enter Tryz.func71, Tryz.ntmps71
    go_wp2_with fail
    refine (l1In_any d 0 6 _).mono ?_
    rintro e w1 ⟨rfl, rfl⟩
    go_wp2
    go_ret
    exact ⟨ret_i HC.out, below1 _ _⟩
  rw [if_neg hd] at hcd
  have hin := inB_yes hd
  clear hd
  cases hu : u.toList.isEmpty
  · rw [hu, if_neg (by decide)] at hcd
    cases hs : s.toList.isEmpty
    · rw [hs, if_pos rfl] at hcd
      have HC := Lib.hid hcd
      clear hcd
      go_enter Tryz.func71, Tryz.ntmps71
      go_wp2_with fail
      refine (l1In_any d 0 6 _).mono ?_
      rintro e w1 ⟨rfl, rfl⟩
      go_wp2
      go_ret
      exact ⟨ret_i HC.out, below1 _ _⟩
    rw [hs, if_neg (by decide)] at hcd
    cases hn : isNameL u.data.toList
    · rw [hn, if_pos rfl] at hcd
      have HC := Lib.hid hcd
      have HN := Lib.hid hn
      clear hcd
      go_enter Tryz.func71, Tryz.ntmps71
      go_wp2_with fail
      refine (l1In_any d 0 6 _).mono ?_
      rintro e w1 ⟨rfl, rfl⟩
      go_wp2_with fail
      refine (KN.out _).mono ?_
      rintro e w1 ⟨rfl, rfl⟩
      go_wp2
      go_ret
      exact ⟨ret_i HC.out, below1 _ _⟩
    rw [hn, if_neg (by decide)] at hcd
    by_cases h0 : textFault t.data.toList = 0
    · rw [if_pos h0] at hcd
      rw [h0] at KS
      rw [hcd] at KA
      clear hcd h0
      go_enter Tryz.func71, Tryz.ntmps71
      go_wp2_with fail
      refine (l1In_any d 0 6 _).mono ?_
      rintro e w1 ⟨rfl, rfl⟩
      go_wp2_with fail
      refine (KN.out _).mono ?_
      rintro e w1 ⟨rfl, rfl⟩
      go_wp2_with fail
      refine (KS.out _).mono ?_
      rintro e w1 ⟨rfl, hb1⟩
      obtain ⟨hc, hf⟩ := bcell hb1
      have hz := hb1.size
      simp at hz
      have HB1 := Lib.hid hb1
      clear hb1
      go_wp2_with fail
      refine (KA.out _ (below_then (below1 _ _) HB1.out)).mono ?_
      rintro e w2 ⟨rfl, hb2⟩
      go_wp2
      go_ret
      exact ⟨rfl, below_then (below_then (below1 _ _) HB1.out) hb2⟩
    · rw [if_neg h0] at hcd
      rw [hcd] at KS h0
      have q1 : (cd != 0) = true := by simpa using h0
      have q2 : (cd == 0) = false := by simpa using h0
      clear hcd h0
      go_enter Tryz.func71, Tryz.ntmps71
      go_wp2_with fail
      refine (l1In_any d 0 6 _).mono ?_
      rintro e w1 ⟨rfl, rfl⟩
      go_wp2_with fail
      refine (KN.out _).mono ?_
      rintro e w1 ⟨rfl, rfl⟩
      go_wp2_with fail
      refine (KS.out _).mono ?_
      rintro e w1 ⟨rfl, hb1⟩
      go_wp2
      go_ret
      exact ⟨rfl, below_then (below1 _ _) hb1⟩
  · rw [hu, if_pos rfl] at hcd
    by_cases hbad : t.toList.isEmpty = false ∨ 0 < l.length ∨ s.toList.isEmpty = true
    · rw [if_pos hbad] at hcd
      have HC := Lib.hid hcd
      clear hcd
      cases ht : t.toList.isEmpty
      · clear hbad
        go_enter Tryz.func71, Tryz.ntmps71
        go_wp2_with fail
        refine (l1In_any d 0 6 _).mono ?_
        rintro e w1 ⟨rfl, rfl⟩
        go_wp2
        go_ret
        exact ⟨ret_i HC.out, below1 _ _⟩
      · by_cases hl : 0 < l.length
        · have hn0 : 0 < n := by have := HL.out; omega
          have q1 : ((n : Int) != 0) = true := by rw [bne_iff_ne]; omega
          have q2 : ((n : Int) == 0) = false := by rw [beq_eq_false_iff_ne]; omega
          clear hbad hl hn0
          go_enter Tryz.func71, Tryz.ntmps71
          go_wp2_with fail
          refine (l1In_any d 0 6 _).mono ?_
          rintro e w1 ⟨rfl, rfl⟩
          go_wp2
          go_ret
          exact ⟨ret_i HC.out, below1 _ _⟩
        · have hs : s.toList.isEmpty = true := by
            rcases hbad with h | h | h
            · rw [ht] at h; cases h
            · exact absurd h hl
            · exact h
          obtain rfl : n = 0 := by have := HL.out; omega
          clear hbad hl
          go_enter Tryz.func71, Tryz.ntmps71
          go_wp2_with fail
          refine (l1In_any d 0 6 _).mono ?_
          rintro e w1 ⟨rfl, rfl⟩
          go_wp2
          go_ret
          exact ⟨ret_i HC.out, below1 _ _⟩
    · rw [if_neg hbad] at hcd
      have ht : t.toList.isEmpty = true := by
        cases hq : t.toList.isEmpty
        · exact absurd (.inl hq) hbad
        · rfl
      obtain rfl : n = 0 := by
        have := HL.out
        rcases Nat.eq_zero_or_pos n with h | h
        · exact h
        · exact absurd (.inr (.inl (by omega))) hbad
      have hs : s.toList.isEmpty = false := by
        cases hq : s.toList.isEmpty
        · rfl
        · exact absurd (.inr (.inr hq)) hbad
      rw [hcd] at KT
      clear hcd hbad
      go_enter Tryz.func71, Tryz.ntmps71
      go_wp2_with fail
      refine (l1In_any d 0 6 _).mono ?_
      rintro e w1 ⟨rfl, rfl⟩
      go_wp2_with fail
      refine (KT.out _).mono ?_
      rintro e w1 ⟨rfl, hb1⟩
      go_wp2
      go_ret
      exact ⟨rfl, below_then (below1 _ _) hb1⟩
end Go.Proofs.YtpafknmfacgccaaGreatDoor
