/- Texts laid together, part 13. -/
import Derived.Test.YtbfjhjkllaceaaaGreatDoorGB12
import Derived.WalkLawsBesides
import Derived.IntWalk
import Derived.RangeFuncBox

/- impl.attrsFault. -/
namespace Go.Proofs.YtbfjhjkllaceaaaGreatDoor
open Go.ChangeShapes Go.WideShapes Go.ChangeAt Go.RowKit
set_option linter.unusedVariables false

set_option maxRecDepth 100000 in
set_option maxHeartbeats 1600000 in
theorem implAttrs_any (a : Option Addr) (n c : Nat) (l : List At) (w : World) (hT : Tabs w) (h : AtsAt w a n c l) :
    Calls Tryz.prog 141 #[.slice a n c] w fun e w' => e = .returned (.int .i64 (attrsCode l)) ∧ Below w.heap.size w w' := by
  have hm := h.max
  have HR := Lib.hid h.row
  have HL := Lib.hid h.len
  have HT := Lib.hid hT
  have HZ := Lib.hid h.size
  by_cases h5 : 5 < n
  · have HC := Lib.hid (attrsCode_many (l := l) (by have := h.len; omega))
    clear h hT
    generalize attrsCode l = cd at HC
    go_enter Tryz.func141, Tryz.ntmps141
    go_wp2
    go_ret
    exact ⟨ret_i HC.out.symm, Below.refl _ _⟩
  · have HC1 : Hid (∀ k, k < n → (∀ j, j < k → atFault (l.getD j dAt) = 0) → atFault (l.getD k dAt) ≠ 0 → attrsCode l = atFault (l.getD k dAt)) := Lib.hid fun k hk h0 h1 => attrsCode_at (by have := h.len; omega) (by have := h.len; omega) h0 h1
    have HC2 : Hid ((∀ j, j < n → atFault (l.getD j dAt) = 0) → attrsCode l = if rises l = true then 0 else 6) := Lib.hid fun h0 => attrsCode_end (by have := h.len; omega) (fun j hj => h0 j (by have := h.len; omega))
    clear h hT
    generalize attrsCode l = cd at HC1 HC2
    go_enter Tryz.func141, Tryz.ntmps141
    go_wp2
    go_loopw [12] (fun i wr => ∃ k : Nat, k ≤ n ∧ i = .int .i64 k ∧ (∀ j, j < k → atFault (l.getD j dAt) = 0) ∧ Below w.heap.size w wr) (fun i _ => n - (intOf i).toNat)
    case atStart => exact ⟨0, Nat.zero_le _, rfl, fun j hj => by omega, Below.refl _ _⟩
    case round =>
      obtain ⟨k, hk, rfl, hz, hb⟩ := hrel
      have HK := Lib.hid hz
      clear hz
      by_cases hlt : k < n
      · rcases HR.out with e0 | ⟨b, o, rfl, h3, h4⟩
        · omega
        have d0 := (hb.cell (p := ⟨b, o + k * 2, none⟩) h3).trans (h4 k hlt).1
        have d1 := (hb.cell (p := ⟨b, o + k * 2 + 1, none⟩) h3).trans (h4 k hlt).2
        have HX := Lib.hid (HZ.out k)
        have HY : Hid (atFault (l.getD k dAt) ≠ 0 → cd = atFault (l.getD k dAt)) := Lib.hid (HC1.out k hlt HK.out)
        have HK2 : Hid (atFault (l.getD k dAt) = 0 → ∀ j, j < k + 1 → atFault (l.getD j dAt) = 0) := Lib.hid fun hx j hj => by
          rcases Nat.lt_or_ge j k with h | h
          · exact HK.out j h
          · obtain rfl : j = k := by omega
            exact hx
        have hbb := h3
        clear h4 h3
        generalize l.getD k dAt = x at d0 d1 HX HY HK2
        obtain ⟨s, t⟩ := x
        dsimp only at d0 d1
        have hsm : s.size ≤ 9223372036854775807 := HX.out.1
        have htm : t.size ≤ 9223372036854775807 := HX.out.2
        have HB := Lib.hid hb
        clear hb
        cases hkey : isKeyL s
        · have HKEY := Lib.hid hkey
          go_wp2_with fail
          refine (implIsKey_any s (by unfold maxLen; omega) _).mono ?_
          rintro e w1 ⟨rfl, hb1⟩
          go_wp2
          go_ret
          have e5 : atFault ⟨s, t⟩ = 5 := by unfold atFault; rw [show (⟨s, t⟩ : At).name = s from rfl, HKEY.out]; rfl
          exact ⟨ret_i (by rw [HY.out (by rw [e5]; decide), e5]), below_then HB.out (below_then (below1 _ _) hb1)⟩
        · have HKEY := Lib.hid hkey
          have ef : atFault ⟨s, t⟩ = textFault t.data.toList := by unfold atFault; rw [show (⟨s, t⟩ : At).name = s from rfl, hkey]; rfl
          rw [ef] at HY HK2
          have K := Lib.hid (fun W (hb' : Below w.heap.size w W) => implTextFault_any t (HX.out.2) W (tabs_kept HT.out hb'))
          generalize textFault t.data.toList = tf at HY HK2 K
          by_cases h0 : tf = 0
          · subst h0
            have HK3 := Lib.hid (HK2.out rfl)
            clear HK2 HY ef
            go_wp2_with fail
            refine (implIsKey_any s (by unfold maxLen; omega) _).mono ?_
            rintro e w1 ⟨rfl, hb1⟩
            obtain ⟨hc, hf⟩ := bcell hb1
            have hz := hb1.size
            simp at hz
            have HB1 := Lib.hid (below_then HB.out (below_then (below1 _ _) hb1))
            clear hb1
            go_wp2_with fail
            refine (K.out _ HB1.out).mono ?_
            rintro e w2 ⟨rfl, hb2⟩
            go_wp2
            go_roundw
            case rel => exact ⟨k + 1, by omega, by go_num, HK3.out, below_then HB1.out hb2⟩
            case measure => simp [intOf]; omega
          · have HY2 := Lib.hid (HY.out h0)
            have q1 : (tf != 0) = true := by simpa using h0
            have q2 : (tf == 0) = false := by simpa using h0
            clear HK2 HY ef h0
            go_wp2_with fail
            refine (implIsKey_any s (by unfold maxLen; omega) _).mono ?_
            rintro e w1 ⟨rfl, hb1⟩
            obtain ⟨hc, hf⟩ := bcell hb1
            have hz := hb1.size
            simp at hz
            have HB1 := Lib.hid (below_then HB.out (below_then (below1 _ _) hb1))
            clear hb1
            go_wp2_with fail
            refine (K.out _ HB1.out).mono ?_
            rintro e w2 ⟨rfl, hb2⟩
            go_wp2
            go_ret
            exact ⟨ret_i HY2.out.symm, below_then HB1.out hb2⟩
      · obtain rfl : k = n := by omega
        have HC3 := Lib.hid (HC2.out HK.out)
        clear HC1 HC2 HK
        go_wp2
        go_loopw [6] (fun i wx => ∃ k2 : Nat, 1 ≤ k2 ∧ (k2 ≤ k ∨ k2 = 1) ∧ i = .int .i64 k2 ∧ (∀ j, 1 ≤ j → j < k2 → lessAt (l.getD (j - 1) dAt) (l.getD j dAt) = true) ∧ Below w.heap.size w wx) (fun i _ => k - (intOf i).toNat)
        case atStart => exact ⟨1, Nat.le_refl _, .inr rfl, rfl, fun j h1 h2 => by omega, hb⟩
        case round =>
          obtain ⟨k2, hk1, hk2, rfl, hz2, hb2⟩ := hrel
          have HZ2 := Lib.hid hz2
          clear hz2
          by_cases hlt2 : k2 < k
          · rcases HR.out with e0 | ⟨b, o, rfl, h3, h4⟩
            · omega
            have d0 := (hb2.cell (p := ⟨b, o + k2 * 2, none⟩) h3).trans (h4 k2 hlt2).1
            have d1 := (hb2.cell (p := ⟨b, o + (k2 - 1) * 2, none⟩) h3).trans (h4 (k2 - 1) (by omega)).1
            have HN2 : Hid (lessAt (l.getD (k2 - 1) dAt) (l.getD k2 dAt) = false → cd = 6) := Lib.hid fun e => by
              rw [HC3.out, rises_no hk1 (by have := HL.out; omega) e]; rfl
            have HY2 : Hid (lessAt (l.getD (k2 - 1) dAt) (l.getD k2 dAt) = true → ∀ j, 1 ≤ j → j < k2 + 1 → lessAt (l.getD (j - 1) dAt) (l.getD j dAt) = true) := Lib.hid fun e j h1 h2 => by
              rcases Nat.lt_or_ge j k2 with h | h
              · exact HZ2.out j h1 h
              · obtain rfl : j = k2 := by omega
                exact e
            have q0 : (k2 : Int) < (k : Int) := by omega
            have q1 : (0 : Int) ≤ (k2 : Int) - 1 := by omega
            have q2 : (1 : Int) ≤ (k2 : Int) := by omega
            have q3 : (k2 : Int) - 1 < (k : Int) := by omega
            clear h4 h3
            generalize l.getD k2 dAt = x at d0 HN2 HY2
            generalize l.getD (k2 - 1) dAt = y at d1 HN2 HY2
            obtain ⟨s, t⟩ := x
            obtain ⟨s2, t2⟩ := y
            unfold lessAt at HN2 HY2
            dsimp only at d0 d1 HN2 HY2
            have HB2 := Lib.hid hb2
            clear hb2
            cases hless : Op.bytesLess s2.toList s.toList
            · have HF := Lib.hid (HN2.out hless)
              clear HN2 HY2
              go_wp2_with fail
              go_quiet (fail)
              go_wp2
              go_ret
              exact ⟨ret_i HF.out.symm, below_drewN HB2.out _⟩
            · have HF := Lib.hid (HY2.out hless)
              clear HN2 HY2
              go_wp2_with fail
              go_quiet (fail)
              go_wp2
              go_roundw
              case rel => exact ⟨k2 + 1, by omega, .inl (by omega), by go_num, HF.out, below_drewN HB2.out _⟩
              case measure => simp [intOf]; omega
          · have HF : Hid (cd = 0) := Lib.hid (by
              rw [HC3.out, rises_yes fun i h1 h2 => HZ2.out i h1 (by have := HL.out; omega)]; rfl)
            go_wp2
            go_ret
            exact ⟨ret_i HF.out.symm, hb2⟩

theorem partOf_text (b o : Nat) (x : It) (w : World) (h : ItAt w b o x) (hx : x.name.toList.isEmpty = true) :
    Calls Tryz.prog 64 #[.pointer (some ⟨b, o, none⟩)] w fun e w' => e = .returned (.iface 95 (.agg #[.pointer (some ⟨b, o, none⟩)])) ∧ w' = w := by
  have d3 := h.c3
  clear h
  go_enter Tryz.func64, Tryz.ntmps64
  go_wp2
  go_ret
  exact ⟨rfl, rfl⟩
theorem partOf_elem (b o : Nat) (x : It) (w : World) (h : ItAt w b o x) (hx : x.name.toList.isEmpty = false) :
    Calls Tryz.prog 64 #[.pointer (some ⟨b, o, none⟩)] w fun e w' => e = .returned (.iface 96 (.agg #[.pointer (some ⟨b, o, none⟩)])) ∧ w' = w := by
  have d3 := h.c3
  clear h
  go_enter Tryz.func64, Tryz.ntmps64
  go_wp2
  go_ret
  exact ⟨rfl, rfl⟩
end Go.Proofs.YtbfjhjkllaceaaaGreatDoor

/- the methods fault; impl.ItemFault. -/
namespace Go.Proofs.YtbfjhjkllaceaaaGreatDoor
open Go.ChangeShapes Go.WideShapes Go.ChangeAt Go.RowKit
set_option linter.unusedVariables false

set_option maxRecDepth 100000 in
set_option maxHeartbeats 1600000 in
theorem faultText_any (b o : Nat) (x : It) (w : World) (hT : Tabs w) (h : ItAt w b o x) :
    Calls Tryz.prog 136 #[.agg #[.pointer (some ⟨b, o, none⟩)]] w fun e w' => e = .returned (.int .i64 (textCode x)) ∧ Below w.heap.size w w' := by
  have d1 := h.c1
  have d2 := h.c2
  obtain ⟨a4, n, c4, d4, hat⟩ := h.c4
  have HL := Lib.hid hat.len
  have hm := hat.max
  have KT := Lib.hid (fun W (hb : Below w.heap.size w W) => implTextFault_any x.text (by unfold maxLen; have := h.size.1; omega) W (tabs_kept hT hb))
  have hlt := h.lt
  obtain ⟨cd, hcd⟩ : ∃ cd, textCode x = cd := ⟨_, rfl⟩
  rw [hcd]
  unfold textCode at hcd
  clear h hT hat
  obtain ⟨d, s, t, u, l⟩ := x
  dsimp only at d1 d2 HL KT hcd
  by_cases hbad : t.toList.isEmpty = false ∨ 0 < l.length ∨ s.toList.isEmpty = true
  · rw [if_pos hbad] at hcd
    have HC := Lib.hid hcd
    clear hcd
    cases ht : t.toList.isEmpty
    · clear hbad
      go_enter Tryz.func136, Tryz.ntmps136
      go_wp2
      go_ret
      exact ⟨ret_i HC.out, below1 _ _⟩
    · by_cases hl : 0 < l.length
      · have hn0 : 0 < n := by have := HL.out; omega
        clear hbad hl
        go_enter Tryz.func136, Tryz.ntmps136
        go_wp2
        go_ret
        exact ⟨ret_i HC.out, below1 _ _⟩
      · have hs : s.toList.isEmpty = true := by
          rcases hbad with h | h | h
          · rw [ht] at h; cases h
          · exact absurd h hl
          · exact h
        obtain rfl : n = 0 := by have := HL.out; omega
        clear hbad hl
        go_enter Tryz.func136, Tryz.ntmps136
        go_wp2
        go_ret
        exact ⟨ret_i HC.out, below1 _ _⟩
  · rw [if_neg hbad] at hcd
    have ht : t.toList.isEmpty = true := by
      cases hq : t.toList.isEmpty
      · exact absurd (.inl hq) hbad
      · rfl
    obtain rfl : n = 0 := by
      have := HL.out
      rcases Nat.eq_zero_or_pos n with h | h
      · exact h
      · exact absurd (.inr (.inl (by omega))) hbad
    have hs : s.toList.isEmpty = false := by
      cases hq : s.toList.isEmpty
      · rfl
      · exact absurd (.inr (.inr hq)) hbad
    rw [hcd] at KT
    clear hcd hbad
    go_enter Tryz.func136, Tryz.ntmps136
    go_wp2_with fail
    refine (KT.out _ (below1 _ _)).mono ?_
    rintro e w1 ⟨rfl, hb1⟩
    go_wp2
    go_ret
    exact ⟨rfl, below_then (below1 _ _) hb1⟩

set_option maxRecDepth 100000 in
set_option maxHeartbeats 1600000 in
theorem faultElem_any (b o : Nat) (x : It) (w : World) (hT : Tabs w) (h : ItAt w b o x) :
    Calls Tryz.prog 138 #[.agg #[.pointer (some ⟨b, o, none⟩)]] w fun e w' => e = .returned (.int .i64 (elemCode x)) ∧ Below w.heap.size w w' := by
  have d1 := h.c1
  have d2 := h.c2
  have d3 := h.c3
  obtain ⟨a4, n, c4, d4, hat⟩ := h.c4
  have KS := Lib.hid (fun W (hb : Below w.heap.size w W) => implTextFault_any x.space (by unfold maxLen; have := h.size.2.1; omega) W (tabs_kept hT hb))
  have KN := Lib.hid (fun W => implIsName_any x.name (by unfold maxLen; have := h.size.2.2; omega) W)
  have KA := Lib.hid (fun W (hb : Below w.heap.size w W) => implAttrs_any a4 n c4 x.attrs W (tabs_kept hT hb) (hat.below hb))
  have hlt := h.lt
  obtain ⟨cd, hcd⟩ : ∃ cd, elemCode x = cd := ⟨_, rfl⟩
  rw [hcd]
  unfold elemCode at hcd
  clear h hT hat
  obtain ⟨d, s, t, u, l⟩ := x
  dsimp only at d1 d2 d3 KS KN KA hcd
  cases hs : s.toList.isEmpty
  · rw [hs, if_pos rfl] at hcd
    have HC := Lib.hid hcd
    clear hcd
    go_enter Tryz.func138, Tryz.ntmps138
    go_wp2
    go_ret
    exact ⟨ret_i HC.out, below1 _ _⟩
  rw [hs, if_neg (by decide)] at hcd
  cases hn : isNameL u.data.toList
  · rw [hn, if_pos rfl] at hcd
    have HC := Lib.hid hcd
    have HN := Lib.hid hn
    clear hcd
    go_enter Tryz.func138, Tryz.ntmps138
    go_wp2_with fail
    refine (KN.out _).mono ?_
    rintro e w1 ⟨rfl, hb1⟩
    go_wp2
    go_ret
    exact ⟨ret_i HC.out, below_then (below1 _ _) hb1⟩
  rw [hn, if_neg (by decide)] at hcd
  by_cases h0 : textFault t.data.toList = 0
  · rw [if_pos h0] at hcd
    rw [h0] at KS
    rw [hcd] at KA
    clear hcd h0
    go_enter Tryz.func138, Tryz.ntmps138
    go_wp2_with fail
    refine (KN.out _).mono ?_
    rintro e w1 ⟨rfl, hb1⟩
    obtain ⟨hc, hf⟩ := bcell hb1
    have hz := hb1.size
    simp at hz
    have HB1 := Lib.hid (below_then (below1 _ _) hb1)
    clear hb1
    go_wp2_with fail
    refine (KS.out _ HB1.out).mono ?_
    rintro e w2 ⟨rfl, hb2⟩
    obtain ⟨hc2, hf2⟩ := bcell hb2
    have hlt1 : b < w1.heap.size := by omega
    have hlt2 : w.heap.size < w1.heap.size := by omega
    have HB2 := Lib.hid (below_then HB1.out hb2)
    clear hb2
    go_wp2_with fail
    refine (KA.out _ HB2.out).mono ?_
    rintro e w3 ⟨rfl, hb3⟩
    go_wp2
    go_ret
    exact ⟨rfl, below_then HB2.out hb3⟩
  · rw [if_neg h0] at hcd
    rw [hcd] at KS h0
    have q1 : (cd != 0) = true := by simpa using h0
    have q2 : (cd == 0) = false := by simpa using h0
    clear hcd h0
    go_enter Tryz.func138, Tryz.ntmps138
    go_wp2_with fail
    refine (KN.out _).mono ?_
    rintro e w1 ⟨rfl, hb1⟩
    obtain ⟨hc, hf⟩ := bcell hb1
    have hz := hb1.size
    simp at hz
    have HB1 := Lib.hid (below_then (below1 _ _) hb1)
    clear hb1
    go_wp2_with fail
    refine (KS.out _ HB1.out).mono ?_
    rintro e w2 ⟨rfl, hb2⟩
    go_wp2
    go_ret
    exact ⟨rfl, below_then HB1.out hb2⟩

theorem methFaultT (a : Addr) (w : World) : (method 309 95 (.agg #[.pointer (some a)]) "loop.example/g00795/impl.fault").run Tryz.prog w = .ok (136, .agg #[.pointer (some a)]) w := by kernel_rfl
theorem methFaultE (a : Addr) (w : World) : (method 309 96 (.agg #[.pointer (some a)]) "loop.example/g00795/impl.fault").run Tryz.prog w = .ok (138, .agg #[.pointer (some a)]) w := by kernel_rfl

set_option maxRecDepth 100000 in
set_option maxHeartbeats 1600000 in
theorem implItemFault_any (x : It) (a : Option Addr) (n c : Nat) (w : World) (hT : Tabs w) (hwf : -9223372036854775808 ≤ x.depth ∧ x.depth ≤ 9223372036854775807) (hsz : x.text.size ≤ 9223372036854775807 ∧ x.space.size ≤ 9223372036854775807 ∧ x.name.size ≤ 9223372036854775807) (h : AtsAt w a n c x.attrs) :
    Calls Tryz.prog 48 #[.agg #[.int .i64 x.depth, .string x.text, .string x.space, .string x.name, .slice a n c]] w fun e w' => e = .returned (.int .i64 (itemCode x)) ∧ Below w.heap.size w w' := by
  have HI := Lib.hid (show ItAt (w.alloc (.cells #[.int .i64 x.depth, .string x.text, .string x.space, .string x.name, .slice a n c] 68)) w.heap.size 0 x from
    ⟨by simp, hwf, hsz, by simp, by simp, by simp, by simp, a, n, c, by simp, h.below (below1 _ _)⟩)
  have HT := Lib.hid hT
  have HC1 : Hid (x.depth < 0 ∨ 6 < x.depth → itemCode x = 3) := Lib.hid fun e => by unfold itemCode; rw [if_pos e]
  have HC2 : Hid (¬ (x.depth < 0 ∨ 6 < x.depth) → x.name.toList.isEmpty = true → itemCode x = textCode x) := Lib.hid fun e e2 => by unfold itemCode; rw [if_neg e, if_pos e2]
  have HC3 : Hid (¬ (x.depth < 0 ∨ 6 < x.depth) → x.name.toList.isEmpty = false → itemCode x = elemCode x) := Lib.hid fun e e2 => by unfold itemCode; rw [if_neg e, e2, if_neg (by decide)]
  obtain ⟨cd, hcd⟩ : ∃ cd, itemCode x = cd := ⟨_, rfl⟩
  rw [hcd] at HC1 HC2 HC3 ⊢
  clear hcd h hT hwf hsz
  by_cases hd : x.depth < 0 ∨ 6 < x.depth
  · have HC := Lib.hid (HC1.out hd)
    clear HC1 HC2 HC3
    obtain ⟨d, s, t, u, l⟩ := x
    dsimp only at hd ⊢
    rcases hd with hd | hd
    all_goals
      go_enter Tryz.func48, Tryz.ntmps48
      go_wp2
      go_ret
      exact ⟨ret_i HC.out.symm, below1 _ _⟩
  · cases hu : x.name.toList.isEmpty
    · have HC := Lib.hid (HC3.out hd hu)
      have K1 := Lib.hid (partOf_elem w.heap.size 0 x _ HI.out hu)
      have K2 := Lib.hid (faultElem_any w.heap.size 0 x _ (tabs_kept HT.out (below1 _ _)) HI.out)
      rw [← HC.out] at K2
      clear HC1 HC2 HC3
      obtain ⟨d, s, t, u, l⟩ := x
      dsimp only at hd K1 K2 ⊢
      have h0 : 0 ≤ d := by omega
      have h6 : d ≤ 6 := by omega
      clear hd HC HI hu
      go_enter Tryz.func48, Tryz.ntmps48
      have hm := methFaultE
      go_wp2_with fail
      refine K1.out.mono ?_
      rintro e w1 ⟨rfl, rfl⟩
      go_wp2_with fail
      refine K2.out.mono ?_
      rintro e w2 ⟨rfl, hb2⟩
      go_wp2
      go_ret
      exact ⟨rfl, below_then (below1 _ _) hb2⟩
    · have HC := Lib.hid (HC2.out hd hu)
      have K1 := Lib.hid (partOf_text w.heap.size 0 x _ HI.out hu)
      have K2 := Lib.hid (faultText_any w.heap.size 0 x _ (tabs_kept HT.out (below1 _ _)) HI.out)
      rw [← HC.out] at K2
      clear HC1 HC2 HC3
      obtain ⟨d, s, t, u, l⟩ := x
      dsimp only at hd K1 K2 ⊢
      have h0 : 0 ≤ d := by omega
      have h6 : d ≤ 6 := by omega
      clear hd HC HI hu
      go_enter Tryz.func48, Tryz.ntmps48
      have hm := methFaultT
      go_wp2_with fail
      refine K1.out.mono ?_
      rintro e w1 ⟨rfl, rfl⟩
      go_wp2_with fail
      refine K2.out.mono ?_
      rintro e w2 ⟨rfl, hb2⟩
      go_wp2
      go_ret
      exact ⟨rfl, below_then (below1 _ _) hb2⟩
end Go.Proofs.YtbfjhjkllaceaaaGreatDoor

/- impl.mayFollow, impl.isTree. -/
namespace Go.Proofs.YtbfjhjkllaceaaaGreatDoor
open Go.ChangeShapes Go.WideShapes Go.ChangeAt Go.RowKit
set_option linter.unusedVariables false

theorem isText_yes (a : Addr) (w : World) : (Instr.typeAssert (.iface 95 (.agg #[.pointer (some a)])) 92 95 true).run Tryz.prog w = .ok (.tuple #[.agg #[.pointer (some a)], .bool true]) w := by kernel_rfl
theorem isText_no (a : Addr) (w : World) : (Instr.typeAssert (.iface 96 (.agg #[.pointer (some a)])) 92 95 true).run Tryz.prog w = .ok (.tuple #[.agg #[.pointer none], .bool false]) w := by kernel_rfl

set_option maxRecDepth 100000 in
set_option maxHeartbeats 3200000 in
theorem mayFollow_text (b o b' o' : Nat) (p x : It) (w : World) (h : ItAt w b o p) (h' : ItAt w b' o' x) (hp : p.name.toList.isEmpty = true) :
    Calls Tryz.prog 79 #[.pointer (some ⟨b, o, none⟩), .pointer (some ⟨b', o', none⟩)] w fun e w' => e = .returned (.bool (decide (x.depth < p.depth) || ((x.depth == p.depth) && !x.name.toList.isEmpty))) ∧ ∃ n, w' = w.drewN n := by
  have K := Lib.hid (partOf_text b o p w h hp)
  have e0 := h.c0
  have d0 := h'.c0
  have d3 := h'.c3
  clear h h'
  obtain ⟨xd, xt, xs, xn, xa⟩ := x
  obtain ⟨pd, pt, ps, pn, pa⟩ := p
  dsimp only at hp K e0 d0 d3 ⊢
  have hm := isText_yes
  by_cases h1 : xd < pd
  · have g1 : decide (xd < pd) = true := by simpa using h1
    go_enter Tryz.func79, Tryz.ntmps79
    go_wp2_with fail
    refine K.out.mono ?_
    rintro e w1 ⟨rfl, rfl⟩
    go_wp2_with fail
    go_quiet (fail)
    go_wp2
    go_ret
    exact ⟨ret_bool (by rw [g1]; rfl), _, rfl⟩
  · have g1 : decide (xd < pd) = false := by simpa using h1
    by_cases h2 : xd = pd
    · subst h2
      have g2 : (xd == xd) = true := by simp
      go_enter Tryz.func79, Tryz.ntmps79
      go_wp2_with fail
      refine K.out.mono ?_
      rintro e w1 ⟨rfl, rfl⟩
      go_wp2_with fail
      go_quiet (fail)
      go_wp2
      go_ret
      exact ⟨ret_bool (by rw [g1, g2]; simp), _, rfl⟩
    · have g2 : (xd == pd) = false := by simpa using h2
      clear h2
      go_enter Tryz.func79, Tryz.ntmps79
      go_wp2_with fail
      refine K.out.mono ?_
      rintro e w1 ⟨rfl, rfl⟩
      go_wp2_with fail
      go_quiet (fail)
      go_wp2
      go_ret
      exact ⟨ret_bool (by rw [g1, g2]; rfl), _, rfl⟩

set_option maxRecDepth 100000 in
set_option maxHeartbeats 3200000 in
theorem mayFollow_elem (b o b' o' : Nat) (p x : It) (w : World) (h : ItAt w b o p) (h' : ItAt w b' o' x) (hp : p.name.toList.isEmpty = false) (hd : 0 ≤ p.depth ∧ p.depth ≤ 6) :
    Calls Tryz.prog 79 #[.pointer (some ⟨b, o, none⟩), .pointer (some ⟨b', o', none⟩)] w fun e w' => e = .returned (.bool (decide (x.depth ≤ p.depth + 1))) ∧ ∃ n, w' = w.drewN n := by
  have K := Lib.hid (partOf_elem b o p w h hp)
  have e0 := h.c0
  have d0 := h'.c0
  clear h h'
  obtain ⟨xd, xt, xs, xn, xa⟩ := x
  obtain ⟨pd, pt, ps, pn, pa⟩ := p
  dsimp only at hp K e0 d0 hd ⊢
  have hm := isText_no
  have hw1 : IntKind.i64.wrap (pd + 1) = pd + 1 := IntWalk.i64_in _ (by omega)
  go_enter Tryz.func79, Tryz.ntmps79
  go_wp2_with fail
  refine K.out.mono ?_
  rintro e w1 ⟨rfl, rfl⟩
  go_wp2_with fail
  go_quiet (fail)
  go_wp2
  go_ret
  exact ⟨rfl, _, rfl⟩

theorem mayFollow_any (b o b' o' : Nat) (p x : It) (w : World) (h : ItAt w b o p) (h' : ItAt w b' o' x) (hd : 0 ≤ p.depth ∧ p.depth ≤ 6) :
    Calls Tryz.prog 79 #[.pointer (some ⟨b, o, none⟩), .pointer (some ⟨b', o', none⟩)] w fun e w' => e = .returned (.bool (followB x.depth p.depth x.name.toList.isEmpty p.name.toList.isEmpty)) ∧ ∃ n, w' = w.drewN n := by
  cases hp : p.name.toList.isEmpty
  · exact mayFollow_elem b o b' o' p x w h h' hp hd
  · exact mayFollow_text b o b' o' p x w h h' hp
end Go.Proofs.YtbfjhjkllaceaaaGreatDoor

/- The program's numbers of items. -/
namespace Go.Proofs.YtbfjhjkllaceaaaGreatDoor
open Go.ChangeShapes Go.WideShapes Go.ChangeAt Go.RowKit
set_option linter.unusedVariables false

theorem isElem_yes (a : Addr) (w : World) : (Instr.typeAssert (.iface 96 (.agg #[.pointer (some a)])) 92 96 true).run Tryz.prog w = .ok (.tuple #[.agg #[.pointer (some a)], .bool true]) w := by kernel_rfl
theorem numCell (W : World) (x : Int) (j : Nat) (z : Value) (hj : [Value.int .i64 x][j]? = some z) : ((W.alloc (.cells #[.int .i64 x] 2))).cell? (Addr.add ⟨W.heap.size, 0, none⟩ j) = some z := by
  match j, hj with
  | 0, hj => simp at hj; subst hj; simp [Addr.add]
theorem cells3 (W : World) (T : TypeId) (u v x : Value) (j : Nat) (z : Value) (hj : [u, v, x][j]? = some z) : ((W.alloc (.cells #[u, v, x] T))).cell? (Addr.add ⟨W.heap.size, 0, none⟩ j) = some z := by
  match j, hj with
  | 0, hj => simp at hj; subst hj; simp [Addr.add]
  | 1, hj => simp at hj; subst hj; simp [Addr.add]
  | 2, hj => simp at hj; subst hj; simp [Addr.add]
theorem numIts_succ (F : List ByteArray) (l : List It) (k : Nat) (h : k < l.length) : (l.take (k + 1)).flatMap (numIt F) = (l.take k).flatMap (numIt F) ++ numIt F (l.getD k dIt) := by
  rw [List.take_succ_eq_append_getElem h, List.flatMap_append, List.getD_eq_getElem?_getD, List.getElem?_eq_getElem h]
  simp
theorem numIt_text {F : List ByteArray} {x : It} (h : x.name.toList.isEmpty = true) : numIt F x = [x.depth] ++ [0, hasIx F x.text] := by unfold numIt; rw [if_pos h]; rfl
theorem numIt_elem {F : List ByteArray} {x : It} (h : x.name.toList.isEmpty = false) : numIt F x = [x.depth] ++ [1, hasIx F x.space, hasIx F x.name] ++ numAts F x.attrs := by unfold numIt; rw [if_neg (by rw [h]; decide)]; rfl
theorem three_only {P : Nat → Prop} {w w' : World} {p q r : Addr} {u v x : Value} (h : Only P w w') (hp : ¬ P p.block) (hq : ¬ P q.block) (hr : ¬ P r.block) (h1 : w.cell? p = some u ∧ w.cell? q = some v ∧ w.cell? r = some x) : w'.cell? p = some u ∧ w'.cell? q = some v ∧ w'.cell? r = some x :=
  ⟨(h.cell (World.block_lt_of_cell? w _ h1.1) hp).trans h1.1, (h.cell (World.block_lt_of_cell? w _ h1.2.1) hq).trans h1.2.1, (h.cell (World.block_lt_of_cell? w _ h1.2.2) hr).trans h1.2.2⟩
theorem three_alloc {w : World} {o : Obj} {p q r : Addr} {u v x : Value} (h : w.cell? p = some u ∧ w.cell? q = some v ∧ w.cell? r = some x) : (w.alloc o).cell? p = some u ∧ (w.alloc o).cell? q = some v ∧ (w.alloc o).cell? r = some x :=
  three_only (P := fun _ => False) (Only.below (below1 w o)) (fun h => h) (fun h => h) (fun h => h) h
theorem BookP.inK {K : Nat → Prop} {w0 w : World} {b m : Nat} {g : Option Nat} {ts : List ByteArray} (h : BookAt K w0 w b m g ts) {i : Nat} (hi : BookP b m g i) : K i ∨ w0.heap.size ≤ i := by
  rcases hi with rfl | rfl | e
  · exact .inl h.ge
  · exact .inl h.mge
  · obtain ⟨a, n, c, h1, h2, h3⟩ := h.c0
    exact .inr (h2.lt i (by rw [h3, ← e])).1
/-- an item that lies in no block of K, nor do its attributes -/
def FarIt (K : Nat → Prop) (w : World) (b o : Nat) : Prop := ¬ K b ∧ ∀ a n c, w.cell? ⟨b, o + 4, none⟩ = some (.slice a n c) → ∀ x, a = some x → n ≠ 0 → ¬ K x.block
def FarIts (K : Nat → Prop) (w : World) (a : Option Addr) (n : Nat) : Prop := ∀ b o, a = some ⟨b, o, none⟩ → ∀ i, i < n → FarIt K w b (o + i * 5)
theorem ItAt.onlyK {K : Nat → Prop} {w w' : World} {b o : Nat} {x : It} (h : ItAt w b o x) (ho : Only K w w') (hf : FarIt K w b o) : ItAt w' b o x := by
  obtain ⟨a, n, c, h4, hat⟩ := h.c4
  have hk := hf.1
  exact ⟨Nat.lt_of_lt_of_le h.lt ho.size, h.wf, h.size, (ho.cell (p := ⟨b, o, none⟩) h.lt hk).trans h.c0, (ho.cell (p := ⟨b, o + 1, none⟩) h.lt hk).trans h.c1, (ho.cell (p := ⟨b, o + 2, none⟩) h.lt hk).trans h.c2, (ho.cell (p := ⟨b, o + 3, none⟩) h.lt hk).trans h.c3, a, n, c, (ho.cell (p := ⟨b, o + 4, none⟩) h.lt hk).trans h4, hat.only ho (hf.2 a n c h4)⟩

/-- the row of numbers, the book, and what has been written, on the way -/
structure NumSt (K : Nat → Prop) (w0 w wr : World) (b m : Nat) (g gr : Option Nat) (o : List ByteArray) (v : Value) (nn : Nat) (ns : List Int) : Prop where
  row : wr.ownsRow w.heap.size 2 1 v nn (ns.map (Value.int .i64))
  apart : Apart v b m gr
  book : BookAt K w0 wr b m gr o
  new : NewG w g gr
  only : Only (BookP b m g) w wr
theorem NumSt.below {K : Nat → Prop} {w0 w wr w' : World} {b m : Nat} {g gr : Option Nat} {o : List ByteArray} {v : Value} {nn : Nat} {ns : List Int} (h : NumSt K w0 w wr b m g gr o v nn ns) (hb : Below wr.heap.size wr w') : NumSt K w0 w w' b m g gr o v nn ns :=
  ⟨owns_below h.row hb, h.apart, h.book.keep hb, h.new, h.only.trans (Only.below hb)⟩
/-- behind a step of the book -/
theorem NumSt.placed {K : Nat → Prop} {w0 w wr w' : World} {b m : Nat} {g gr g' : Option Nat} {o o' : List ByteArray} {v : Value} {nn : Nat} {ns : List Int} (h : NumSt K w0 w wr b m g gr o v nn ns) (hb : BookAt K w0 w' b m g' o') (hn : NewG wr gr g') (ho : Only (BookP b m gr) wr w') : NumSt K w0 w w' b m g g' o' v nn ns :=
  ⟨rowOnly h.row ho h.apart, h.apart.newG hn (fun k hk => (h.row.lt k hk).2), hb, h.new.trans h.only.size hn, h.only.then h.new ho⟩
/-- behind an append -/
theorem NumSt.put {K : Nat → Prop} {w0 w wr w' : World} {b m : Nat} {g gr : Option Nat} {o : List ByteArray} {v v' : Value} {nn k : Nat} {ns xs : List Int} (h : NumSt K w0 w wr b m g gr o v nn ns) (hw : w0.heap.size ≤ w.heap.size) (hr : w'.ownsRow w.heap.size 2 1 v' (nn + k) (ns.map (Value.int .i64) ++ xs.map (Value.int .i64))) (hg : wr.grownBy w' v.ownBlock) (hat : v'.ownBlock = v.ownBlock ∨ v'.ownBlock = some wr.heap.size) : NumSt K w0 w w' b m g gr o v' (nn + k) (ns ++ xs) :=
  ⟨by rw [List.map_append]; exact hr, h.apart.grown (fun i hi => h.book.notNew hi) hat, h.book.far hg h.apart (fun k hk => Nat.le_trans hw (h.row.lt k hk).1), h.new, h.only.far hg (fun k hk => (h.row.lt k hk).1)⟩

set_option maxRecDepth 100000 in
set_option maxHeartbeats 6400000 in
theorem numbersOf_any (K : Nat → Prop) (w0 : World) (b m : Nat) (g : Option Nat) (a : Option Addr) (n c : Nat) (l : List It) (w : World) (h : BookAt K w0 w b m g []) (hl : ItsAt w0 a n c l) (hfar : FarIts K w0 a n) (h40 : n ≤ 40) (hf : FewAts l) :
    Calls Tryz.prog 37 #[.pointer (some ⟨b, 0, none⟩), .slice a n c] w (NumsRes K w0 w b m g (strsOf l) (numIts (strsOf l) l)) := by
  obtain ⟨i0, hi, hz0, hz1, hz2⟩ := info_parts numInfo
  unfold NumsRes
  have KP := Lib.hid (fun (g : Option Nat) (ts : List ByteArray) (t : ByteArray) (W : World) (h : BookAt K w0 W b m g ts) (hl : ts.length ≤ 100000) (ht : t.size ≤ 9223372036854775807) => placeOf_any K w0 b m g ts t W h hl ht)
  unfold PlaceRes at KP
  have HI := Lib.hid hl
  have HLN := Lib.hid hl.len
  have HFW := Lib.hid hf
  have HB := Lib.hid h
  have hw0 := h.on.size
  have HFAR := Lib.hid hfar
  have hlit := Lib.hid (lit_owns w 2 .i64 [(n : Int)] 1 (by simp) (by decide))
  generalize hF : strsOf l = F
  have HF := Lib.hid hF
  clear h hl hf hF hfar
  go_enter Tryz.func37, Tryz.ntmps37
  go_wp2
  go_loopw [5, 14] (fun v i wr => ∃ (k nn : Nat) (x : Option Addr) (q : Nat) (gr : Option Nat) (ok : List ByteArray) (ns : List Int), i = .int .i64 k ∧ k ≤ n ∧ v = .slice x nn q ∧ nn ≤ 1 + 20 * k ∧ ok.length ≤ 12 * k ∧ Hid (ok = strsOf (l.take k) ∧ ns = (n : Int) :: (l.take k).flatMap (numIt F)) ∧ NumSt K w0 w wr b m g gr ok (.slice x nn q) nn ns) (fun _ i _ => n - (intOf i).toNat)
  case atStart => exact ⟨0, 1, _, _, g, [], [(n : Int)], rfl, Nat.zero_le _, rfl, by omega, by simp, Lib.hid ⟨rfl, rfl⟩, ⟨hlit.out, fun k hk => HB.out.notNew (by simp [Value.ownBlock] at hk; omega), HB.out.keep (below1 w _), NewG.same _ _, Only.below (below1 w _)⟩⟩
  case round =>
    obtain ⟨k, nn, x, q, gr, ok, ns, rfl, hk, rfl, hnn, hol, HE, hst⟩ := hrel
    have HST := Lib.hid hst
    clear hst
    by_cases hlt : k < n
    · obtain ⟨bi, of, rfl, hc⟩ := HI.out.row.resolve_left (by omega)
      have hit := hc k hlt
      have hs := strsOf_succ l k (by rw [HLN.out]; exact hlt)
      have hns := numIts_succ F l k (by rw [HLN.out]; exact hlt)
      have hex := Ext.its_take l (k + 1)
      rw [hs, ← HE.out.1, HF.out] at hex
      have HSUC : Hid (strsIt ok (l.getD k dIt) = strsOf (l.take (k + 1))) := Lib.hid (by rw [hs, ← HE.out.1])
      have hfew := HFW.out k (by rw [HLN.out]; exact hlt)
      have hle := strsIt_length ok (l.getD k dIt) hfew
      generalize l.getD k dIt = y at hit hns hex HSUC hfew hle
      have hfi := HFAR.out _ _ rfl k hlt
      have hitr := hit.onlyK HST.out.book.on hfi
      have HFI := Lib.hid hfi
      have HNS : Hid ((n : Int) :: (l.take (k + 1)).flatMap (numIt F) = ns ++ numIt F y) := Lib.hid (by rw [hns, HE.out.2]; rfl)
      have hlt0 := hit.lt
      have k7 : (k : Int) < (n : Int) := by omega
      have d0 := hitr.c0
      have HIT := Lib.hid hit
      have HX := Lib.hid hex
      have HLE := Lib.hid hle
      clear hc hs hns hex hitr hit hle hfi
      go_wp2_with (at_builtin; refine wpList_append_own_at _ rfl _ _ 58 rfl w.heap.size 2 i0 (.int .i64 0) 1 8 Tryz.underlying58 hi hz0 hz1 hz2 rfl (by decide) _ nn _ rfl (HST.out.row.alloc _) ⟨wr.heap.size, 0, none⟩ 1 1 (List.map (Value.int .i64) [y.depth]) rfl rfl ?c1 ?c2 ?c3 ?c4 ?c5 ?_)
      case c1 => exact numCell wr y.depth
      case c2 => exact ints_one _ _
      case c3 => unfold maxLen; omega
      case c4 => omega
      case c5 => have := HST.out.only.size; simp; omega
      intro v' w1 hown' hgr _ hat
      obtain ⟨a1, c1, rfl⟩ := owns_slice hown'
      have H1 := Lib.hid ((HST.out.below (below1 wr (.cells #[.int .i64 y.depth] 2))).put (k := 1) (xs := [y.depth]) hw0 hown' hgr (by simpa using hat))
      have hI1 := HIT.out.onlyK H1.out.book.on HFI.out
      have K1T := Lib.hid (fun (ht : y.name.toList.isEmpty = true) => partOf_text bi (of + k * 5) y w1 hI1 ht)
      have K1E := Lib.hid (fun (ht : y.name.toList.isEmpty = false) => partOf_elem bi (of + k * 5) y w1 hI1 ht)
      have e1 := hI1.c1
      have e2 := hI1.c2
      have e3 := hI1.c3
      obtain ⟨a4, n4, c4, q4, hat4⟩ := HIT.out.c4
      have HAT4 := Lib.hid hat4
      have Q4 := Lib.hid q4
      have hsz := HIT.out.size
      have hnb : ∀ (g' : Option Nat) (o' : List ByteArray) (W : World), BookAt K w0 W b m g' o' → ¬ BookP b m g' bi := fun _ _ _ hb hp => by rcases BookP.inK hb hp with h1 | h1; exact HFI.out.1 h1; omega
      have HNB := Lib.hid hnb
      have hltw : bi < w1.heap.size := Nat.lt_of_lt_of_le hlt0 H1.out.book.on.size
      clear hown' hgr hat d0 hI1 hat4 q4 hnb
      obtain ⟨yd, yt, ys, yn, ya⟩ := y
      dsimp only at *
      cases he : yn.toList.isEmpty
      · have K1 := Lib.hid (K1E.out he)
        have hsE := strsIt_elem (o := ok) (x := ⟨yd, yt, ys, yn, ya⟩) he
        have HYN := Lib.hid (numIt_elem (F := F) (x := ⟨yd, yt, ys, yn, ya⟩) he)
        dsimp only at hsE
        have hx := HX.out
        rw [hsE] at hx
        have hx2 := (Ext.ats ya (addT (addT ok ys) yn)).trans hx
        have HP1 := Lib.hid (Ext.place ((Ext.add _ yn).trans hx2))
        have HP2 := Lib.hid hx2.place
        have HX3 := Lib.hid hx
        have HLE2 := Lib.hid (show (strsAts (addT (addT ok ys) yn) ya).length ≤ ok.length + 12 by rw [← hsE]; exact HLE.out)
        have HSUC2 := Lib.hid (show strsAts (addT (addT ok ys) yn) ya = strsOf (l.take (k + 1)) by rw [← hsE]; exact HSUC.out)
        have hal1 := addT_length ok ys
        have hal2 := addT_length (addT ok ys) yn
        have hm := isText_no
        have hm2 := isElem_yes
        clear hsE hx hx2 K1E K1T e1
        go_wp2_with fail
        refine K1.out.mono ?_
        rintro e w2 ⟨rfl, rfl⟩
        go_wp2
        have hlw : w2.heap.size < (w2.alloc (.cells #[.pointer (some ⟨bi, of + k * 5, none⟩)] 96)).drew.heap.size := by simp
        have H2 := Lib.hid ((H1.out.below (below1 w2 (.cells #[.pointer (some ⟨bi, of + k * 5, none⟩)] 96))).below ((Below.refl _ _).drew))
        have HNP := Lib.hid (H1.out.book.notNew (Nat.le_refl _))
        have HNI := Lib.hid (HNB.out _ _ _ H1.out.book)
        have hS4 : (w2.alloc (.cells #[.pointer (some ⟨bi, of + k * 5, none⟩)] 96)).drew.cell? ⟨w2.heap.size, 0, none⟩ = some (.pointer (some ⟨bi, of + k * 5, none⟩)) ∧ (w2.alloc (.cells #[.pointer (some ⟨bi, of + k * 5, none⟩)] 96)).drew.cell? ⟨bi, of + k * 5 + 2, none⟩ = some (.string ys) ∧ (w2.alloc (.cells #[.pointer (some ⟨bi, of + k * 5, none⟩)] 96)).drew.cell? ⟨bi, of + k * 5 + 3, none⟩ = some (.string yn) :=
          ⟨by simp, ((below1 w2 _).cell (p := ⟨bi, of + k * 5 + 2, none⟩) hltw).trans e2, ((below1 w2 _).cell (p := ⟨bi, of + k * 5 + 3, none⟩) hltw).trans e3⟩
        have HNR : Hid (some w2.heap.size ≠ (Value.slice a1 (nn + 1) c1).ownBlock ∧ some bi ≠ (Value.slice a1 (nn + 1) c1).ownBlock) := Lib.hid ⟨fun e => by have := (H1.out.row.lt _ e.symm).2; omega, fun e => by have := (H1.out.row.lt _ e.symm).1; omega⟩
        have hws : w.heap.size ≤ w2.heap.size := H1.out.only.size
        first | (go_region_held3 (fun W => W.cell? ⟨w2.heap.size, 0, none⟩ = some (.pointer (some ⟨bi, of + k * 5, none⟩)) ∧ W.cell? ⟨bi, of + k * 5 + 2, none⟩ = some (.string ys) ∧ W.cell? ⟨bi, of + k * 5 + 3, none⟩ = some (.string yn)) (first | assumption | exact three_alloc (by assumption))
          (first
            | (go_at_call 61; (with_reducible refine (KP.out gr ok ys _ H2.out.book (by omega) hsz.2.1).mono ?_); rintro e w5 ⟨rfl, g5, hb5, hn5, ho5⟩; have hS5 := three_only ho5 HNP.out HNI.out HNI.out hS4; have H5 := Lib.hid (H2.out.placed hb5 hn5 ho5))
            | (go_at_call 61; (with_reducible refine (KP.out _ (addT ok ys) yn _ H5.out.book ?_ hsz.2.2).mono ?_); omega; rintro e w6 ⟨rfl, g6, hb6, hn6, ho6⟩; have hS6 := three_only ho6 (hn5.notP hlw HNP.out) (HNB.out _ _ _ hb5) (HNB.out _ _ _ hb5) hS5; have H6 := Lib.hid (H5.out.placed hb6 hn6 ho6); have HR6 := Lib.hid H6.out.row)
            | (refine step_own_at (by rfl) _ _ 58 rfl 2 i0 (.int .i64 0) 1 8 Tryz.underlying58 hi hz0 hz1 hz2 rfl (by decide) w.heap.size _ (nn + 1) _ (by rfl) (HR6.out.alloc _) ⟨w6.heap.size, 0, none⟩ 3 3 (List.map (Value.int .i64) [1, hasIx (addT ok ys) ys, hasIx (addT (addT ok ys) yn) yn]) (by rfl) rfl (cells3 w6 _ _ _ _) (ints_one _ _) (by unfold maxLen; omega) (by omega) (by have := H6.out.only.size; simp; omega) ?_; intro v' w7 hown' hgr hat; obtain ⟨a3, c3, rfl⟩ := owns_slice hown'; have hS7 := And.intro (hgr.cell (three_alloc hS6).1 HNR.out.1) (And.intro (hgr.cell (three_alloc hS6).2.1 HNR.out.2) (hgr.cell (three_alloc hS6).2.2 HNR.out.2))))) | fail "NOHELD"
        have H7 := Lib.hid ((H6.out.below (below1 w6 (.cells #[.int .i64 1, .int .i64 (hasIx (addT ok ys) ys), .int .i64 (hasIx (addT (addT ok ys) yn) yn)] 2))).put (k := 3) (xs := [1, hasIx (addT ok ys) ys, hasIx (addT (addT ok ys) yn) yn]) hw0 hown' hgr (by simpa using hat))
        have y0 := hS7.1
        have y4 := (H7.out.book.on.cell (p := ⟨bi, of + k * 5 + 4, none⟩) hlt0 HFI.out.1).trans Q4.out
        have KA := Lib.hid (numbersOfAttrs_any K w0 b m g6 (addT (addT ok ys) yn) F a4 n4 c4 ya w7 H7.out.book HAT4.out (HFI.out.2 _ _ _ Q4.out) (by have := HAT4.out.len; omega) (by omega) HX3.out)
        unfold NumsRes at KA
        have hla : (numAts F ya).length = 1 + 2 * ya.length := by unfold numAts; rw [List.length_cons, numAt_len]; omega
        generalize numAts F ya = nA at KA hla HYN
        have hfw := hfew
        clear hb5 hn5 ho5 hb6 hn6 ho6 hown' hgr hat hS4 hS5 hS6 hS7 e2 e3
        go_wp2_with fail
        refine KA.out.mono ?_
        rintro e w8 ⟨a8, n8, c8, g8, rfl, hr8, ha8, hb8, hn8, ho8⟩
        have hl8 := owns_length hr8
        obtain ⟨gg, rfl⟩ := owns_some hr8 (by omega)
        have H8 := Lib.hid (H7.out.placed hb8 hn8 ho8)
        have HR8 := Lib.hid hr8
        have hn9 : n8 ≤ 11 := by omega
        have HL8 := Lib.hid hl8
        clear hr8 ha8 hb8 hn8 ho8 hl8 hla
        go_wp2_with (at_builtin; refine wpList_append_own_at _ rfl _ _ 58 rfl w.heap.size 2 i0 (.int .i64 0) 1 8 Tryz.underlying58 hi hz0 hz1 hz2 rfl (by decide) _ (nn + 1 + 3) _ rfl H8.out.row ⟨gg, 0, none⟩ n8 c8 (List.map (Value.int .i64) nA) rfl ?c0 ?c1 ?c2 ?c3 ?c4 ?c5 ?_)
        case c0 => simp [HL8.out]
        case c1 => exact owns_cells HR8.out
        case c2 => exact ints_one _ _
        case c3 => unfold maxLen; omega
        case c4 => omega
        case c5 => exact H8.out.only.size
        intro v' w9 hown' hgr _ hat
        obtain ⟨a9, c9, rfl⟩ := owns_slice hown'
        have H9 := Lib.hid (H8.out.put (k := n8) (xs := nA) hw0 (by simpa using hown') hgr hat)
        have HNS2 : Hid (strsAts (addT (addT ok ys) yn) ya = strsOf (l.take (k + 1)) ∧ ns ++ [yd] ++ [1, hasIx (addT ok ys) ys, hasIx (addT (addT ok ys) yn) yn] ++ nA = (n : Int) :: (l.take (k + 1)).flatMap (numIt F)) := Lib.hid ⟨HSUC2.out, by rw [HNS.out, HYN.out, ← HP1.out, ← HP2.out]; simp⟩
        have hl2 : (strsAts (addT (addT ok ys) yn) ya).length ≤ 12 * (k + 1) := by have := HLE2.out; omega
        clear hown' hgr hat
        go_wp2
        go_roundw
        case rel => exact ⟨k + 1, nn + 1 + 3 + n8, a9, c9, g8, _, _, by go_num, by omega, rfl, by omega, hl2, HNS2, H9.out⟩
        case measure => simp [intOf]; omega
      · have K1 := Lib.hid (K1T.out he)
        have hsE := strsIt_text (o := ok) (x := ⟨yd, yt, ys, yn, ya⟩) he
        have HYN := Lib.hid (numIt_text (F := F) (x := ⟨yd, yt, ys, yn, ya⟩) he)
        dsimp only at hsE
        have hx := HX.out
        rw [hsE] at hx
        have HP1 := Lib.hid hx.place
        have HLE2 := Lib.hid (show (addT ok yt).length ≤ ok.length + 12 by rw [← hsE]; exact HLE.out)
        have HSUC2 := Lib.hid (show addT ok yt = strsOf (l.take (k + 1)) by rw [← hsE]; exact HSUC.out)
        have hm := isText_yes
        clear hsE hx K1E K1T e2 e3
        go_wp2_with fail
        refine K1.out.mono ?_
        rintro e w2 ⟨rfl, rfl⟩
        have H2 := Lib.hid (H1.out.below (below1 w2 (.cells #[.pointer (some ⟨bi, of + k * 5, none⟩)] 95)))
        have KP2 := Lib.hid (KP.out gr ok yt _ H2.out.book (by omega) hsz.1)
        go_wp2_with fail
        refine KP2.out.mono ?_
        rintro e w3 ⟨rfl, g3, hb3, hn3, ho3⟩
        have H3 := Lib.hid (H2.out.placed hb3 hn3 ho3)
        clear hb3 hn3 ho3
        generalize hix : hasIx (addT ok yt) yt = ix
        have HIX := Lib.hid hix
        clear hix
        go_wp2_with (at_builtin; refine wpList_append_own_at _ rfl _ _ 58 rfl w.heap.size 2 i0 (.int .i64 0) 1 8 Tryz.underlying58 hi hz0 hz1 hz2 rfl (by decide) _ (nn + 1) _ rfl (H3.out.row.alloc _) ⟨w3.heap.size, 0, none⟩ 2 2 (List.map (Value.int .i64) [0, ix]) rfl rfl ?c1 ?c2 ?c3 ?c4 ?c5 ?_)
        case c1 => exact cells2 w3 _ _ _
        case c2 => exact ints_one _ _
        case c3 => unfold maxLen; omega
        case c4 => omega
        case c5 => have := H3.out.only.size; simp; omega
        intro v' w4 hown' hgr _ hat
        obtain ⟨a5, c5, rfl⟩ := owns_slice hown'
        have H4 := Lib.hid ((H3.out.below (below1 w3 (.cells #[.int .i64 0, .int .i64 ix] 2))).put (k := 2) (xs := [0, ix]) hw0 (by simpa using hown') hgr (by simpa using hat))
        have HNS2 : Hid (addT ok yt = strsOf (l.take (k + 1)) ∧ ns ++ [yd] ++ [0, ix] = (n : Int) :: (l.take (k + 1)).flatMap (numIt F)) := Lib.hid ⟨HSUC2.out, by rw [HNS.out, HYN.out, ← HIX.out, HP1.out]; simp⟩
        have hl2 : (addT ok yt).length ≤ 12 * (k + 1) := by have := HLE2.out; omega
        clear hown' hgr hat
        go_wp2
        go_roundw
        case rel => exact ⟨k + 1, nn + 1 + 2, a5, c5, g3, addT ok yt, _, by go_num, by omega, rfl, by omega, hl2, HNS2, H4.out⟩
        case measure => simp [intOf]; omega
    · obtain rfl : k = n := by omega
      have h1 := HE.out.1
      have h2 := HE.out.2
      rw [show l.take k = l by rw [← HLN.out, List.take_length]] at h1 h2
      have H1 := Lib.hid h1
      have H2 := Lib.hid h2
      clear h1 h2
      go_wp2
      go_ret
      refine ⟨x, nn, q, gr, rfl, ?_, HST.out.apart, by rw [← HF.out, ← H1.out]; exact HST.out.book, HST.out.new, HST.out.only⟩
      unfold numIts
      rw [HLN.out, ← H2.out]
      exact HST.out.row
end Go.Proofs.YtbfjhjkllaceaaaGreatDoor

/- A captured variable's box that holds a row of bytes. -/
namespace Go.Proofs.YtbfjhjkllaceaaaGreatDoor
open Go.ChangeShapes Go.WideShapes Go.ChangeAt Go.RowKit
set_option linter.unusedVariables false

/-- a variable's box that holds a row of bytes -/
def Sink (w : World) (B b : Nat) (xs : List Int) : Prop :=
  ∃ a n c, Boxed w b 22 (.slice a n c) ∧ w.ownsRow B 5 1 (.slice a n c) n (xs.map (Value.int .u8))
/-- a byte was put into it -/
def Put1 (w : World) (B b : Nat) (xs : List Int) (x : Int) (e : Ending) (w' : World) : Prop :=
  e = .returned (.tuple #[]) ∧ Sink w' B b (xs ++ [x]) ∧ Below B w w'

/-- bytes were put into it -/
def PutAll (w : World) (B b : Nat) (xs ys : List Int) (e : Ending) (w' : World) : Prop :=
  e = .returned (.tuple #[]) ∧ Sink w' B b (xs ++ ys) ∧ Below B w w'
end Go.Proofs.YtbfjhjkllaceaaaGreatDoor

/- What the program's writer of frames puts. -/
namespace Go.Proofs.YtbfjhjkllaceaaaGreatDoor
open Go.ChangeShapes Go.WideShapes Go.ChangeAt Go.RowKit
set_option linter.unusedVariables false

set_option maxHeartbeats 800000 in
theorem packPush (w : World) (B b : Nat) (x : Int) (xs : List Int) (h : Sink w B b xs) (hB : B ≤ b) (hl : xs.length ≤ 100000) :
    Calls Tryz.prog 50 #[.int .u8 x, .pointer (some ⟨b, 0, none⟩)] w (Put1 w B b xs x) := by
  obtain ⟨i0, hi, hz0, hz1, hz2⟩ := info_parts varInfo
  obtain ⟨a, n, c, hv, ho⟩ := h
  have hn := owns_length ho
  have hln : n ≤ 100000 := by omega
  have HN := Lib.hid hn
  have HV := Lib.hid hv
  have hc := hv.cell
  have hf := hv.frozen
  have hlt := hv.lt
  clear hn hl hv
  go_enter Tryz.func50, Tryz.ntmps50
  go_wp2_with (at_builtin; refine wpList_append_own _ rfl _ _ 22 rfl B 5 i0 (.int .u8 0) 1 1 Tryz.underlying22 hi hz0 hz1 hz2 rfl (by decide) _ _ _ rfl (ho.alloc _) ⟨w.heap.size, 0, none⟩ 1 1 [.int .u8 x] rfl rfl ?c1 ?c2 ?c3 ?c4 ?c5 ?_)
  case c1 =>
    intro j v hj
    match j, hj with
    | 0, hj => simp at hj; subst hj; simp [Addr.add]
  case c2 => intro v hv; simp at hv; subst hv; rfl
  case c3 => unfold maxLen; omega
  case c4 => omega
  case c5 => simp; omega
  intro v' w2 hown' hgrow _
  obtain ⟨a2, c2, rfl⟩ := owns_slice hown'
  obtain ⟨b1, b2, b3, b4, b5⟩ := HV.out.appended (by decide) ho (by omega) hB hown' hgrow
  have hc2 := b1.cell
  have hf2 := b1.frozen
  have H2 := Lib.hid b2
  have H3 := Lib.hid b3
  have H5 := Lib.hid b5
  clear b1 b2 b3 b4 b5 hown' hgrow hc hf
  go_wp2
  go_end0
  exact ⟨rfl, ⟨a2, _, c2, H2.out, by rw [List.map_append]; exact H3.out⟩, H5.out⟩

set_option maxRecDepth 100000 in
set_option maxHeartbeats 1600000 in
theorem packEach (w : World) (B b N : Nat) (xs : List Int) (h : Sink w B b xs) (hB : B ≤ b) (hN : N ≤ 9223372036854775807) (hl : xs.length ≤ 90000) :
    Calls Tryz.prog 51 #[.int .i64 N, .func (.func 50) #[] #[.pointer (some ⟨b, 0, none⟩)]] w (PutAll w B b xs (vput N)) := by
  have h9 := vput_len9 N hN
  have HS0 := Lib.hid h
  have HN := Lib.hid hN
  clear h hN
  go_enter Tryz.func51, Tryz.ntmps51
  go_wp2
  go_loopw [0] (fun q wr => ∃ (m : Nat) (zs : List Int), q = .int .i64 m ∧ m ≤ N ∧ zs ++ vput m = vput N ∧ Sink wr B b (xs ++ zs) ∧ Below B w wr) (fun q _ => (intOf q).toNat)
  case atStart => exact ⟨N, [], rfl, Nat.le_refl _, rfl, by rw [List.append_nil]; exact HS0.out, Below.refl _ _⟩
  case round =>
    obtain ⟨m, zs, rfl, hm, hz, hs, hb⟩ := hrel
    have hzl : zs.length ≤ 9 := by have := congrArg List.length hz; simp at this; omega
    have HZ := Lib.hid hz
    have HS := Lib.hid hs
    have HB := Lib.hid hb
    have HL : Hid ((xs ++ zs).length ≤ 100000) := Lib.hid (by simp; omega)
    clear hz hs hb
    by_cases h128 : m < 128
    · have K := Lib.hid (packPush wr B b (m : Int) _ HS.out hB HL.out)
      go_wp2_with fail
      refine K.out.mono ?_
      rintro e w1 ⟨rfl, hs1, hb1⟩
      have H1 := Lib.hid hs1
      have H2 := Lib.hid hb1
      clear hs1 hb1
      go_wp2
      go_end0
      exact ⟨rfl, by rw [← vput_last HZ.out h128, ← List.append_assoc]; exact H1.out, HB.out.trans H2.out⟩
    · have K := Lib.hid (packPush wr B b (128 + (m : Int) % 128) _ HS.out hB HL.out)
      have q1 : 0 ≤ (m : Int) % 128 := by omega
      have q2 : (m : Int) % 128 < 128 := by omega
      have q3 : (m : Int) / 128 ≤ 72057594037927936 := by have := HN.out; omega
      have q4 : 0 ≤ (m : Int) / 128 := by omega
      go_wp2_with fail
      refine K.out.mono ?_
      rintro e w1 ⟨rfl, hs1, hb1⟩
      have H1 := Lib.hid hs1
      have H2 := Lib.hid hb1
      clear hs1 hb1
      go_wp2
      go_roundw
      case rel => exact ⟨m / 128, zs ++ [128 + (m : Int) % 128], vint (by omega), by omega, vput_step HZ.out h128, by rw [← List.append_assoc]; exact H1.out, HB.out.trans H2.out⟩
      case measure => simp [intOf]; omega


theorem bytesI_take (s : ByteArray) (k : Nat) (h : k < s.size) : bytesI (s.data.toList.take (k + 1)) = bytesI (s.data.toList.take k) ++ [(s[k].toNat : Int)] := by
  unfold bytesI
  rw [List.take_succ_eq_append_getElem (by simpa using h), List.map_append]
  rfl

set_option maxRecDepth 100000 in
set_option maxHeartbeats 1600000 in
theorem packStr (w : World) (B b : Nat) (s : ByteArray) (xs : List Int) (h : Sink w B b xs) (hB : B ≤ b) (hs : s.size ≤ 60) (hx : xs.length ≤ 80000) :
    Calls Tryz.prog 52 #[.string s, .func (.func 50) #[] #[.pointer (some ⟨b, 0, none⟩)]] w (PutAll w B b xs (strB s)) := by
  have h9 := vput_len9 s.size (by omega)
  have K0 := Lib.hid (packEach w B b s.size xs h hB (by omega) (by omega))
  unfold PutAll at K0 ⊢
  unfold strB
  clear h
  go_enter Tryz.func52, Tryz.ntmps52
  go_wp2_with fail
  refine K0.out.mono ?_
  rintro e w1 ⟨rfl, hs1, hb1⟩
  have H1 := Lib.hid hs1
  have B1 := Lib.hid hb1
  clear hs1 hb1
  go_wp2
  go_loopw [11] (fun i wr => ∃ k : Nat, k ≤ s.size ∧ i = .int .i64 k ∧ Sink wr B b (xs ++ vput s.size ++ bytesI (s.data.toList.take k)) ∧ Below B w wr) (fun i _ => s.size - (intOf i).toNat)
  case atStart => exact ⟨0, Nat.zero_le _, rfl, by have := H1.out; simpa [bytesI] using this, B1.out⟩
  case round =>
    obtain ⟨k, hk, rfl, hsk, hbk⟩ := hrel
    have HS := Lib.hid hsk
    have HB := Lib.hid hbk
    clear hsk hbk
    by_cases hlt : k < s.size
    · have KP := Lib.hid (fun (x : Int) => packPush wr B b x _ HS.out hB (by have h2 : (bytesI (s.data.toList.take k)).length ≤ k := by { unfold bytesI; simp; omega }; simp; omega))
      have HT := Lib.hid (bytesI_take s k hlt)
      have q0 : (0 : Int) ≤ (s[k].toNat : Int) := by omega
      have q1 : (s[k].toNat : Int) ≤ 255 := by have := s[k].toNat_lt; omega
      go_wp2_with fail
      refine (KP.out _).mono ?_
      rintro e w2 ⟨rfl, hs2, hb2⟩
      have H2 := Lib.hid hs2
      have B2 := Lib.hid (HB.out.trans hb2)
      clear hs2 hb2
      go_wp2
      go_roundw
      case rel => exact ⟨k + 1, by omega, by go_num, by rw [HT.out, ← List.append_assoc]; exact H2.out, B2.out⟩
      case measure => simp [intOf]; omega
    · obtain rfl : k = s.size := by omega
      go_wp2
      go_end0
      exact ⟨rfl, by have := HS.out; rw [take_size] at this; simpa using this, HB.out⟩
end Go.Proofs.YtbfjhjkllaceaaaGreatDoor
