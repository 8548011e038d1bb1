/- impl.attrsFault. -/
import Derived.Test.YtppgdbejbhhjlaaGreatDoorGF4
import Derived.Test.YtppgdbejbhhjlaaGreatDoorGF36
import Derived.WalkLawsBesides
namespace Go.Proofs.YtppgdbejbhhjlaaGreatDoor
open Go.ChangeShapes Go.WideShapes Go.ChangeAt Go.RowKit
set_option linter.unusedVariables false

set_option maxRecDepth 100000 in
set_option maxHeartbeats 1600000 in
theorem implAttrs_any (a : Option Addr) (n c : Nat) (l : List At) (w : World) (hT : Tabs w) (h : AtsAt w a n c l) :
    Calls Tryz.prog 355 #[.slice a n c] w fun e w' => e = .returned (.int .i64 (attrsCode l)) ∧ Below w.heap.size w w' := by
  have hm := h.max
  have HR := Lib.hid h.row
  have HL := Lib.hid h.len
  have HT := Lib.hid hT
  have HZ := Lib.hid h.size
  by_cases h5 : 5 < n
  · have HC := Lib.hid (attrsCode_many (l := l) (by have := h.len; omega))
    clear h hT
    generalize attrsCode l = cd at HC
    go_enter Tryz.func355, Tryz.ntmps355
    go_wp2
    go_ret
    exact ⟨ret_i HC.out.symm, Below.refl _ _⟩
  · have HC1 : Hid (∀ k, k < n → (∀ j, j < k → atFault (l.getD j dAt) = 0) → atFault (l.getD k dAt) ≠ 0 → attrsCode l = atFault (l.getD k dAt)) := Lib.hid fun k hk h0 h1 => attrsCode_at (by have := h.len; omega) (by have := h.len; omega) h0 h1
    have HC2 : Hid ((∀ j, j < n → atFault (l.getD j dAt) = 0) → attrsCode l = if rises l = true then 0 else 6) := Lib.hid fun h0 => attrsCode_end (by have := h.len; omega) (fun j hj => h0 j (by have := h.len; omega))
    clear h hT
    generalize attrsCode l = cd at HC1 HC2
    go_enter Tryz.func355, Tryz.ntmps355
    go_wp2
    go_loopw [12] (fun i wr => ∃ k : Nat, k ≤ n ∧ i = .int .i64 k ∧ (∀ j, j < k → atFault (l.getD j dAt) = 0) ∧ Below w.heap.size w wr) (fun i _ => n - (intOf i).toNat)
    case atStart => exact ⟨0, Nat.zero_le _, rfl, fun j hj => by omega, Below.refl _ _⟩
    case round =>
      obtain ⟨k, hk, rfl, hz, hb⟩ := hrel
      have HK := Lib.hid hz
      clear hz
      by_cases hlt : k < n
      · rcases HR.out with e0 | ⟨b, o, rfl, h3, h4⟩
        · omega
        have d0 := (hb.cell (p := ⟨b, o + k * 2, none⟩) h3).trans (h4 k hlt).1
        have d1 := (hb.cell (p := ⟨b, o + k * 2 + 1, none⟩) h3).trans (h4 k hlt).2
        have HX := Lib.hid (HZ.out k)
        have HY : Hid (atFault (l.getD k dAt) ≠ 0 → cd = atFault (l.getD k dAt)) := Lib.hid (HC1.out k hlt HK.out)
        have HK2 : Hid (atFault (l.getD k dAt) = 0 → ∀ j, j < k + 1 → atFault (l.getD j dAt) = 0) := Lib.hid fun hx j hj => by
          rcases Nat.lt_or_ge j k with h | h
          · exact HK.out j h
          · obtain rfl : j = k := by omega
            exact hx
        have hbb := h3
        clear h4 h3
        generalize l.getD k dAt = x at d0 d1 HX HY HK2
        obtain ⟨s, t⟩ := x
        dsimp only at d0 d1
        have hsm : s.size ≤ 9223372036854775807 := HX.out.1
        have htm : t.size ≤ 9223372036854775807 := HX.out.2
        have HB := Lib.hid hb
        clear hb
        cases hkey : isKeyL s
        · have HKEY := Lib.hid hkey
          go_wp2_with fail
          refine (implIsKey_any s (by unfold maxLen; omega) _).mono ?_
          rintro e w1 ⟨rfl, hb1⟩
          go_wp2
          go_ret
          have e5 : atFault ⟨s, t⟩ = 5 := by unfold atFault; rw [show (⟨s, t⟩ : At).name = s from rfl, HKEY.out]; rfl
          exact ⟨ret_i (by rw [HY.out (by rw [e5]; decide), e5]), below_then HB.out (below_then (below1 _ _) hb1)⟩
        · have HKEY := Lib.hid hkey
          have ef : atFault ⟨s, t⟩ = textFault t.data.toList := by unfold atFault; rw [show (⟨s, t⟩ : At).name = s from rfl, hkey]; rfl
          rw [ef] at HY HK2
          have K := Lib.hid (fun W (hb' : Below w.heap.size w W) => implTextFault_any t (HX.out.2) W (tabs_kept HT.out hb'))
          generalize textFault t.data.toList = tf at HY HK2 K
          by_cases h0 : tf = 0
          · subst h0
            have HK3 := Lib.hid (HK2.out rfl)
            clear HK2 HY ef
            go_wp2_with fail
            refine (implIsKey_any s (by unfold maxLen; omega) _).mono ?_
            rintro e w1 ⟨rfl, hb1⟩
            obtain ⟨hc, hf⟩ := bcell hb1
            have hz := hb1.size
            simp at hz
            have HB1 := Lib.hid (below_then HB.out (below_then (below1 _ _) hb1))
            clear hb1
            go_wp2_with fail
            refine (K.out _ HB1.out).mono ?_
            rintro e w2 ⟨rfl, hb2⟩
            go_wp2
            go_roundw
            case rel => exact ⟨k + 1, by omega, by go_num, HK3.out, below_then HB1.out hb2⟩
            case measure => simp [intOf]; omega
          · have HY2 := Lib.hid (HY.out h0)
            have q1 : (tf != 0) = true := by simpa using h0
            have q2 : (tf == 0) = false := by simpa using h0
            clear HK2 HY ef h0
            go_wp2_with fail
            refine (implIsKey_any s (by unfold maxLen; omega) _).mono ?_
            rintro e w1 ⟨rfl, hb1⟩
            obtain ⟨hc, hf⟩ := bcell hb1
            have hz := hb1.size
            simp at hz
            have HB1 := Lib.hid (below_then HB.out (below_then (below1 _ _) hb1))
            clear hb1
            go_wp2_with fail
            refine (K.out _ HB1.out).mono ?_
            rintro e w2 ⟨rfl, hb2⟩
            go_wp2
            go_ret
            exact ⟨ret_i HY2.out.symm, below_then HB1.out hb2⟩
      · obtain rfl : k = n := by omega
        have HC3 := Lib.hid (HC2.out HK.out)
        clear HC1 HC2 HK
        go_wp2
        go_loopw [6] (fun i wx => ∃ k2 : Nat, 1 ≤ k2 ∧ (k2 ≤ k ∨ k2 = 1) ∧ i = .int .i64 k2 ∧ (∀ j, 1 ≤ j → j < k2 → lessAt (l.getD (j - 1) dAt) (l.getD j dAt) = true) ∧ Below w.heap.size w wx) (fun i _ => k - (intOf i).toNat)
        case atStart => exact ⟨1, Nat.le_refl _, .inr rfl, rfl, fun j h1 h2 => by omega, hb⟩
        case round =>
          obtain ⟨k2, hk1, hk2, rfl, hz2, hb2⟩ := hrel
          have HZ2 := Lib.hid hz2
          clear hz2
          by_cases hlt2 : k2 < k
          · rcases HR.out with e0 | ⟨b, o, rfl, h3, h4⟩
            · omega
            have d0 := (hb2.cell (p := ⟨b, o + k2 * 2, none⟩) h3).trans (h4 k2 hlt2).1
            have d1 := (hb2.cell (p := ⟨b, o + (k2 - 1) * 2, none⟩) h3).trans (h4 (k2 - 1) (by omega)).1
            have HN2 : Hid (lessAt (l.getD (k2 - 1) dAt) (l.getD k2 dAt) = false → cd = 6) := Lib.hid fun e => by
              rw [HC3.out, rises_no hk1 (by have := HL.out; omega) e]; rfl
            have HY2 : Hid (lessAt (l.getD (k2 - 1) dAt) (l.getD k2 dAt) = true → ∀ j, 1 ≤ j → j < k2 + 1 → lessAt (l.getD (j - 1) dAt) (l.getD j dAt) = true) := Lib.hid fun e j h1 h2 => by
              rcases Nat.lt_or_ge j k2 with h | h
              · exact HZ2.out j h1 h
              · obtain rfl : j = k2 := by omega
                exact e
            have q0 : (k2 : Int) < (k : Int) := by omega
            have q1 : (0 : Int) ≤ (k2 : Int) - 1 := by omega
            have q2 : (1 : Int) ≤ (k2 : Int) := by omega
            have q3 : (k2 : Int) - 1 < (k : Int) := by omega
            clear h4 h3
            generalize l.getD k2 dAt = x at d0 HN2 HY2
            generalize l.getD (k2 - 1) dAt = y at d1 HN2 HY2
            obtain ⟨s, t⟩ := x
            obtain ⟨s2, t2⟩ := y
            unfold lessAt at HN2 HY2
            dsimp only at d0 d1 HN2 HY2
            have HB2 := Lib.hid hb2
            clear hb2
            cases hless : Op.bytesLess s2.toList s.toList
            · have HF := Lib.hid (HN2.out hless)
              clear HN2 HY2
              go_wp2_with fail
              go_quiet (fail)
              go_wp2
              go_ret
              exact ⟨ret_i HF.out.symm, below_drewN HB2.out _⟩
            · have HF := Lib.hid (HY2.out hless)
              clear HN2 HY2
              go_wp2_with fail
              go_quiet (fail)
              go_wp2
              go_roundw
              case rel => exact ⟨k2 + 1, by omega, .inl (by omega), by go_num, HF.out, below_drewN HB2.out _⟩
              case measure => simp [intOf]; omega
          · have HF : Hid (cd = 0) := Lib.hid (by
              rw [HC3.out, rises_yes fun i h1 h2 => HZ2.out i h1 (by have := HL.out; omega)]; rfl)
            go_wp2
            go_ret
            exact ⟨ret_i HF.out.symm, hb2⟩

theorem partOf_text (b o : Nat) (x : It) (w : World) (h : ItAt w b o x) (hx : x.name.toList.isEmpty = true) :
    Calls Tryz.prog 63 #[.pointer (some ⟨b, o, none⟩)] w fun e w' => e = .returned (.iface 121 (.agg #[.pointer (some ⟨b, o, none⟩)])) ∧ w' = w := by
  have d3 := h.c3
  clear h
  go_enter Tryz.func63, Tryz.ntmps63
  go_wp2
  go_ret
  exact ⟨rfl, rfl⟩
theorem partOf_elem (b o : Nat) (x : It) (w : World) (h : ItAt w b o x) (hx : x.name.toList.isEmpty = false) :
    Calls Tryz.prog 63 #[.pointer (some ⟨b, o, none⟩)] w fun e w' => e = .returned (.iface 122 (.agg #[.pointer (some ⟨b, o, none⟩)])) ∧ w' = w := by
  have d3 := h.c3
  clear h
  go_enter Tryz.func63, Tryz.ntmps63
  go_wp2
  go_ret
  exact ⟨rfl, rfl⟩
end Go.Proofs.YtppgdbejbhhjlaaGreatDoor

/- the methods fault; impl.ItemFault. -/
namespace Go.Proofs.YtppgdbejbhhjlaaGreatDoor
open Go.ChangeShapes Go.WideShapes Go.ChangeAt Go.RowKit
set_option linter.unusedVariables false

set_option maxRecDepth 100000 in
set_option maxHeartbeats 1600000 in
theorem faultText_any (b o : Nat) (x : It) (w : World) (hT : Tabs w) (h : ItAt w b o x) :
    Calls Tryz.prog 351 #[.agg #[.pointer (some ⟨b, o, none⟩)]] w fun e w' => e = .returned (.int .i64 (textCode x)) ∧ Below w.heap.size w w' := by
  have d1 := h.c1
  have d2 := h.c2
  obtain ⟨a4, n, c4, d4, hat⟩ := h.c4
  have HL := Lib.hid hat.len
  have hm := hat.max
  have KT := Lib.hid (fun W (hb : Below w.heap.size w W) => implTextFault_any x.text (by unfold maxLen; have := h.size.1; omega) W (tabs_kept hT hb))
  have hlt := h.lt
  obtain ⟨cd, hcd⟩ : ∃ cd, textCode x = cd := ⟨_, rfl⟩
  rw [hcd]
  unfold textCode at hcd
  clear h hT hat
  obtain ⟨d, s, t, u, l⟩ := x
  dsimp only at d1 d2 HL KT hcd
  by_cases hbad : t.toList.isEmpty = false ∨ 0 < l.length ∨ s.toList.isEmpty = true
  · rw [if_pos hbad] at hcd
    have HC := Lib.hid hcd
    clear hcd
    cases ht : t.toList.isEmpty
    · clear hbad
      go_enter Tryz.func351, Tryz.ntmps351
      go_wp2
      go_ret
      exact ⟨ret_i HC.out, below1 _ _⟩
    · by_cases hl : 0 < l.length
      · have hn0 : 0 < n := by have := HL.out; omega
        clear hbad hl
        go_enter Tryz.func351, Tryz.ntmps351
        go_wp2
        go_ret
        exact ⟨ret_i HC.out, below1 _ _⟩
      · have hs : s.toList.isEmpty = true := by
          rcases hbad with h | h | h
          · rw [ht] at h; cases h
          · exact absurd h hl
          · exact h
        obtain rfl : n = 0 := by have := HL.out; omega
        clear hbad hl
        go_enter Tryz.func351, Tryz.ntmps351
        go_wp2
        go_ret
        exact ⟨ret_i HC.out, below1 _ _⟩
  · rw [if_neg hbad] at hcd
    have ht : t.toList.isEmpty = true := by
      cases hq : t.toList.isEmpty
      · exact absurd (.inl hq) hbad
      · rfl
    obtain rfl : n = 0 := by
      have := HL.out
      rcases Nat.eq_zero_or_pos n with h | h
      · exact h
      · exact absurd (.inr (.inl (by omega))) hbad
    have hs : s.toList.isEmpty = false := by
      cases hq : s.toList.isEmpty
      · rfl
      · exact absurd (.inr (.inr hq)) hbad
    rw [hcd] at KT
    clear hcd hbad
    go_enter Tryz.func351, Tryz.ntmps351
    go_wp2_with fail
    refine (KT.out _ (below1 _ _)).mono ?_
    rintro e w1 ⟨rfl, hb1⟩
    go_wp2
    go_ret
    exact ⟨rfl, below_then (below1 _ _) hb1⟩

set_option maxRecDepth 100000 in
set_option maxHeartbeats 1600000 in
theorem faultElem_any (b o : Nat) (x : It) (w : World) (hT : Tabs w) (h : ItAt w b o x) :
    Calls Tryz.prog 353 #[.agg #[.pointer (some ⟨b, o, none⟩)]] w fun e w' => e = .returned (.int .i64 (elemCode x)) ∧ Below w.heap.size w w' := by
  have d1 := h.c1
  have d2 := h.c2
  have d3 := h.c3
  obtain ⟨a4, n, c4, d4, hat⟩ := h.c4
  have KS := Lib.hid (fun W (hb : Below w.heap.size w W) => implTextFault_any x.space (by unfold maxLen; have := h.size.2.1; omega) W (tabs_kept hT hb))
  have KN := Lib.hid (fun W => implIsName_any x.name (by unfold maxLen; have := h.size.2.2; omega) W)
  have KA := Lib.hid (fun W (hb : Below w.heap.size w W) => implAttrs_any a4 n c4 x.attrs W (tabs_kept hT hb) (hat.below hb))
  have hlt := h.lt
  obtain ⟨cd, hcd⟩ : ∃ cd, elemCode x = cd := ⟨_, rfl⟩
  rw [hcd]
  unfold elemCode at hcd
  clear h hT hat
  obtain ⟨d, s, t, u, l⟩ := x
  dsimp only at d1 d2 d3 KS KN KA hcd
  cases hs : s.toList.isEmpty
  · rw [hs, if_pos rfl] at hcd
    have HC := Lib.hid hcd
    clear hcd
    go_enter Tryz.func353, Tryz.ntmps353
    go_wp2
    go_ret
    exact ⟨ret_i HC.out, below1 _ _⟩
  rw [hs, if_neg (by decide)] at hcd
  cases hn : isNameL u.data.toList
  · rw [hn, if_pos rfl] at hcd
    have HC := Lib.hid hcd
    have HN := Lib.hid hn
    clear hcd
    go_enter Tryz.func353, Tryz.ntmps353
    go_wp2_with fail
    refine (KN.out _).mono ?_
    rintro e w1 ⟨rfl, hb1⟩
    go_wp2
    go_ret
    exact ⟨ret_i HC.out, below_then (below1 _ _) hb1⟩
  rw [hn, if_neg (by decide)] at hcd
  by_cases h0 : textFault t.data.toList = 0
  · rw [if_pos h0] at hcd
    rw [h0] at KS
    rw [hcd] at KA
    clear hcd h0
    go_enter Tryz.func353, Tryz.ntmps353
    go_wp2_with fail
    refine (KN.out _).mono ?_
    rintro e w1 ⟨rfl, hb1⟩
    obtain ⟨hc, hf⟩ := bcell hb1
    have hz := hb1.size
    simp at hz
    have HB1 := Lib.hid (below_then (below1 _ _) hb1)
    clear hb1
    go_wp2_with fail
    refine (KS.out _ HB1.out).mono ?_
    rintro e w2 ⟨rfl, hb2⟩
    obtain ⟨hc2, hf2⟩ := bcell hb2
    have hlt1 : b < w1.heap.size := by omega
    have hlt2 : w.heap.size < w1.heap.size := by omega
    have HB2 := Lib.hid (below_then HB1.out hb2)
    clear hb2
    go_wp2_with fail
    refine (KA.out _ HB2.out).mono ?_
    rintro e w3 ⟨rfl, hb3⟩
    go_wp2
    go_ret
    exact ⟨rfl, below_then HB2.out hb3⟩
  · rw [if_neg h0] at hcd
    rw [hcd] at KS h0
    have q1 : (cd != 0) = true := by simpa using h0
    have q2 : (cd == 0) = false := by simpa using h0
    clear hcd h0
    go_enter Tryz.func353, Tryz.ntmps353
    go_wp2_with fail
    refine (KN.out _).mono ?_
    rintro e w1 ⟨rfl, hb1⟩
    obtain ⟨hc, hf⟩ := bcell hb1
    have hz := hb1.size
    simp at hz
    have HB1 := Lib.hid (below_then (below1 _ _) hb1)
    clear hb1
    go_wp2_with fail
    refine (KS.out _ HB1.out).mono ?_
    rintro e w2 ⟨rfl, hb2⟩
    go_wp2
    go_ret
    exact ⟨rfl, below_then HB1.out hb2⟩

theorem methFaultT (a : Addr) (w : World) : (method 442 121 (.agg #[.pointer (some a)]) "loop.example/g00795/impl.fault").run Tryz.prog w = .ok (351, .agg #[.pointer (some a)]) w := by kernel_rfl
theorem methFaultE (a : Addr) (w : World) : (method 442 122 (.agg #[.pointer (some a)]) "loop.example/g00795/impl.fault").run Tryz.prog w = .ok (353, .agg #[.pointer (some a)]) w := by kernel_rfl

set_option maxRecDepth 100000 in
set_option maxHeartbeats 1600000 in
theorem implItemFault_any (x : It) (a : Option Addr) (n c : Nat) (w : World) (hT : Tabs w) (hwf : -9223372036854775808 ≤ x.depth ∧ x.depth ≤ 9223372036854775807) (hsz : x.text.size ≤ 9223372036854775807 ∧ x.space.size ≤ 9223372036854775807 ∧ x.name.size ≤ 9223372036854775807) (h : AtsAt w a n c x.attrs) :
    Calls Tryz.prog 82 #[.agg #[.int .i64 x.depth, .string x.text, .string x.space, .string x.name, .slice a n c]] w fun e w' => e = .returned (.int .i64 (itemCode x)) ∧ Below w.heap.size w w' := by
  have HI := Lib.hid (show ItAt (w.alloc (.cells #[.int .i64 x.depth, .string x.text, .string x.space, .string x.name, .slice a n c] 71)) w.heap.size 0 x from
    ⟨by simp, hwf, hsz, by simp, by simp, by simp, by simp, a, n, c, by simp, h.below (below1 _ _)⟩)
  have HT := Lib.hid hT
  have HC1 : Hid (x.depth < 0 ∨ 6 < x.depth → itemCode x = 3) := Lib.hid fun e => by unfold itemCode; rw [if_pos e]
  have HC2 : Hid (¬ (x.depth < 0 ∨ 6 < x.depth) → x.name.toList.isEmpty = true → itemCode x = textCode x) := Lib.hid fun e e2 => by unfold itemCode; rw [if_neg e, if_pos e2]
  have HC3 : Hid (¬ (x.depth < 0 ∨ 6 < x.depth) → x.name.toList.isEmpty = false → itemCode x = elemCode x) := Lib.hid fun e e2 => by unfold itemCode; rw [if_neg e, e2, if_neg (by decide)]
  obtain ⟨cd, hcd⟩ : ∃ cd, itemCode x = cd := ⟨_, rfl⟩
  rw [hcd] at HC1 HC2 HC3 ⊢
  clear hcd h hT hwf hsz
  by_cases hd : x.depth < 0 ∨ 6 < x.depth
  · have HC := Lib.hid (HC1.out hd)
    clear HC1 HC2 HC3
    obtain ⟨d, s, t, u, l⟩ := x
    dsimp only at hd ⊢
    rcases hd with hd | hd
    all_goals
      go_enter Tryz.func82, Tryz.ntmps82
      go_wp2
      go_ret
      exact ⟨ret_i HC.out.symm, below1 _ _⟩
  · cases hu : x.name.toList.isEmpty
    · have HC := Lib.hid (HC3.out hd hu)
      have K1 := Lib.hid (partOf_elem w.heap.size 0 x _ HI.out hu)
      have K2 := Lib.hid (faultElem_any w.heap.size 0 x _ (tabs_kept HT.out (below1 _ _)) HI.out)
      rw [← HC.out] at K2
      clear HC1 HC2 HC3
      obtain ⟨d, s, t, u, l⟩ := x
      dsimp only at hd K1 K2 ⊢
      have h0 : 0 ≤ d := by omega
      have h6 : d ≤ 6 := by omega
      clear hd HC HI hu
      go_enter Tryz.func82, Tryz.ntmps82
      have hm := methFaultE
      go_wp2_with fail
      refine K1.out.mono ?_
      rintro e w1 ⟨rfl, rfl⟩
      go_wp2_with fail
      refine K2.out.mono ?_
      rintro e w2 ⟨rfl, hb2⟩
      go_wp2
      go_ret
      exact ⟨rfl, below_then (below1 _ _) hb2⟩
    · have HC := Lib.hid (HC2.out hd hu)
      have K1 := Lib.hid (partOf_text w.heap.size 0 x _ HI.out hu)
      have K2 := Lib.hid (faultText_any w.heap.size 0 x _ (tabs_kept HT.out (below1 _ _)) HI.out)
      rw [← HC.out] at K2
      clear HC1 HC2 HC3
      obtain ⟨d, s, t, u, l⟩ := x
      dsimp only at hd K1 K2 ⊢
      have h0 : 0 ≤ d := by omega
      have h6 : d ≤ 6 := by omega
      clear hd HC HI hu
      go_enter Tryz.func82, Tryz.ntmps82
      have hm := methFaultT
      go_wp2_with fail
      refine K1.out.mono ?_
      rintro e w1 ⟨rfl, rfl⟩
      go_wp2_with fail
      refine K2.out.mono ?_
      rintro e w2 ⟨rfl, hb2⟩
      go_wp2
      go_ret
      exact ⟨rfl, below_then (below1 _ _) hb2⟩
end Go.Proofs.YtppgdbejbhhjlaaGreatDoor
