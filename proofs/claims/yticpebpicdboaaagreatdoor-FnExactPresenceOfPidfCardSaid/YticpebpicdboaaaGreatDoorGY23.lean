/- the methods fault; impl.ItemFault. -/
import Derived.Test.YticpebpicdboaaaGreatDoorGY22
namespace Go.Proofs.YticpebpicdboaaaGreatDoor
open Go.ChangeShapes Go.WideShapes Go.ChangeAt Go.RowKit
set_option linter.unusedVariables false

set_option maxRecDepth 100000 in
set_option maxHeartbeats 1600000 in
theorem faultText_any (b o : Nat) (x : It) (w : World) (hT : Tabs w) (h : ItAt w b o x) :
    Calls Tryz.prog 412 #[.agg #[.pointer (some ⟨b, o, none⟩)]] w fun e w' => e = .returned (.int .i64 (textCode x)) ∧ Below w.heap.size w w' := by
  have d1 := h.c1
  have d2 := h.c2
  obtain ⟨a4, n, c4, d4, hat⟩ := h.c4
  have HL := Lib.hid hat.len
  have hm := hat.max
  have KT := Lib.hid (fun W (hb : Below w.heap.size w W) => implTextFault_any x.text (by unfold maxLen; have := h.size.1; omega) W (tabs_kept hT hb))
  have hlt := h.lt
  obtain ⟨cd, hcd⟩ : ∃ cd, textCode x = cd := ⟨_, rfl⟩
  rw [hcd]
  unfold textCode at hcd
  clear h hT hat
  obtain ⟨d, s, t, u, l⟩ := x
  dsimp only at d1 d2 HL KT hcd
  by_cases hbad : t.toList.isEmpty = false ∨ 0 < l.length ∨ s.toList.isEmpty = true
  · rw [if_pos hbad] at hcd
    have HC := Lib.hid hcd
    clear hcd
    cases ht : t.toList.isEmpty
    · clear hbad
      go_enter Tryz.func412, Tryz.ntmps412
      go_wp2
      go_ret
      exact ⟨ret_i HC.out, below1 _ _⟩
    · by_cases hl : 0 < l.length
      · have hn0 : 0 < n := by have := HL.out; omega
        clear hbad hl
        go_enter Tryz.func412, Tryz.ntmps412
        go_wp2
        go_ret
        exact ⟨ret_i HC.out, below1 _ _⟩
      · have hs : s.toList.isEmpty = true := by
          rcases hbad with h | h | h
          · rw [ht] at h; cases h
          · exact absurd h hl
          · exact h
        obtain rfl : n = 0 := by have := HL.out; omega
        clear hbad hl
        go_enter Tryz.func412, Tryz.ntmps412
        go_wp2
        go_ret
        exact ⟨ret_i HC.out, below1 _ _⟩
  · rw [if_neg hbad] at hcd
    have ht : t.toList.isEmpty = true := by
      cases hq : t.toList.isEmpty
      · exact absurd (.inl hq) hbad
      · rfl
    obtain rfl : n = 0 := by
      have := HL.out
      rcases Nat.eq_zero_or_pos n with h | h
      · exact h
      · exact absurd (.inr (.inl (by omega))) hbad
    have hs : s.toList.isEmpty = false := by
      cases hq : s.toList.isEmpty
      · rfl
      · exact absurd (.inr (.inr hq)) hbad
    rw [hcd] at KT
    clear hcd hbad
    go_enter Tryz.func412, Tryz.ntmps412
    go_wp2_with fail
    refine (KT.out _ (below1 _ _)).mono ?_
    rintro e w1 ⟨rfl, hb1⟩
    go_wp2
    go_ret
    exact ⟨rfl, below_then (below1 _ _) hb1⟩

set_option maxRecDepth 100000 in
set_option maxHeartbeats 1600000 in
theorem faultElem_any (b o : Nat) (x : It) (w : World) (hT : Tabs w) (h : ItAt w b o x) :
    Calls Tryz.prog 414 #[.agg #[.pointer (some ⟨b, o, none⟩)]] w fun e w' => e = .returned (.int .i64 (elemCode x)) ∧ Below w.heap.size w w' := by
  have d1 := h.c1
  have d2 := h.c2
  have d3 := h.c3
  obtain ⟨a4, n, c4, d4, hat⟩ := h.c4
  have KS := Lib.hid (fun W (hb : Below w.heap.size w W) => implTextFault_any x.space (by unfold maxLen; have := h.size.2.1; omega) W (tabs_kept hT hb))
  have KN := Lib.hid (fun W => implIsName_any x.name (by unfold maxLen; have := h.size.2.2; omega) W)
  have KA := Lib.hid (fun W (hb : Below w.heap.size w W) => implAttrs_any a4 n c4 x.attrs W (tabs_kept hT hb) (hat.below hb))
  have hlt := h.lt
  obtain ⟨cd, hcd⟩ : ∃ cd, elemCode x = cd := ⟨_, rfl⟩
  rw [hcd]
  unfold elemCode at hcd
  clear h hT hat
  obtain ⟨d, s, t, u, l⟩ := x
  dsimp only at d1 d2 d3 KS KN KA hcd
  cases hs : s.toList.isEmpty
  · rw [hs, if_pos rfl] at hcd
    have HC := Lib.hid hcd
    clear hcd
    go_enter Tryz.func414, Tryz.ntmps414
    go_wp2
    go_ret
    exact ⟨ret_i HC.out, below1 _ _⟩
  rw [hs, if_neg (by decide)] at hcd
  cases hn : isNameL u.data.toList
  · rw [hn, if_pos rfl] at hcd
    have HC := Lib.hid hcd
    have HN := Lib.hid hn
    clear hcd
    go_enter Tryz.func414, Tryz.ntmps414
    go_wp2_with fail
    refine (KN.out _).mono ?_
    rintro e w1 ⟨rfl, hb1⟩
    go_wp2
    go_ret
    exact ⟨ret_i HC.out, below_then (below1 _ _) hb1⟩
  rw [hn, if_neg (by decide)] at hcd
  by_cases h0 : textFault t.data.toList = 0
  · rw [if_pos h0] at hcd
    rw [h0] at KS
    rw [hcd] at KA
    clear hcd h0
    go_enter Tryz.func414, Tryz.ntmps414
    go_wp2_with fail
    refine (KN.out _).mono ?_
    rintro e w1 ⟨rfl, hb1⟩
    obtain ⟨hc, hf⟩ := bcell hb1
    have hz := hb1.size
    simp at hz
    have HB1 := Lib.hid (below_then (below1 _ _) hb1)
    clear hb1
    go_wp2_with fail
    refine (KS.out _ HB1.out).mono ?_
    rintro e w2 ⟨rfl, hb2⟩
    obtain ⟨hc2, hf2⟩ := bcell hb2
    have hlt1 : b < w1.heap.size := by omega
    have hlt2 : w.heap.size < w1.heap.size := by omega
    have HB2 := Lib.hid (below_then HB1.out hb2)
    clear hb2
    go_wp2_with fail
    refine (KA.out _ HB2.out).mono ?_
    rintro e w3 ⟨rfl, hb3⟩
    go_wp2
    go_ret
    exact ⟨rfl, below_then HB2.out hb3⟩
  · rw [if_neg h0] at hcd
    rw [hcd] at KS h0
    have q1 : (cd != 0) = true := by simpa using h0
    have q2 : (cd == 0) = false := by simpa using h0
    clear hcd h0
    go_enter Tryz.func414, Tryz.ntmps414
    go_wp2_with fail
    refine (KN.out _).mono ?_
    rintro e w1 ⟨rfl, hb1⟩
    obtain ⟨hc, hf⟩ := bcell hb1
    have hz := hb1.size
    simp at hz
    have HB1 := Lib.hid (below_then (below1 _ _) hb1)
    clear hb1
    go_wp2_with fail
    refine (KS.out _ HB1.out).mono ?_
    rintro e w2 ⟨rfl, hb2⟩
    go_wp2
    go_ret
    exact ⟨rfl, below_then HB1.out hb2⟩

theorem methFaultT (a : Addr) (w : World) : (method 505 151 (.agg #[.pointer (some a)]) "loop.example/g00795/impl.fault").run Tryz.prog w = .ok (412, .agg #[.pointer (some a)]) w := by kernel_rfl
theorem methFaultE (a : Addr) (w : World) : (method 505 152 (.agg #[.pointer (some a)]) "loop.example/g00795/impl.fault").run Tryz.prog w = .ok (414, .agg #[.pointer (some a)]) w := by kernel_rfl

set_option maxRecDepth 100000 in
set_option maxHeartbeats 1600000 in
theorem implItemFault_any (x : It) (a : Option Addr) (n c : Nat) (w : World) (hT : Tabs w) (hwf : -9223372036854775808 ≤ x.depth ∧ x.depth ≤ 9223372036854775807) (hsz : x.text.size ≤ 9223372036854775807 ∧ x.space.size ≤ 9223372036854775807 ∧ x.name.size ≤ 9223372036854775807) (h : AtsAt w a n c x.attrs) :
    Calls Tryz.prog 89 #[.agg #[.int .i64 x.depth, .string x.text, .string x.space, .string x.name, .slice a n c]] w fun e w' => e = .returned (.int .i64 (itemCode x)) ∧ Below w.heap.size w w' := by
  have HI := Lib.hid (show ItAt (w.alloc (.cells #[.int .i64 x.depth, .string x.text, .string x.space, .string x.name, .slice a n c] 77)) w.heap.size 0 x from
    ⟨by simp, hwf, hsz, by simp, by simp, by simp, by simp, a, n, c, by simp, h.below (below1 _ _)⟩)
  have HT := Lib.hid hT
  have HC1 : Hid (x.depth < 0 ∨ 6 < x.depth → itemCode x = 3) := Lib.hid fun e => by unfold itemCode; rw [if_pos e]
  have HC2 : Hid (¬ (x.depth < 0 ∨ 6 < x.depth) → x.name.toList.isEmpty = true → itemCode x = textCode x) := Lib.hid fun e e2 => by unfold itemCode; rw [if_neg e, if_pos e2]
  have HC3 : Hid (¬ (x.depth < 0 ∨ 6 < x.depth) → x.name.toList.isEmpty = false → itemCode x = elemCode x) := Lib.hid fun e e2 => by unfold itemCode; rw [if_neg e, e2, if_neg (by decide)]
  obtain ⟨cd, hcd⟩ : ∃ cd, itemCode x = cd := ⟨_, rfl⟩
  rw [hcd] at HC1 HC2 HC3 ⊢
  clear hcd h hT hwf hsz
  by_cases hd : x.depth < 0 ∨ 6 < x.depth
  · have HC := Lib.hid (HC1.out hd)
    clear HC1 HC2 HC3
    obtain ⟨d, s, t, u, l⟩ := x
    dsimp only at hd ⊢
    rcases hd with hd | hd
    all_goals
      go_enter Tryz.func89, Tryz.ntmps89
      go_wp2
      go_ret
      exact ⟨ret_i HC.out.symm, below1 _ _⟩
  · cases hu : x.name.toList.isEmpty
    · have HC := Lib.hid (HC3.out hd hu)
      have K1 := Lib.hid (partOf_elem w.heap.size 0 x _ HI.out hu)
      have K2 := Lib.hid (faultElem_any w.heap.size 0 x _ (tabs_kept HT.out (below1 _ _)) HI.out)
      rw [← HC.out] at K2
      clear HC1 HC2 HC3
      obtain ⟨d, s, t, u, l⟩ := x
      dsimp only at hd K1 K2 ⊢
      have h0 : 0 ≤ d := by omega
      have h6 : d ≤ 6 := by omega
      clear hd HC HI hu
      go_enter Tryz.func89, Tryz.ntmps89
      have hm := methFaultE
      go_wp2_with fail
      refine K1.out.mono ?_
      rintro e w1 ⟨rfl, rfl⟩
      go_wp2_with fail
      refine K2.out.mono ?_
      rintro e w2 ⟨rfl, hb2⟩
      go_wp2
      go_ret
      exact ⟨rfl, below_then (below1 _ _) hb2⟩
    · have HC := Lib.hid (HC2.out hd hu)
      have K1 := Lib.hid (partOf_text w.heap.size 0 x _ HI.out hu)
      have K2 := Lib.hid (faultText_any w.heap.size 0 x _ (tabs_kept HT.out (below1 _ _)) HI.out)
      rw [← HC.out] at K2
      clear HC1 HC2 HC3
      obtain ⟨d, s, t, u, l⟩ := x
      dsimp only at hd K1 K2 ⊢
      have h0 : 0 ≤ d := by omega
      have h6 : d ≤ 6 := by omega
      clear hd HC HI hu
      go_enter Tryz.func89, Tryz.ntmps89
      have hm := methFaultT
      go_wp2_with fail
      refine K1.out.mono ?_
      rintro e w1 ⟨rfl, rfl⟩
      go_wp2_with fail
      refine K2.out.mono ?_
      rintro e w2 ⟨rfl, hb2⟩
      go_wp2
      go_ret
      exact ⟨rfl, below_then (below1 _ _) hb2⟩
end Go.Proofs.YticpebpicdboaaaGreatDoor
