/- spec.ItemFault. -/
import Derived.Test.YtpafknmfacgccaaDoorSpecItem
namespace Go.Proofs.YtpafknmfacgccaaDoor
open Go.ChangeShapes Go.WideShapes Go.ChangeAt Go.RowKit
set_option linter.unusedVariables false

theorem inB_yes {d : Int} (h : ¬ (d < 0 ∨ 6 < d)) : inB d 0 6 = true := by unfold inB; rw [decide_eq_true_iff]; omega
theorem inB_no {d : Int} (h : d < 0 ∨ 6 < d) : inB d 0 6 = false := by unfold inB; rw [decide_eq_false_iff_not]; omega

set_option maxRecDepth 100000 in
set_option maxHeartbeats 1600000 in
theorem specItemFault_any (x : It) (a : Option Addr) (n c : Nat) (w : World) (hs : SmallIt x) (h : AtsAt w a n c x.attrs) :
    Calls Tryd.prog 46 #[.agg #[.int .i64 x.depth, .string x.text, .string x.space, .string x.name, .slice a n c]] w fun e w' => e = .returned (.int .i64 (itemCode x)) ∧ Below w.heap.size w w' := by
  have HA := Lib.hid h
  have hm := h.max
  have HL := Lib.hid h.len
  have KA := Lib.hid (fun W (hb : Below w.heap.size w W) => specAttrs_any a n c x.attrs W hs.2 (h.below hb))
  have KT := Lib.hid (fun W => specTextFault_any x.text hs.1.1 W)
  have KS := Lib.hid (fun W => specTextFault_any x.space hs.1.2.1 W)
  have KN := Lib.hid (fun W => specIsName_any x.name (by unfold maxLen; have := hs.1.2.2; omega) W)
  obtain ⟨cd, hcd⟩ : ∃ cd, itemCode x = cd := ⟨_, rfl⟩
  rw [hcd]
  unfold itemCode textCode elemCode at hcd
  clear h hs
  obtain ⟨d, s, t, u, l⟩ := x
  dsimp only at HA HL KA KT KS KN hcd ⊢
  by_cases hd : d < 0 ∨ 6 < d
  · rw [if_pos hd] at hcd
    have hin := inB_no hd
    have HC := Lib.hid hcd
    clear hcd hd
    go_enter Tryd.func46, Tryd.ntmps46
    go_wp2_with fail
    refine (l1In_any d 0 6 _).mono ?_
    rintro e w1 ⟨rfl, rfl⟩
    go_wp2
    go_ret
    exact ⟨ret_i HC.out, below1 _ _⟩
  rw [if_neg hd] at hcd
  have hin := inB_yes hd
  clear hd
  cases hu : u.toList.isEmpty
  · rw [hu, if_neg (by decide)] at hcd
    cases hs : s.toList.isEmpty
    · rw [hs, if_pos rfl] at hcd
      have HC := Lib.hid hcd
      clear hcd
      go_enter Tryd.func46, Tryd.ntmps46
      go_wp2_with fail
      refine (l1In_any d 0 6 _).mono ?_
      rintro e w1 ⟨rfl, rfl⟩
      go_wp2
      go_ret
      exact ⟨ret_i HC.out, below1 _ _⟩
    rw [hs, if_neg (by decide)] at hcd
    cases hn : isNameL u.data.toList
    · rw [hn, if_pos rfl] at hcd
      have HC := Lib.hid hcd
      have HN := Lib.hid hn
      clear hcd
      go_enter Tryd.func46, Tryd.ntmps46
      go_wp2_with fail
      refine (l1In_any d 0 6 _).mono ?_
      rintro e w1 ⟨rfl, rfl⟩
      go_wp2_with fail
      refine (KN.out _).mono ?_
      rintro e w1 ⟨rfl, rfl⟩
      go_wp2
      go_ret
      exact ⟨ret_i HC.out, below1 _ _⟩
    rw [hn, if_neg (by decide)] at hcd
    by_cases h0 : textFault t.data.toList = 0
    · rw [if_pos h0] at hcd
      rw [h0] at KS
      rw [hcd] at KA
      clear hcd h0
      go_enter Tryd.func46, Tryd.ntmps46
      go_wp2_with fail
      refine (l1In_any d 0 6 _).mono ?_
      rintro e w1 ⟨rfl, rfl⟩
      go_wp2_with fail
      refine (KN.out _).mono ?_
      rintro e w1 ⟨rfl, rfl⟩
      go_wp2_with fail
      refine (KS.out _).mono ?_
      rintro e w1 ⟨rfl, hb1⟩
      obtain ⟨hc, hf⟩ := bcell hb1
      have hz := hb1.size
      simp at hz
      have HB1 := Lib.hid hb1
      clear hb1
      go_wp2_with fail
      refine (KA.out _ (below_then (below1 _ _) HB1.out)).mono ?_
      rintro e w2 ⟨rfl, hb2⟩
      go_wp2
      go_ret
      exact ⟨rfl, below_then (below_then (below1 _ _) HB1.out) hb2⟩
    · rw [if_neg h0] at hcd
      rw [hcd] at KS h0
      have q1 : (cd != 0) = true := by simpa using h0
      have q2 : (cd == 0) = false := by simpa using h0
      clear hcd h0
      go_enter Tryd.func46, Tryd.ntmps46
      go_wp2_with fail
      refine (l1In_any d 0 6 _).mono ?_
      rintro e w1 ⟨rfl, rfl⟩
      go_wp2_with fail
      refine (KN.out _).mono ?_
      rintro e w1 ⟨rfl, rfl⟩
      go_wp2_with fail
      refine (KS.out _).mono ?_
      rintro e w1 ⟨rfl, hb1⟩
      go_wp2
      go_ret
      exact ⟨rfl, below_then (below1 _ _) hb1⟩
  · rw [hu, if_pos rfl] at hcd
    by_cases hbad : t.toList.isEmpty = false ∨ 0 < l.length ∨ s.toList.isEmpty = true
    · rw [if_pos hbad] at hcd
      have HC := Lib.hid hcd
      clear hcd
      cases ht : t.toList.isEmpty
      · clear hbad
        go_enter Tryd.func46, Tryd.ntmps46
        go_wp2_with fail
        refine (l1In_any d 0 6 _).mono ?_
        rintro e w1 ⟨rfl, rfl⟩
        go_wp2
        go_ret
        exact ⟨ret_i HC.out, below1 _ _⟩
      · by_cases hl : 0 < l.length
        · have hn0 : 0 < n := by have := HL.out; omega
          have q1 : ((n : Int) != 0) = true := by rw [bne_iff_ne]; omega
          have q2 : ((n : Int) == 0) = false := by rw [beq_eq_false_iff_ne]; omega
          clear hbad hl hn0
          go_enter Tryd.func46, Tryd.ntmps46
          go_wp2_with fail
          refine (l1In_any d 0 6 _).mono ?_
          rintro e w1 ⟨rfl, rfl⟩
          go_wp2
          go_ret
          exact ⟨ret_i HC.out, below1 _ _⟩
        · have hs : s.toList.isEmpty = true := by
            rcases hbad with h | h | h
            · rw [ht] at h; cases h
            · exact absurd h hl
            · exact h
          obtain rfl : n = 0 := by have := HL.out; omega
          clear hbad hl
          go_enter Tryd.func46, Tryd.ntmps46
          go_wp2_with fail
          refine (l1In_any d 0 6 _).mono ?_
          rintro e w1 ⟨rfl, rfl⟩
          go_wp2
          go_ret
          exact ⟨ret_i HC.out, below1 _ _⟩
    · rw [if_neg hbad] at hcd
      have ht : t.toList.isEmpty = true := by
        cases hq : t.toList.isEmpty
        · exact absurd (.inl hq) hbad
        · rfl
      obtain rfl : n = 0 := by
        have := HL.out
        rcases Nat.eq_zero_or_pos n with h | h
        · exact h
        · exact absurd (.inr (.inl (by omega))) hbad
      have hs : s.toList.isEmpty = false := by
        cases hq : s.toList.isEmpty
        · rfl
        · exact absurd (.inr (.inr hq)) hbad
      rw [hcd] at KT
      clear hcd hbad
      go_enter Tryd.func46, Tryd.ntmps46
      go_wp2_with fail
      refine (l1In_any d 0 6 _).mono ?_
      rintro e w1 ⟨rfl, rfl⟩
      go_wp2_with fail
      refine (KT.out _).mono ?_
      rintro e w1 ⟨rfl, hb1⟩
      go_wp2
      go_ret
      exact ⟨rfl, below_then (below1 _ _) hb1⟩
end Go.Proofs.YtpafknmfacgccaaDoor
