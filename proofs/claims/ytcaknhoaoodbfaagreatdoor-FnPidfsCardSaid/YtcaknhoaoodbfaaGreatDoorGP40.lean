/- spec.TreeFault. -/
import Derived.Test.YtcaknhoaoodbfaaGreatDoorGP9
import Derived.Test.YtcaknhoaoodbfaaGreatDoorGP39
namespace Go.Proofs.YtcaknhoaoodbfaaGreatDoor
open Go.ChangeShapes Go.WideShapes Go.ChangeAt Go.RowKit
set_option linter.unusedVariables false
set_option maxRecDepth 100000 in
set_option maxHeartbeats 3200000 in
theorem specTreeFault_any (a : Option Addr) (n c : Nat) (l : List It) (w : World) (hs : SmallIts l) (h : ItsAt w a n c l) :
    Calls Tryz.prog 66 #[.slice a n c] w fun e w' => e = .returned (.int .i64 (treeCode l)) ∧ Below w.heap.size w w' := by
  have hm := h.max
  have HL := Lib.hid h.len
  have H := Lib.hid h
  have HS := Lib.hid hs.2
  clear hs
  by_cases hn : n < 1 ∨ 40 < n
  · have HC := Lib.hid (treeCode_many (l := l) (by have := h.len; omega))
    clear h
    generalize treeCode l = cd at HC
    rcases hn with hn | hn
    · obtain rfl : n = 0 := by omega
      go_enter Tryz.func66, Tryz.ntmps66
      go_wp2
      go_ret
      exact ⟨ret_i HC.out.symm, Below.refl _ _⟩
    · go_enter Tryz.func66, Tryz.ntmps66
      go_wp2
      go_ret
      exact ⟨ret_i HC.out.symm, Below.refl _ _⟩
  · have h1 : 1 ≤ n := by omega
    have h40 : n ≤ 40 := by omega
    have HC1 : Hid (∀ k, k < n → (∀ j, j < k → itemCode (l.getD j dIt) = 0) → itemCode (l.getD k dIt) ≠ 0 → treeCode l = itemCode (l.getD k dIt)) := Lib.hid fun k hk h0 h1 => treeCode_at (by have := h.len; omega) (by have := h.len; omega) h0 h1
    have HC2 : Hid ((∀ j, j < n → itemCode (l.getD j dIt) = 0) → treeCode l = if stands l = true then 0 else 1) := Lib.hid fun h0 => treeCode_end (by have := h.len; omega) (fun j hj => h0 j (by have := h.len; omega))
    obtain ⟨b, o, rfl, h4⟩ : ∃ b o, a = some ⟨b, o, none⟩ ∧ ∀ i, i < n → ItAt w b (o + i * 5) (l.getD i dIt) := by
      rcases h.row with e | h
      · omega
      · exact h
    have H4 := Lib.hid h4
    clear h hn h4
    generalize treeCode l = cd at HC1 HC2
    go_enter Tryz.func66, Tryz.ntmps66
    go_wp2
    go_loopw [15] (fun i wr => ∃ k : Nat, k ≤ n ∧ i = .int .i64 k ∧ (∀ j, j < k → itemCode (l.getD j dIt) = 0) ∧ Below w.heap.size w wr) (fun i _ => n - (intOf i).toNat)
    case atStart => exact ⟨0, Nat.zero_le _, rfl, fun j hj => by omega, Below.refl _ _⟩
    case round =>
      obtain ⟨k, hk, rfl, hz, hb⟩ := hrel
      have HK := Lib.hid hz
      clear hz
      by_cases hlt : k < n
      · have hi := (H4.out k hlt).below hb
        have d0 := hi.c0
        have d1 := hi.c1
        have d2 := hi.c2
        have d3 := hi.c3
        obtain ⟨a4, n4, c4, d4, hat⟩ := hi.c4
        have k1 : (k : Int) < (n : Int) := by omega
        have K := Lib.hid (fun W (hb' : Below wr.heap.size wr W) => specItemFault_any (l.getD k dIt) a4 n4 c4 W (HS.out k (by have := HL.out; omega)) (hat.below hb'))
        have HY : Hid (itemCode (l.getD k dIt) ≠ 0 → cd = itemCode (l.getD k dIt)) := Lib.hid (HC1.out k hlt HK.out)
        have HK2 : Hid (itemCode (l.getD k dIt) = 0 → ∀ j, j < k + 1 → itemCode (l.getD j dIt) = 0) := Lib.hid fun hx j hj => by
          rcases Nat.lt_or_ge j k with h | h
          · exact HK.out j h
          · obtain rfl : j = k := by omega
            exact hx
        have HB := Lib.hid hb
        clear hi hat hb
        generalize itemCode (l.getD k dIt) = ic at K HY HK2
        generalize l.getD k dIt = x at d0 d1 d2 d3 K
        obtain ⟨xd, xt, xs, xn, xa⟩ := x
        dsimp only at d0 d1 d2 d3 K
        by_cases h0 : ic = 0
        · subst h0
          have HK3 := Lib.hid (HK2.out rfl)
          clear HK2 HY
          go_wp2_with fail
          refine (K.out _ (Below.refl _ _)).mono ?_
          rintro e w2 ⟨rfl, hb2⟩
          go_wp2
          go_roundw
          case rel => exact ⟨k + 1, by omega, by go_num, HK3.out, below_then HB.out hb2⟩
          case measure => simp [intOf]; omega
        · have HY2 := Lib.hid (HY.out h0)
          have q1 : (ic != 0) = true := by simpa using h0
          have q2 : (ic == 0) = false := by simpa using h0
          clear HK2 HY h0
          go_wp2_with fail
          refine (K.out _ (Below.refl _ _)).mono ?_
          rintro e w2 ⟨rfl, hb2⟩
          go_wp2
          go_ret
          exact ⟨ret_i HY2.out.symm, below_then HB.out hb2⟩
      · obtain rfl : k = n := by omega
        have K := Lib.hid (specShape_any (some ⟨b, o, none⟩) k c l wr h1 h40 (fun i hi => item_depth (HK.out i hi)) (H.out.below hb))
        have HC3 := Lib.hid (HC2.out HK.out)
        generalize stands l = st at K HC3
        clear HC1 HC2
        cases st
        all_goals
          go_wp2_with fail
          refine K.out.mono ?_
          rintro e w2 ⟨rfl, nd, rfl⟩
          go_wp2
          go_ret
          exact ⟨ret_i HC3.out.symm, below_drewN hb nd⟩
end Go.Proofs.YtcaknhoaoodbfaaGreatDoor
