/- markPresence. -/
import Derived.Test.YtppgdbejbhhjlaaGreatDoorGF1
import Derived.Test.YtppgdbejbhhjlaaGreatDoorGF41
import Derived.Test.YtppgdbejbhhjlaaGreatDoorGF0
namespace Go.Proofs.YtppgdbejbhhjlaaGreatDoor
open Go.ChangeShapes Go.WideShapes Go.ChangeAt Go.RowKit
set_option linter.unusedVariables false

theorem Var2.only {P : Nat → Prop} {w w1 : World} {b : Nat} {cd : Int} {v : Value} (h : Var2 w b cd v) (ho : Only P w w1) (hn : ¬ P b) : Var2 w1 b cd v :=
  ⟨Nat.lt_of_lt_of_le h.lt ho.size, (ho.cell (by exact h.lt) hn).trans h.c0, (ho.cell (by exact h.lt) hn).trans h.c1⟩
theorem kAt_many (k : Nat) (l : List It) (h : ∀ i, (l.getD i dIt).attrs.length ≤ 1048576) : ∀ n, kAt k l n ≤ k + 2097156 * n
  | 0 => Nat.le_refl _
  | n + 1 => by
    have h1 := kAt_many k l h n
    have h2 := h n
    show kAt k l n + 4 + 2 * _ ≤ _
    omega
set_option maxRecDepth 100000 in
set_option maxHeartbeats 1600000 in
theorem markPresence_any (pk : Int) (pf pt : ByteArray) (ps : Int) (pu : ByteArray) (pp : Int) (lo hi : Nat) (a : Option Addr) (n c k : Nat) (l : List It) (w : World) (h0 : 0 < k) (hK : kAt k l n ≤ 10000000000000000) (hA : ∀ i, i < n → (l.getD i dIt).attrs.length ≤ 1048576) (h : OwnIts w lo hi a n c l) :
    Calls Tryz.prog 57 #[.agg #[.int .i64 pk, .string pf, .string pt, .int .i64 ps, .string pu, .int .i64 pp, .slice a n c], .int .i64 k] w (MarkIts w lo hi a n c k l) := by
  have K := Lib.hid (fun W (hb : Below w.heap.size w W) => markItemS_any lo hi a n c k l W h0 hK hA (h.below hb))
  clear h hK hA
  go_enter Tryz.func57, Tryz.ntmps57
  go_wp2_with fail
  refine (K.out _ (below1 _ _)).mono ?_
  rintro e w1 ⟨rfl, hown, ho⟩
  go_wp2
  go_ret
  exact ⟨rfl, hown, (Only.below (below1 _ _)).trans ho⟩
end Go.Proofs.YtppgdbejbhhjlaaGreatDoor

/- szAttr, szAttrS, szItem, szItemS: what came in is small. -/
namespace Go.Proofs.YtppgdbejbhhjlaaGreatDoor
open Go.ChangeShapes Go.WideShapes Go.ChangeAt Go.RowKit
set_option linter.unusedVariables false

set_option maxHeartbeats 400000 in
theorem szAttr_any (x : At) (left : Int) (w : World) (h0 : 0 ≤ left) (h1 : left ≤ 1048576) (hx : x.name.size ≤ 9223372036854775807 ∧ x.value.size ≤ 9223372036854775807) :
    Calls Tryz.prog 218 #[.agg #[.string x.name, .string x.value], .int .i64 left] w (SzRes (Left left (SmallAt x)) w) := by
  obtain ⟨s, t⟩ := x
  obtain ⟨hs, ht⟩ := hx
  dsimp only at hs ht ⊢
  go_enter Tryz.func218, Tryz.ntmps218
  go_wp2
  all_goals
    go_ret
    first
    | exact SzRes.mk Left.no (below1 _ _)
    | exact SzRes.mk (Left.yes (by omega) (by omega) ⟨by show s.size ≤ 1048576; omega, by show t.size ≤ 1048576; omega⟩) (below1 _ _)

set_option maxHeartbeats 800000 in
theorem szAttrS_any (a : Option Addr) (n c : Nat) (l : List At) (left : Int) (w : World) (h0 : 0 ≤ left) (h1 : left ≤ 1048576) (h : AtsAt w a n c l) :
    Calls Tryz.prog 170 #[.slice a n c, .int .i64 left] w (SzRes (Left left (SmallAts l)) w) := by
  have hm := h.max
  have HR := Lib.hid h.row
  have HS := Lib.hid h.size
  have HL := Lib.hid h.len
  clear h
  by_cases hn : (n : Int) ≤ left
  · go_enter Tryz.func170, Tryz.ntmps170
    go_wp2
    go_loopw [1, 5] (fun v i wr => ∃ (k : Nat) (r : Int), k ≤ n ∧ i = .int .i64 k ∧ v = .int .i64 r ∧ 0 ≤ r ∧ r ≤ left ∧ (∀ j, j < k → SmallAt (l.getD j dAt)) ∧ Below w.heap.size w wr) (fun _ i _ => n - (intOf i).toNat)
    case atStart => exact ⟨0, left - n, Nat.zero_le _, rfl, rfl, by omega, by omega, fun j hj => by omega, Below.refl _ _⟩
    case round =>
      obtain ⟨k, r, hk, rfl, rfl, hr0, hr1, hat, hb⟩ := hrel
      have HAT := Lib.hid hat
      clear hat
      by_cases hlt : k < n
      · rcases HR.out with e0 | ⟨b, o, rfl, hlt2, hc⟩
        · omega
        · have d0 : wr.cell? ⟨b, o + k * 2, none⟩ = some (.string (l.getD k dAt).name) := (hb.cell (by exact hlt2)).trans (hc k hlt).1
          have d1 : wr.cell? ⟨b, o + k * 2 + 1, none⟩ = some (.string (l.getD k dAt).value) := (hb.cell (by exact hlt2)).trans (hc k hlt).2
          have K := Lib.hid (fun W => szAttr_any (l.getD k dAt) r W hr0 (by omega) (HS.out k))
          have HAT2 : Hid (SmallAt (l.getD k dAt) → ∀ j, j < k + 1 → SmallAt (l.getD j dAt)) := Lib.hid fun hx j hj => by
            rcases Nat.lt_or_ge j k with h | h
            · exact HAT.out j h
            · obtain rfl : j = k := by omega
              exact hx
          generalize l.getD k dAt = x at d0 d1 K HAT2
          obtain ⟨s, t⟩ := x
          dsimp only at d0 d1 K
          have HB := Lib.hid hb
          clear hc hb
          go_wp2_with fail
          refine (K.out _).mono ?_
          rintro e w2 ⟨r2, hr2, rfl, hb2⟩
          rcases hr2 with rfl | ⟨hr2, hr3, hr4⟩
          · go_wp2
            go_ret
            exact SzRes.mk Left.no (HB.out.trans (hb2.mono HB.out.size))
          · have HX4 := Lib.hid hr4
            clear hr4
            go_wp2
            go_roundw
            case rel => exact ⟨k + 1, r2, by omega, by go_num, rfl, by omega, by omega, HAT2.out HX4.out, HB.out.trans (hb2.mono HB.out.size)⟩
            case measure => simp [intOf]; omega
      · go_wp2
        go_ret
        exact SzRes.mk (Left.yes (by omega) (by omega) ⟨by have := HL.out; omega, fun i hi => HAT.out i (by have := HL.out; omega)⟩) hb
  · go_enter Tryz.func170, Tryz.ntmps170
    go_wp2
    go_ret
    exact SzRes.mk Left.no (Below.refl _ _)

set_option maxHeartbeats 800000 in
theorem szItem_any (x : It) (a : Option Addr) (n c : Nat) (left : Int) (w : World) (h0 : 0 ≤ left) (h1 : left ≤ 1048576) (hx : x.text.size ≤ 9223372036854775807 ∧ x.space.size ≤ 9223372036854775807 ∧ x.name.size ≤ 9223372036854775807) (h : AtsAt w a n c x.attrs) :
    Calls Tryz.prog 102 #[.agg #[.int .i64 x.depth, .string x.text, .string x.space, .string x.name, .slice a n c], .int .i64 left] w (SzRes (Left left (SmallIt x)) w) := by
  obtain ⟨d, s, t, u, l⟩ := x
  obtain ⟨hs, ht, hu⟩ := hx
  dsimp only at hs ht hu h ⊢
  have K := Lib.hid (fun W left' hl0 hl1 (hb : Below w.heap.size w W) => szAttrS_any a n c l left' W hl0 hl1 (h.below hb))
  clear h
  go_enter Tryz.func102, Tryz.ntmps102
  go_wp2_with (go_at_call 170; refine (K.out _ _ (by omega) (by omega) (below1 _ _)).mono ?_; rintro e w1 ⟨r, hr, rfl, hb⟩)
  all_goals go_ret
  all_goals first
    | exact SzRes.mk Left.no (below1 _ _)
    | exact SzRes.mk Left.no ((below1 _ _).trans (hb.mono (by simp)))
    | exact SzRes.mk (hr.elim (fun e => by omega) fun e => Left.yes e.1 (by omega) ⟨⟨by show s.size ≤ 1048576; omega, by show t.size ≤ 1048576; omega, by show u.size ≤ 1048576; omega⟩, e.2.2⟩) ((below1 _ _).trans (hb.mono (by simp)))

set_option maxHeartbeats 800000 in
theorem szItemS_any (a : Option Addr) (n c : Nat) (l : List It) (left : Int) (w : World) (h0 : 0 ≤ left) (h1 : left ≤ 1048576) (h : ItsAt w a n c l) :
    Calls Tryz.prog 47 #[.slice a n c, .int .i64 left] w (SzRes (Left left (SmallIts l)) w) := by
  have hm := h.max
  have HR := Lib.hid h.row
  have HL := Lib.hid h.len
  clear h
  by_cases hn : (n : Int) ≤ left
  · go_enter Tryz.func47, Tryz.ntmps47
    go_wp2
    go_loopw [1, 5] (fun v i wr => ∃ (k : Nat) (r : Int), k ≤ n ∧ i = .int .i64 k ∧ v = .int .i64 r ∧ 0 ≤ r ∧ r ≤ left ∧ (∀ j, j < k → SmallIt (l.getD j dIt)) ∧ Below w.heap.size w wr) (fun _ i _ => n - (intOf i).toNat)
    case atStart => exact ⟨0, left - n, Nat.zero_le _, rfl, rfl, by omega, by omega, fun j hj => by omega, Below.refl _ _⟩
    case round =>
      obtain ⟨k, r, hk, rfl, rfl, hr0, hr1, hat, hb⟩ := hrel
      have HAT := Lib.hid hat
      clear hat
      by_cases hlt : k < n
      · rcases HR.out with e0 | ⟨b, o, rfl, hc⟩
        · omega
        · have hi := (hc k hlt).below hb
          have d0 := hi.c0
          have d1 := hi.c1
          have d2 := hi.c2
          have d3 := hi.c3
          obtain ⟨a4, n4, c4, d4, hat4⟩ := hi.c4
          have K := Lib.hid (fun W hb' => szItem_any (l.getD k dIt) a4 n4 c4 r W hr0 (by omega) hi.size (hat4.below hb'))
          clear hi hat4
          have HX := Lib.hid (show ∃ x, x = l.getD k dIt from ⟨_, rfl⟩)
          have HAT2 : Hid (SmallIt (l.getD k dIt) → ∀ j, j < k + 1 → SmallIt (l.getD j dIt)) := Lib.hid fun hx j hj => by
            rcases Nat.lt_or_ge j k with h | h
            · exact HAT.out j h
            · obtain rfl : j = k := by omega
              exact hx
          generalize l.getD k dIt = x at d0 d1 d2 d3 d4 K HAT2
          obtain ⟨xd, xt, xs, xn, xa⟩ := x
          dsimp only at d0 d1 d2 d3 d4 K HAT2
          have HB := Lib.hid hb
          clear hc hb
          go_wp2_with fail
          refine (K.out _ (Below.refl _ _)).mono ?_
          rintro e w2 ⟨r2, hr2, rfl, hb2⟩
          rcases hr2 with rfl | ⟨hr2, hr3, hr4⟩
          · go_wp2
            go_ret
            exact SzRes.mk Left.no (HB.out.trans (hb2.mono HB.out.size))
          · have HX4 := Lib.hid hr4
            clear hr4
            go_wp2
            go_roundw
            case rel => exact ⟨k + 1, r2, by omega, by go_num, rfl, by omega, by omega, HAT2.out HX4.out, HB.out.trans (hb2.mono HB.out.size)⟩
            case measure => simp [intOf]; omega
      · go_wp2
        go_ret
        exact SzRes.mk (Left.yes (by omega) (by omega) ⟨by have := HL.out; omega, fun i hi => HAT.out i (by have := HL.out; omega)⟩) hb
  · go_enter Tryz.func47, Tryz.ntmps47
    go_wp2
    go_ret
    exact SzRes.mk Left.no (Below.refl _ _)
end Go.Proofs.YtppgdbejbhhjlaaGreatDoor
