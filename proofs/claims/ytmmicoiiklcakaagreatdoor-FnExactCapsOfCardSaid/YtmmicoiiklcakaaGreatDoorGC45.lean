/- szIdentity, szIdentityS, szStringS, szDisco: what came in is small. -/
import Derived.Test.YtmmicoiiklcakaaGreatDoorGC3
namespace Go.Proofs.YtmmicoiiklcakaaGreatDoor
open Go.ChangeShapes Go.WideShapes Go.ChangeAt Go.RowKit
set_option linter.unusedVariables false

set_option maxHeartbeats 800000 in
theorem szIdentity_any (x : Ident) (left : Int) (w : World) (h0 : 0 ≤ left) (h1 : left ≤ 1048576) (hx : IdSize x) :
    Calls Tryz.prog 233 #[.agg #[.string x.cat, .string x.kind, .string x.lang, .string x.name], .int .i64 left] w (SzRes (Left left (SmallId x)) w) := by
  obtain ⟨s, t, u, v⟩ := x
  obtain ⟨hs, ht, hu, hv⟩ := hx
  dsimp only at hs ht hu hv ⊢
  go_enter Tryz.func233, Tryz.ntmps233
  go_wp2
  all_goals
    go_ret
    first
    | exact SzRes.mk Left.no (below1 _ _)
    | exact SzRes.mk (Left.yes (by omega) (by omega) ⟨by show s.size ≤ 1048576; omega, by show t.size ≤ 1048576; omega, by show u.size ≤ 1048576; omega, by show v.size ≤ 1048576; omega⟩) (below1 _ _)

set_option maxHeartbeats 800000 in
theorem szIdentityS_any (a : Option Addr) (n c : Nat) (l : List Ident) (left : Int) (w : World) (h0 : 0 ≤ left) (h1 : left ≤ 1048576) (hsz : IdsSize l) (h : IdsAt w a n c l) :
    Calls Tryz.prog 141 #[.slice a n c, .int .i64 left] w (SzRes (Left left (SmallIds l)) w) := by
  have hm := h.max
  have HR := Lib.hid h.row
  have HS := Lib.hid hsz
  have HL := Lib.hid h.len
  clear h hsz
  by_cases hn : (n : Int) ≤ left
  · go_enter Tryz.func141, Tryz.ntmps141
    go_wp2
    go_loopw [1, 5] (fun v i wr => ∃ (k : Nat) (r : Int), k ≤ n ∧ i = .int .i64 k ∧ v = .int .i64 r ∧ 0 ≤ r ∧ r ≤ left ∧ (∀ j, j < k → SmallId (l.getD j dId)) ∧ Below w.heap.size w wr) (fun _ i _ => n - (intOf i).toNat)
    case atStart => exact ⟨0, left - n, Nat.zero_le _, rfl, rfl, by omega, by omega, fun j hj => by omega, Below.refl _ _⟩
    case round =>
      obtain ⟨k, r, hk, rfl, rfl, hr0, hr1, hat, hb⟩ := hrel
      have HAT := Lib.hid hat
      clear hat
      by_cases hlt : k < n
      · rcases HR.out with e0 | ⟨b, o, rfl, hc⟩
        · omega
        · have hi := (hc k hlt).below hb
          have d0 := hi.c0
          have d1 := hi.c1
          have d2 := hi.c2
          have d3 := hi.c3
          have K := Lib.hid (fun W => szIdentity_any (l.getD k dId) r W hr0 (by omega) (HS.out k))
          have HAT2 : Hid (SmallId (l.getD k dId) → ∀ j, j < k + 1 → SmallId (l.getD j dId)) := Lib.hid fun hx j hj => by
            rcases Nat.lt_or_ge j k with h | h
            · exact HAT.out j h
            · obtain rfl : j = k := by omega
              exact hx
          clear hi
          generalize l.getD k dId = x at d0 d1 d2 d3 K HAT2
          obtain ⟨s, t, u, v⟩ := x
          dsimp only at d0 d1 d2 d3 K
          have HB := Lib.hid hb
          clear hc hb
          go_wp2_with fail
          refine (K.out _).mono ?_
          rintro e w2 ⟨r2, hr2, rfl, hb2⟩
          rcases hr2 with rfl | ⟨hr2, hr3, hr4⟩
          · go_wp2
            go_ret
            exact SzRes.mk Left.no (HB.out.trans (hb2.mono HB.out.size))
          · have HX4 := Lib.hid hr4
            clear hr4
            go_wp2
            go_roundw
            case rel => exact ⟨k + 1, r2, by omega, by go_num, rfl, by omega, by omega, HAT2.out HX4.out, HB.out.trans (hb2.mono HB.out.size)⟩
            case measure => simp [intOf]; omega
      · go_wp2
        go_ret
        exact SzRes.mk (Left.yes (by omega) (by omega) ⟨by have := HL.out; omega, fun i hi => HAT.out i (by have := HL.out; omega)⟩) hb
  · go_enter Tryz.func141, Tryz.ntmps141
    go_wp2
    go_ret
    exact SzRes.mk Left.no (Below.refl _ _)

set_option maxHeartbeats 800000 in
theorem szStringS_any (a : Option Addr) (n c : Nat) (l : List ByteArray) (left : Int) (w : World) (h0 : 0 ≤ left) (h1 : left ≤ 1048576) (hsz : StsSize l) (h : StsAt w a n c l) :
    Calls Tryz.prog 142 #[.slice a n c, .int .i64 left] w (SzRes (Left left (SmallSts l)) w) := by
  have hm := h.max
  have HR := Lib.hid h.row
  have HS := Lib.hid hsz
  have HL := Lib.hid h.len
  clear h hsz
  by_cases hn : (n : Int) ≤ left
  · go_enter Tryz.func142, Tryz.ntmps142
    go_wp2
    go_loopw [1, 5] (fun v i wr => ∃ (k : Nat) (r : Int), k ≤ n ∧ i = .int .i64 k ∧ v = .int .i64 r ∧ 0 ≤ r ∧ r ≤ left ∧ (∀ j, j < k → (l.getD j ByteArray.empty).size ≤ 1048576) ∧ Below w.heap.size w wr) (fun _ i _ => n - (intOf i).toNat)
    case atStart => exact ⟨0, left - n, Nat.zero_le _, rfl, rfl, by omega, by omega, fun j hj => by omega, Below.refl _ _⟩
    case round =>
      obtain ⟨k, r, hk, rfl, rfl, hr0, hr1, hat, hb⟩ := hrel
      have HAT := Lib.hid hat
      have HB := Lib.hid hb
      clear hat hb
      by_cases hlt : k < n
      · rcases HR.out with e0 | ⟨b, o, rfl, hb0, hc⟩
        · omega
        · have d0 := (HB.out.cell (p := ⟨b, o + k, none⟩) hb0).trans (hc k hlt)
          have hs := HS.out k
          have HAT2 : Hid ((l.getD k ByteArray.empty).size ≤ 1048576 → ∀ j, j < k + 1 → (l.getD j ByteArray.empty).size ≤ 1048576) := Lib.hid fun hx j hj => by
            rcases Nat.lt_or_ge j k with h | h
            · exact HAT.out j h
            · obtain rfl : j = k := by omega
              exact hx
          generalize l.getD k ByteArray.empty = t at d0 hs HAT2
          clear hc
          by_cases hlr : (t.size : Int) ≤ r
          · go_wp2
            go_roundw
            case rel => exact ⟨k + 1, _, by omega, by go_num, rfl, by omega, by omega, HAT2.out (by omega), HB.out⟩
            case measure => simp [intOf]; omega
          · go_wp2
            go_ret
            exact SzRes.mk Left.no HB.out
      · go_wp2
        go_ret
        exact SzRes.mk (Left.yes (by omega) (by omega) ⟨by have := HL.out; omega, fun i hi => HAT.out i (by have := HL.out; omega)⟩) HB.out
  · go_enter Tryz.func142, Tryz.ntmps142
    go_wp2
    go_ret
    exact SzRes.mk Left.no (Below.refl _ _)

set_option maxHeartbeats 800000 in
theorem szDisco_any (a1 a2 : Option Addr) (n1 c1 n2 c2 : Nat) (d : Dis) (left : Int) (w : World) (h0 : 0 ≤ left) (h1 : left ≤ 1048576) (hs1 : IdsSize d.ids) (hs2 : StsSize d.feats) (h : DisAt w a1 n1 c1 a2 n2 c2 d) :
    Calls Tryz.prog 66 #[.agg #[.slice a1 n1 c1, .slice a2 n2 c2], .int .i64 left] w (SzRes (Left left (SmallDis d)) w) := by
  have K1 := Lib.hid (fun W left' hl0 hl1 (hb : Below w.heap.size w W) => szIdentityS_any a1 n1 c1 d.ids left' W hl0 hl1 hs1 (h.ids.below hb))
  have K2 := Lib.hid (fun W left' hl0 hl1 (hb : Below w.heap.size w W) => szStringS_any a2 n2 c2 d.feats left' W hl0 hl1 hs2 (h.feats.below hb))
  clear h hs1 hs2
  go_enter Tryz.func66, Tryz.ntmps66
  go_wp2_with fail
  refine (K1.out _ _ (by omega) (by omega) (below1 _ _)).mono ?_
  rintro e w1 ⟨r, hr, rfl, hb1⟩
  have B1 := Lib.hid (below_then (below1 _ _) hb1)
  obtain ⟨hc1, hf1⟩ := bcell hb1
  have e1 : w1.cell? ⟨w.heap.size, 1, none⟩ = some (.slice a2 n2 c2) := by rw [hc1 _ _ (by simp)]; simp
  clear hb1 hc1 hf1
  rcases hr with rfl | ⟨hr2, hr3, hr4⟩
  · go_wp2
    go_ret
    exact SzRes.mk Left.no B1.out
  · have HX := Lib.hid hr4
    clear hr4
    go_wp2_with fail
    refine (K2.out _ _ (by omega) (by omega) B1.out).mono ?_
    rintro e w2 ⟨r2, hr2', rfl, hb2⟩
    have B2 := Lib.hid (below_then B1.out hb2)
    clear hb2
    rcases hr2' with rfl | ⟨hq2, hq3, hq4⟩
    · go_wp2
      go_ret
      exact SzRes.mk Left.no B2.out
    · have HX2 := Lib.hid hq4
      clear hq4
      go_wp2
      go_ret
      exact SzRes.mk (Left.yes (by omega) (by omega) ⟨HX.out, HX2.out⟩) B2.out
end Go.Proofs.YtmmicoiiklcakaaGreatDoor
