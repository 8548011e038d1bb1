/- szIdentity, szIdentityS, szStringS, szDisco: what came in is small. -/
import Derived.Test.YtmmicoiiklcakaaDoorGK4
import Derived.Deep.RegionHeld3
namespace Go.Proofs.YtmmicoiiklcakaaDoor
open Go.ChangeShapes Go.WideShapes Go.ChangeAt Go.RowKit
set_option linter.unusedVariables false

set_option maxHeartbeats 800000 in
theorem szIdentity_any (x : Ident) (left : Int) (w : World) (h0 : 0 ≤ left) (h1 : left ≤ 1048576) (hx : IdSize x) :
    Calls Tryd.prog 21 #[.agg #[.string x.cat, .string x.kind, .string x.lang, .string x.name], .int .i64 left] w (SzRes (Left left (SmallId x)) w) := by
  obtain ⟨s, t, u, v⟩ := x
  obtain ⟨hs, ht, hu, hv⟩ := hx
  dsimp only at hs ht hu hv ⊢
  go_enter Tryd.func21, Tryd.ntmps21
  go_wp2
  all_goals
    go_ret
    first
    | exact SzRes.mk Left.no (below1 _ _)
    | exact SzRes.mk (Left.yes (by omega) (by omega) ⟨by show s.size ≤ 1048576; omega, by show t.size ≤ 1048576; omega, by show u.size ≤ 1048576; omega, by show v.size ≤ 1048576; omega⟩) (below1 _ _)

set_option maxHeartbeats 800000 in
theorem szIdentityS_any (a : Option Addr) (n c : Nat) (l : List Ident) (left : Int) (w : World) (h0 : 0 ≤ left) (h1 : left ≤ 1048576) (hsz : IdsSize l) (h : IdsAt w a n c l) :
    Calls Tryd.prog 10 #[.slice a n c, .int .i64 left] w (SzRes (Left left (SmallIds l)) w) := by
  have hm := h.max
  have HR := Lib.hid h.row
  have HS := Lib.hid hsz
  have HL := Lib.hid h.len
  clear h hsz
  by_cases hn : (n : Int) ≤ left
  · go_enter Tryd.func10, Tryd.ntmps10
    go_wp2
    go_loopw [1, 5] (fun v i wr => ∃ (k : Nat) (r : Int), k ≤ n ∧ i = .int .i64 k ∧ v = .int .i64 r ∧ 0 ≤ r ∧ r ≤ left ∧ (∀ j, j < k → SmallId (l.getD j dId)) ∧ Below w.heap.size w wr) (fun _ i _ => n - (intOf i).toNat)
    case atStart => exact ⟨0, left - n, Nat.zero_le _, rfl, rfl, by omega, by omega, fun j hj => by omega, Below.refl _ _⟩
    case round =>
      obtain ⟨k, r, hk, rfl, rfl, hr0, hr1, hat, hb⟩ := hrel
      have HAT := Lib.hid hat
      clear hat
      by_cases hlt : k < n
      · rcases HR.out with e0 | ⟨b, o, rfl, hc⟩
        · omega
        · have hi := (hc k hlt).below hb
          have d0 := hi.c0
          have d1 := hi.c1
          have d2 := hi.c2
          have d3 := hi.c3
          have K := Lib.hid (fun W => szIdentity_any (l.getD k dId) r W hr0 (by omega) (HS.out k))
          have HAT2 : Hid (SmallId (l.getD k dId) → ∀ j, j < k + 1 → SmallId (l.getD j dId)) := Lib.hid fun hx j hj => by
            rcases Nat.lt_or_ge j k with h | h
            · exact HAT.out j h
            · obtain rfl : j = k := by omega
              exact hx
          clear hi
          generalize l.getD k dId = x at d0 d1 d2 d3 K HAT2
          obtain ⟨s, t, u, v⟩ := x
          dsimp only at d0 d1 d2 d3 K
          have HB := Lib.hid hb
          clear hc hb
          go_wp2_with fail
          refine (K.out _).mono ?_
          rintro e w2 ⟨r2, hr2, rfl, hb2⟩
          rcases hr2 with rfl | ⟨hr2, hr3, hr4⟩
          · go_wp2
            go_ret
            exact SzRes.mk Left.no (HB.out.trans (hb2.mono HB.out.size))
          · have HX4 := Lib.hid hr4
            clear hr4
            go_wp2
            go_roundw
            case rel => exact ⟨k + 1, r2, by omega, by go_num, rfl, by omega, by omega, HAT2.out HX4.out, HB.out.trans (hb2.mono HB.out.size)⟩
            case measure => simp [intOf]; omega
      · go_wp2
        go_ret
        exact SzRes.mk (Left.yes (by omega) (by omega) ⟨by have := HL.out; omega, fun i hi => HAT.out i (by have := HL.out; omega)⟩) hb
  · go_enter Tryd.func10, Tryd.ntmps10
    go_wp2
    go_ret
    exact SzRes.mk Left.no (Below.refl _ _)

set_option maxHeartbeats 800000 in
theorem szStringS_any (a : Option Addr) (n c : Nat) (l : List ByteArray) (left : Int) (w : World) (h0 : 0 ≤ left) (h1 : left ≤ 1048576) (hsz : StsSize l) (h : StsAt w a n c l) :
    Calls Tryd.prog 11 #[.slice a n c, .int .i64 left] w (SzRes (Left left (SmallSts l)) w) := by
  have hm := h.max
  have HR := Lib.hid h.row
  have HS := Lib.hid hsz
  have HL := Lib.hid h.len
  clear h hsz
  by_cases hn : (n : Int) ≤ left
  · go_enter Tryd.func11, Tryd.ntmps11
    go_wp2
    go_loopw [1, 5] (fun v i wr => ∃ (k : Nat) (r : Int), k ≤ n ∧ i = .int .i64 k ∧ v = .int .i64 r ∧ 0 ≤ r ∧ r ≤ left ∧ (∀ j, j < k → (l.getD j ByteArray.empty).size ≤ 1048576) ∧ Below w.heap.size w wr) (fun _ i _ => n - (intOf i).toNat)
    case atStart => exact ⟨0, left - n, Nat.zero_le _, rfl, rfl, by omega, by omega, fun j hj => by omega, Below.refl _ _⟩
    case round =>
      obtain ⟨k, r, hk, rfl, rfl, hr0, hr1, hat, hb⟩ := hrel
      have HAT := Lib.hid hat
      have HB := Lib.hid hb
      clear hat hb
      by_cases hlt : k < n
      · rcases HR.out with e0 | ⟨b, o, rfl, hb0, hc⟩
        · omega
        · have d0 := (HB.out.cell (p := ⟨b, o + k, none⟩) hb0).trans (hc k hlt)
          have hs := HS.out k
          have HAT2 : Hid ((l.getD k ByteArray.empty).size ≤ 1048576 → ∀ j, j < k + 1 → (l.getD j ByteArray.empty).size ≤ 1048576) := Lib.hid fun hx j hj => by
            rcases Nat.lt_or_ge j k with h | h
            · exact HAT.out j h
            · obtain rfl : j = k := by omega
              exact hx
          generalize l.getD k ByteArray.empty = t at d0 hs HAT2
          clear hc
          by_cases hlr : (t.size : Int) ≤ r
          · go_wp2
            go_roundw
            case rel => exact ⟨k + 1, _, by omega, by go_num, rfl, by omega, by omega, HAT2.out (by omega), HB.out⟩
            case measure => simp [intOf]; omega
          · go_wp2
            go_ret
            exact SzRes.mk Left.no HB.out
      · go_wp2
        go_ret
        exact SzRes.mk (Left.yes (by omega) (by omega) ⟨by have := HL.out; omega, fun i hi => HAT.out i (by have := HL.out; omega)⟩) HB.out
  · go_enter Tryd.func11, Tryd.ntmps11
    go_wp2
    go_ret
    exact SzRes.mk Left.no (Below.refl _ _)

set_option maxHeartbeats 800000 in
theorem szDisco_any (a1 a2 : Option Addr) (n1 c1 n2 c2 : Nat) (d : Dis) (left : Int) (w : World) (h0 : 0 ≤ left) (h1 : left ≤ 1048576) (hs1 : IdsSize d.ids) (hs2 : StsSize d.feats) (h : DisAt w a1 n1 c1 a2 n2 c2 d) :
    Calls Tryd.prog 4 #[.agg #[.slice a1 n1 c1, .slice a2 n2 c2], .int .i64 left] w (SzRes (Left left (SmallDis d)) w) := by
  have K1 := Lib.hid (fun W left' hl0 hl1 (hb : Below w.heap.size w W) => szIdentityS_any a1 n1 c1 d.ids left' W hl0 hl1 hs1 (h.ids.below hb))
  have K2 := Lib.hid (fun W left' hl0 hl1 (hb : Below w.heap.size w W) => szStringS_any a2 n2 c2 d.feats left' W hl0 hl1 hs2 (h.feats.below hb))
  clear h hs1 hs2
  go_enter Tryd.func4, Tryd.ntmps4
  go_wp2_with fail
  refine (K1.out _ _ (by omega) (by omega) (below1 _ _)).mono ?_
  rintro e w1 ⟨r, hr, rfl, hb1⟩
  have B1 := Lib.hid (below_then (below1 _ _) hb1)
  obtain ⟨hc1, hf1⟩ := bcell hb1
  have e1 : w1.cell? ⟨w.heap.size, 1, none⟩ = some (.slice a2 n2 c2) := by rw [hc1 _ _ (by simp)]; simp
  clear hb1 hc1 hf1
  rcases hr with rfl | ⟨hr2, hr3, hr4⟩
  · go_wp2
    go_ret
    exact SzRes.mk Left.no B1.out
  · have HX := Lib.hid hr4
    clear hr4
    go_wp2_with fail
    refine (K2.out _ _ (by omega) (by omega) B1.out).mono ?_
    rintro e w2 ⟨r2, hr2', rfl, hb2⟩
    have B2 := Lib.hid (below_then B1.out hb2)
    clear hb2
    rcases hr2' with rfl | ⟨hq2, hq3, hq4⟩
    · go_wp2
      go_ret
      exact SzRes.mk Left.no B2.out
    · have HX2 := Lib.hid hq4
      clear hq4
      go_wp2
      go_ret
      exact SzRes.mk (Left.yes (by omega) (by omega) ⟨HX.out, HX2.out⟩) B2.out
end Go.Proofs.YtmmicoiiklcakaaDoor

/- eqIdentity, eqIdentityS, eqStringS, eqDisco at two readings of one list. -/
namespace Go.Proofs.YtmmicoiiklcakaaDoor
open Go.ChangeShapes Go.WideShapes Go.ChangeAt Go.RowKit
set_option linter.unusedVariables false

set_option maxHeartbeats 400000 in
theorem eqIdentity_true (s t u v : ByteArray) (w : World) :
    Calls Tryd.prog 39 #[.agg #[.string s, .string t, .string u, .string v], .agg #[.string s, .string t, .string u, .string v]] w fun e w' => e = .returned (.bool true) ∧ Below w.heap.size w w' := by
  go_enter Tryd.func39, Tryd.ntmps39
  go_wp2
  go_ret
  exact ⟨rfl, below2 _ _ _⟩

theorem held4d {w0 W W' : World} {p1 p2 p3 p4 : Addr} {v1 v2 v3 v4 : Value} (hb : Below W.heap.size W W')
    (h : Below w0.heap.size w0 W ∧ W.cell? p1 = some v1 ∧ W.cell? p2 = some v2 ∧ W.cell? p3 = some v3 ∧ W.cell? p4 = some v4) :
    Below w0.heap.size w0 W' ∧ W'.cell? p1 = some v1 ∧ W'.cell? p2 = some v2 ∧ W'.cell? p3 = some v3 ∧ W'.cell? p4 = some v4 :=
  ⟨below_then h.1 hb, (hb.cell (World.block_lt_of_cell? W _ h.2.1)).trans h.2.1, (hb.cell (World.block_lt_of_cell? W _ h.2.2.1)).trans h.2.2.1, (hb.cell (World.block_lt_of_cell? W _ h.2.2.2.1)).trans h.2.2.2.1, (hb.cell (World.block_lt_of_cell? W _ h.2.2.2.2)).trans h.2.2.2.2⟩
theorem held8 {w0 W W' : World} {p0 p1 p2 p3 p4 p5 p6 p7 : Addr} {v0 v1 v2 v3 v4 v5 v6 v7 : Value} (hb : Below W.heap.size W W')
    (h : Below w0.heap.size w0 W ∧ W.cell? p0 = some v0 ∧ W.cell? p1 = some v1 ∧ W.cell? p2 = some v2 ∧ W.cell? p3 = some v3 ∧ W.cell? p4 = some v4 ∧ W.cell? p5 = some v5 ∧ W.cell? p6 = some v6 ∧ W.cell? p7 = some v7) :
    Below w0.heap.size w0 W' ∧ W'.cell? p0 = some v0 ∧ W'.cell? p1 = some v1 ∧ W'.cell? p2 = some v2 ∧ W'.cell? p3 = some v3 ∧ W'.cell? p4 = some v4 ∧ W'.cell? p5 = some v5 ∧ W'.cell? p6 = some v6 ∧ W'.cell? p7 = some v7 := by
  obtain ⟨h0, h1, h2, h3, h4, h5, h6, h7, h8⟩ := h
  have k : ∀ {p : Addr} {v : Value}, W.cell? p = some v → W'.cell? p = some v := fun h => (hb.cell (World.block_lt_of_cell? W _ h)).trans h
  exact ⟨below_then h0 hb, k h1, k h2, k h3, k h4, k h5, k h6, k h7, k h8⟩

set_option maxRecDepth 100000 in
set_option maxHeartbeats 3200000 in
theorem eqIdentityS_true (a a' : Option Addr) (n n' c c' : Nat) (l : List Ident) (w : World) (h : IdsAt w a n c l) (h' : IdsAt w a' n' c' l) :
    Calls Tryd.prog 19 #[.slice a n c, .slice a' n' c'] w fun e w' => e = .returned (.bool true) ∧ Below w.heap.size w w' := by
  obtain rfl : n = n' := h.len.symm.trans h'.len
  have hm := h.max
  have HR := Lib.hid h.row
  have HR' := Lib.hid h'.row
  clear h h'
  go_enter Tryd.func19, Tryd.ntmps19
  go_wp2
  go_loopw [5] (fun i wr => ∃ k : Nat, k ≤ n ∧ i = .int .i64 k ∧ Below w.heap.size w wr) (fun i _ => n - (intOf i).toNat)
  case atStart => exact ⟨0, Nat.zero_le _, rfl, Below.refl _ _⟩
  case round =>
    obtain ⟨k, hk, rfl, hb⟩ := hrel
    by_cases hlt : k < n
    · rcases HR.out with e0 | ⟨b, o, rfl, h4⟩
      · omega
      rcases HR'.out with e0 | ⟨b', o', rfl, h4'⟩
      · omega
      have hi := (h4 k hlt).below hb
      have hi' := (h4' k hlt).below hb
      have d0 := hi.c0
      have d1 := hi.c1
      have d2 := hi.c2
      have d3 := hi.c3
      have e0 := hi'.c0
      have e1 := hi'.c1
      have e2 := hi'.c2
      have e3 := hi'.c3
      have k1 : (k : Int) < (n : Int) := by omega
      clear hi hi' h4 h4'
      generalize l.getD k dId = x at d0 d1 d2 d3 e0 e1 e2 e3
      obtain ⟨s, t, u, v⟩ := x
      dsimp only at d0 d1 d2 d3 e0 e1 e2 e3
      have HB := Lib.hid hb
      clear hb
      go_wp2_with fail
      have hS0 : Below wr.heap.size wr wr.drew ∧ wr.drew.cell? ⟨b, o + k * 4, none⟩ = some (.string s) ∧ wr.drew.cell? ⟨b, o + k * 4 + 1, none⟩ = some (.string t) ∧ wr.drew.cell? ⟨b, o + k * 4 + 2, none⟩ = some (.string u) ∧ wr.drew.cell? ⟨b, o + k * 4 + 3, none⟩ = some (.string v) ∧ wr.drew.cell? ⟨b', o' + k * 4, none⟩ = some (.string s) ∧ wr.drew.cell? ⟨b', o' + k * 4 + 1, none⟩ = some (.string t) ∧ wr.drew.cell? ⟨b', o' + k * 4 + 2, none⟩ = some (.string u) ∧ wr.drew.cell? ⟨b', o' + k * 4 + 3, none⟩ = some (.string v) := ⟨(Below.refl _ _).drew, d0, d1, d2, d3, e0, e1, e2, e3⟩
      go_region_held3 (fun W => Below wr.heap.size wr W ∧ W.cell? ⟨b, o + k * 4, none⟩ = some (.string s) ∧ W.cell? ⟨b, o + k * 4 + 1, none⟩ = some (.string t) ∧ W.cell? ⟨b, o + k * 4 + 2, none⟩ = some (.string u) ∧ W.cell? ⟨b, o + k * 4 + 3, none⟩ = some (.string v) ∧ W.cell? ⟨b', o' + k * 4, none⟩ = some (.string s) ∧ W.cell? ⟨b', o' + k * 4 + 1, none⟩ = some (.string t) ∧ W.cell? ⟨b', o' + k * 4 + 2, none⟩ = some (.string u) ∧ W.cell? ⟨b', o' + k * 4 + 3, none⟩ = some (.string v)) (first | assumption | exact held8 hbr (by assumption))
        (first | (go_at_call 39; refine (eqIdentity_true s t u v _).mono ?_; rintro e w' ⟨rfl, hbr⟩))
      go_wp2
      go_roundw
      case rel => exact ⟨k + 1, by omega, by go_num, below_then HB.out (below_of_drew hbr)⟩
      case measure => simp [intOf]; omega
    · go_wp2
      go_ret
      exact ⟨rfl, hb⟩

set_option maxHeartbeats 1600000 in
theorem eqStringS_sts (a a' : Option Addr) (n n' c c' : Nat) (l : List ByteArray) (w : World) (h : StsAt w a n c l) (h' : StsAt w a' n' c' l) :
    Calls Tryd.prog 20 #[.slice a n c, .slice a' n' c'] w fun e w' => e = .returned (.bool true) ∧ ∃ m, w' = w.drewN m := by
  obtain rfl : n = n' := h.len.symm.trans h'.len
  have hm := h.max
  have HR := Lib.hid h.row
  have HR' := Lib.hid h'.row
  clear h h'
  go_enter Tryd.func20, Tryd.ntmps20
  go_wp2
  go_loopw [5] (fun i wr => ∃ k : Nat, k ≤ n ∧ i = .int .i64 k ∧ ∃ m, wr = w.drewN m) (fun i _ => n - (intOf i).toNat)
  case atStart => exact ⟨0, Nat.zero_le _, rfl, 0, rfl⟩
  case round =>
    obtain ⟨k, hk, rfl, nd, rfl⟩ := hrel
    by_cases hlt : k < n
    · rcases HR.out with e0 | ⟨b, o, rfl, h3, h4⟩
      · omega
      rcases HR'.out with e0 | ⟨b', o', rfl, h3', h4'⟩
      · omega
      have d1 := h4 k hlt
      have d2 := h4' k hlt
      have k1 : (k : Int) < (n : Int) := by omega
      clear h4 h4'
      generalize l.getD k ByteArray.empty = t at d1 d2
      have q1 : (t.toList == t.toList) = true := by simp
      have q2 : (t.toList != t.toList) = false := by simp
      go_wp2_with fail
      go_quiet (fail)
      go_wp2
      go_roundw
      case rel => exact ⟨k + 1, by omega, by go_num, _, rfl⟩
      case measure => simp [intOf]; omega
    · go_wp2
      go_ret
      exact ⟨rfl, _, rfl⟩

set_option maxHeartbeats 1600000 in
theorem eqDisco_true (a1 a2 b1 b2 : Option Addr) (n1 c1 n2 c2 m1 k1 m2 k2 : Nat) (d : Dis) (w : World) (h : DisAt w a1 n1 c1 a2 n2 c2 d) (h' : DisAt w b1 m1 k1 b2 m2 k2 d) :
    Calls Tryd.prog 9 #[.agg #[.slice a1 n1 c1, .slice a2 n2 c2], .agg #[.slice b1 m1 k1, .slice b2 m2 k2]] w fun e w' => e = .returned (.bool true) ∧ Below w.heap.size w w' := by
  have K1 := Lib.hid (fun W (hb : Below w.heap.size w W) => eqIdentityS_true a1 b1 n1 m1 c1 k1 d.ids W (h.ids.below hb) (h'.ids.below hb))
  have K2 := Lib.hid (fun W (hb : Below w.heap.size w W) => eqStringS_sts a2 b2 n2 m2 c2 k2 d.feats W (h.feats.below hb) (h'.feats.below hb))
  clear h h'
  go_enter Tryd.func9, Tryd.ntmps9
  go_wp2_with fail
  refine (K1.out _ (below2 _ _ _)).mono ?_
  rintro e w1 ⟨rfl, hb1⟩
  obtain ⟨hc1, hf1⟩ := bcell hb1
  have e1 : w1.cell? ⟨w.heap.size, 1, none⟩ = some (.slice a2 n2 c2) := by rw [hc1 _ _ (by simp; omega)]; simp
  have e2 : w1.cell? ⟨w.heap.size + 1, 1, none⟩ = some (.slice b2 m2 k2) := by rw [hc1 _ _ (by simp)]; simp
  have B1 := Lib.hid (below_then (below2 _ _ _) hb1)
  clear hb1 hc1 hf1
  go_wp2_with fail
  refine (K2.out _ B1.out).mono ?_
  rintro e w2 ⟨rfl, nd, rfl⟩
  go_wp2
  go_ret
  exact ⟨rfl, below_drewN B1.out _⟩
end Go.Proofs.YtmmicoiiklcakaaDoor
