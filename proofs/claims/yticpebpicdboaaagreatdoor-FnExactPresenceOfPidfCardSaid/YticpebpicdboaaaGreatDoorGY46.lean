/- markPresence. -/
import Derived.Test.YticpebpicdboaaaGreatDoorGY0
import Derived.Test.YticpebpicdboaaaGreatDoorGY45
import Derived.Test.YticpebpicdboaaaGreatDoorGY29
import Derived.Test.YticpebpicdboaaaGreatDoorGY44
import Derived.Test.YticpebpicdboaaaGreatDoorGY37
import Derived.Test.YticpebpicdboaaaGreatDoorGY13
import Derived.Deep.Slices
import Derived.ChangeSame
namespace Go.Proofs.YticpebpicdboaaaGreatDoor
open Go.ChangeShapes Go.WideShapes Go.ChangeAt Go.RowKit
set_option linter.unusedVariables false

theorem Var2.only {P : Nat → Prop} {w w1 : World} {b : Nat} {cd : Int} {v : Value} (h : Var2 w b cd v) (ho : Only P w w1) (hn : ¬ P b) : Var2 w1 b cd v :=
  ⟨Nat.lt_of_lt_of_le h.lt ho.size, (ho.cell (by exact h.lt) hn).trans h.c0, (ho.cell (by exact h.lt) hn).trans h.c1⟩
theorem kAt_many (k : Nat) (l : List It) (h : ∀ i, (l.getD i dIt).attrs.length ≤ 1048576) : ∀ n, kAt k l n ≤ k + 2097156 * n
  | 0 => Nat.le_refl _
  | n + 1 => by
    have h1 := kAt_many k l h n
    have h2 := h n
    show kAt k l n + 4 + 2 * _ ≤ _
    omega
set_option maxRecDepth 100000 in
set_option maxHeartbeats 1600000 in
theorem markPresence_any (pk : Int) (pf pt : ByteArray) (ps : Int) (pu : ByteArray) (pp : Int) (lo hi : Nat) (a : Option Addr) (n c k : Nat) (l : List It) (w : World) (h0 : 0 < k) (hK : kAt k l n ≤ 10000000000000000) (hA : ∀ i, i < n → (l.getD i dIt).attrs.length ≤ 1048576) (h : OwnIts w lo hi a n c l) :
    Calls Tryz.prog 134 #[.agg #[.int .i64 pk, .string pf, .string pt, .int .i64 ps, .string pu, .int .i64 pp, .slice a n c], .int .i64 k] w (MarkIts w lo hi a n c k l) := by
  have K := Lib.hid (fun W (hb : Below w.heap.size w W) => markItemS_any lo hi a n c k l W h0 hK hA (h.below hb))
  clear h hK hA
  go_enter Tryz.func134, Tryz.ntmps134
  go_wp2_with fail
  refine (K.out _ (below1 _ _)).mono ?_
  rintro e w1 ⟨rfl, hown, ho⟩
  go_wp2
  go_ret
  exact ⟨rfl, hown, (Only.below (below1 _ _)).trans ho⟩
end Go.Proofs.YticpebpicdboaaaGreatDoor

/- A code and a presence: handed back, held to be the same, marked, held. -/
namespace Go.Proofs.YticpebpicdboaaaGreatDoor
open Go.ChangeShapes Go.WideShapes Go.ChangeAt Go.RowKit
set_option linter.unusedVariables false

set_option maxRecDepth 100000 in
set_option maxHeartbeats 1600000 in
theorem eqPresenceResult_true (cd : Int) (r : Pr) (a a' : Option Addr) (n n' c c' : Nat) (w : World) (h : ItsAt w a n c r.more) (h' : ItsAt w a' n' c' r.more) :
    Calls Tryz.prog 60 #[.agg #[.int .i64 cd, .int .i64 r.kind, .string r.sender, .string r.goal, .int .i64 r.shown, .string r.status, .int .i64 r.prio, .slice a n c], .agg #[.int .i64 cd, .int .i64 r.kind, .string r.sender, .string r.goal, .int .i64 r.shown, .string r.status, .int .i64 r.prio, .slice a' n' c']] w fun e w' => e = .returned (.bool true) ∧ Below w.heap.size w w' := by
  have K := Lib.hid (fun W (hb : Below w.heap.size w W) => eqPresence_true r a a' n n' c c' W (h.below hb) (h'.below hb))
  clear h h'
  obtain ⟨rk, rf, rt, rs, ru, rp, rm⟩ := r
  dsimp only at K ⊢
  have q1 : (cd != cd) = false := by simp
  go_enter Tryz.func60, Tryz.ntmps60
  go_wp2_with fail
  refine (K.out _ (below2 _ _ _)).mono ?_
  rintro e w1 ⟨rfl, hb⟩
  go_wp2
  go_ret
  exact ⟨rfl, below_then (below2 _ _ _) hb⟩

set_option maxRecDepth 100000 in
set_option maxHeartbeats 1600000 in
theorem markPresenceResult_any (cd rk : Int) (rf rt : ByteArray) (rs : Int) (ru : ByteArray) (rp : Int) (lo hi : Nat) (a : Option Addr) (n c k : Nat) (l : List It) (w : World) (h0 : 0 < k) (hK : kAt k l n ≤ 10000000000000000) (hA : ∀ i, i < n → (l.getD i dIt).attrs.length ≤ 1048576) (h : OwnIts w lo hi a n c l) :
    Calls Tryz.prog 63 #[.agg #[.int .i64 cd, .int .i64 rk, .string rf, .string rt, .int .i64 rs, .string ru, .int .i64 rp, .slice a n c], .int .i64 k] w (MarkIts w lo hi a n c k l) := by
  have K := Lib.hid (fun W (hb : Below w.heap.size w W) => markPresence_any rk rf rt rs ru rp lo hi a n c k l W h0 hK hA (h.below hb))
  clear h hK hA
  go_enter Tryz.func63, Tryz.ntmps63
  go_wp2_with fail
  refine (K.out _ (below1 _ _)).mono ?_
  rintro e w1 ⟨rfl, hown, ho⟩
  go_wp2
  go_ret
  exact ⟨rfl, hown, (Only.below (below1 _ _)).trans ho⟩

set_option maxHeartbeats 800000 in
theorem heldPresence_any (rk : Int) (rf rt : ByteArray) (rs : Int) (ru : ByteArray) (rp : Int) (a : Option Addr) (n c k : Nat) (l : List It) (w : World) (h0 : 0 < k) (hK : kAt k l n ≤ 10000000000000000) (hA : ∀ i, i < n → (l.getD i dIt).attrs.length ≤ 1048576) (hlen : l.length = n) (h : ItsAt w a n c (markIts k l)) :
    Calls Tryz.prog 135 #[.agg #[.int .i64 rk, .string rf, .string rt, .int .i64 rs, .string ru, .int .i64 rp, .slice a n c], .int .i64 k] w fun e w' => e = .returned (.int .i64 ((kAt k l n : Nat) : Int)) ∧ Below w.heap.size w w' := by
  have K := Lib.hid (fun W (hb : Below w.heap.size w W) => heldItemS_any a n c k l W h0 hK hA hlen (h.below hb))
  have hk0 : (0 : Int) ≤ ((kAt k l n : Nat) : Int) := by omega
  generalize kAt k l n = m at K hk0
  clear h hK hA
  go_enter Tryz.func135, Tryz.ntmps135
  go_wp2_with fail
  refine (K.out _ (below1 _ _)).mono ?_
  rintro e w1 ⟨rfl, hb⟩
  go_wp2
  go_ret
  exact ⟨rfl, below_then (below1 _ _) hb⟩

set_option maxHeartbeats 800000 in
theorem heldPresenceResult_any (cd rk : Int) (rf rt : ByteArray) (rs : Int) (ru : ByteArray) (rp : Int) (a : Option Addr) (n c k : Nat) (l : List It) (w : World) (h0 : 0 < k) (hK : kAt k l n ≤ 10000000000000000) (hA : ∀ i, i < n → (l.getD i dIt).attrs.length ≤ 1048576) (hlen : l.length = n) (h : ItsAt w a n c (markIts k l)) :
    Calls Tryz.prog 64 #[.agg #[.int .i64 cd, .int .i64 rk, .string rf, .string rt, .int .i64 rs, .string ru, .int .i64 rp, .slice a n c], .int .i64 k] w fun e w' => e = .returned (.int .i64 ((kAt k l n : Nat) : Int)) ∧ Below w.heap.size w w' := by
  have K := Lib.hid (fun W (hb : Below w.heap.size w W) => heldPresence_any rk rf rt rs ru rp a n c k l W h0 hK hA hlen (h.below hb))
  have hk0 : (0 : Int) ≤ ((kAt k l n : Nat) : Int) := by omega
  generalize kAt k l n = m at K hk0
  clear h hK hA
  go_enter Tryz.func64, Tryz.ntmps64
  go_wp2_with fail
  refine (K.out _ (below1 _ _)).mono ?_
  rintro e w1 ⟨rfl, hb⟩
  go_wp2
  go_ret
  exact ⟨rfl, below_then (below1 _ _) hb⟩
end Go.Proofs.YticpebpicdboaaaGreatDoor

/- szAttr, szAttrS, szItem, szItemS: what came in is small. -/
namespace Go.Proofs.YticpebpicdboaaaGreatDoor
open Go.ChangeShapes Go.WideShapes Go.ChangeAt Go.RowKit
set_option linter.unusedVariables false

set_option maxHeartbeats 400000 in
theorem szAttr_any (x : At) (left : Int) (w : World) (h0 : 0 ≤ left) (h1 : left ≤ 1048576) (hx : x.name.size ≤ 9223372036854775807 ∧ x.value.size ≤ 9223372036854775807) :
    Calls Tryz.prog 277 #[.agg #[.string x.name, .string x.value], .int .i64 left] w (SzRes (Left left (SmallAt x)) w) := by
  obtain ⟨s, t⟩ := x
  obtain ⟨hs, ht⟩ := hx
  dsimp only at hs ht ⊢
  go_enter Tryz.func277, Tryz.ntmps277
  go_wp2
  all_goals
    go_ret
    first
    | exact SzRes.mk Left.no (below1 _ _)
    | exact SzRes.mk (Left.yes (by omega) (by omega) ⟨by show s.size ≤ 1048576; omega, by show t.size ≤ 1048576; omega⟩) (below1 _ _)

set_option maxHeartbeats 800000 in
theorem szAttrS_any (a : Option Addr) (n c : Nat) (l : List At) (left : Int) (w : World) (h0 : 0 ≤ left) (h1 : left ≤ 1048576) (h : AtsAt w a n c l) :
    Calls Tryz.prog 219 #[.slice a n c, .int .i64 left] w (SzRes (Left left (SmallAts l)) w) := by
  have hm := h.max
  have HR := Lib.hid h.row
  have HS := Lib.hid h.size
  have HL := Lib.hid h.len
  clear h
  by_cases hn : (n : Int) ≤ left
  · go_enter Tryz.func219, Tryz.ntmps219
    go_wp2
    go_loopw [1, 5] (fun v i wr => ∃ (k : Nat) (r : Int), k ≤ n ∧ i = .int .i64 k ∧ v = .int .i64 r ∧ 0 ≤ r ∧ r ≤ left ∧ (∀ j, j < k → SmallAt (l.getD j dAt)) ∧ Below w.heap.size w wr) (fun _ i _ => n - (intOf i).toNat)
    case atStart => exact ⟨0, left - n, Nat.zero_le _, rfl, rfl, by omega, by omega, fun j hj => by omega, Below.refl _ _⟩
    case round =>
      obtain ⟨k, r, hk, rfl, rfl, hr0, hr1, hat, hb⟩ := hrel
      have HAT := Lib.hid hat
      clear hat
      by_cases hlt : k < n
      · rcases HR.out with e0 | ⟨b, o, rfl, hlt2, hc⟩
        · omega
        · have d0 : wr.cell? ⟨b, o + k * 2, none⟩ = some (.string (l.getD k dAt).name) := (hb.cell (by exact hlt2)).trans (hc k hlt).1
          have d1 : wr.cell? ⟨b, o + k * 2 + 1, none⟩ = some (.string (l.getD k dAt).value) := (hb.cell (by exact hlt2)).trans (hc k hlt).2
          have K := Lib.hid (fun W => szAttr_any (l.getD k dAt) r W hr0 (by omega) (HS.out k))
          have HAT2 : Hid (SmallAt (l.getD k dAt) → ∀ j, j < k + 1 → SmallAt (l.getD j dAt)) := Lib.hid fun hx j hj => by
            rcases Nat.lt_or_ge j k with h | h
            · exact HAT.out j h
            · obtain rfl : j = k := by omega
              exact hx
          generalize l.getD k dAt = x at d0 d1 K HAT2
          obtain ⟨s, t⟩ := x
          dsimp only at d0 d1 K
          have HB := Lib.hid hb
          clear hc hb
          go_wp2_with fail
          refine (K.out _).mono ?_
          rintro e w2 ⟨r2, hr2, rfl, hb2⟩
          rcases hr2 with rfl | ⟨hr2, hr3, hr4⟩
          · go_wp2
            go_ret
            exact SzRes.mk Left.no (HB.out.trans (hb2.mono HB.out.size))
          · have HX4 := Lib.hid hr4
            clear hr4
            go_wp2
            go_roundw
            case rel => exact ⟨k + 1, r2, by omega, by go_num, rfl, by omega, by omega, HAT2.out HX4.out, HB.out.trans (hb2.mono HB.out.size)⟩
            case measure => simp [intOf]; omega
      · go_wp2
        go_ret
        exact SzRes.mk (Left.yes (by omega) (by omega) ⟨by have := HL.out; omega, fun i hi => HAT.out i (by have := HL.out; omega)⟩) hb
  · go_enter Tryz.func219, Tryz.ntmps219
    go_wp2
    go_ret
    exact SzRes.mk Left.no (Below.refl _ _)

set_option maxHeartbeats 800000 in
theorem szItem_any (x : It) (a : Option Addr) (n c : Nat) (left : Int) (w : World) (h0 : 0 ≤ left) (h1 : left ≤ 1048576) (hx : x.text.size ≤ 9223372036854775807 ∧ x.space.size ≤ 9223372036854775807 ∧ x.name.size ≤ 9223372036854775807) (h : AtsAt w a n c x.attrs) :
    Calls Tryz.prog 128 #[.agg #[.int .i64 x.depth, .string x.text, .string x.space, .string x.name, .slice a n c], .int .i64 left] w (SzRes (Left left (SmallIt x)) w) := by
  obtain ⟨d, s, t, u, l⟩ := x
  obtain ⟨hs, ht, hu⟩ := hx
  dsimp only at hs ht hu h ⊢
  have K := Lib.hid (fun W left' hl0 hl1 (hb : Below w.heap.size w W) => szAttrS_any a n c l left' W hl0 hl1 (h.below hb))
  clear h
  go_enter Tryz.func128, Tryz.ntmps128
  go_wp2_with (go_at_call 219; refine (K.out _ _ (by omega) (by omega) (below1 _ _)).mono ?_; rintro e w1 ⟨r, hr, rfl, hb⟩)
  all_goals go_ret
  all_goals first
    | exact SzRes.mk Left.no (below1 _ _)
    | exact SzRes.mk Left.no ((below1 _ _).trans (hb.mono (by simp)))
    | exact SzRes.mk (hr.elim (fun e => by omega) fun e => Left.yes e.1 (by omega) ⟨⟨by show s.size ≤ 1048576; omega, by show t.size ≤ 1048576; omega, by show u.size ≤ 1048576; omega⟩, e.2.2⟩) ((below1 _ _).trans (hb.mono (by simp)))

set_option maxHeartbeats 800000 in
theorem szItemS_any (a : Option Addr) (n c : Nat) (l : List It) (left : Int) (w : World) (h0 : 0 ≤ left) (h1 : left ≤ 1048576) (h : ItsAt w a n c l) :
    Calls Tryz.prog 58 #[.slice a n c, .int .i64 left] w (SzRes (Left left (SmallIts l)) w) := by
  have hm := h.max
  have HR := Lib.hid h.row
  have HL := Lib.hid h.len
  clear h
  by_cases hn : (n : Int) ≤ left
  · go_enter Tryz.func58, Tryz.ntmps58
    go_wp2
    go_loopw [1, 5] (fun v i wr => ∃ (k : Nat) (r : Int), k ≤ n ∧ i = .int .i64 k ∧ v = .int .i64 r ∧ 0 ≤ r ∧ r ≤ left ∧ (∀ j, j < k → SmallIt (l.getD j dIt)) ∧ Below w.heap.size w wr) (fun _ i _ => n - (intOf i).toNat)
    case atStart => exact ⟨0, left - n, Nat.zero_le _, rfl, rfl, by omega, by omega, fun j hj => by omega, Below.refl _ _⟩
    case round =>
      obtain ⟨k, r, hk, rfl, rfl, hr0, hr1, hat, hb⟩ := hrel
      have HAT := Lib.hid hat
      clear hat
      by_cases hlt : k < n
      · rcases HR.out with e0 | ⟨b, o, rfl, hc⟩
        · omega
        · have hi := (hc k hlt).below hb
          have d0 := hi.c0
          have d1 := hi.c1
          have d2 := hi.c2
          have d3 := hi.c3
          obtain ⟨a4, n4, c4, d4, hat4⟩ := hi.c4
          have K := Lib.hid (fun W hb' => szItem_any (l.getD k dIt) a4 n4 c4 r W hr0 (by omega) hi.size (hat4.below hb'))
          clear hi hat4
          have HX := Lib.hid (show ∃ x, x = l.getD k dIt from ⟨_, rfl⟩)
          have HAT2 : Hid (SmallIt (l.getD k dIt) → ∀ j, j < k + 1 → SmallIt (l.getD j dIt)) := Lib.hid fun hx j hj => by
            rcases Nat.lt_or_ge j k with h | h
            · exact HAT.out j h
            · obtain rfl : j = k := by omega
              exact hx
          generalize l.getD k dIt = x at d0 d1 d2 d3 d4 K HAT2
          obtain ⟨xd, xt, xs, xn, xa⟩ := x
          dsimp only at d0 d1 d2 d3 d4 K HAT2
          have HB := Lib.hid hb
          clear hc hb
          go_wp2_with fail
          refine (K.out _ (Below.refl _ _)).mono ?_
          rintro e w2 ⟨r2, hr2, rfl, hb2⟩
          rcases hr2 with rfl | ⟨hr2, hr3, hr4⟩
          · go_wp2
            go_ret
            exact SzRes.mk Left.no (HB.out.trans (hb2.mono HB.out.size))
          · have HX4 := Lib.hid hr4
            clear hr4
            go_wp2
            go_roundw
            case rel => exact ⟨k + 1, r2, by omega, by go_num, rfl, by omega, by omega, HAT2.out HX4.out, HB.out.trans (hb2.mono HB.out.size)⟩
            case measure => simp [intOf]; omega
      · go_wp2
        go_ret
        exact SzRes.mk (Left.yes (by omega) (by omega) ⟨by have := HL.out; omega, fun i hi => HAT.out i (by have := HL.out; omega)⟩) hb
  · go_enter Tryz.func58, Tryz.ntmps58
    go_wp2
    go_ret
    exact SzRes.mk Left.no (Below.refl _ _)
end Go.Proofs.YticpebpicdboaaaGreatDoor

/- What a world holds over a call: seven cells, and fourteen. -/
namespace Go.Proofs.YticpebpicdboaaaGreatDoor
open Go.ChangeShapes Go.WideShapes Go.ChangeAt Go.RowKit
set_option linter.unusedVariables false

theorem held7 {w0 W W' : World} {p0 p1 p2 p3 p4 p5 p6 : Addr} {v0 v1 v2 v3 v4 v5 v6 : Value} (hb : Below W.heap.size W W')
    (h : Below w0.heap.size w0 W ∧ W.cell? p0 = some v0 ∧ W.cell? p1 = some v1 ∧ W.cell? p2 = some v2 ∧ W.cell? p3 = some v3 ∧ W.cell? p4 = some v4 ∧ W.cell? p5 = some v5 ∧ W.cell? p6 = some v6) :
    Below w0.heap.size w0 W' ∧ W'.cell? p0 = some v0 ∧ W'.cell? p1 = some v1 ∧ W'.cell? p2 = some v2 ∧ W'.cell? p3 = some v3 ∧ W'.cell? p4 = some v4 ∧ W'.cell? p5 = some v5 ∧ W'.cell? p6 = some v6 :=
  ⟨below_then h.1 hb, (hb.cell (World.block_lt_of_cell? W _ h.2.1)).trans h.2.1, (hb.cell (World.block_lt_of_cell? W _ h.2.2.1)).trans h.2.2.1, (hb.cell (World.block_lt_of_cell? W _ h.2.2.2.1)).trans h.2.2.2.1, (hb.cell (World.block_lt_of_cell? W _ h.2.2.2.2.1)).trans h.2.2.2.2.1, (hb.cell (World.block_lt_of_cell? W _ h.2.2.2.2.2.1)).trans h.2.2.2.2.2.1, (hb.cell (World.block_lt_of_cell? W _ h.2.2.2.2.2.2.1)).trans h.2.2.2.2.2.2.1, (hb.cell (World.block_lt_of_cell? W _ h.2.2.2.2.2.2.2)).trans h.2.2.2.2.2.2.2⟩
theorem held14 {w0 W W' : World} {p0 p1 p2 p3 p4 p5 p6 p7 p8 p9 p10 p11 p12 p13 : Addr} {v0 v1 v2 v3 v4 v5 v6 v7 v8 v9 v10 v11 v12 v13 : Value} (hb : Below W.heap.size W W')
    (h : Below w0.heap.size w0 W ∧ W.cell? p0 = some v0 ∧ W.cell? p1 = some v1 ∧ W.cell? p2 = some v2 ∧ W.cell? p3 = some v3 ∧ W.cell? p4 = some v4 ∧ W.cell? p5 = some v5 ∧ W.cell? p6 = some v6 ∧ W.cell? p7 = some v7 ∧ W.cell? p8 = some v8 ∧ W.cell? p9 = some v9 ∧ W.cell? p10 = some v10 ∧ W.cell? p11 = some v11 ∧ W.cell? p12 = some v12 ∧ W.cell? p13 = some v13) :
    Below w0.heap.size w0 W' ∧ W'.cell? p0 = some v0 ∧ W'.cell? p1 = some v1 ∧ W'.cell? p2 = some v2 ∧ W'.cell? p3 = some v3 ∧ W'.cell? p4 = some v4 ∧ W'.cell? p5 = some v5 ∧ W'.cell? p6 = some v6 ∧ W'.cell? p7 = some v7 ∧ W'.cell? p8 = some v8 ∧ W'.cell? p9 = some v9 ∧ W'.cell? p10 = some v10 ∧ W'.cell? p11 = some v11 ∧ W'.cell? p12 = some v12 ∧ W'.cell? p13 = some v13 :=
  ⟨below_then h.1 hb, (hb.cell (World.block_lt_of_cell? W _ h.2.1)).trans h.2.1, (hb.cell (World.block_lt_of_cell? W _ h.2.2.1)).trans h.2.2.1, (hb.cell (World.block_lt_of_cell? W _ h.2.2.2.1)).trans h.2.2.2.1, (hb.cell (World.block_lt_of_cell? W _ h.2.2.2.2.1)).trans h.2.2.2.2.1, (hb.cell (World.block_lt_of_cell? W _ h.2.2.2.2.2.1)).trans h.2.2.2.2.2.1, (hb.cell (World.block_lt_of_cell? W _ h.2.2.2.2.2.2.1)).trans h.2.2.2.2.2.2.1, (hb.cell (World.block_lt_of_cell? W _ h.2.2.2.2.2.2.2.1)).trans h.2.2.2.2.2.2.2.1, (hb.cell (World.block_lt_of_cell? W _ h.2.2.2.2.2.2.2.2.1)).trans h.2.2.2.2.2.2.2.2.1, (hb.cell (World.block_lt_of_cell? W _ h.2.2.2.2.2.2.2.2.2.1)).trans h.2.2.2.2.2.2.2.2.2.1, (hb.cell (World.block_lt_of_cell? W _ h.2.2.2.2.2.2.2.2.2.2.1)).trans h.2.2.2.2.2.2.2.2.2.2.1, (hb.cell (World.block_lt_of_cell? W _ h.2.2.2.2.2.2.2.2.2.2.2.1)).trans h.2.2.2.2.2.2.2.2.2.2.2.1, (hb.cell (World.block_lt_of_cell? W _ h.2.2.2.2.2.2.2.2.2.2.2.2.1)).trans h.2.2.2.2.2.2.2.2.2.2.2.2.1, (hb.cell (World.block_lt_of_cell? W _ h.2.2.2.2.2.2.2.2.2.2.2.2.2.1)).trans h.2.2.2.2.2.2.2.2.2.2.2.2.2.1, (hb.cell (World.block_lt_of_cell? W _ h.2.2.2.2.2.2.2.2.2.2.2.2.2.2)).trans h.2.2.2.2.2.2.2.2.2.2.2.2.2.2⟩
end Go.Proofs.YticpebpicdboaaaGreatDoor

/- The walk of FnExactPresenceOfPidf. -/
namespace Go.Proofs.YticpebpicdboaaaGreatDoor
open Go.ChangeShapes Go.WideShapes Go.ChangeAt Go.RowKit
set_option linter.unusedVariables false

set_option maxRecDepth 100000 in
set_option maxHeartbeats 6400000 in
theorem fnExactPresenceOfPidf_walk (a : Option Addr) (n c : Nat) (l : List It) (w : World) (h : ItsAt w a n c l) (hT : Tabs w) (hPw : Pows w) :
    Calls Tryz.prog 8 #[.slice a n c] w fun e w' => e = .returned (.bool true) ∧ Below w.heap.size w w' := by
  have KP := Lib.hid (fun W (hs : SmallIts l) (hb : Below w.heap.size w W) => toItemS_own a n c l W hs (h.below hb))
  have KS := Lib.hid (fun (x : Option Addr) (m q lo hi : Nat) W (hs : SmallIts l) hx => specPresenceOfPidf_any lo hi x m q l W hs hx)
  have KI := Lib.hid (fun (x : Option Addr) (m q lo hi : Nat) W (hb : Below w.heap.size w W) (hs : SmallIts l) hx => implPresenceOfPidf_any lo hi x m q l W hs hx (tabs_kept hT hb) (hPw.below hb))
  have EP := Lib.hid (fun (x y : Option Addr) (m k q r : Nat) W hx hy => eqItemS_true x y m k q r l W hx hy)
  have KF := Lib.hid (fun (hs : ∀ i, (l.getD i dIt).attrs.length ≤ 1048576) => pof_few l hs)
  have HLN := Lib.hid h.len
  have H := Lib.hid h
  unfold ItsOwn at KP
  unfold PrrOwn at KS KI
  generalize pofCode l = cd at KS KI
  generalize pofVal l = rr at KS KI KF
  clear h hT hPw
  obtain ⟨rk, rf, rt, rs, ru, rp, L⟩ := rr
  dsimp only at KS KI KF
  go_enter Tryz.func8, Tryz.ntmps8
  go_wp2_with fail
  refine (szItemS_any a n c l _ _ (by omega) (by omega) H.out).mono ?_
  rintro e w1 ⟨r1, hr1, rfl, hb1⟩
  have B1 := Lib.hid hb1
  clear hb1
  rcases hr1 with rfl | ⟨hr0, hr1, hsm⟩
  · go_wp2
    go_ret
    exact ⟨rfl, B1.out⟩
  have hfm : ∀ i, (l.getD i dIt).attrs.length ≤ 1048576 := fun i => by
    rcases Nat.lt_or_ge i l.length with h | h
    · exact (hsm.2 i h).2.1
    · rw [List.getD_eq_getElem?_getD, List.getElem?_eq_none h]; decide
  have HFM := Lib.hid hfm
  have HFL := Lib.hid (KF.out hfm)
  have HN := Lib.hid (show n ≤ 1048576 by have := hsm.1; have := HLN.out; omega)
  have KP := Lib.hid (fun W hb => KP.out W hsm hb)
  have KS := Lib.hid (fun x m q lo hi W hx => KS.out x m q lo hi W hsm hx)
  have KI := Lib.hid (fun x m q lo hi W hb hx => KI.out x m q lo hi W hb hsm hx)
  clear hsm hfm KF
  go_wp2_with fail
  refine (KP.out _ B1.out).mono ?_
  rintro e w2 ⟨x2, m2, q2, rfl, h2, hb2⟩
  have B2 := Lib.hid (below_then B1.out hb2)
  have X2 := Lib.hid h2
  clear h2 hb2 B1
  go_wp2_with fail
  refine (KS.out _ _ _ _ _ _ X2.out).mono ?_
  rintro e w3 ⟨x3, m3, q3, rfl, h3, hb3⟩
  have B3 := Lib.hid (below_then (below_then B2.out hb3) (below1 w3 (.cells #[.int .i64 cd, .int .i64 rk, .string rf, .string rt, .int .i64 rs, .string ru, .int .i64 rp, .slice x3 m3 q3] 33)))
  have S3 := Lib.hid (h3.its.below (below1 w3 (.cells #[.int .i64 cd, .int .i64 rk, .string rf, .string rt, .int .i64 rs, .string ru, .int .i64 rp, .slice x3 m3 q3] 33)))
  have VB := Lib.hid (PrrAt.new w3 33 cd ⟨rk, rf, rt, rs, ru, rp, L⟩ x3 m3 q3)
  clear h3 hb3 B2 X2 KS
  go_wp2_with fail
  refine (KP.out _ B3.out).mono ?_
  rintro e w4 ⟨x4, m4, q4, rfl, h4, hb4⟩
  have hs4 : w3.heap.size + 1 ≤ w4.heap.size := by have := hb4.size; simpa using this
  have D4 := Lib.hid hb4
  have B4 := Lib.hid (below_then B3.out hb4)
  have X4 := Lib.hid (h4.mono (lo' := w3.heap.size + 1) (by simp) (Nat.le_refl _))
  clear h4 hb4
  go_wp2_with fail
  refine (KI.out _ _ _ _ _ _ B4.out X4.out).mono ?_
  rintro e w5 ⟨x5, m5, q5, rfl, h5, hb5⟩
  have hs5 : w4.heap.size ≤ w5.heap.size := hb5.size
  have D5 := Lib.hid (below_then D4.out (below_then hb5 (below1 w5 (.cells #[.int .i64 cd, .int .i64 rk, .string rf, .string rt, .int .i64 rs, .string ru, .int .i64 rp, .slice x5 m5 q5] 33))))
  have B5 := Lib.hid (below_then B4.out (below_then hb5 (below1 w5 (.cells #[.int .i64 cd, .int .i64 rk, .string rf, .string rt, .int .i64 rs, .string ru, .int .i64 rp, .slice x5 m5 q5] 33))))
  have X5 := Lib.hid ((X4.out.below hb5).below (below1 w5 (.cells #[.int .i64 cd, .int .i64 rk, .string rf, .string rt, .int .i64 rs, .string ru, .int .i64 rp, .slice x5 m5 q5] 33)))
  have G5 := Lib.hid ((h5.below (below1 w5 (.cells #[.int .i64 cd, .int .i64 rk, .string rf, .string rt, .int .i64 rs, .string ru, .int .i64 rp, .slice x5 m5 q5] 33))).mono (lo' := w4.heap.size) (Nat.le_refl _) (Nat.le_refl _))
  have VG := Lib.hid (PrrAt.new w5 33 cd ⟨rk, rf, rt, rs, ru, rp, L⟩ x5 m5 q5)
  clear h5 hb5 D4 B4 X4
  have V1 := VB.out.below D5.out
  have zz0 := V1.lt
  have za0 := V1.c0
  have za1 := V1.c1
  have za2 := V1.c2
  have za3 := V1.c3
  have za4 := V1.c4
  have za5 := V1.c5
  have za6 := V1.c6
  have za7 := V1.c7
  clear V1
  go_wp2_with fail
  refine (eqPresenceResult_true cd ⟨rk, rf, rt, rs, ru, rp, L⟩ x5 x3 m5 m3 q5 q3 _ G5.out.its (S3.out.below D5.out)).mono ?_
  rintro e w6 ⟨rfl, hb6⟩
  have D6 := Lib.hid (below_then D5.out hb6)
  have B6 := Lib.hid (below_then B5.out hb6)
  have X6 := Lib.hid (X5.out.below hb6)
  have G6 := Lib.hid (G5.out.below hb6)
  have VG6 := Lib.hid (VG.out.below hb6)
  clear hb6 D5 B5 X5 G5 VG zz0 za0 za1 za2 za3 za4 za5 za6 za7
  go_wp2_with fail
  refine (KP.out _ B6.out).mono ?_
  rintro e wx ⟨y1, m1, q1, rfl, hx, hbx⟩
  have HX := Lib.hid hx
  have HBX := Lib.hid hbx
  clear hx hbx
  go_wp2_with fail
  refine (EP.out _ _ _ _ _ _ _ (X6.out.its.below HBX.out) HX.out.its).mono ?_
  rintro e wz ⟨rfl, hbz⟩
  have hb7 := below_then HBX.out hbz
  have D7 := Lib.hid (below_then D6.out hb7)
  have X7 := Lib.hid (X6.out.below hb7)
  have G7 := Lib.hid (G6.out.below hb7)
  have VG7 := Lib.hid (VG6.out.below hb7)
  clear hb7 hbz HX HBX D6 B6 X6 G6 VG6
  go_wp2_with fail
  refine (markItemS_any _ _ x4 m4 q4 1 l wz (by decide) (by have h1 := kAt_many 1 l HFM.out m4; have h2 := X7.out.max; omega) (fun i hi => HFM.out i) X7.out).mono ?_
  rintro e w8 ⟨rfl, _, ho8⟩
  have D8 := Lib.hid (Only.under D7.out (Nat.le_refl _) ho8 (fun i hi => by simp; omega))
  have G8 := Lib.hid (G7.out.only ho8 (fun i h1 h2 h3 => by omega))
  have VG8 := Lib.hid (VG7.out.only ho8 (fun hi => by omega))
  have hk0 : (0 : Int) ≤ ((kAt 1 l m4 : Nat) : Int) := by omega
  generalize ((kAt 1 l m4 : Nat) : Int) = kk at *
  clear ho8 D7 X7 G7 VG7
  have V1 := VB.out.below D8.out
  have zz0 := V1.lt
  have za0 := V1.c0
  have za1 := V1.c1
  have za2 := V1.c2
  have za3 := V1.c3
  have za4 := V1.c4
  have za5 := V1.c5
  have za6 := V1.c6
  have za7 := V1.c7
  have zz3 := VG8.out.lt
  have zc0 := VG8.out.c0
  have zc1 := VG8.out.c1
  have zc2 := VG8.out.c2
  have zc3 := VG8.out.c3
  have zc4 := VG8.out.c4
  have zc5 := VG8.out.c5
  have zc6 := VG8.out.c6
  have zc7 := VG8.out.c7
  clear V1
  go_wp2_with fail
  refine (eqPresenceResult_true cd ⟨rk, rf, rt, rs, ru, rp, L⟩ x5 x3 m5 m3 q5 q3 _ G8.out.its (S3.out.below D8.out)).mono ?_
  rintro e w9 ⟨rfl, hb9⟩
  have D9 := Lib.hid (below_then D8.out hb9)
  have G9 := Lib.hid (G8.out.below hb9)
  have VG9 := Lib.hid (VG8.out.below hb9)
  clear hb9 D8 G8 VG8 zz0 za0 za1 za2 za3 za4 za5 za6 za7 zz3 zc0 zc1 zc2 zc3 zc4 zc5 zc6 zc7
  have zz3 := VG9.out.lt
  have zc0 := VG9.out.c0
  have zc1 := VG9.out.c1
  have zc2 := VG9.out.c2
  have zc3 := VG9.out.c3
  have zc4 := VG9.out.c4
  have zc5 := VG9.out.c5
  have zc6 := VG9.out.c6
  have zc7 := VG9.out.c7
  go_wp2_with fail
  refine (markPresenceResult_any cd rk rf rt rs ru rp _ _ x5 m5 q5 1 L w9 (by decide) (by have h1 := kAt_many 1 L HFL.out m5; have h2 := G9.out.max; omega) (fun i hi => HFL.out i) G9.out).mono ?_
  rintro e w10 ⟨rfl, hm10, ho10⟩
  have D10 := Lib.hid (Only.under D9.out (Nat.le_refl _) ho10 (fun i hi => by simp; omega))
  have VG10 := Lib.hid (VG9.out.only ho10 (fun hi => by omega))
  have M10 := Lib.hid hm10
  clear hm10 ho10 D9 VG9 zz3 zc0 zc1 zc2 zc3 zc4 zc5 zc6 zc7
  have zz3 := VG10.out.lt
  have zc0 := VG10.out.c0
  have zc1 := VG10.out.c1
  have zc2 := VG10.out.c2
  have zc3 := VG10.out.c3
  have zc4 := VG10.out.c4
  have zc5 := VG10.out.c5
  have zc6 := VG10.out.c6
  have zc7 := VG10.out.c7
  go_wp2_with fail
  refine (heldPresenceResult_any cd rk rf rt rs ru rp x5 m5 q5 1 L w10 (by decide) (by have h1 := kAt_many 1 L HFL.out m5; have h2 := G9.out.max; omega) (fun i hi => HFL.out i) G9.out.len M10.out.its).mono ?_
  rintro e w11 ⟨rfl, hb11⟩
  have hm0 : (0 : Int) ≤ ((kAt 1 L m5 : Nat) : Int) := by omega
  have D11 := Lib.hid (below_then D10.out hb11)
  have VG11 := Lib.hid (VG10.out.below hb11)
  have KH := Lib.hid (fun (W : World) (hh : Below w11.heap.size w11 W) => heldPresenceResult_any cd rk rf rt rs ru rp x5 m5 q5 1 L W (by decide) (by have h1 := kAt_many 1 L HFL.out m5; have h2 := G9.out.max; omega) (fun i hi => HFL.out i) G9.out.len ((M10.out.below hb11).its.below hh))
  have B11 := Lib.hid (below_then B3.out D11.out)
  generalize ((kAt 1 L m5 : Nat) : Int) = mm at *
  clear hb11 zz3 zc0 zc1 zc2 zc3 zc4 zc5 zc6 zc7 D10 VG10 M10 G9
  go_wp2_with fail
  refine (KP.out _ B11.out).mono ?_
  rintro e w12 ⟨x12, m12, q12, rfl, h12, hb12⟩
  have X12 := Lib.hid h12
  have F12 := Lib.hid hb12
  clear h12 hb12
  go_wp2_with fail
  refine (KI.out _ _ _ _ _ _ (below_then B11.out F12.out) X12.out).mono ?_
  rintro e w13 ⟨x13, m13, q13, rfl, h13, hb13⟩
  have F13 := Lib.hid (below_then (below_then F12.out hb13) (below1 w13 (.cells #[.int .i64 cd, .int .i64 rk, .string rf, .string rt, .int .i64 rs, .string ru, .int .i64 rp, .slice x13 m13 q13] 33)))
  have I13 := Lib.hid (h13.its.below (below1 w13 (.cells #[.int .i64 cd, .int .i64 rk, .string rf, .string rt, .int .i64 rs, .string ru, .int .i64 rp, .slice x13 m13 q13] 33)))
  have hs13 : w11.heap.size ≤ w13.heap.size := by have h1 := F12.out.size; have h2 := hb13.size; omega
  have V1 := VB.out.below (below_then D11.out F13.out)
  have zz0 := V1.lt
  have za0 := V1.c0
  have za1 := V1.c1
  have za2 := V1.c2
  have za3 := V1.c3
  have za4 := V1.c4
  have za5 := V1.c5
  have za6 := V1.c6
  have za7 := V1.c7
  clear h13 hb13 V1
  go_wp2_with fail
  refine (eqPresenceResult_true cd ⟨rk, rf, rt, rs, ru, rp, L⟩ x13 x3 m13 m3 q13 q3 _ I13.out (S3.out.below (below_then D11.out F13.out))).mono ?_
  rintro e w14 ⟨rfl, hb14⟩
  have F14 := Lib.hid (below_then F13.out hb14)
  have VG14 := Lib.hid (VG11.out.below F14.out)
  clear hb14 zz0 za0 za1 za2 za3 za4 za5 za6 za7 I13 X12
  have zz3 := VG14.out.lt
  have zc0 := VG14.out.c0
  have zc1 := VG14.out.c1
  have zc2 := VG14.out.c2
  have zc3 := VG14.out.c3
  have zc4 := VG14.out.c4
  have zc5 := VG14.out.c5
  have zc6 := VG14.out.c6
  have zc7 := VG14.out.c7
  go_wp2_with fail
  refine (KH.out _ F14.out).mono ?_
  rintro e w15 ⟨rfl, hb15⟩
  have hE : (mm != mm) = false := by simp
  go_wp2
  go_ret
  exact ⟨rfl, below_then (below_then B11.out F14.out) hb15⟩
end Go.Proofs.YticpebpicdboaaaGreatDoor

/- Items that came in. -/
namespace Go.Proofs.YticpebpicdboaaaGreatDoor
open Go.ChangeShapes Go.WideShapes Go.ChangeAt Go.RowKit Go.Deep
set_option linter.unusedVariables false

instance : Inhabited At := ⟨dAt⟩
instance : Inhabited It := ⟨dIt⟩
theorem cellsS : Tryz.prog.cellsOf 9 = 1 := by kernel_rfl
theorem cellsI : Tryz.prog.cellsOf 2 = 1 := by kernel_rfl
theorem cellsA : Tryz.prog.cellsOf 287 = 2 := by kernel_rfl
theorem cellsAs : Tryz.prog.cellsOf 139 = 1 := by kernel_rfl
theorem cellsIt : Tryz.prog.cellsOf 141 = 5 := by kernel_rfl

section
variable {H : Type} {enc : TypeId × Value → H} {w : World} {base : Nat} {spare : Nat → Bool} {held : Bool}

set_option maxRecDepth 100000 in
theorem at_open {n : Nat} {cs : List Value} {x : DataW H × List MemPlace} {a : Addr} (hc : w.cells? base a 2 = some cs) (h : DataW.trod enc Tryz.prog w base spare held n 287 cs = some x) :
    ∃ y : At, (y.name.size ≤ 9223372036854775807 ∧ y.value.size ≤ 9223372036854775807) ∧ w.cell? a = some (.string y.name) ∧ w.cell? (a.add 1) = some (.string y.value) := by
  obtain ⟨_, hl, hcell⟩ := World.cells?_some hc
  obtain ⟨xs, m, _, _, _, hxl, hf⟩ := DataW.trod_struct Tryz.underlying287 h
  match cs, hl with
  | [c0, c1], _ =>
    match xs, hxl with
    | [y0, y1], _ =>
      obtain ⟨fd0, hfd, hty, hof⟩ : ∃ f, (Tryz.prog.fieldsOf 287)[0]? = some f ∧ f.type = 9 ∧ f.offset = 0 := ⟨_, rfl, rfl, rfl⟩
      have f0 := hf 0 _ hfd
      rw [hty, hof] at f0
      clear hfd hty hof
      obtain ⟨fd1, hfd, hty, hof⟩ : ∃ f, (Tryz.prog.fieldsOf 287)[1]? = some f ∧ f.type = 9 ∧ f.offset = 1 := ⟨_, rfl, rfl, rfl⟩
      have f1 := hf 1 _ hfd
      rw [hty, hof] at f1
      clear hfd hty hof
      simp only [cellsS, List.drop_zero, List.take_succ_cons, List.take_zero, List.drop_succ_cons, List.getElem?_cons_zero, List.getElem?_cons_succ] at f0 f1
      obtain ⟨s, hs, _, z0⟩ := DataW.trod_string Tryz.underlying9 f0
      obtain ⟨t, ht, _, z1⟩ := DataW.trod_string Tryz.underlying9 f1
      obtain rfl : c0 = .string s := by simpa using hs
      obtain rfl : c1 = .string t := by simpa using ht
      unfold maxLen at z0 z1
      exact ⟨⟨s, t⟩, ⟨by omega, by omega⟩, by simpa [Addr.add] using hcell 0 (by omega), by simpa using hcell 1 (by omega)⟩

theorem ats_open {n : Nat} {v : Value} {x : DataW H × List MemPlace} (h : DataW.trod enc Tryz.prog w base spare held n 139 [v] = some x) :
    ∃ a n c l, v = .slice a n c ∧ AtsAt w a n c l := by
  rcases open_slice Tryz.underlying139 h with ⟨hcs, _⟩ | ⟨a, len, cap, m, n', D, Pl, hcs, hb, hl, hm, hmm, hx, hi⟩
  · obtain rfl : v = .slice none 0 0 := by simpa using hcs
    exact ⟨none, 0, 0, [], rfl, rfl, by omega, fun i => by simp [dAt], .inl rfl⟩
  · obtain rfl : v = .slice (some a) len cap := by simpa using hcs
    unfold maxLen at hm
    have hlm : len ≤ m := by rw [hmm]; split <;> omega
    obtain ⟨f, hf⟩ := choose_lt (n := len) (p := fun i (y : At) => (y.name.size ≤ 9223372036854775807 ∧ y.value.size ≤ 9223372036854775807) ∧ w.cell? (a.add (i * 2)) = some (.string y.name) ∧ w.cell? ((a.add (i * 2)).add 1) = some (.string y.value)) fun i hi2 => by
      obtain ⟨cs', h1, h2⟩ := hi i (by omega)
      rw [cellsA] at h1
      exact at_open h1 h2
    have hg : ∀ i, i < len → ((List.range len).map f).getD i dAt = f i := fun i hi => by simp [List.getD_eq_getElem?_getD, hi]
    refine ⟨_, _, _, (List.range len).map f, rfl, by simp, by omega, fun i => ?_, ?_⟩
    · by_cases hi2 : i < len
      · rw [hg i hi2]; exact (hf i hi2).1
      · rw [List.getD_eq_getElem?_getD, List.getElem?_eq_none (by simp; omega)]; simp [dAt]
    · by_cases h0 : len = 0
      · exact .inl h0
      · obtain ⟨b, o, s⟩ := a
        have hc := (hf 0 (by omega)).2.1
        have hs : s = none := by simpa [Addr.add] using World.cell?_spot hc
        subst hs
        refine .inr ⟨b, o, rfl, by simpa [Addr.add] using World.block_lt_of_cell? w _ hc, fun i hi2 => ?_⟩
        have := (hf i hi2).2
        rw [Addr.add_lit, Addr.add_lit] at this
        rw [hg i hi2]
        exact this

set_option maxRecDepth 100000 in
theorem it_open {n : Nat} {cs : List Value} {x : DataW H × List MemPlace} {b o : Nat} (hc : w.cells? base ⟨b, o, none⟩ 5 = some cs) (h : DataW.trod enc Tryz.prog w base spare held n 141 cs = some x) :
    ∃ y : It, ItAt w b o y := by
  obtain ⟨_, hl, hcell⟩ := World.cells?_some hc
  obtain ⟨xs, m, _, _, _, hxl, hf⟩ := DataW.trod_struct Tryz.underlying141 h
  match cs, hl with
  | [c0, c1, c2, c3, c4], _ =>
    match xs, hxl with
    | [y0, y1, y2, y3, y4], _ =>
      obtain ⟨fd0, hfd, hty, hof⟩ : ∃ f, (Tryz.prog.fieldsOf 141)[0]? = some f ∧ f.type = 2 ∧ f.offset = 0 := ⟨_, rfl, rfl, rfl⟩
      have f0 := hf 0 _ hfd
      rw [hty, hof] at f0
      clear hfd hty hof
      obtain ⟨fd1, hfd, hty, hof⟩ : ∃ f, (Tryz.prog.fieldsOf 141)[1]? = some f ∧ f.type = 9 ∧ f.offset = 1 := ⟨_, rfl, rfl, rfl⟩
      have f1 := hf 1 _ hfd
      rw [hty, hof] at f1
      clear hfd hty hof
      obtain ⟨fd2, hfd, hty, hof⟩ : ∃ f, (Tryz.prog.fieldsOf 141)[2]? = some f ∧ f.type = 9 ∧ f.offset = 2 := ⟨_, rfl, rfl, rfl⟩
      have f2 := hf 2 _ hfd
      rw [hty, hof] at f2
      clear hfd hty hof
      obtain ⟨fd3, hfd, hty, hof⟩ : ∃ f, (Tryz.prog.fieldsOf 141)[3]? = some f ∧ f.type = 9 ∧ f.offset = 3 := ⟨_, rfl, rfl, rfl⟩
      have f3 := hf 3 _ hfd
      rw [hty, hof] at f3
      clear hfd hty hof
      obtain ⟨fd4, hfd, hty, hof⟩ : ∃ f, (Tryz.prog.fieldsOf 141)[4]? = some f ∧ f.type = 139 ∧ f.offset = 4 := ⟨_, rfl, rfl, rfl⟩
      have f4 := hf 4 _ hfd
      rw [hty, hof] at f4
      clear hfd hty hof
      simp only [cellsS, cellsI, cellsAs, List.drop_zero, List.take_succ_cons, List.take_zero, List.drop_succ_cons, List.getElem?_cons_zero, List.getElem?_cons_succ] at f0 f1 f2 f3 f4
      obtain ⟨d, hd, _, z0⟩ := DataW.trod_int Tryz.underlying2 f0
      obtain ⟨s, hs, _, z1⟩ := DataW.trod_string Tryz.underlying9 f1
      obtain ⟨t, ht, _, z2⟩ := DataW.trod_string Tryz.underlying9 f2
      obtain ⟨u, hu, _, z3⟩ := DataW.trod_string Tryz.underlying9 f3
      obtain ⟨a4, n4, k4, l4, rfl, h4⟩ := ats_open f4
      obtain rfl : c0 = .int .i64 d := by simpa using hd
      obtain rfl : c1 = .string s := by simpa using hs
      obtain rfl : c2 = .string t := by simpa using ht
      obtain rfl : c3 = .string u := by simpa using hu
      unfold maxLen at z1 z2 z3
      simp only [Lit.wf, Bool.and_eq_true, decide_eq_true_eq] at z0
      have g0 : w.cell? ⟨b, o, none⟩ = some (.int .i64 d) := by simpa [Addr.add] using hcell 0 (by omega)
      have g1 : w.cell? ⟨b, o + 1, none⟩ = some (.string s) := by simpa [Addr.add] using hcell 1 (by omega)
      have g2 : w.cell? ⟨b, o + 2, none⟩ = some (.string t) := by simpa [Addr.add] using hcell 2 (by omega)
      have g3 : w.cell? ⟨b, o + 3, none⟩ = some (.string u) := by simpa [Addr.add] using hcell 3 (by omega)
      have g4 : w.cell? ⟨b, o + 4, none⟩ = some (.slice a4 n4 k4) := by simpa [Addr.add] using hcell 4 (by omega)
      exact ⟨⟨d, s, t, u, l4⟩, World.block_lt_of_cell? w _ g0, z0, ⟨by show s.size ≤ _; omega, by show t.size ≤ _; omega, by show u.size ≤ _; omega⟩, g0, g1, g2, g3, _, _, _, g4, h4⟩

set_option maxRecDepth 100000 in
/-- a slice of items that came in reads as some items -/
theorem its_open {n : Nat} {a : Option Addr} {k c : Nat} {x : DataW H × List MemPlace} (h : DataW.trod enc Tryz.prog w base spare held n 62 [.slice a k c] = some x) : ∃ l, ItsAt w a k c l := by
  rcases open_slice Tryz.underlying62 h with ⟨hcs, _⟩ | ⟨a', len, cap, m, n', D, Pl, hcs, hb, hl, hm, hmm, hx, hi⟩
  · simp at hcs
    obtain ⟨rfl, rfl, rfl⟩ := hcs
    exact ⟨[], rfl, by omega, .inl rfl⟩
  · simp at hcs
    obtain ⟨rfl, rfl, rfl⟩ := hcs
    unfold maxLen at hm
    have hlm : k ≤ m := by rw [hmm]; split <;> omega
    by_cases h0 : k = 0
    · subst h0
      exact ⟨[], rfl, by omega, .inl rfl⟩
    · obtain ⟨b, o, s⟩ := a'
      obtain ⟨cs0, h1, _⟩ := hi 0 (by omega)
      rw [cellsIt] at h1
      obtain ⟨_, _, hcell⟩ := World.cells?_some h1
      have hc := hcell 0 (by omega)
      rw [show ((Addr.mk b o s).add (0 * 5)).add 0 = ⟨b, o, s⟩ by simp [Addr.add]] at hc
      have hs : s = none := by
        have hl0 := (World.cells?_some h1).2.1
        rw [List.getElem?_eq_getElem (by omega)] at hc
        simpa using World.cell?_spot hc
      subst hs
      obtain ⟨f, hf⟩ := choose_lt (n := k) (p := fun i (y : It) => ItAt w b (o + i * 5) y) fun i hi2 => by
        obtain ⟨cs', h1, h2⟩ := hi i (by omega)
        rw [cellsIt, Addr.add_lit] at h1
        exact it_open h1 h2
      have hg : ∀ i, i < k → ((List.range k).map f).getD i dIt = f i := fun i hi => by simp [List.getD_eq_getElem?_getD, hi]
      exact ⟨(List.range k).map f, by simp, by omega, .inr ⟨b, o, rfl, fun i hi2 => by rw [hg i hi2]; exact hf i hi2⟩⟩
end
end Go.Proofs.YticpebpicdboaaaGreatDoor
