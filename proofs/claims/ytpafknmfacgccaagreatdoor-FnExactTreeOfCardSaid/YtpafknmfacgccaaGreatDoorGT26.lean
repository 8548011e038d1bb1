/- An append to a row of the call's own, as one step of a region that draws its order. -/
import Derived.Test.YtpafknmfacgccaaGreatDoorGT0
import Derived.Deep.RegionLaw
import Derived.Deep.RegionHeld3
import Derived.Maps.AppendAt
namespace Go.Proofs.YtpafknmfacgccaaGreatDoor
open Go.ChangeShapes Go.WideShapes Go.ChangeAt Go.RowKit
set_option linter.unusedVariables false

theorem step_own {P : Program} {ops : Array Oper} {o : Oper} {a : Act} {w : World} {K : Act → World → Prop} {Q : Exit → Act → World → Prop} {E : Prop} (hw : Region.wanted o (yielded ops a.tmps) = true) (s x : Operand) (t : TypeId)
    (ho : o.op = .call { callee := .builtin .append, args := #[s, x], argTypes := #[t, t] })
    (e : TypeId) (i : TypeInfo) (z : Value) (size bytes : Nat) (ht : P.underlying t = some (.slice e)) (hi : P.info? e = some i) (hz : i.zero = some z) (hsize : i.size = size) (hby : i.bytes = bytes) (hzc : z.cells.size = size) (hpos : 0 < size)
    (base : Nat) (v : Value) (n : Nat) (xs : List Value) (hs : a.eval s = v) (hown : w.ownsRow base e size v n xs)
    (ad : Addr) (m c : Nat) (ys : List Value) (hx : a.eval x = .slice (some ad) m c) (hn : ys.length = m * size) (hcells : ∀ j u, ys[j]? = some u → w.cell? (ad.add j) = some u) (h1c : ∀ u ∈ ys, u.oneCell' = true)
    (b1 : n + m ≤ maxLen) (b2 : (n + m) * bytes ≤ 140737488355328) (hbase : base ≤ w.heap.size)
    (h : ∀ v' w', w'.ownsRow base e size v' (n + m) (xs ++ ys) → w.grownBy w' v.ownBlock → K (a.put o.dst v') w') :
    if Region.wanted o (yielded ops a.tmps) = true then Oper.wp P o a w K Q else E := by
  rw [if_pos hw]
  refine wp_append_own w s x t ho base e i _ size bytes ht hi hz hsize hby hzc hpos v n xs (by rw [hs]) hown ad m c ys hx hn hcells h1c b1 b2 hbase ?_
  intro v' w' hown' hgrow hnil
  exact h v' w' hown' hgrow
theorem step_own_at {P : Program} {ops : Array Oper} {o : Oper} {a : Act} {w : World} {K : Act → World → Prop} {Q : Exit → Act → World → Prop} {E : Prop} (hw : Region.wanted o (yielded ops a.tmps) = true) (s x : Operand) (t : TypeId)
    (ho : o.op = .call { callee := .builtin .append, args := #[s, x], argTypes := #[t, t] })
    (e : TypeId) (i : TypeInfo) (z : Value) (size bytes : Nat) (ht : P.underlying t = some (.slice e)) (hi : P.info? e = some i) (hz : i.zero = some z) (hsize : i.size = size) (hby : i.bytes = bytes) (hzc : z.cells.size = size) (hpos : 0 < size)
    (base : Nat) (v : Value) (n : Nat) (xs : List Value) (hs : a.eval s = v) (hown : w.ownsRow base e size v n xs)
    (ad : Addr) (m c : Nat) (ys : List Value) (hx : a.eval x = .slice (some ad) m c) (hn : ys.length = m * size) (hcells : ∀ j u, ys[j]? = some u → w.cell? (ad.add j) = some u) (h1c : ∀ u ∈ ys, u.oneCell' = true)
    (b1 : n + m ≤ maxLen) (b2 : (n + m) * bytes ≤ 140737488355328) (hbase : base ≤ w.heap.size)
    (h : ∀ v' w', w'.ownsRow base e size v' (n + m) (xs ++ ys) → w.grownBy w' v.ownBlock → (v'.ownBlock = v.ownBlock ∨ v'.ownBlock = some w.heap.size) → K (a.put o.dst v') w') :
    if Region.wanted o (yielded ops a.tmps) = true then Oper.wp P o a w K Q else E := by
  rw [if_pos hw]
  obtain ⟨v', w', hr, h2, h3, h4, h5⟩ := run_append_own_at (P := P) w base t o.type e i z size bytes ht hi hz hsize hby hzc hpos v n xs hown ad m c ys hn hcells h1c b1 b2 hbase
  unfold Oper.wp execOp
  simp only [ho, resolve, invoke, builtin, Sem.run_bind, Sem.run_pure, Result.andThen_ok, List.map_toArray, List.map_cons, List.map_nil, hs, hx, hr]
  exact h v' w' h2 h3 h5
end Go.Proofs.YtpafknmfacgccaaGreatDoor

/- szAttr, szAttrS, szItem, szItemS: what came in is small. -/
namespace Go.Proofs.YtpafknmfacgccaaGreatDoor
open Go.ChangeShapes Go.WideShapes Go.ChangeAt Go.RowKit
set_option linter.unusedVariables false

set_option maxHeartbeats 400000 in
theorem szAttr_any (x : At) (left : Int) (w : World) (h0 : 0 ≤ left) (h1 : left ≤ 1048576) (hx : x.name.size ≤ 9223372036854775807 ∧ x.value.size ≤ 9223372036854775807) :
    Calls Tryz.prog 148 #[.agg #[.string x.name, .string x.value], .int .i64 left] w (SzRes (Left left (SmallAt x)) w) := by
  obtain ⟨s, t⟩ := x
  obtain ⟨hs, ht⟩ := hx
  dsimp only at hs ht ⊢
  go_enter Tryz.func148, Tryz.ntmps148
  go_wp2
  all_goals
    go_ret
    first
    | exact SzRes.mk Left.no (below1 _ _)
    | exact SzRes.mk (Left.yes (by omega) (by omega) ⟨by show s.size ≤ 1048576; omega, by show t.size ≤ 1048576; omega⟩) (below1 _ _)

set_option maxHeartbeats 800000 in
theorem szAttrS_any (a : Option Addr) (n c : Nat) (l : List At) (left : Int) (w : World) (h0 : 0 ≤ left) (h1 : left ≤ 1048576) (h : AtsAt w a n c l) :
    Calls Tryz.prog 118 #[.slice a n c, .int .i64 left] w (SzRes (Left left (SmallAts l)) w) := by
  have hm := h.max
  have HR := Lib.hid h.row
  have HS := Lib.hid h.size
  have HL := Lib.hid h.len
  clear h
  by_cases hn : (n : Int) ≤ left
  · go_enter Tryz.func118, Tryz.ntmps118
    go_wp2
    go_loopw [1, 5] (fun v i wr => ∃ (k : Nat) (r : Int), k ≤ n ∧ i = .int .i64 k ∧ v = .int .i64 r ∧ 0 ≤ r ∧ r ≤ left ∧ (∀ j, j < k → SmallAt (l.getD j dAt)) ∧ Below w.heap.size w wr) (fun _ i _ => n - (intOf i).toNat)
    case atStart => exact ⟨0, left - n, Nat.zero_le _, rfl, rfl, by omega, by omega, fun j hj => by omega, Below.refl _ _⟩
    case round =>
      obtain ⟨k, r, hk, rfl, rfl, hr0, hr1, hat, hb⟩ := hrel
      have HAT := Lib.hid hat
      clear hat
      by_cases hlt : k < n
      · rcases HR.out with e0 | ⟨b, o, rfl, hlt2, hc⟩
        · omega
        · have d0 : wr.cell? ⟨b, o + k * 2, none⟩ = some (.string (l.getD k dAt).name) := (hb.cell (by exact hlt2)).trans (hc k hlt).1
          have d1 : wr.cell? ⟨b, o + k * 2 + 1, none⟩ = some (.string (l.getD k dAt).value) := (hb.cell (by exact hlt2)).trans (hc k hlt).2
          have K := Lib.hid (fun W => szAttr_any (l.getD k dAt) r W hr0 (by omega) (HS.out k))
          have HAT2 : Hid (SmallAt (l.getD k dAt) → ∀ j, j < k + 1 → SmallAt (l.getD j dAt)) := Lib.hid fun hx j hj => by
            rcases Nat.lt_or_ge j k with h | h
            · exact HAT.out j h
            · obtain rfl : j = k := by omega
              exact hx
          generalize l.getD k dAt = x at d0 d1 K HAT2
          obtain ⟨s, t⟩ := x
          dsimp only at d0 d1 K
          have HB := Lib.hid hb
          clear hc hb
          go_wp2_with fail
          refine (K.out _).mono ?_
          rintro e w2 ⟨r2, hr2, rfl, hb2⟩
          rcases hr2 with rfl | ⟨hr2, hr3, hr4⟩
          · go_wp2
            go_ret
            exact SzRes.mk Left.no (HB.out.trans (hb2.mono HB.out.size))
          · have HX4 := Lib.hid hr4
            clear hr4
            go_wp2
            go_roundw
            case rel => exact ⟨k + 1, r2, by omega, by go_num, rfl, by omega, by omega, HAT2.out HX4.out, HB.out.trans (hb2.mono HB.out.size)⟩
            case measure => simp [intOf]; omega
      · go_wp2
        go_ret
        exact SzRes.mk (Left.yes (by omega) (by omega) ⟨by have := HL.out; omega, fun i hi => HAT.out i (by have := HL.out; omega)⟩) hb
  · go_enter Tryz.func118, Tryz.ntmps118
    go_wp2
    go_ret
    exact SzRes.mk Left.no (Below.refl _ _)

set_option maxHeartbeats 800000 in
theorem szItem_any (x : It) (a : Option Addr) (n c : Nat) (left : Int) (w : World) (h0 : 0 ≤ left) (h1 : left ≤ 1048576) (hx : x.text.size ≤ 9223372036854775807 ∧ x.space.size ≤ 9223372036854775807 ∧ x.name.size ≤ 9223372036854775807) (h : AtsAt w a n c x.attrs) :
    Calls Tryz.prog 78 #[.agg #[.int .i64 x.depth, .string x.text, .string x.space, .string x.name, .slice a n c], .int .i64 left] w (SzRes (Left left (SmallIt x)) w) := by
  obtain ⟨d, s, t, u, l⟩ := x
  obtain ⟨hs, ht, hu⟩ := hx
  dsimp only at hs ht hu h ⊢
  have K := Lib.hid (fun W left' hl0 hl1 (hb : Below w.heap.size w W) => szAttrS_any a n c l left' W hl0 hl1 (h.below hb))
  clear h
  go_enter Tryz.func78, Tryz.ntmps78
  go_wp2_with (go_at_call 118; refine (K.out _ _ (by omega) (by omega) (below1 _ _)).mono ?_; rintro e w1 ⟨r, hr, rfl, hb⟩)
  all_goals go_ret
  all_goals first
    | exact SzRes.mk Left.no (below1 _ _)
    | exact SzRes.mk Left.no ((below1 _ _).trans (hb.mono (by simp)))
    | exact SzRes.mk (hr.elim (fun e => by omega) fun e => Left.yes e.1 (by omega) ⟨⟨by show s.size ≤ 1048576; omega, by show t.size ≤ 1048576; omega, by show u.size ≤ 1048576; omega⟩, e.2.2⟩) ((below1 _ _).trans (hb.mono (by simp)))

set_option maxHeartbeats 800000 in
theorem szItemS_any (a : Option Addr) (n c : Nat) (l : List It) (left : Int) (w : World) (h0 : 0 ≤ left) (h1 : left ≤ 1048576) (h : ItsAt w a n c l) :
    Calls Tryz.prog 37 #[.slice a n c, .int .i64 left] w (SzRes (Left left (SmallIts l)) w) := by
  have hm := h.max
  have HR := Lib.hid h.row
  have HL := Lib.hid h.len
  clear h
  by_cases hn : (n : Int) ≤ left
  · go_enter Tryz.func37, Tryz.ntmps37
    go_wp2
    go_loopw [1, 5] (fun v i wr => ∃ (k : Nat) (r : Int), k ≤ n ∧ i = .int .i64 k ∧ v = .int .i64 r ∧ 0 ≤ r ∧ r ≤ left ∧ (∀ j, j < k → SmallIt (l.getD j dIt)) ∧ Below w.heap.size w wr) (fun _ i _ => n - (intOf i).toNat)
    case atStart => exact ⟨0, left - n, Nat.zero_le _, rfl, rfl, by omega, by omega, fun j hj => by omega, Below.refl _ _⟩
    case round =>
      obtain ⟨k, r, hk, rfl, rfl, hr0, hr1, hat, hb⟩ := hrel
      have HAT := Lib.hid hat
      clear hat
      by_cases hlt : k < n
      · rcases HR.out with e0 | ⟨b, o, rfl, hc⟩
        · omega
        · have hi := (hc k hlt).below hb
          have d0 := hi.c0
          have d1 := hi.c1
          have d2 := hi.c2
          have d3 := hi.c3
          obtain ⟨a4, n4, c4, d4, hat4⟩ := hi.c4
          have K := Lib.hid (fun W hb' => szItem_any (l.getD k dIt) a4 n4 c4 r W hr0 (by omega) hi.size (hat4.below hb'))
          clear hi hat4
          have HX := Lib.hid (show ∃ x, x = l.getD k dIt from ⟨_, rfl⟩)
          have HAT2 : Hid (SmallIt (l.getD k dIt) → ∀ j, j < k + 1 → SmallIt (l.getD j dIt)) := Lib.hid fun hx j hj => by
            rcases Nat.lt_or_ge j k with h | h
            · exact HAT.out j h
            · obtain rfl : j = k := by omega
              exact hx
          generalize l.getD k dIt = x at d0 d1 d2 d3 d4 K HAT2
          obtain ⟨xd, xt, xs, xn, xa⟩ := x
          dsimp only at d0 d1 d2 d3 d4 K HAT2
          have HB := Lib.hid hb
          clear hc hb
          go_wp2_with fail
          refine (K.out _ (Below.refl _ _)).mono ?_
          rintro e w2 ⟨r2, hr2, rfl, hb2⟩
          rcases hr2 with rfl | ⟨hr2, hr3, hr4⟩
          · go_wp2
            go_ret
            exact SzRes.mk Left.no (HB.out.trans (hb2.mono HB.out.size))
          · have HX4 := Lib.hid hr4
            clear hr4
            go_wp2
            go_roundw
            case rel => exact ⟨k + 1, r2, by omega, by go_num, rfl, by omega, by omega, HAT2.out HX4.out, HB.out.trans (hb2.mono HB.out.size)⟩
            case measure => simp [intOf]; omega
      · go_wp2
        go_ret
        exact SzRes.mk (Left.yes (by omega) (by omega) ⟨by have := HL.out; omega, fun i hi => HAT.out i (by have := HL.out; omega)⟩) hb
  · go_enter Tryz.func37, Tryz.ntmps37
    go_wp2
    go_ret
    exact SzRes.mk Left.no (Below.refl _ _)
end Go.Proofs.YtpafknmfacgccaaGreatDoor
