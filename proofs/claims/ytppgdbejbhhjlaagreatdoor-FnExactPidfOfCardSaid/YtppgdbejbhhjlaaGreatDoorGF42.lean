/- eqAttr, eqAttrS, eqItem, eqItemS at two readings of one list. -/
import Derived.Test.YtppgdbejbhhjlaaGreatDoorGF0
import Derived.Deep.RegionHeld3
import Derived.Test.YtppgdbejbhhjlaaGreatDoorGF41
namespace Go.Proofs.YtppgdbejbhhjlaaGreatDoor
open Go.ChangeShapes Go.WideShapes Go.ChangeAt Go.RowKit
set_option linter.unusedVariables false

set_option maxHeartbeats 400000 in
theorem eqAttr_true (s t : ByteArray) (w : World) :
    Calls Tryz.prog 220 #[.agg #[.string s, .string t], .agg #[.string s, .string t]] w fun e w' => e = .returned (.bool true) ∧ Below w.heap.size w w' := by
  go_enter Tryz.func220, Tryz.ntmps220
  go_wp2
  go_ret
  exact ⟨rfl, below2 _ _ _⟩

theorem held4 {w0 W W' : World} {p1 p2 p3 p4 : Addr} {v1 v2 v3 v4 : Value} (hb : Below W.heap.size W W')
    (h : Below w0.heap.size w0 W ∧ W.cell? p1 = some v1 ∧ W.cell? p2 = some v2 ∧ W.cell? p3 = some v3 ∧ W.cell? p4 = some v4) :
    Below w0.heap.size w0 W' ∧ W'.cell? p1 = some v1 ∧ W'.cell? p2 = some v2 ∧ W'.cell? p3 = some v3 ∧ W'.cell? p4 = some v4 :=
  ⟨below_then h.1 hb, (hb.cell (World.block_lt_of_cell? W _ h.2.1)).trans h.2.1, (hb.cell (World.block_lt_of_cell? W _ h.2.2.1)).trans h.2.2.1, (hb.cell (World.block_lt_of_cell? W _ h.2.2.2.1)).trans h.2.2.2.1, (hb.cell (World.block_lt_of_cell? W _ h.2.2.2.2)).trans h.2.2.2.2⟩

set_option maxHeartbeats 1600000 in
theorem eqAttrS_true (a a' : Option Addr) (n n' c c' : Nat) (l : List At) (w : World) (h : AtsAt w a n c l) (h' : AtsAt w a' n' c' l) :
    Calls Tryz.prog 172 #[.slice a n c, .slice a' n' c'] w fun e w' => e = .returned (.bool true) ∧ Below w.heap.size w w' := by
  obtain rfl : n = n' := h.len.symm.trans h'.len
  have hm := h.max
  have HR := Lib.hid h.row
  have HR' := Lib.hid h'.row
  clear h h'
  go_enter Tryz.func172, Tryz.ntmps172
  go_wp2
  go_loopw [5] (fun i wr => ∃ k : Nat, k ≤ n ∧ i = .int .i64 k ∧ Below w.heap.size w wr) (fun i _ => n - (intOf i).toNat)
  case atStart => exact ⟨0, Nat.zero_le _, rfl, Below.refl _ _⟩
  case round =>
    obtain ⟨k, hk, rfl, hb⟩ := hrel
    by_cases hlt : k < n
    · rcases HR.out with e0 | ⟨b, o, rfl, h3, h4⟩
      · omega
      rcases HR'.out with e0 | ⟨b', o', rfl, h3', h4'⟩
      · omega
      have d0 := (hb.cell (p := ⟨b, o + k * 2, none⟩) h3).trans (h4 k hlt).1
      have d1 := (hb.cell (p := ⟨b, o + k * 2 + 1, none⟩) h3).trans (h4 k hlt).2
      have e0 := (hb.cell (p := ⟨b', o' + k * 2, none⟩) h3').trans (h4' k hlt).1
      have e1 := (hb.cell (p := ⟨b', o' + k * 2 + 1, none⟩) h3').trans (h4' k hlt).2
      have k1 : (k : Int) < (n : Int) := by omega
      generalize l.getD k dAt = x at d0 d1 e0 e1
      obtain ⟨s, t⟩ := x
      dsimp only at d0 d1 e0 e1
      have HB := Lib.hid hb
      clear h4 h4' hb
      go_wp2_with fail
      have hS0 : Below wr.heap.size wr wr.drew ∧ wr.drew.cell? ⟨b, o + k * 2, none⟩ = some (.string s) ∧ wr.drew.cell? ⟨b, o + k * 2 + 1, none⟩ = some (.string t) ∧ wr.drew.cell? ⟨b', o' + k * 2, none⟩ = some (.string s) ∧ wr.drew.cell? ⟨b', o' + k * 2 + 1, none⟩ = some (.string t) := ⟨(Below.refl _ _).drew, d0, d1, e0, e1⟩
      go_region_held3 (fun W => Below wr.heap.size wr W ∧ W.cell? ⟨b, o + k * 2, none⟩ = some (.string s) ∧ W.cell? ⟨b, o + k * 2 + 1, none⟩ = some (.string t) ∧ W.cell? ⟨b', o' + k * 2, none⟩ = some (.string s) ∧ W.cell? ⟨b', o' + k * 2 + 1, none⟩ = some (.string t)) (first | assumption | exact held4 hbr (by assumption))
        (first | (go_at_call 220; refine (eqAttr_true s t _).mono ?_; rintro e w' ⟨rfl, hbr⟩))
      go_wp2
      go_roundw
      case rel => exact ⟨k + 1, by omega, by go_num, below_then HB.out (below_of_drew hbr)⟩
      case measure => simp [intOf]; omega
    · go_wp2
      go_ret
      exact ⟨rfl, hb⟩

set_option maxHeartbeats 800000 in
theorem eqItem_true (x : It) (a a' : Option Addr) (n n' c c' : Nat) (w : World) (h : AtsAt w a n c x.attrs) (h' : AtsAt w a' n' c' x.attrs) :
    Calls Tryz.prog 104 #[.agg #[.int .i64 x.depth, .string x.text, .string x.space, .string x.name, .slice a n c], .agg #[.int .i64 x.depth, .string x.text, .string x.space, .string x.name, .slice a' n' c']] w fun e w' => e = .returned (.bool true) ∧ Below w.heap.size w w' := by
  obtain ⟨d, s, t, u, l⟩ := x
  dsimp only at h h' ⊢
  have K := Lib.hid (fun W (hb : Below w.heap.size w W) => eqAttrS_true a a' n n' c c' l W (h.below hb) (h'.below hb))
  clear h h'
  go_enter Tryz.func104, Tryz.ntmps104
  go_wp2_with fail
  refine (K.out _ (below2 _ _ _)).mono ?_
  rintro e w1 ⟨rfl, hb⟩
  go_wp2
  go_ret
  exact ⟨rfl, below_then (below2 _ _ _) hb⟩

theorem held10 {w0 W W' : World} {p0 p1 p2 p3 p4 p5 p6 p7 p8 p9 : Addr} {v0 v1 v2 v3 v4 v5 v6 v7 v8 v9 : Value} (hb : Below W.heap.size W W')
    (h : Below w0.heap.size w0 W ∧ W.cell? p0 = some v0 ∧ W.cell? p1 = some v1 ∧ W.cell? p2 = some v2 ∧ W.cell? p3 = some v3 ∧ W.cell? p4 = some v4 ∧ W.cell? p5 = some v5 ∧ W.cell? p6 = some v6 ∧ W.cell? p7 = some v7 ∧ W.cell? p8 = some v8 ∧ W.cell? p9 = some v9) :
    Below w0.heap.size w0 W' ∧ W'.cell? p0 = some v0 ∧ W'.cell? p1 = some v1 ∧ W'.cell? p2 = some v2 ∧ W'.cell? p3 = some v3 ∧ W'.cell? p4 = some v4 ∧ W'.cell? p5 = some v5 ∧ W'.cell? p6 = some v6 ∧ W'.cell? p7 = some v7 ∧ W'.cell? p8 = some v8 ∧ W'.cell? p9 = some v9 :=
  ⟨below_then h.1 hb, (hb.cell (World.block_lt_of_cell? W _ h.2.1)).trans h.2.1, (hb.cell (World.block_lt_of_cell? W _ h.2.2.1)).trans h.2.2.1, (hb.cell (World.block_lt_of_cell? W _ h.2.2.2.1)).trans h.2.2.2.1, (hb.cell (World.block_lt_of_cell? W _ h.2.2.2.2.1)).trans h.2.2.2.2.1, (hb.cell (World.block_lt_of_cell? W _ h.2.2.2.2.2.1)).trans h.2.2.2.2.2.1, (hb.cell (World.block_lt_of_cell? W _ h.2.2.2.2.2.2.1)).trans h.2.2.2.2.2.2.1, (hb.cell (World.block_lt_of_cell? W _ h.2.2.2.2.2.2.2.1)).trans h.2.2.2.2.2.2.2.1, (hb.cell (World.block_lt_of_cell? W _ h.2.2.2.2.2.2.2.2.1)).trans h.2.2.2.2.2.2.2.2.1, (hb.cell (World.block_lt_of_cell? W _ h.2.2.2.2.2.2.2.2.2.1)).trans h.2.2.2.2.2.2.2.2.2.1, (hb.cell (World.block_lt_of_cell? W _ h.2.2.2.2.2.2.2.2.2.2)).trans h.2.2.2.2.2.2.2.2.2.2⟩

set_option maxRecDepth 100000 in
set_option maxHeartbeats 3200000 in
theorem eqItemS_true (a a' : Option Addr) (n n' c c' : Nat) (l : List It) (w : World) (h : ItsAt w a n c l) (h' : ItsAt w a' n' c' l) :
    Calls Tryz.prog 50 #[.slice a n c, .slice a' n' c'] w fun e w' => e = .returned (.bool true) ∧ Below w.heap.size w w' := by
  obtain rfl : n = n' := h.len.symm.trans h'.len
  have hm := h.max
  have HR := Lib.hid h.row
  have HR' := Lib.hid h'.row
  clear h h'
  go_enter Tryz.func50, Tryz.ntmps50
  go_wp2
  go_loopw [5] (fun i wr => ∃ k : Nat, k ≤ n ∧ i = .int .i64 k ∧ Below w.heap.size w wr) (fun i _ => n - (intOf i).toNat)
  case atStart => exact ⟨0, Nat.zero_le _, rfl, Below.refl _ _⟩
  case round =>
    obtain ⟨k, hk, rfl, hb⟩ := hrel
    by_cases hlt : k < n
    · rcases HR.out with e0 | ⟨b, o, rfl, h4⟩
      · omega
      rcases HR'.out with e0 | ⟨b', o', rfl, h4'⟩
      · omega
      have hi := (h4 k hlt).below hb
      have hi' := (h4' k hlt).below hb
      have d0 := hi.c0
      have d1 := hi.c1
      have d2 := hi.c2
      have d3 := hi.c3
      obtain ⟨a4, n4, c4, d4, hat⟩ := hi.c4
      have e0 := hi'.c0
      have e1 := hi'.c1
      have e2 := hi'.c2
      have e3 := hi'.c3
      obtain ⟨a5, n5, c5, e4, hat'⟩ := hi'.c4
      have K := Lib.hid (fun W (hb' : Below wr.heap.size wr W) => eqItem_true (l.getD k dIt) a4 a5 n4 n5 c4 c5 W (hat.below hb') (hat'.below hb'))
      have k1 : (k : Int) < (n : Int) := by omega
      clear hi hi' hat hat' h4 h4'
      generalize l.getD k dIt = x at d0 d1 d2 d3 e0 e1 e2 e3 K
      obtain ⟨xd, xt, xs, xn, xa⟩ := x
      dsimp only at d0 d1 d2 d3 e0 e1 e2 e3 K
      have HB := Lib.hid hb
      clear hb
      go_wp2_with fail
      have hS0 : Below wr.heap.size wr wr.drew ∧ wr.drew.cell? ⟨b, o + k * 5, none⟩ = some (.int .i64 xd) ∧ wr.drew.cell? ⟨b, o + k * 5 + 1, none⟩ = some (.string xt) ∧ wr.drew.cell? ⟨b, o + k * 5 + 2, none⟩ = some (.string xs) ∧ wr.drew.cell? ⟨b, o + k * 5 + 3, none⟩ = some (.string xn) ∧ wr.drew.cell? ⟨b, o + k * 5 + 4, none⟩ = some (.slice a4 n4 c4) ∧ wr.drew.cell? ⟨b', o' + k * 5, none⟩ = some (.int .i64 xd) ∧ wr.drew.cell? ⟨b', o' + k * 5 + 1, none⟩ = some (.string xt) ∧ wr.drew.cell? ⟨b', o' + k * 5 + 2, none⟩ = some (.string xs) ∧ wr.drew.cell? ⟨b', o' + k * 5 + 3, none⟩ = some (.string xn) ∧ wr.drew.cell? ⟨b', o' + k * 5 + 4, none⟩ = some (.slice a5 n5 c5) := ⟨(Below.refl _ _).drew, d0, d1, d2, d3, d4, e0, e1, e2, e3, e4⟩
      go_region_held3 (fun W => Below wr.heap.size wr W ∧ W.cell? ⟨b, o + k * 5, none⟩ = some (.int .i64 xd) ∧ W.cell? ⟨b, o + k * 5 + 1, none⟩ = some (.string xt) ∧ W.cell? ⟨b, o + k * 5 + 2, none⟩ = some (.string xs) ∧ W.cell? ⟨b, o + k * 5 + 3, none⟩ = some (.string xn) ∧ W.cell? ⟨b, o + k * 5 + 4, none⟩ = some (.slice a4 n4 c4) ∧ W.cell? ⟨b', o' + k * 5, none⟩ = some (.int .i64 xd) ∧ W.cell? ⟨b', o' + k * 5 + 1, none⟩ = some (.string xt) ∧ W.cell? ⟨b', o' + k * 5 + 2, none⟩ = some (.string xs) ∧ W.cell? ⟨b', o' + k * 5 + 3, none⟩ = some (.string xn) ∧ W.cell? ⟨b', o' + k * 5 + 4, none⟩ = some (.slice a5 n5 c5)) (first | assumption | exact held10 hbr (by assumption))
        (first | (go_at_call 104; refine (K.out _ ?_).mono ?_; exact (And.left (by assumption)); rintro e w' ⟨rfl, hbr⟩))
      go_wp2
      go_roundw
      case rel => exact ⟨k + 1, by omega, by go_num, below_then HB.out (below_of_drew hbr)⟩
      case measure => simp [intOf]; omega
    · go_wp2
      go_ret
      exact ⟨rfl, hb⟩
end Go.Proofs.YtppgdbejbhhjlaaGreatDoor

/- eqTreeResult, markTreeResult, heldTreeResult. -/
namespace Go.Proofs.YtppgdbejbhhjlaaGreatDoor
open Go.ChangeShapes Go.WideShapes Go.ChangeAt Go.RowKit
set_option linter.unusedVariables false

set_option maxHeartbeats 800000 in
theorem eqTreeResult_true (cd : Int) (a a' : Option Addr) (n n' c c' : Nat) (l : List It) (w : World) (h : ItsAt w a n c l) (h' : ItsAt w a' n' c' l) :
    Calls Tryz.prog 44 #[.agg #[.int .i64 cd, .slice a n c], .agg #[.int .i64 cd, .slice a' n' c']] w fun e w' => e = .returned (.bool true) ∧ Below w.heap.size w w' := by
  have K := Lib.hid (fun W (hb : Below w.heap.size w W) => eqItemS_true a a' n n' c c' l W (h.below hb) (h'.below hb))
  clear h h'
  go_enter Tryz.func44, Tryz.ntmps44
  go_wp2_with fail
  refine (K.out _ (below2 _ _ _)).mono ?_
  rintro e w1 ⟨rfl, hb⟩
  go_wp2
  go_ret
  exact ⟨rfl, below_then (below2 _ _ _) hb⟩

set_option maxHeartbeats 800000 in
theorem markTreeResult_any (cd : Int) (lo hi : Nat) (a : Option Addr) (n c k : Nat) (l : List It) (w : World) (h0 : 0 < k) (hK : kAt k l n ≤ 10000000000000000) (hA : ∀ i, i < n → (l.getD i dIt).attrs.length ≤ 1048576) (h : OwnIts w lo hi a n c l) :
    Calls Tryz.prog 45 #[.agg #[.int .i64 cd, .slice a n c], .int .i64 k] w (MarkIts w lo hi a n c k l) := by
  have K := Lib.hid (fun W (hb : Below w.heap.size w W) => markItemS_any lo hi a n c k l W h0 hK hA (h.below hb))
  clear h hK hA
  go_enter Tryz.func45, Tryz.ntmps45
  go_wp2_with fail
  refine (K.out _ (below1 _ _)).mono ?_
  rintro e w1 ⟨rfl, hown, ho⟩
  go_wp2
  go_ret
  exact ⟨rfl, hown, (Only.below (below1 _ _)).trans ho⟩

set_option maxHeartbeats 800000 in
theorem heldTreeResult_any (cd : Int) (a : Option Addr) (n c k : Nat) (l : List It) (w : World) (h0 : 0 < k) (hK : kAt k l n ≤ 10000000000000000) (hA : ∀ i, i < n → (l.getD i dIt).attrs.length ≤ 1048576) (hlen : l.length = n) (h : ItsAt w a n c (markIts k l)) :
    Calls Tryz.prog 46 #[.agg #[.int .i64 cd, .slice a n c], .int .i64 k] w fun e w' => e = .returned (.int .i64 ((kAt k l n : Nat) : Int)) ∧ Below w.heap.size w w' := by
  have K := Lib.hid (fun W (hb : Below w.heap.size w W) => heldItemS_any a n c k l W h0 hK hA hlen (h.below hb))
  have hk0 : (0 : Int) ≤ ((kAt k l n : Nat) : Int) := by omega
  generalize kAt k l n = m at K hk0
  clear h hK hA
  go_enter Tryz.func46, Tryz.ntmps46
  go_wp2_with fail
  refine (K.out _ (below1 _ _)).mono ?_
  rintro e w1 ⟨rfl, hb⟩
  go_wp2
  go_ret
  exact ⟨rfl, below_then (below1 _ _) hb⟩
end Go.Proofs.YtppgdbejbhhjlaaGreatDoor
