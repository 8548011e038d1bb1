/- eqIdentity, eqIdentityS, eqStringS, eqDisco at two readings of one list. -/
import Derived.Test.YtmmicoiiklcakaaGreatDoorGC3
import Derived.Deep.RegionHeld3
namespace Go.Proofs.YtmmicoiiklcakaaGreatDoor
open Go.ChangeShapes Go.WideShapes Go.ChangeAt Go.RowKit
set_option linter.unusedVariables false

set_option maxHeartbeats 400000 in
theorem eqIdentity_true (s t u v : ByteArray) (w : World) :
    Calls Tryz.prog 235 #[.agg #[.string s, .string t, .string u, .string v], .agg #[.string s, .string t, .string u, .string v]] w fun e w' => e = .returned (.bool true) ∧ Below w.heap.size w w' := by
  go_enter Tryz.func235, Tryz.ntmps235
  go_wp2
  go_ret
  exact ⟨rfl, below2 _ _ _⟩

theorem held4d {w0 W W' : World} {p1 p2 p3 p4 : Addr} {v1 v2 v3 v4 : Value} (hb : Below W.heap.size W W')
    (h : Below w0.heap.size w0 W ∧ W.cell? p1 = some v1 ∧ W.cell? p2 = some v2 ∧ W.cell? p3 = some v3 ∧ W.cell? p4 = some v4) :
    Below w0.heap.size w0 W' ∧ W'.cell? p1 = some v1 ∧ W'.cell? p2 = some v2 ∧ W'.cell? p3 = some v3 ∧ W'.cell? p4 = some v4 :=
  ⟨below_then h.1 hb, (hb.cell (World.block_lt_of_cell? W _ h.2.1)).trans h.2.1, (hb.cell (World.block_lt_of_cell? W _ h.2.2.1)).trans h.2.2.1, (hb.cell (World.block_lt_of_cell? W _ h.2.2.2.1)).trans h.2.2.2.1, (hb.cell (World.block_lt_of_cell? W _ h.2.2.2.2)).trans h.2.2.2.2⟩
theorem held8 {w0 W W' : World} {p0 p1 p2 p3 p4 p5 p6 p7 : Addr} {v0 v1 v2 v3 v4 v5 v6 v7 : Value} (hb : Below W.heap.size W W')
    (h : Below w0.heap.size w0 W ∧ W.cell? p0 = some v0 ∧ W.cell? p1 = some v1 ∧ W.cell? p2 = some v2 ∧ W.cell? p3 = some v3 ∧ W.cell? p4 = some v4 ∧ W.cell? p5 = some v5 ∧ W.cell? p6 = some v6 ∧ W.cell? p7 = some v7) :
    Below w0.heap.size w0 W' ∧ W'.cell? p0 = some v0 ∧ W'.cell? p1 = some v1 ∧ W'.cell? p2 = some v2 ∧ W'.cell? p3 = some v3 ∧ W'.cell? p4 = some v4 ∧ W'.cell? p5 = some v5 ∧ W'.cell? p6 = some v6 ∧ W'.cell? p7 = some v7 := by
  obtain ⟨h0, h1, h2, h3, h4, h5, h6, h7, h8⟩ := h
  have k : ∀ {p : Addr} {v : Value}, W.cell? p = some v → W'.cell? p = some v := fun h => (hb.cell (World.block_lt_of_cell? W _ h)).trans h
  exact ⟨below_then h0 hb, k h1, k h2, k h3, k h4, k h5, k h6, k h7, k h8⟩

set_option maxRecDepth 100000 in
set_option maxHeartbeats 3200000 in
theorem eqIdentityS_true (a a' : Option Addr) (n n' c c' : Nat) (l : List Ident) (w : World) (h : IdsAt w a n c l) (h' : IdsAt w a' n' c' l) :
    Calls Tryz.prog 145 #[.slice a n c, .slice a' n' c'] w fun e w' => e = .returned (.bool true) ∧ Below w.heap.size w w' := by
  obtain rfl : n = n' := h.len.symm.trans h'.len
  have hm := h.max
  have HR := Lib.hid h.row
  have HR' := Lib.hid h'.row
  clear h h'
  go_enter Tryz.func145, Tryz.ntmps145
  go_wp2
  go_loopw [5] (fun i wr => ∃ k : Nat, k ≤ n ∧ i = .int .i64 k ∧ Below w.heap.size w wr) (fun i _ => n - (intOf i).toNat)
  case atStart => exact ⟨0, Nat.zero_le _, rfl, Below.refl _ _⟩
  case round =>
    obtain ⟨k, hk, rfl, hb⟩ := hrel
    by_cases hlt : k < n
    · rcases HR.out with e0 | ⟨b, o, rfl, h4⟩
      · omega
      rcases HR'.out with e0 | ⟨b', o', rfl, h4'⟩
      · omega
      have hi := (h4 k hlt).below hb
      have hi' := (h4' k hlt).below hb
      have d0 := hi.c0
      have d1 := hi.c1
      have d2 := hi.c2
      have d3 := hi.c3
      have e0 := hi'.c0
      have e1 := hi'.c1
      have e2 := hi'.c2
      have e3 := hi'.c3
      have k1 : (k : Int) < (n : Int) := by omega
      clear hi hi' h4 h4'
      generalize l.getD k dId = x at d0 d1 d2 d3 e0 e1 e2 e3
      obtain ⟨s, t, u, v⟩ := x
      dsimp only at d0 d1 d2 d3 e0 e1 e2 e3
      have HB := Lib.hid hb
      clear hb
      go_wp2_with fail
      have hS0 : Below wr.heap.size wr wr.drew ∧ wr.drew.cell? ⟨b, o + k * 4, none⟩ = some (.string s) ∧ wr.drew.cell? ⟨b, o + k * 4 + 1, none⟩ = some (.string t) ∧ wr.drew.cell? ⟨b, o + k * 4 + 2, none⟩ = some (.string u) ∧ wr.drew.cell? ⟨b, o + k * 4 + 3, none⟩ = some (.string v) ∧ wr.drew.cell? ⟨b', o' + k * 4, none⟩ = some (.string s) ∧ wr.drew.cell? ⟨b', o' + k * 4 + 1, none⟩ = some (.string t) ∧ wr.drew.cell? ⟨b', o' + k * 4 + 2, none⟩ = some (.string u) ∧ wr.drew.cell? ⟨b', o' + k * 4 + 3, none⟩ = some (.string v) := ⟨(Below.refl _ _).drew, d0, d1, d2, d3, e0, e1, e2, e3⟩
      go_region_held3 (fun W => Below wr.heap.size wr W ∧ W.cell? ⟨b, o + k * 4, none⟩ = some (.string s) ∧ W.cell? ⟨b, o + k * 4 + 1, none⟩ = some (.string t) ∧ W.cell? ⟨b, o + k * 4 + 2, none⟩ = some (.string u) ∧ W.cell? ⟨b, o + k * 4 + 3, none⟩ = some (.string v) ∧ W.cell? ⟨b', o' + k * 4, none⟩ = some (.string s) ∧ W.cell? ⟨b', o' + k * 4 + 1, none⟩ = some (.string t) ∧ W.cell? ⟨b', o' + k * 4 + 2, none⟩ = some (.string u) ∧ W.cell? ⟨b', o' + k * 4 + 3, none⟩ = some (.string v)) (first | assumption | exact held8 hbr (by assumption))
        (first | (go_at_call 235; refine (eqIdentity_true s t u v _).mono ?_; rintro e w' ⟨rfl, hbr⟩))
      go_wp2
      go_roundw
      case rel => exact ⟨k + 1, by omega, by go_num, below_then HB.out (below_of_drew hbr)⟩
      case measure => simp [intOf]; omega
    · go_wp2
      go_ret
      exact ⟨rfl, hb⟩

set_option maxHeartbeats 1600000 in
theorem eqStringS_sts (a a' : Option Addr) (n n' c c' : Nat) (l : List ByteArray) (w : World) (h : StsAt w a n c l) (h' : StsAt w a' n' c' l) :
    Calls Tryz.prog 146 #[.slice a n c, .slice a' n' c'] w fun e w' => e = .returned (.bool true) ∧ ∃ m, w' = w.drewN m := by
  obtain rfl : n = n' := h.len.symm.trans h'.len
  have hm := h.max
  have HR := Lib.hid h.row
  have HR' := Lib.hid h'.row
  clear h h'
  go_enter Tryz.func146, Tryz.ntmps146
  go_wp2
  go_loopw [5] (fun i wr => ∃ k : Nat, k ≤ n ∧ i = .int .i64 k ∧ ∃ m, wr = w.drewN m) (fun i _ => n - (intOf i).toNat)
  case atStart => exact ⟨0, Nat.zero_le _, rfl, 0, rfl⟩
  case round =>
    obtain ⟨k, hk, rfl, nd, rfl⟩ := hrel
    by_cases hlt : k < n
    · rcases HR.out with e0 | ⟨b, o, rfl, h3, h4⟩
      · omega
      rcases HR'.out with e0 | ⟨b', o', rfl, h3', h4'⟩
      · omega
      have d1 := h4 k hlt
      have d2 := h4' k hlt
      have k1 : (k : Int) < (n : Int) := by omega
      clear h4 h4'
      generalize l.getD k ByteArray.empty = t at d1 d2
      have q1 : (t.toList == t.toList) = true := by simp
      have q2 : (t.toList != t.toList) = false := by simp
      go_wp2_with fail
      go_quiet (fail)
      go_wp2
      go_roundw
      case rel => exact ⟨k + 1, by omega, by go_num, _, rfl⟩
      case measure => simp [intOf]; omega
    · go_wp2
      go_ret
      exact ⟨rfl, _, rfl⟩

set_option maxHeartbeats 1600000 in
theorem eqDisco_true (a1 a2 b1 b2 : Option Addr) (n1 c1 n2 c2 m1 k1 m2 k2 : Nat) (d : Dis) (w : World) (h : DisAt w a1 n1 c1 a2 n2 c2 d) (h' : DisAt w b1 m1 k1 b2 m2 k2 d) :
    Calls Tryz.prog 69 #[.agg #[.slice a1 n1 c1, .slice a2 n2 c2], .agg #[.slice b1 m1 k1, .slice b2 m2 k2]] w fun e w' => e = .returned (.bool true) ∧ Below w.heap.size w w' := by
  have K1 := Lib.hid (fun W (hb : Below w.heap.size w W) => eqIdentityS_true a1 b1 n1 m1 c1 k1 d.ids W (h.ids.below hb) (h'.ids.below hb))
  have K2 := Lib.hid (fun W (hb : Below w.heap.size w W) => eqStringS_sts a2 b2 n2 m2 c2 k2 d.feats W (h.feats.below hb) (h'.feats.below hb))
  clear h h'
  go_enter Tryz.func69, Tryz.ntmps69
  go_wp2_with fail
  refine (K1.out _ (below2 _ _ _)).mono ?_
  rintro e w1 ⟨rfl, hb1⟩
  obtain ⟨hc1, hf1⟩ := bcell hb1
  have e1 : w1.cell? ⟨w.heap.size, 1, none⟩ = some (.slice a2 n2 c2) := by rw [hc1 _ _ (by simp; omega)]; simp
  have e2 : w1.cell? ⟨w.heap.size + 1, 1, none⟩ = some (.slice b2 m2 k2) := by rw [hc1 _ _ (by simp)]; simp
  have B1 := Lib.hid (below_then (below2 _ _ _) hb1)
  clear hb1 hc1 hf1
  go_wp2_with fail
  refine (K2.out _ B1.out).mono ?_
  rintro e w2 ⟨rfl, nd, rfl⟩
  go_wp2
  go_ret
  exact ⟨rfl, below_drewN B1.out _⟩
end Go.Proofs.YtmmicoiiklcakaaGreatDoor
