/- heldAttrS, heldItemS. -/
import Derived.Test.YticpebpicdboaaaGreatDoorGY11
import Derived.Deep.RegionHeld3
namespace Go.Proofs.YticpebpicdboaaaGreatDoor
open Go.ChangeShapes Go.WideShapes Go.ChangeAt Go.RowKit
set_option linter.unusedVariables false

theorem held1 {w0 W W' : World} {p1 : Addr} {v1 : Value} (hb : Below W.heap.size W W') (h : Below w0.heap.size w0 W ∧ W.cell? p1 = some v1) : Below w0.heap.size w0 W' ∧ W'.cell? p1 = some v1 :=
  ⟨below_then h.1 hb, (hb.cell (World.block_lt_of_cell? W _ h.2)).trans h.2⟩
theorem same_no (s : ByteArray) : (s.toList == s.toList) = true := by simp

set_option maxRecDepth 100000 in
set_option maxHeartbeats 3200000 in
theorem heldAttrS_any (a : Option Addr) (n c k : Nat) (w : World) (h0 : 0 < k) (h1 : k ≤ 100000000000000000) (hn : n ≤ 1048576) (h : AtsAt w a n c (markAts k n)) :
    Calls Tryz.prog 218 #[.slice a n c, .int .i64 k] w fun e w' => e = .returned (.int .i64 ((k + 2 * n : Nat) : Int)) ∧ Below w.heap.size w w' := by
  have HR := Lib.hid h.row
  clear h
  go_enter Tryz.func218, Tryz.ntmps218
  go_wp2
  go_loopw [1, 5] (fun v i wr => ∃ j : Nat, j ≤ n ∧ i = .int .i64 j ∧ v = .int .i64 ((k + 2 * j : Nat) : Int) ∧ Below w.heap.size w wr) (fun _ i _ => n - (intOf i).toNat)
  case atStart => exact ⟨0, Nat.zero_le _, rfl, rfl, Below.refl _ _⟩
  case round =>
    obtain ⟨j, hj, rfl, rfl, hb⟩ := hrel
    by_cases hlt : j < n
    · obtain ⟨b, o, rfl, h3, h4⟩ := HR.out.resolve_left (by omega)
      have d0 := (hb.cell (p := ⟨b, o + j * 2, none⟩) h3).trans (h4 j hlt).1
      have d1 := (hb.cell (p := ⟨b, o + j * 2 + 1, none⟩) h3).trans (h4 j hlt).2
      rw [markAts_get k n j hlt] at d0 d1
      dsimp only at d0 d1
      have HB := Lib.hid hb
      have q0 : (j : Int) < (n : Int) := by omega
      clear h4 hb
      obtain ⟨kk, hkk⟩ : ∃ kk, k + 2 * j = kk := ⟨_, rfl⟩
      have K1 := Lib.hid (markText_any kk (by omega) (by omega))
      have K2 := Lib.hid (markText_succ kk (by omega))
      have q1 : kk ≤ 1000000000000000000 := by omega
      rw [hkk] at d0 d1 ⊢
      have HKK := Lib.hid hkk
      have e1 := same_no (markT kk)
      have e2 := same_no (markT (kk + 1))
      have hbl : b < wr.heap.size := World.block_lt_of_cell? wr _ d0
      clear hkk
      go_wp2_with fail
      have hS0 : Below wr.heap.size wr wr.drew ∧ wr.drew.cell? ⟨b, o + j * 2, none⟩ = some (.string (markT kk)) := ⟨(Below.refl _ _).drew, d0⟩
      go_region_held3 (fun W => Below wr.heap.size wr W ∧ W.cell? ⟨b, o + j * 2, none⟩ = some (.string (markT kk))) (first | assumption | exact held1 hbr (by assumption))
        (first | (go_at_call 132; refine (K1.out _).mono ?_; rintro e w' ⟨rfl, hbr⟩))
      have HB1 := Lib.hid (below_of_drew hbr)
      have d2 := ((below_of_drew hbr).cell (p := ⟨b, o + j * 2 + 1, none⟩) hbl).trans d1
      have hbl2 : b < w'.heap.size := World.block_lt_of_cell? w' _ d2
      clear d0 d1 hS0 hbr
      rename_i hheld
      clear hheld
      go_wp2_with fail
      have hS1 : Below w'.heap.size w' w'.drew ∧ w'.drew.cell? ⟨b, o + j * 2 + 1, none⟩ = some (.string (markT (kk + 1))) := ⟨(Below.refl _ _).drew, d2⟩
      go_region_held3 (fun W => Below w'.heap.size w' W ∧ W.cell? ⟨b, o + j * 2 + 1, none⟩ = some (.string (markT (kk + 1)))) (first | assumption | exact held1 hbr (by assumption))
        (first | (go_at_call 132; refine (K2.out _).mono ?_; rintro e w' ⟨rfl, hbr⟩))
      go_wp2
      go_roundw
      case rel => exact ⟨j + 1, by omega, by go_num, by rw [← HKK.out]; first | rfl | (congr 1; omega), below_then HB.out (below_then HB1.out (below_of_drew hbr))⟩
      case measure => simp [intOf]; omega
    · obtain rfl : j = n := by omega
      go_wp2
      go_ret
      exact ⟨rfl, hb⟩

set_option maxRecDepth 100000 in
set_option maxHeartbeats 6400000 in
theorem heldItemS_any (a : Option Addr) (n c k : Nat) (l : List It) (w : World) (h0 : 0 < k) (hK : kAt k l n ≤ 10000000000000000) (hA : ∀ i, i < n → (l.getD i dIt).attrs.length ≤ 1048576) (hlen : l.length = n) (h : ItsAt w a n c (markIts k l)) :
    Calls Tryz.prog 127 #[.slice a n c, .int .i64 k] w fun e w' => e = .returned (.int .i64 ((kAt k l n : Nat) : Int)) ∧ Below w.heap.size w w' := by
  have hm := h.max
  have HR := Lib.hid h.row
  have HL := Lib.hid hlen
  have HK := Lib.hid hK
  have HA := Lib.hid hA
  clear h hlen hK hA
  go_enter Tryz.func127, Tryz.ntmps127
  go_wp2
  go_loopw [1, 5] (fun v i wr => ∃ j : Nat, j ≤ n ∧ i = .int .i64 j ∧ v = .int .i64 ((kAt k l j : Nat) : Int) ∧ Below w.heap.size w wr) (fun _ i _ => n - (intOf i).toNat)
  case atStart => exact ⟨0, Nat.zero_le _, rfl, rfl, Below.refl _ _⟩
  case round =>
    obtain ⟨j, hj, rfl, rfl, hb⟩ := hrel
    by_cases hlt : j < n
    · obtain ⟨b, o, rfl, h4⟩ := HR.out.resolve_left (by omega)
      have hi := (h4 j hlt).below hb
      rw [markIts_get k l j (by have := HL.out; omega)] at hi
      have hle1 := kAt_le k l (i := 0) (j := j) (by omega)
      have hle2 := kAt_le k l (i := j) (j := n) (by omega)
      have hkk0 : 0 < kAt k l j := by show 0 < _; have : kAt k l 0 = k := rfl; omega
      have hkk1 : kAt k l j ≤ 10000000000000000 := by have := HK.out; omega
      have HKJ : Hid (kAt k l (j + 1) = kAt k l j + 4 + 2 * (l.getD j dIt).attrs.length) := Lib.hid rfl
      have hNA : (l.getD j dIt).attrs.length ≤ 1048576 := HA.out j hlt
      clear hle1 hle2 h4
      obtain ⟨kk, hkk⟩ : ∃ kk, kAt k l j = kk := ⟨_, rfl⟩
      rw [hkk] at hi hkk0 hkk1 HKJ ⊢
      obtain ⟨na, hna⟩ : ∃ na, (l.getD j dIt).attrs.length = na := ⟨_, rfl⟩
      unfold markIt at hi
      rw [hna] at hi HKJ hNA
      clear hkk hna
      have d0 := hi.c0
      have d1 := hi.c1
      have d2 := hi.c2
      have d3 := hi.c3
      obtain ⟨a4, n4, c4, d4, hat⟩ := hi.c4
      dsimp only at d0 d1 d2 d3 hat
      obtain rfl : n4 = na := by rw [← hat.len, markAts_length]
      have HB := Lib.hid hb
      have q0 : (j : Int) < (n : Int) := by omega
      have K1 := Lib.hid (markText_at kk 1 (by omega) (by omega))
      have K2 := Lib.hid (markText_at kk 2 (by omega) (by omega))
      have K3 := Lib.hid (markText_at kk 3 (by omega) (by omega))
      have K4 := Lib.hid (fun W (hb' : Below wr.heap.size wr W) => heldAttrS_any a4 n4 c4 (kk + 4) W (by omega) (by omega) hNA (hat.below hb'))
      have e0 : ((kk : Int) != (kk : Int)) = false := by simp
      have e1 := same_no (markT (kk + 1))
      have e2 := same_no (markT (kk + 2))
      have e3 := same_no (markT (kk + 3))
      have hbl := hi.lt
      clear hi hat hb
      have HBW0 := Lib.hid (Below.refl wr.heap.size wr)
      go_wp2_with fail
      have hS1 : Below wr.heap.size wr wr.drew ∧ wr.drew.cell? ⟨b, o + j * 5 + 1, none⟩ = some (.string (markT (kk + 1))) := ⟨(Below.refl _ _).drew, d1⟩
      go_region_held3 (fun W => Below wr.heap.size wr W ∧ W.cell? ⟨b, o + j * 5 + 1, none⟩ = some (.string (markT (kk + 1)))) (first | assumption | exact held1 hbr (by assumption))
        (first | (go_at_call 132; refine (K1.out _).mono ?_; rintro e w1 ⟨rfl, hbr⟩))
      have HBW1 := Lib.hid (below_then HBW0.out (below_of_drew hbr))
      have d2 := ((below_of_drew hbr).cell (p := ⟨b, o + j * 5 + 2, none⟩) hbl).trans d2
      have d3 := ((below_of_drew hbr).cell (p := ⟨b, o + j * 5 + 3, none⟩) hbl).trans d3
      have d4 := ((below_of_drew hbr).cell (p := ⟨b, o + j * 5 + 4, none⟩) hbl).trans d4
      have hbl := Nat.lt_of_lt_of_le hbl (below_of_drew hbr).size
      rename_i hheld
      clear hheld hbr hS1
      go_wp2_with fail
      have hS2 : Below w1.heap.size w1 w1.drew ∧ w1.drew.cell? ⟨b, o + j * 5 + 2, none⟩ = some (.string (markT (kk + 2))) := ⟨(Below.refl _ _).drew, d2⟩
      go_region_held3 (fun W => Below w1.heap.size w1 W ∧ W.cell? ⟨b, o + j * 5 + 2, none⟩ = some (.string (markT (kk + 2)))) (first | assumption | exact held1 hbr (by assumption))
        (first | (go_at_call 132; refine (K2.out _).mono ?_; rintro e w2 ⟨rfl, hbr⟩))
      have HBW2 := Lib.hid (below_then HBW1.out (below_of_drew hbr))
      have d3 := ((below_of_drew hbr).cell (p := ⟨b, o + j * 5 + 3, none⟩) hbl).trans d3
      have d4 := ((below_of_drew hbr).cell (p := ⟨b, o + j * 5 + 4, none⟩) hbl).trans d4
      have hbl := Nat.lt_of_lt_of_le hbl (below_of_drew hbr).size
      rename_i hheld
      clear hheld hbr hS2
      go_wp2_with fail
      have hS3 : Below w2.heap.size w2 w2.drew ∧ w2.drew.cell? ⟨b, o + j * 5 + 3, none⟩ = some (.string (markT (kk + 3))) := ⟨(Below.refl _ _).drew, d3⟩
      go_region_held3 (fun W => Below w2.heap.size w2 W ∧ W.cell? ⟨b, o + j * 5 + 3, none⟩ = some (.string (markT (kk + 3)))) (first | assumption | exact held1 hbr (by assumption))
        (first | (go_at_call 132; refine (K3.out _).mono ?_; rintro e w3 ⟨rfl, hbr⟩))
      have HBW3 := Lib.hid (below_then HBW2.out (below_of_drew hbr))
      have d4 := ((below_of_drew hbr).cell (p := ⟨b, o + j * 5 + 4, none⟩) hbl).trans d4
      have hbl := Nat.lt_of_lt_of_le hbl (below_of_drew hbr).size
      rename_i hheld
      clear hheld hbr hS3
      go_wp2_with fail
      refine (K4.out _ HBW3.out).mono ?_
      rintro e w4 ⟨rfl, hb4⟩
      go_wp2
      go_roundw
      case rel => exact ⟨j + 1, by omega, by go_num, by rw [HKJ.out]; congr 1, below_then HB.out (below_then HBW3.out hb4)⟩
      case measure => simp [intOf]; omega
    · obtain rfl : j = n := by omega
      go_wp2
      go_ret
      exact ⟨rfl, hb⟩
end Go.Proofs.YticpebpicdboaaaGreatDoor
