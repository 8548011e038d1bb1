/- Contracts of the draws of bytes and of texts. -/
import Derived.Test.YtcaknhoaoodbfaaGreatDoorGC1
import Derived.Test.YtcaknhoaoodbfaaGreatDoorGC5
namespace Go.Proofs.YtcaknhoaoodbfaaGreatDoor
open Go.ChangeShapes Go.WideShapes Go.ChangeAt Go.RowKit
set_option linter.unusedVariables false

theorem u8Info : (Tryz.prog.info? 5).map (fun i => (i.zero, i.size, i.bytes)) = some (some (.int .u8 0), 1, 1) := by kernel_rfl

/-- only block b, and what is new, has turned: behind an append to an own row -/
theorem step_appended {w wr w1 : World} {b base : Nat} {o : Obj} {v : Value} {e : TypeId} {size n : Nat} {xs : List Value} (h : w.grownBy wr (some b)) (hb : w.heap.size ≤ base) (ho : wr.ownsRow base e size v n xs) (hg : (wr.alloc o).grownBy w1 v.ownBlock) : w.grownBy w1 (some b) := by
  refine ⟨hg.os.trans h.os, hg.tape.trans h.tape, hg.output.trans h.output, Nat.le_trans h.size (Nat.le_trans (by simp) hg.size), fun i hi hne => ?_⟩
  rw [hg.block i (by have := h.size; simp; omega) (fun e => by have := (ho.lt i e.symm).1; omega), Below.heap_alloc _ _ _ (Nat.lt_of_lt_of_le hi h.size)]
  exact h.block i hi hne
theorem step_appended0 {w wr w1 : World} {b base : Nat} {v : Value} {e : TypeId} {size n : Nat} {xs : List Value} (h : w.grownBy wr (some b)) (hb : w.heap.size ≤ base) (ho : wr.ownsRow base e size v n xs) (hg : wr.grownBy w1 v.ownBlock) : w.grownBy w1 (some b) := by
  refine ⟨hg.os.trans h.os, hg.tape.trans h.tape, hg.output.trans h.output, Nat.le_trans h.size hg.size, fun i hi hne => ?_⟩
  rw [hg.block i (Nat.lt_of_lt_of_le hi h.size) (fun e => by have := (ho.lt i e.symm).1; omega)]
  exact h.block i hi hne
theorem step_below {w wr w1 : World} {b : Nat} (h : w.grownBy wr (some b)) (hb : Below wr.heap.size wr w1) : w.grownBy w1 (some b) := grown_trans_row h (grown_of_below hb _)

/-- some number is drawn -/
def IntRes (w : World) (b : Nat) (a : Option Addr) (n c : Nat) (xs : List Int) (k : Nat) (en : Ending) (w' : World) : Prop :=
  (∃ r : Int, en = .returned (.int .i64 r)) ∧ Src w' b a n c xs (k + 1) ∧ w.grownBy w' (some b)

theorem l1DrawPoint_any (b : Nat) (a : Option Addr) (n c : Nat) (xs : List Int) (k : Nat) (hk : k < 1000000) (w : World) (h : Src w b a n c xs k) :
    Calls Tryz.prog 182 #[.pointer (some ⟨b, 0, none⟩)] w (IntRes w b a n c xs k) := by
  have hblt := h.lt
  have HS := Lib.hid h
  clear h
  go_enter Tryz.func182, Tryz.ntmps182
  go_wp2_with fail
  refine (l1Pick_any b a n c xs k w.heap.size 20 _ rfl (by decide) (by decide) hk _ (HS.out.alloc _) (lit_row w _ .i64 [97, 98, 60, 38, 32, 34, 233, 8364, 128512, 9, 10, 2047, 2048, 65535, 65536, 1114111, 120, 121, 62, 39] 20 rfl (by decide)) (by omega)).mono ?_
  rintro e w1 ⟨r, rfl, _, hs, hg⟩
  have HS1 := Lib.hid hs
  have HG1 := Lib.hid (grown_trans_row (World.grownBy_alloc w _ (some b)) hg)
  clear hs hg
  go_wp2
  go_ret
  exact ⟨⟨r, rfl⟩, HS1.out, HG1.out⟩

theorem point_of_char {p : Int} (h : charB p = true) : pointB p = true := by
  cases hp : pointB p
  · rw [charB_point p hp] at h
    exact absurd h (by simp)
  · rfl

/-- a text is drawn, of no more than 4 times m bytes -/
def TextDrawn (w : World) (b : Nat) (a : Option Addr) (n c : Nat) (xs : List Int) (k m : Nat) (en : Ending) (w' : World) : Prop :=
  ∃ (s : ByteArray) (k' : Nat), en = .returned (.string s) ∧ s.size ≤ 4 * m ∧ k' ≤ k + 1 + m ∧ Src w' b a n c xs k' ∧ w.grownBy w' (some b)

set_option maxHeartbeats 1600000 in
theorem l1DrawText_any (b : Nat) (a : Option Addr) (n c : Nat) (xs : List Int) (k m : Nat) (hm : m ≤ 10000) (hk : k + 1 + m < 1000000) (w : World) (h : Src w b a n c xs k) :
    Calls Tryz.prog 113 #[.pointer (some ⟨b, 0, none⟩), .int .i64 m] w (TextDrawn w b a n c xs k m) := by
  obtain ⟨i0, hi, hz0, hz1, hz2⟩ := info_parts u8Info
  have hblt := h.lt
  have hmi : (m : Int) ≤ 10000 := by omega
  have HS0 := Lib.hid h
  clear h
  go_enter Tryz.func113, Tryz.ntmps113
  go_wp2_with fail
  refine (l1Next_any b a n c xs k ((m : Int) + 1) (by omega) (by omega) (by omega) _ (HS0.out.alloc _)).mono ?_
  rintro e w1 ⟨r0, rfl, hr0, hs1, hg1⟩
  have hr1 := hr0 (by omega)
  have HS1 := Lib.hid hs1
  have HO1 := Lib.hid ((lit_owns w 5 .u8 [] 0 rfl (by decide)).kept hg1 (.inr (by simp [Value.ownBlock]; omega)))
  have HG1 := Lib.hid (grown_trans_row (World.grownBy_alloc w (.cells (([] : List Int).map (Value.int .u8)).toArray 5) (some b)) hg1)
  clear hr0 hs1 hg1
  go_wp2
  go_loopw [5, 6] (fun v q wr => ∃ (r j l : Nat) (a' : Option Addr) (c' : Nat) (ys : List Int), j + r = r0 ∧ l ≤ 4 * j ∧ q = .int .i64 r ∧ v = .slice a' l c' ∧ wr.ownsRow w.heap.size 5 1 (.slice a' l c') l (ys.map (Value.int .u8)) ∧ Src wr b a n c xs (k + 1 + j) ∧ w.grownBy wr (some b)) (fun _ q _ => (intOf q).toNat)
  case atStart => exact ⟨r0, 0, 0, _, _, [], by omega, by omega, rfl, rfl, HO1.out, HS1.out, HG1.out⟩
  case round =>
    obtain ⟨r, j, l, a', c', ys, hjr, hl, rfl, rfl, ho, hs, hg⟩ := hrel
    have HO := Lib.hid ho
    have HS := Lib.hid hs
    have HG := Lib.hid hg
    have hj1 : j ≤ 10000 := by omega
    have hrm : r ≤ 10000 := by omega
    clear ho hs hg
    by_cases hr : 0 < r
    · go_wp2_with fail
      refine (l1DrawPoint_any b a n c xs (k + 1 + j) (by omega) wr HS.out).mono ?_
      rintro e w2 ⟨⟨p, rfl⟩, hs2, hg2⟩
      have HS2 := Lib.hid hs2
      have HO2 := Lib.hid (HO.out.kept hg2 (by
        cases hv : (Value.slice a' l c').ownBlock with
        | none => exact .inl rfl
        | some g => exact .inr (fun e => by have := (HO.out.lt g hv).1; cases e; omega)))
      have HG2 := Lib.hid (grown_trans_row HG.out hg2)
      clear hs2 hg2
      cases hc : charB p
      · go_wp2_with fail
        refine (specIsChar_any p _).mono ?_
        rintro e w3 ⟨rfl, rfl⟩
        go_wp2
        go_roundw
        case rel => exact ⟨r - 1, j + 1, l, a', c', ys, by omega, by omega, by rw [show ((r - 1 : Nat) : Int) = (r : Int) - 1 by omega], rfl, HO2.out, HS2.out, HG2.out⟩
        case measure => simp [intOf]; omega
      · have hp := point_of_char hc
        go_wp2_with fail
        refine (specIsChar_any p _).mono ?_
        rintro e w3 ⟨rfl, rfl⟩
        go_wp2_with fail
        refine (l1Put_any p hp _).mono ?_
        rintro e w4 ⟨a4, n4, c4, rfl, ho4, hb4⟩
        have hn4 := owns_length ho4
        have hle4 := Lib.encodeRuneZ_length p
        have HO3 := Lib.hid (owns_below HO2.out hb4)
        have HS3 := Lib.hid (HS2.out.below hb4)
        have HG3 := Lib.hid (step_below HG2.out hb4)
        have HO4 := Lib.hid ho4
        clear ho4 hb4
        rcases HO4.out.2 with ⟨hv, h0⟩ | ⟨g, cap, cur, hv, _⟩
        · exfalso
          omega
        · simp only [Value.slice.injEq] at hv
          obtain ⟨rfl, _, rfl⟩ := hv
          have HL4 := Lib.hid hle4
          have HN4 := Lib.hid hn4
          clear hle4 hn4
          go_wp2_with (at_builtin; refine wpList_append_own _ rfl _ _ 22 rfl w.heap.size 5 i0 (.int .u8 0) 1 1 Tryz.underlying22 hi hz0 hz1 hz2 rfl (by decide) _ _ _ rfl HO3.out ⟨g, 0, none⟩ n4 c4 ((Lib.encodeRuneZ p).map (Value.int .u8)) rfl ?c1 ?c2 ?c3 ?c4 ?c5 ?c6 ?_)
          case c1 => have := HN4.out; simp; omega
          case c2 => exact HO4.out.cells (g := g) rfl
          case c3 => exact ints_oneCell _ _
          case c4 => have := HN4.out; have := HL4.out; unfold maxLen; omega
          case c5 => have := HN4.out; have := HL4.out; omega
          case c6 => exact HG3.out.size
          intro v' w5 hown' hgrow _
          obtain ⟨a2, c2, rfl⟩ := owns_slice hown'
          have HG5 := Lib.hid (step_appended0 HG3.out (Nat.le_refl _) HO3.out hgrow)
          have HS5 := Lib.hid (HS3.out.grown hgrow (fun g e => by have := (HO3.out.lt g e).1; omega))
          have HO5 := Lib.hid hown'
          clear hown' hgrow
          go_wp2
          go_roundw
          case rel => exact ⟨r - 1, j + 1, l + n4, a2, c2, ys ++ Lib.encodeRuneZ p, by omega, by have := HN4.out; have := HL4.out; omega, by rw [show ((r - 1 : Nat) : Int) = (r : Int) - 1 by omega], rfl, by rw [List.map_append]; exact HO5.out, HS5.out, HG5.out⟩
          case measure => simp [intOf]; omega
    · obtain rfl : r = 0 := by omega
      have hcv := conv_row (P := Tryz.prog) wr Tryz.underlying22 Tryz.underlying5 Tryz.underlying9 (Row.of_owns HO.out)
      have hyl := owns_length HO.out
      have HYL := Lib.hid hyl
      clear hyl
      go_wp2
      go_ret
      exact ⟨strOfNums ys, k + 1 + j, rfl, by rw [strOfNums_size]; have := HYL.out; omega, by omega, HS.out, HG.out⟩
end Go.Proofs.YtcaknhoaoodbfaaGreatDoor
