/- toByteS: a copy of bytes; eqReadResult. -/
import Derived.Test.YticpebpicdboaaaInRowB
namespace Go.Proofs.Yticpebpicdboaaa
open Go.ChangeShapes Go.WideShapes Go.ChangeAt Go.RowKit
set_option linter.unusedVariables false

theorem tbInfo : (Try.prog.info? 5).map (fun i => (i.zero, i.size, i.bytes)) = some (some (.int .u8 0), 1, 1) := by kernel_rfl
theorem copy_step (j n : Nat) (xs : List Int) (hn : n = xs.length) (hj : j < n) :
    ((xs.take j ++ List.replicate (n - j) 0).map (Value.int .u8)).set j (.int .u8 (xs.getD j 0)) = (xs.take (j + 1) ++ List.replicate (n - (j + 1)) 0).map (Value.int .u8) := by
  subst hn
  have e : xs.length - j = (xs.length - (j + 1)) + 1 := by omega
  have hlen : ((xs.take j).map (Value.int .u8)).length = j := by simp; omega
  have hget : xs.take (j + 1) = xs.take j ++ [xs.getD j 0] := by
    rw [List.take_succ_eq_append_getElem hj, List.getD_eq_getElem?_getD, List.getElem?_eq_getElem hj]; rfl
  rw [e, List.replicate_succ, hget, List.map_append, List.set_append_right _ _ (by rw [hlen]; exact Nat.le_refl _), hlen, Nat.sub_self, List.map_cons, List.set_cons_zero, List.map_append, List.map_append]
  simp only [List.map_cons, List.map_nil, List.append_assoc, List.cons_append, List.nil_append]

set_option maxRecDepth 100000 in
set_option maxHeartbeats 1600000 in
theorem toByteS_any (a : Option Addr) (n c : Nat) (xs : List Int) (w : World) (hn : n ≤ 1048576) (h : InRow w a n c xs) :
    Calls Try.prog 11 #[.slice a n c] w (OwnsRes w 5 .u8 xs) := by
  obtain ⟨i0, hi, hz0, hz1, hz2⟩ := info_parts tbInfo
  have HR := Lib.hid h.row
  have HL := Lib.hid h.len.symm
  clear h
  go_enter Try.func11, Try.ntmps11
  go_wp2_with (at_make; refine wpList_make_full _ rfl _ _ 29 rfl w.heap.size 5 i0 (.int .u8 0) 1 Try.underlying29 hi hz0 hz1 .i64 .i64 (n : Int) (n : Int) n rfl rfl rfl rfl ?c1 ?c2 ?c3 ?_)
  case c1 => rw [hz2]; omega
  case c2 => unfold maxLen; omega
  case c3 => exact Nat.le_refl _
  intro w1 ho1 hg1
  have HO1 := Lib.hid ho1
  have HG1 := Lib.hid hg1
  clear ho1 hg1
  go_wp2
  go_loopw [4] (fun i wr => ∃ j : Nat, j ≤ n ∧ i = .int .i64 j ∧ wr.ownsRow w.heap.size 5 1 (.slice (some ⟨w.heap.size, 0, none⟩) n n) n ((xs.take j ++ List.replicate (n - j) 0).map (Value.int .u8)) ∧ Below w.heap.size w wr) (fun i _ => n - (intOf i).toNat)
  case atStart =>
    refine ⟨0, Nat.zero_le _, rfl, ?_, below_of_grown0 HG1.out⟩
    have := HO1.out
    rw [toList_madeCells_one] at this
    simpa using this
  case round =>
    obtain ⟨j, hj, rfl, ho, hb⟩ := hrel
    by_cases hlt : j < n
    · rcases HR.out with h0 | ⟨b, o, rfl, h3, h4⟩
      · omega
      · have hc := (hb.cell (p := ⟨b, o + j, none⟩) h3).trans (h4 j (by have := HL.out; omega))
        have c1 := ho.cellAt j (by omega)
        have c2 : ((xs.take j ++ List.replicate (n - j) 0).map (Value.int .u8))[j]? = some (.int .u8 0) := by
          have hlx := HL.out
          have hlen : ((xs.take j).map (Value.int .u8)).length = j := by rw [List.length_map, List.length_take]; omega
          rw [List.map_append, List.getElem?_append_right (by rw [hlen]; exact Nat.le_refl _), hlen, Nat.sub_self, List.map_replicate, List.getElem?_replicate, if_pos (by omega)]
        rw [c2] at c1
        have c3 := ho.frozenAt j
        have HO := Lib.hid ho
        have HB := Lib.hid hb
        have hs := (ho.stored j (.int .u8 (xs.getD j 0))).1
        rw [copy_step j n xs HL.out hlt] at hs
        obtain ⟨z, hz⟩ : ∃ z, xs.getD j 0 = z := ⟨_, rfl⟩
        rw [hz] at hs hc
        have HS := Lib.hid hs
        clear c2 h4 ho hb hs hz
        go_wp2
        go_roundw
        case rel => exact ⟨j + 1, by omega, by go_num, HS.out, HB.out.setCell (p := ⟨w.heap.size, j, none⟩) (Nat.le_refl _) _⟩
        case measure => simp [intOf]; omega
    · obtain rfl : j = n := by omega
      have HO := Lib.hid ho
      have HB := Lib.hid hb
      clear ho hb
      go_wp2
      go_ret
      refine ⟨_, _, _, rfl, ?_, HB.out⟩
      have := HO.out
      have hl := HL.out
      subst hl
      simpa using this

/-- a local struct of three cells, in block b -/
structure Var3 (w : World) (b : Nat) (x y z : Value) : Prop where
  lt : b < w.heap.size
  c0 : w.cell? ⟨b, 0, none⟩ = some x
  c1 : w.cell? ⟨b, 1, none⟩ = some y
  c2 : w.cell? ⟨b, 2, none⟩ = some z
theorem Var3.below {w w1 : World} {b : Nat} {x y z : Value} (h : Var3 w b x y z) (hb : Below w.heap.size w w1) : Var3 w1 b x y z :=
  ⟨Nat.lt_of_lt_of_le h.lt hb.size, (hb.cell (by exact h.lt)).trans h.c0, (hb.cell (by exact h.lt)).trans h.c1, (hb.cell (by exact h.lt)).trans h.c2⟩
theorem Var3.new (w : World) (t : TypeId) (x y z : Value) : Var3 (w.alloc (.cells #[x, y, z] t)) w.heap.size x y z := ⟨by simp, by simp, by simp, by simp⟩
theorem Var3.alloc {w : World} {b : Nat} {x y z : Value} (h : Var3 w b x y z) (o : Obj) : Var3 (w.alloc o) b x y z := h.below (below1 w o)
end Go.Proofs.Yticpebpicdboaaa
