/- The draw of some bytes, with their bounds. -/
import Derived.Test.YticpebpicdboaaaDoorDraw
import Derived.RangeFuncBox
namespace Go.Proofs.YticpebpicdboaaaDoor
open Go.ChangeShapes Go.WideShapes Go.ChangeAt Go.RowKit
set_option linter.unusedVariables false

theorem u8InfoB : (Tryd.prog.info? 5).map (fun i => (i.zero, i.size, i.bytes)) = some (some (.int .u8 0), 1, 1) := by kernel_rfl
theorem step_appendedB {w wr w1 : World} {b base : Nat} {o : Obj} {v : Value} {e : TypeId} {size n : Nat} {xs : List Value} (h : w.grownBy wr (some b)) (hb : w.heap.size ≤ base) (ho : wr.ownsRow base e size v n xs) (hg : (wr.alloc o).grownBy w1 v.ownBlock) : w.grownBy w1 (some b) := by
  refine ⟨hg.os.trans h.os, hg.tape.trans h.tape, hg.output.trans h.output, Nat.le_trans h.size (Nat.le_trans (by simp) hg.size), fun i hi hne => ?_⟩
  rw [hg.block i (by have := h.size; simp; omega) (fun e => by have := (ho.lt i e.symm).1; omega), Below.heap_alloc _ _ _ (Nat.lt_of_lt_of_le hi h.size)]
  exact h.block i hi hne

/-- n bytes are drawn, into a new row -/
def SomeResB (w : World) (b : Nat) (a : Option Addr) (n c : Nat) (xs : List Int) (k m : Nat) (en : Ending) (w' : World) : Prop :=
  ∃ (g c' : Nat) (ys : List Int), en = .returned (.slice (some ⟨g, 0, none⟩) m c') ∧ w'.ownsRow w.heap.size 5 1 (.slice (some ⟨g, 0, none⟩) m c') m (ys.map (Value.int .u8)) ∧ Src w' b a n c xs (k + m) ∧ w.grownBy w' (some b) ∧ (∀ y ∈ ys, 0 ≤ y ∧ y ≤ 255)

set_option maxHeartbeats 1600000 in
theorem l1SomeB_any (b : Nat) (a : Option Addr) (n c : Nat) (xs : List Int) (k m : Nat) (hm : m ≤ 10000) (hk : k + m < 1000000) (w : World) (h : Src w b a n c xs k) :
    Calls Tryd.prog 31 #[.pointer (some ⟨b, 0, none⟩), .int .i64 m] w (SomeResB w b a n c xs k m) := by
  obtain ⟨i0, hi, hz0, hz1, hz2⟩ := info_parts u8InfoB
  have hblt := h.lt
  have HS0 := Lib.hid h
  clear h
  go_enter Tryd.func31, Tryd.ntmps31
  go_wp2
  go_loopw [1, 5] (fun q v wr => ∃ (j r : Nat) (g c' : Nat) (ys : List Int), j + r = m ∧ q = .int .i64 r ∧ v = .slice (some ⟨g, 0, none⟩) j c' ∧ wr.ownsRow w.heap.size 5 1 (.slice (some ⟨g, 0, none⟩) j c') j (ys.map (Value.int .u8)) ∧ Src wr b a n c xs (k + j) ∧ w.grownBy wr (some b) ∧ Hid (∀ y ∈ ys, 0 ≤ y ∧ y ≤ 255)) (fun q _ _ => (intOf q).toNat)
  case atStart => exact ⟨0, m, _, _, [], by omega, rfl, rfl, lit_owns w _ .u8 [] 0 rfl (by decide), HS0.out.alloc _, World.grownBy_alloc _ _ _, Lib.hid (fun y hy => by simp at hy)⟩
  case round =>
    obtain ⟨j, r, g, c', ys, hjr, rfl, rfl, ho, hs, hg, HY⟩ := hrel
    have HO := Lib.hid ho
    have HS := Lib.hid hs
    have HG := Lib.hid hg
    clear ho hs hg
    by_cases hr : 0 < r
    · have K := Lib.hid (l1Next_any b a n c xs (k + j) 256 (by decide) (by decide) (by omega) wr HS.out)
      have hjm : j ≤ 10000 := by omega
      have hrm : r ≤ 10000 := by omega
      go_wp2_with fail
      refine K.out.mono ?_
      rintro e w1 ⟨z, rfl, hz, hs1, hg1⟩
      have hz2' := hz (by decide)
      have HS1 := Lib.hid hs1
      have HO1 := Lib.hid (HO.out.kept hg1 (by
        cases hv : (Value.slice (some ⟨g, 0, none⟩) j c').ownBlock with
        | none => exact .inl rfl
        | some g => exact .inr (fun e => by have := (HO.out.lt g hv).1; cases e; omega)))
      have HG1 := Lib.hid (grown_trans_row HG.out hg1)
      clear hz hs1 hg1
      go_wp2_with (at_builtin; refine wpList_append_own _ rfl _ _ 22 rfl w.heap.size 5 i0 (.int .u8 0) 1 1 Tryd.underlying22 hi hz0 hz1 hz2 rfl (by decide) _ _ _ rfl (HO1.out.alloc _) ⟨w1.heap.size, 0, none⟩ 1 1 [.int .u8 z] rfl rfl ?c1 ?c2 ?c3 ?c4 ?c5 ?_)
      case c1 =>
        intro j v hj
        match j, hj with
        | 0, hj => simp at hj; subst hj; simp [Addr.add]
      case c2 => intro v hv; simp at hv; subst hv; rfl
      case c3 => unfold maxLen; omega
      case c4 => omega
      case c5 => have := HG1.out.size; simp; omega
      intro v' w2 hown' hgrow _
      obtain ⟨a2, c2, rfl⟩ := ownsRow_succ hown'
      have HZ : Hid (∀ y ∈ ys ++ [(z : Int)], 0 ≤ y ∧ y ≤ 255) := Lib.hid (fun y hy => by
        rcases List.mem_append.1 hy with h | h
        · exact HY.out y h
        · simp at h; omega)
      have HG2 := Lib.hid (step_appendedB HG1.out (Nat.le_refl _) HO1.out hgrow)
      have HS2 := Lib.hid ((HS1.out.alloc _).grown hgrow (fun g e => by have := (HO1.out.lt g e).1; omega))
      have HO2 := Lib.hid hown'
      clear hown' hgrow
      go_wp2
      go_roundw
      case rel => exact ⟨j + 1, r - 1, a2, c2, ys ++ [(z : Int)], by omega, by rw [show ((r - 1 : Nat) : Int) = (r : Int) - 1 by omega], rfl, by rw [List.map_append]; exact HO2.out, HS2.out, HG2.out, HZ⟩
      case measure => simp [intOf]; omega
    · obtain rfl : r = 0 := by omega
      obtain rfl : j = m := by omega
      go_wp2
      go_ret
      exact ⟨g, c', ys, rfl, HO.out, HS.out, HG.out, HY.out⟩
end Go.Proofs.YticpebpicdboaaaDoor
