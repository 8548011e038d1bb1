/- The contract of isIn. -/
import Derived.Test.YtlhflkpbccbofaaDoorInB
namespace Go.Proofs.YtlhflkpbccbofaaDoor
open Go.ChangeShapes Go.WideShapes Go.ChangeAt Go.RowKit
set_option linter.unusedVariables false

/-- isIn over a row of spans at an address. -/
def spansAt (w : World) (b : Nat) (l : List (Int × Int)) : Prop := ∀ i (h : i < l.length), w.cell? ⟨b, 2 * i, none⟩ = some (.int .i64 (l[i]).1) ∧ w.cell? ⟨b, 2 * i + 1, none⟩ = some (.int .i64 (l[i]).2)

theorem isIn_any' (v : Int) (l : List (Int × Int)) (b : Nat) (w : World) (hl : l.length ≤ 10) (hb : b < w.heap.size) (hs : spansAt w b l) :
    Calls Tryd.prog 72 #[.int .i64 v, .slice (some ⟨b, 0, none⟩) l.length l.length] w fun e w' => e = .returned (.bool (l.any fun p => inB v p.1 p.2)) ∧ Below w.heap.size w w' := by
  go_enter Tryd.func72, Tryd.ntmps72
  go_wp2
  go_loopw [9] (fun i wr => ∃ k : Nat, k ≤ l.length ∧ i = .int .i64 k ∧ (l.take k).any (fun p => inB v p.1 p.2) = false ∧ Below w.heap.size w wr) (fun i _ => l.length - (intOf i).toNat)
  case atStart => exact ⟨0, Nat.zero_le _, rfl, by simp, Below.refl _ _⟩
  case round =>
    obtain ⟨k, hk, rfl, hno, hbl⟩ := hrel
    by_cases hlt : k < l.length
    · obtain ⟨c0, c1⟩ := hs k hlt
      have d0 : wr.cell? ⟨b, k * 2, none⟩ = some (.int .i64 (l[k]).1) := by rw [hbl.cell (by exact hb), Nat.mul_comm]; exact c0
      have d1 : wr.cell? ⟨b, k * 2 + 1, none⟩ = some (.int .i64 (l[k]).2) := by rw [hbl.cell (by exact hb), Nat.mul_comm]; exact c1
      clear c0 c1
      have hsn : (l.take (k + 1)).any (fun p => inB v p.1 p.2) = inB v (l[k]).1 (l[k]).2 := by rw [List.take_succ_eq_append_getElem hlt, List.any_append, hno]; simp only [List.any_cons, List.any_nil, Bool.or_false, Bool.false_or]
      have HS := Lib.hid hsn
      have HNO := Lib.hid hno
      clear hsn hno
      by_cases h1 : (l[k]).1 ≤ v
      · by_cases h2 : v ≤ (l[k]).2
        · go_wp2
          go_ret
          refine ⟨ret_bool (List.any_eq_true.2 ⟨l[k], List.getElem_mem hlt, by simp [inB, h1, h2]⟩).symm, ?_⟩
          exact hbl.trans (((Below.refl _ _).alloc (Nat.le_refl _) _).mono hbl.size)
        · go_wp2
          go_roundw
          case rel => exact ⟨k + 1, by omega, by go_num, by rw [HS.out]; simp [inB]; omega, hbl.trans (((Below.refl _ _).alloc (Nat.le_refl _) _).mono hbl.size)⟩
          case measure => simp [intOf]; omega
      · go_wp2
        go_roundw
        case rel => exact ⟨k + 1, by omega, by go_num, by rw [HS.out]; simp [inB]; omega, hbl.trans (((Below.refl _ _).alloc (Nat.le_refl _) _).mono hbl.size)⟩
        case measure => simp [intOf]; omega
    · obtain rfl : k = l.length := by omega
      have HNO := Lib.hid hno
      clear hno
      go_wp2
      go_ret
      have := HNO.out
      rw [List.take_length] at this
      exact ⟨ret_bool this.symm, hbl⟩
theorem isIn_any (v : Int) (l : List (Int × Int)) (b n : Nat) (w : World) (hn : n = l.length) (hl : n ≤ 10) (hb : b < w.heap.size) (hs : spansAt w b l) :
    Calls Tryd.prog 72 #[.int .i64 v, .slice (some ⟨b, 0, none⟩) n n] w fun e w' => e = .returned (.bool (l.any fun p => inB v p.1 p.2)) ∧ Below w.heap.size w w' := by
  subst hn
  exact isIn_any' v l b w hl hb hs
end Go.Proofs.YtlhflkpbccbofaaDoor
