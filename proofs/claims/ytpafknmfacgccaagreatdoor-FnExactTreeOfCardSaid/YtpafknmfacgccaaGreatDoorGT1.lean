/- Presences: what they are, in plain words. -/
import Derived.Test.YtpafknmfacgccaaGreatDoorGT0
namespace Go.Proofs.YtpafknmfacgccaaGreatDoor
open Go.ChangeShapes Go.WideShapes Go.ChangeAt Go.RowKit
set_option linter.unusedVariables false

structure Pr where
  kind : Int
  sender : ByteArray
  goal : ByteArray
  shown : Int
  status : ByteArray
  prio : Int
  more : List It
/-- the seven cells of a presence in block b -/
structure PrAt (w : World) (b : Nat) (p : Pr) (a : Option Addr) (n c : Nat) : Prop where
  lt : b < w.heap.size
  c0 : w.cell? ⟨b, 0, none⟩ = some (.int .i64 p.kind)
  c1 : w.cell? ⟨b, 1, none⟩ = some (.string p.sender)
  c2 : w.cell? ⟨b, 2, none⟩ = some (.string p.goal)
  c3 : w.cell? ⟨b, 3, none⟩ = some (.int .i64 p.shown)
  c4 : w.cell? ⟨b, 4, none⟩ = some (.string p.status)
  c5 : w.cell? ⟨b, 5, none⟩ = some (.int .i64 p.prio)
  c6 : w.cell? ⟨b, 6, none⟩ = some (.slice a n c)
theorem PrAt.below {w w' : World} {b : Nat} {p : Pr} {a : Option Addr} {n c : Nat} (h : PrAt w b p a n c) (hb : Below w.heap.size w w') : PrAt w' b p a n c :=
  ⟨Nat.lt_of_lt_of_le h.lt hb.size, (hb.cell (by exact h.lt)).trans h.c0, (hb.cell (by exact h.lt)).trans h.c1, (hb.cell (by exact h.lt)).trans h.c2, (hb.cell (by exact h.lt)).trans h.c3, (hb.cell (by exact h.lt)).trans h.c4, (hb.cell (by exact h.lt)).trans h.c5, (hb.cell (by exact h.lt)).trans h.c6⟩
theorem PrAt.new (w : World) (t : TypeId) (p : Pr) (a : Option Addr) (n c : Nat) : PrAt (w.alloc (.cells #[.int .i64 p.kind, .string p.sender, .string p.goal, .int .i64 p.shown, .string p.status, .int .i64 p.prio, .slice a n c] t)) w.heap.size p a n c :=
  ⟨by simp, by simp, by simp, by simp, by simp, by simp, by simp, by simp⟩
/-- texts of no more than this many bytes -/
structure SmallPr (p : Pr) : Prop where
  texts : p.sender.size ≤ 1048576 ∧ p.goal.size ≤ 1048576 ∧ p.status.size ≤ 1048576
  more : SmallIts p.more
/-- texts of sizes that a machine can hold -/
structure PrSize (p : Pr) : Prop where
  s1 : p.sender.size ≤ 9223372036854775807
  s2 : p.goal.size ≤ 9223372036854775807
  s4 : p.status.size ≤ 9223372036854775807
end Go.Proofs.YtpafknmfacgccaaGreatDoor

/- Contracts of l1In, isIn. -/
namespace Go.Proofs.YtpafknmfacgccaaGreatDoor
open Go.ChangeShapes Go.WideShapes Go.ChangeAt Go.RowKit
set_option linter.unusedVariables false

def inB (v l h : Int) : Bool := decide (l ≤ v ∧ v ≤ h)

set_option maxHeartbeats 400000 in
theorem l1In_any (v l h : Int) (w : World) :
    Calls Tryz.prog 64 #[.int .i64 v, .int .i64 l, .int .i64 h] w fun e w' => e = .returned (.bool (inB v l h)) ∧ w' = w := by
  by_cases h1 : l ≤ v
  · by_cases h2 : v ≤ h
    · go_enter Tryz.func64, Tryz.ntmps64
      go_wp2
      go_ret
      exact ⟨ret_bool (by simp [inB, h1, h2]), rfl⟩
    · go_enter Tryz.func64, Tryz.ntmps64
      go_wp2
      go_ret
      exact ⟨ret_bool (by simp [inB, h1, h2]), rfl⟩
  · go_enter Tryz.func64, Tryz.ntmps64
    go_wp2
    go_ret
    exact ⟨ret_bool (by simp [inB]; omega), rfl⟩

/-- isIn over a row of spans at an address. -/
def spansAt (w : World) (b : Nat) (l : List (Int × Int)) : Prop := ∀ i (h : i < l.length), w.cell? ⟨b, 2 * i, none⟩ = some (.int .i64 (l[i]).1) ∧ w.cell? ⟨b, 2 * i + 1, none⟩ = some (.int .i64 (l[i]).2)

theorem isIn_any' (v : Int) (l : List (Int × Int)) (b : Nat) (w : World) (hl : l.length ≤ 10) (hb : b < w.heap.size) (hs : spansAt w b l) :
    Calls Tryz.prog 147 #[.int .i64 v, .slice (some ⟨b, 0, none⟩) l.length l.length] w fun e w' => e = .returned (.bool (l.any fun p => inB v p.1 p.2)) ∧ Below w.heap.size w w' := by
  go_enter Tryz.func147, Tryz.ntmps147
  go_wp2
  go_loopw [9] (fun i wr => ∃ k : Nat, k ≤ l.length ∧ i = .int .i64 k ∧ (l.take k).any (fun p => inB v p.1 p.2) = false ∧ Below w.heap.size w wr) (fun i _ => l.length - (intOf i).toNat)
  case atStart => exact ⟨0, Nat.zero_le _, rfl, by simp, Below.refl _ _⟩
  case round =>
    obtain ⟨k, hk, rfl, hno, hbl⟩ := hrel
    by_cases hlt : k < l.length
    · obtain ⟨c0, c1⟩ := hs k hlt
      have d0 : wr.cell? ⟨b, k * 2, none⟩ = some (.int .i64 (l[k]).1) := by rw [hbl.cell (by exact hb), Nat.mul_comm]; exact c0
      have d1 : wr.cell? ⟨b, k * 2 + 1, none⟩ = some (.int .i64 (l[k]).2) := by rw [hbl.cell (by exact hb), Nat.mul_comm]; exact c1
      clear c0 c1
      have hsn : (l.take (k + 1)).any (fun p => inB v p.1 p.2) = inB v (l[k]).1 (l[k]).2 := by rw [List.take_succ_eq_append_getElem hlt, List.any_append, hno]; simp only [List.any_cons, List.any_nil, Bool.or_false, Bool.false_or]
      have HS := Lib.hid hsn
      have HNO := Lib.hid hno
      clear hsn hno
      by_cases h1 : (l[k]).1 ≤ v
      · by_cases h2 : v ≤ (l[k]).2
        · go_wp2
          go_ret
          refine ⟨ret_bool (List.any_eq_true.2 ⟨l[k], List.getElem_mem hlt, by simp [inB, h1, h2]⟩).symm, ?_⟩
          exact hbl.trans (((Below.refl _ _).alloc (Nat.le_refl _) _).mono hbl.size)
        · go_wp2
          go_roundw
          case rel => exact ⟨k + 1, by omega, by go_num, by rw [HS.out]; simp [inB]; omega, hbl.trans (((Below.refl _ _).alloc (Nat.le_refl _) _).mono hbl.size)⟩
          case measure => simp [intOf]; omega
      · go_wp2
        go_roundw
        case rel => exact ⟨k + 1, by omega, by go_num, by rw [HS.out]; simp [inB]; omega, hbl.trans (((Below.refl _ _).alloc (Nat.le_refl _) _).mono hbl.size)⟩
        case measure => simp [intOf]; omega
    · obtain rfl : k = l.length := by omega
      have HNO := Lib.hid hno
      clear hno
      go_wp2
      go_ret
      have := HNO.out
      rw [List.take_length] at this
      exact ⟨ret_bool this.symm, hbl⟩
theorem isIn_any (v : Int) (l : List (Int × Int)) (b n : Nat) (w : World) (hn : n = l.length) (hl : n ≤ 10) (hb : b < w.heap.size) (hs : spansAt w b l) :
    Calls Tryz.prog 147 #[.int .i64 v, .slice (some ⟨b, 0, none⟩) n n] w fun e w' => e = .returned (.bool (l.any fun p => inB v p.1 p.2)) ∧ Below w.heap.size w w' := by
  subst hn
  exact isIn_any' v l b w hl hb hs
end Go.Proofs.YtpafknmfacgccaaGreatDoor
