/- What every draw of a law's code wants. -/
import Derived.Test.YtcaknhoaoodbfaaGreatDoorGC1
import Derived.Laws.IdiomStrings
import Derived.Test.YtcaknhoaoodbfaaGreatDoorGC0
namespace Go.Proofs.YtcaknhoaoodbfaaGreatDoor
open Go.ChangeShapes Go.WideShapes Go.ChangeAt Go.RowKit
set_option linter.unusedVariables false

/-- what is known of the code that a law is handed -/
structure CodeAt (w : World) (a : Option Addr) (n c : Nat) (xs : List Int) : Prop where
  len : xs.length = n
  size : n ≤ 1048576
  byte : ∀ i, 0 ≤ xs.getD i 0 ∧ xs.getD i 0 ≤ 255
  row : n = 0 ∨ ∃ rb ro, a = some ⟨rb, ro, none⟩ ∧ rb < w.heap.size ∧ ∀ i, i < n → w.cell? ⟨rb, ro + i, none⟩ = some (.int .u8 (xs.getD i 0))
theorem CodeAt.below {w w' : World} {a : Option Addr} {n c : Nat} {xs : List Int} (h : CodeAt w a n c xs) (hb : Below w.heap.size w w') : CodeAt w' a n c xs := by
  refine ⟨h.len, h.size, h.byte, ?_⟩
  rcases h.row with e | ⟨rb, ro, ha, hr, hc⟩
  · exact .inl e
  · exact .inr ⟨rb, ro, ha, Nat.lt_of_lt_of_le hr hb.size, fun i hi => (hb.cell (p := ⟨rb, ro + i, none⟩) hr).trans (hc i hi)⟩
theorem source_any {w : World} {a : Option Addr} {n c : Nat} {xs : List Int} (h : CodeAt w a n c xs) :
    Calls Tryz.prog 51 #[.slice a n c] w fun en w' => en = .returned (.pointer (some ⟨w.heap.size, 0, none⟩)) ∧ Src w' w.heap.size a n c xs 0 ∧ Below w.heap.size w w' :=
  l1Source_any a n c xs w h.len h.size h.byte h.row
theorem below_step {w w1 w2 : World} {b : Nat} (h : Below w.heap.size w w1) (hg : w1.grownBy w2 (some b)) (hb : w.heap.size ≤ b) : Below w.heap.size w w2 := h.grown hg h.size (fun k e => by cases e; exact hb)

/-- some number is drawn of the code -/
def TopInt (w : World) (en : Ending) (w' : World) : Prop := ∃ r : Int, en = .returned (.int .i64 r) ∧ Below w.heap.size w w'
/-- some text of no more than m bytes -/
def TopText (w : World) (m : Nat) (en : Ending) (w' : World) : Prop := ∃ s : ByteArray, en = .returned (.string s) ∧ s.size ≤ m ∧ Below w.heap.size w w'

/-! Words out of a list of texts. -/
def isWord (m : Nat) : Option Value → Bool
  | some (.string s) => decide (s.size ≤ m)
  | _ => false
theorem word_of {m : Nat} {o : Option Value} (h : isWord m o = true) : ∃ s : ByteArray, o = some (.string s) ∧ s.size ≤ m := by
  unfold isWord at h
  split at h
  · rename_i s
    exact ⟨s, rfl, of_decide_eq_true h⟩
  · cases h
theorem words_of {w w1 : World} {arr : Array Value} {e : TypeId} (hb : Below (w.alloc (.cells arr e)).heap.size (w.alloc (.cells arr e)) w1) (m k : Nat) (hall : (List.range k).all (fun r => isWord m arr[r]?) = true) :
    ∀ r, r < k → ∃ s : ByteArray, w1.cell? ⟨w.heap.size, r, none⟩ = some (.string s) ∧ s.size ≤ m := by
  intro r hr
  obtain ⟨s, hs, hm⟩ := word_of (List.all_eq_true.1 hall r (List.mem_range.2 hr))
  refine ⟨s, ?_, hm⟩
  rw [hb.cell (p := ⟨w.heap.size, r, none⟩) (by simp), cell_of_row _ _ _ _ _ (0, 0) (heap_alloc_new w _)]
  exact hs

/-- a byte made a text -/
theorem conv_byte {P : Program} {src e dst : TypeId} (hs : P.underlying src = some (.slice e)) (he : P.underlying e = some (.int .u8)) (hd : P.underlying dst = some .string) (W : World) (x : Int) :
    (convert src dst (.slice (some ⟨W.heap.size, 0, none⟩) 1 1)).run P (W.alloc (.cells #[.int .u8 x] e)) = .ok (.string (strOfNums [x])) (W.alloc (.cells #[.int .u8 x] e)) :=
  conv_row _ hs he hd (lit_row W e .u8 [x] 1 rfl (by decide))
end Go.Proofs.YtcaknhoaoodbfaaGreatDoor

/- The model's l1In. -/
namespace Go.Proofs.YtcaknhoaoodbfaaGreatDoor
open Go.ChangeShapes Go.WideShapes Go.ChangeAt Go.RowKit
set_option linter.unusedVariables false

def inB (v l h : Int) : Bool := decide (l ≤ v ∧ v ≤ h)

set_option maxHeartbeats 400000 in
theorem l1In_any (v l h : Int) (w : World) :
    Calls Tryz.prog 70 #[.int .i64 v, .int .i64 l, .int .i64 h] w fun e w' => e = .returned (.bool (inB v l h)) ∧ w' = w := by
  by_cases h1 : l ≤ v
  · by_cases h2 : v ≤ h
    · go_enter Tryz.func70, Tryz.ntmps70
      go_wp2
      go_ret
      exact ⟨ret_bool (by simp [inB, h1, h2]), rfl⟩
    · go_enter Tryz.func70, Tryz.ntmps70
      go_wp2
      go_ret
      exact ⟨ret_bool (by simp [inB, h1, h2]), rfl⟩
  · go_enter Tryz.func70, Tryz.ntmps70
    go_wp2
    go_ret
    exact ⟨ret_bool (by simp [inB]; omega), rfl⟩
end Go.Proofs.YtcaknhoaoodbfaaGreatDoor

/- The contract of isIn. -/
namespace Go.Proofs.YtcaknhoaoodbfaaGreatDoor
open Go.ChangeShapes Go.WideShapes Go.ChangeAt Go.RowKit
set_option linter.unusedVariables false

/-- isIn over a row of spans at an address. -/
def spansAt (w : World) (b : Nat) (l : List (Int × Int)) : Prop := ∀ i (h : i < l.length), w.cell? ⟨b, 2 * i, none⟩ = some (.int .i64 (l[i]).1) ∧ w.cell? ⟨b, 2 * i + 1, none⟩ = some (.int .i64 (l[i]).2)

theorem isIn_any' (v : Int) (l : List (Int × Int)) (b : Nat) (w : World) (hl : l.length ≤ 10) (hb : b < w.heap.size) (hs : spansAt w b l) :
    Calls Tryz.prog 201 #[.int .i64 v, .slice (some ⟨b, 0, none⟩) l.length l.length] w fun e w' => e = .returned (.bool (l.any fun p => inB v p.1 p.2)) ∧ Below w.heap.size w w' := by
  go_enter Tryz.func201, Tryz.ntmps201
  go_wp2
  go_loopw [9] (fun i wr => ∃ k : Nat, k ≤ l.length ∧ i = .int .i64 k ∧ (l.take k).any (fun p => inB v p.1 p.2) = false ∧ Below w.heap.size w wr) (fun i _ => l.length - (intOf i).toNat)
  case atStart => exact ⟨0, Nat.zero_le _, rfl, by simp, Below.refl _ _⟩
  case round =>
    obtain ⟨k, hk, rfl, hno, hbl⟩ := hrel
    by_cases hlt : k < l.length
    · obtain ⟨c0, c1⟩ := hs k hlt
      have d0 : wr.cell? ⟨b, k * 2, none⟩ = some (.int .i64 (l[k]).1) := by rw [hbl.cell (by exact hb), Nat.mul_comm]; exact c0
      have d1 : wr.cell? ⟨b, k * 2 + 1, none⟩ = some (.int .i64 (l[k]).2) := by rw [hbl.cell (by exact hb), Nat.mul_comm]; exact c1
      clear c0 c1
      have hsn : (l.take (k + 1)).any (fun p => inB v p.1 p.2) = inB v (l[k]).1 (l[k]).2 := by rw [List.take_succ_eq_append_getElem hlt, List.any_append, hno]; simp only [List.any_cons, List.any_nil, Bool.or_false, Bool.false_or]
      have HS := Lib.hid hsn
      have HNO := Lib.hid hno
      clear hsn hno
      by_cases h1 : (l[k]).1 ≤ v
      · by_cases h2 : v ≤ (l[k]).2
        · go_wp2
          go_ret
          refine ⟨ret_bool (List.any_eq_true.2 ⟨l[k], List.getElem_mem hlt, by simp [inB, h1, h2]⟩).symm, ?_⟩
          exact hbl.trans (((Below.refl _ _).alloc (Nat.le_refl _) _).mono hbl.size)
        · go_wp2
          go_roundw
          case rel => exact ⟨k + 1, by omega, by go_num, by rw [HS.out]; simp [inB]; omega, hbl.trans (((Below.refl _ _).alloc (Nat.le_refl _) _).mono hbl.size)⟩
          case measure => simp [intOf]; omega
      · go_wp2
        go_roundw
        case rel => exact ⟨k + 1, by omega, by go_num, by rw [HS.out]; simp [inB]; omega, hbl.trans (((Below.refl _ _).alloc (Nat.le_refl _) _).mono hbl.size)⟩
        case measure => simp [intOf]; omega
    · obtain rfl : k = l.length := by omega
      have HNO := Lib.hid hno
      clear hno
      go_wp2
      go_ret
      have := HNO.out
      rw [List.take_length] at this
      exact ⟨ret_bool this.symm, hbl⟩
theorem isIn_any (v : Int) (l : List (Int × Int)) (b n : Nat) (w : World) (hn : n = l.length) (hl : n ≤ 10) (hb : b < w.heap.size) (hs : spansAt w b l) :
    Calls Tryz.prog 201 #[.int .i64 v, .slice (some ⟨b, 0, none⟩) n n] w fun e w' => e = .returned (.bool (l.any fun p => inB v p.1 p.2)) ∧ Below w.heap.size w w' := by
  subst hn
  exact isIn_any' v l b w hl hb hs
end Go.Proofs.YtcaknhoaoodbfaaGreatDoor
