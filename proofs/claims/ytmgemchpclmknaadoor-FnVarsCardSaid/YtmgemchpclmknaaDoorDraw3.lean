/- Contracts of the first chapter's draws. -/
import Derived.Test.YtmgemchpclmknaaDoorDraw2
import Derived.Laws.IdiomStrings
namespace Go.Proofs.YtmgemchpclmknaaDoor
open Go.ChangeShapes Go.WideShapes Go.ChangeAt Go.RowKit
set_option linter.unusedVariables false

/-- what is known of the code that a law is handed -/
structure CodeAt (w : World) (a : Option Addr) (n c : Nat) (xs : List Int) : Prop where
  len : xs.length = n
  size : n ≤ 1048576
  byte : ∀ i, 0 ≤ xs.getD i 0 ∧ xs.getD i 0 ≤ 255
  row : n = 0 ∨ ∃ rb ro, a = some ⟨rb, ro, none⟩ ∧ rb < w.heap.size ∧ ∀ i, i < n → w.cell? ⟨rb, ro + i, none⟩ = some (.int .u8 (xs.getD i 0))
theorem CodeAt.below {w w' : World} {a : Option Addr} {n c : Nat} {xs : List Int} (h : CodeAt w a n c xs) (hb : Below w.heap.size w w') : CodeAt w' a n c xs := by
  refine ⟨h.len, h.size, h.byte, ?_⟩
  rcases h.row with e | ⟨rb, ro, ha, hr, hc⟩
  · exact .inl e
  · exact .inr ⟨rb, ro, ha, Nat.lt_of_lt_of_le hr hb.size, fun i hi => (hb.cell (p := ⟨rb, ro + i, none⟩) hr).trans (hc i hi)⟩
theorem source_any {w : World} {a : Option Addr} {n c : Nat} {xs : List Int} (h : CodeAt w a n c xs) :
    Calls Tryd.prog 52 #[.slice a n c] w fun en w' => en = .returned (.pointer (some ⟨w.heap.size, 0, none⟩)) ∧ Src w' w.heap.size a n c xs 0 ∧ Below w.heap.size w w' :=
  l1Source_any a n c xs w h.len h.size h.byte h.row
theorem below_step {w w1 w2 : World} {b : Nat} (h : Below w.heap.size w w1) (hg : w1.grownBy w2 (some b)) (hb : w.heap.size ≤ b) : Below w.heap.size w w2 := h.grown hg h.size (fun k e => by cases e; exact hb)

/-- some number is drawn of the code -/
def TopInt (w : World) (en : Ending) (w' : World) : Prop := ∃ r : Int, en = .returned (.int .i64 r) ∧ Below w.heap.size w w'
/-- some text of no more than m bytes -/
def TopText (w : World) (m : Nat) (en : Ending) (w' : World) : Prop := ∃ s : ByteArray, en = .returned (.string s) ∧ s.size ≤ m ∧ Below w.heap.size w w'

theorem drawPutPoint_any (a : Option Addr) (n c : Nat) (xs : List Int) (w : World) (h : CodeAt w a n c xs) :
    Calls Tryd.prog 11 #[.slice a n c] w (TopInt w) := by
  have HC := Lib.hid h
  clear h
  go_enter Tryd.func11, Tryd.ntmps11
  go_wp2_with fail
  refine (source_any HC.out).mono ?_
  rintro e w1 ⟨rfl, hs, hb⟩
  have hz := hs.lt
  have HS := Lib.hid hs
  have HB := Lib.hid hb
  clear hs hb
  go_wp2_with fail
  refine (l1Pick_any w.heap.size a n c xs 0 w1.heap.size 14 _ rfl (by decide) (by decide) (by decide) _ (HS.out.alloc _) (lit_row w1 _ .i64 [0, 127, 128, 2047, 2048, 55295, 55296, 57343, 57344, 65535, 65536, 1114111, 1114112, -1] 14 rfl (by decide)) (by omega)).mono ?_
  rintro e w2 ⟨r, rfl, _, _, hg⟩
  have HG := Lib.hid (below_step (HB.out.alloc HB.out.size _) hg (Nat.le_refl _))
  clear hg
  go_wp2
  go_ret
  exact ⟨r, rfl, HG.out⟩

theorem drawIsChar_any (a : Option Addr) (n c : Nat) (xs : List Int) (w : World) (h : CodeAt w a n c xs) :
    Calls Tryd.prog 15 #[.slice a n c] w (TopInt w) := by
  have HC := Lib.hid h
  clear h
  go_enter Tryd.func15, Tryd.ntmps15
  go_wp2_with fail
  refine (source_any HC.out).mono ?_
  rintro e w1 ⟨rfl, hs, hb⟩
  have hz := hs.lt
  have HS := Lib.hid hs
  have HB := Lib.hid hb
  clear hs hb
  go_wp2_with fail
  refine (l1Pick_any w.heap.size a n c xs 0 w1.heap.size 18 _ rfl (by decide) (by decide) (by decide) _ (HS.out.alloc _) (lit_row w1 _ .i64 [0, 8, 9, 10, 13, 31, 32, 126, 127, 128, 55296, 65533, 65534, 65535, 65536, 1114111, 1114112, -1] 18 rfl (by decide)) (by omega)).mono ?_
  rintro e w2 ⟨r, rfl, _, _, hg⟩
  have HG := Lib.hid (below_step (HB.out.alloc HB.out.size _) hg (Nat.le_refl _))
  clear hg
  go_wp2
  go_ret
  exact ⟨r, rfl, HG.out⟩

/-! Words out of a list of texts. -/
def isWord (m : Nat) : Option Value → Bool
  | some (.string s) => decide (s.size ≤ m)
  | _ => false
theorem word_of {m : Nat} {o : Option Value} (h : isWord m o = true) : ∃ s : ByteArray, o = some (.string s) ∧ s.size ≤ m := by
  unfold isWord at h
  split at h
  · rename_i s
    exact ⟨s, rfl, of_decide_eq_true h⟩
  · cases h
theorem words_of {w w1 : World} {arr : Array Value} {e : TypeId} (hb : Below (w.alloc (.cells arr e)).heap.size (w.alloc (.cells arr e)) w1) (m k : Nat) (hall : (List.range k).all (fun r => isWord m arr[r]?) = true) :
    ∀ r, r < k → ∃ s : ByteArray, w1.cell? ⟨w.heap.size, r, none⟩ = some (.string s) ∧ s.size ≤ m := by
  intro r hr
  obtain ⟨s, hs, hm⟩ := word_of (List.all_eq_true.1 hall r (List.mem_range.2 hr))
  refine ⟨s, ?_, hm⟩
  rw [hb.cell (p := ⟨w.heap.size, r, none⟩) (by simp), cell_of_row _ _ _ _ _ (0, 0) (heap_alloc_new w _)]
  exact hs

theorem drawIsName_any (a : Option Addr) (n c : Nat) (xs : List Int) (w : World) (h : CodeAt w a n c xs) :
    Calls Tryd.prog 17 #[.slice a n c] w (TopText w 100) := by
  have HC := Lib.hid h
  clear h
  go_enter Tryd.func17, Tryd.ntmps17
  go_wp2_with fail
  refine (source_any (HC.out.below (below1 _ _))).mono ?_
  rintro e w1 ⟨rfl, hs, hb⟩
  have hw := words_of hb 100 13 (by decide +kernel)
  have hz := hb.size
  simp at hz
  have HB := Lib.hid (below_then (below1 w _) hb)
  rw [World.size_alloc] at hs
  have HS := Lib.hid hs
  have HW := Lib.hid hw
  clear hs hb hw
  go_wp2_with fail
  refine (l1Next_any _ a n c xs 0 13 (by decide) (by decide) (by decide) _ HS.out).mono ?_
  rintro e w2 ⟨r, rfl, hr, _, hg⟩
  have hr1 := hr (by decide)
  obtain ⟨s, hs, hsz⟩ := HW.out r (by omega)
  have hc : w2.cell? ⟨w.heap.size, r, none⟩ = some (.string s) := hg.cell hs (by simp)
  have HG := Lib.hid (below_step HB.out hg (by simp))
  have HZ := Lib.hid hsz
  clear hr hg hs hsz
  go_wp2
  go_ret
  exact ⟨s, rfl, HZ.out, HG.out⟩

/-- a byte made a text -/
theorem conv_byte {P : Program} {src e dst : TypeId} (hs : P.underlying src = some (.slice e)) (he : P.underlying e = some (.int .u8)) (hd : P.underlying dst = some .string) (W : World) (x : Int) :
    (convert src dst (.slice (some ⟨W.heap.size, 0, none⟩) 1 1)).run P (W.alloc (.cells #[.int .u8 x] e)) = .ok (.string (strOfNums [x])) (W.alloc (.cells #[.int .u8 x] e)) :=
  conv_row _ hs he hd (lit_row W e .u8 [x] 1 rfl (by decide))

set_option maxHeartbeats 1600000 in
theorem drawTextFault_any (a : Option Addr) (n c : Nat) (xs : List Int) (w : World) (h : CodeAt w a n c xs) :
    Calls Tryd.prog 16 #[.slice a n c] w (TopText w 200) := by
  have HC := Lib.hid h
  clear h
  go_enter Tryd.func16, Tryd.ntmps16
  go_wp2_with fail
  refine (source_any HC.out).mono ?_
  rintro e w1 ⟨rfl, hs, hb⟩
  have HS := Lib.hid hs
  have HB := Lib.hid hb
  clear hs hb
  go_wp2_with fail
  refine (l1DrawText_any _ a n c xs 0 12 (by decide) (by decide) _ HS.out).mono ?_
  rintro e w2 ⟨t, k, rfl, ht, hk, hs2, hg2⟩
  have hlt2 := hs2.lt
  have HS2 := Lib.hid hs2
  have HB2 := Lib.hid (below_step HB.out hg2 (Nat.le_refl _))
  clear hs2 hg2
  go_wp2_with fail
  refine (l1Next_any _ a n c xs k 6 (by decide) (by decide) (by omega) _ HS2.out).mono ?_
  rintro e w3 ⟨r, rfl, hr, hs3, hg3⟩
  have hr1 := hr (by decide)
  have hlt3 := hs3.lt
  have HS3 := Lib.hid hs3
  have HB3 := Lib.hid (below_step HB2.out hg3 (Nat.le_refl _))
  clear hs3 hg3 hr
  have htm : t.size ≤ 9223372036854775000 := by omega
  by_cases r0 : r = 0
  · subst r0
    go_wp2_with fail
    refine (l1Pick_any _ a n c xs (k + 1) w3.heap.size 5 _ rfl (by decide) (by decide) (by omega) _ (HS3.out.alloc _) (lit_row w3 _ .i64 [0, 13, 127, 128, 255] 5 rfl (by decide)) (by omega)).mono ?_
    rintro e w4 ⟨z, rfl, _, _, hg4⟩
    have HB4 := Lib.hid (below_step (HB3.out.alloc HB3.out.size _) hg4 (Nat.le_refl _))
    clear hg4
    have hcv := fun (W : World) (x : Int) => conv_byte (P := Tryd.prog) Tryd.underlying22 Tryd.underlying5 Tryd.underlying9 W x
    have hsum : ∀ x : Int, ¬ 9223372036854775807 < t.size + (strOfNums [x]).size := fun x => by rw [strOfNums_size]; simp; omega
    go_wp2
    go_ret
    exact ⟨_, rfl, by rw [ByteArray.size_append, strOfNums_size]; simp; omega, HB4.out.alloc HB4.out.size _⟩
  · by_cases r1 : r = 1
    · subst r1
      have ht0 : t.size ≤ 61 := by omega
      have hk0 : k + 1 ≤ 20 + t.size := by omega
      have HT0 := Lib.hid ht0
      have HK0 := Lib.hid hk0
      clear ht hk ht0 hk0 htm
      go_wp2
      go_loopw [4] (fun v wr => ∃ (u : ByteArray) (j : Nat), v = .string u ∧ u.size ≤ 61 ∧ j ≤ 20 + u.size ∧ Src wr w.heap.size a n c xs j ∧ Below w.heap.size w wr) (fun v _ => 100 - strSize v)
      case atStart => exact ⟨t, k + 1, rfl, HT0.out, HK0.out, HS3.out, HB3.out⟩
      case round =>
        obtain ⟨u, j, rfl, hu, hj, hs, hb⟩ := hrel
        have hus : u.size ≤ 9223372036854775000 := by omega
        have hlt := hs.lt
        have HSR := Lib.hid hs
        have HBR := Lib.hid hb
        clear hs hb
        go_wp2_with fail
        refine (l1Pick_any _ a n c xs j wr.heap.size 2 _ rfl (by decide) (by decide) (by omega) _ (HSR.out.alloc _) (lit_row wr _ .i64 [60, 61] 2 rfl (by decide)) (by omega)).mono ?_
        rintro e w4 ⟨z, rfl, hz, hs4, hg4⟩
        have hz2 : z ≤ 61 := by simp at hz; omega
        have HB4 := Lib.hid (below_step (HBR.out.alloc HBR.out.size _) hg4 (Nat.le_refl _))
        have HS4 := Lib.hid hs4
        clear hz hs4 hg4
        have hsum : ¬ 9223372036854775807 < u.size + 1 := by omega
        by_cases hlz : (u.size : Int) < z
        · go_wp2
          go_roundw
          case rel => exact ⟨_, j + 1, rfl, by rw [ByteArray.size_append]; show u.size + 1 ≤ 61; omega, by rw [ByteArray.size_append]; show j + 1 ≤ 20 + (u.size + 1); omega, HS4.out, HB4.out⟩
          case measure => simp only [strSize, ByteArray.size_append]; show 100 - (u.size + 1) < _; omega
        · go_wp2
          go_ret
          exact ⟨u, rfl, by omega, HB4.out⟩
    · have q0 : ((r : Int) == 0) = false := by rw [beq_eq_false_iff_ne]; omega
      have q1 : ((r : Int) == 1) = false := by rw [beq_eq_false_iff_ne]; omega
      go_wp2
      go_ret
      exact ⟨t, rfl, by omega, HB3.out⟩
end Go.Proofs.YtmgemchpclmknaaDoor
