/- Bytes in hexadecimal digits: the model's l11Hex, HexText. -/
import Derived.Test.YticpebpicdboaaaDoorTxt
import Derived.Test.YticpebpicdboaaaDoorInRowB
import Derived.Test.YticpebpicdboaaaDoorStepOwn
import Derived.Test.YticpebpicdboaaaDoorRowS
import Derived.IntWalk
namespace Go.Proofs.YticpebpicdboaaaDoor
open Go.ChangeShapes Go.WideShapes Go.ChangeAt Go.RowKit
set_option linter.unusedVariables false

def hexD (d : Int) : Int := if d < 10 then 48 + d else 87 + d
def hexL (xs : List Int) : List Int := xs.flatMap fun x => [hexD (x / 16), hexD (x % 16)]
theorem hexLit (d : Int) (h0 : 0 ≤ d) (h1 : d < 16) (h : d.toNat < 16) : (((({ data := #[48, 49, 50, 51, 52, 53, 54, 55, 56, 57, 97, 98, 99, 100, 101, 102] } : ByteArray)[d.toNat]'h).toNat : Nat) : Int) = hexD d := by
  have hd : d = 0 ∨ d = 1 ∨ d = 2 ∨ d = 3 ∨ d = 4 ∨ d = 5 ∨ d = 6 ∨ d = 7 ∨ d = 8 ∨ d = 9 ∨ d = 10 ∨ d = 11 ∨ d = 12 ∨ d = 13 ∨ d = 14 ∨ d = 15 := by omega
  rcases hd with rfl | rfl | rfl | rfl | rfl | rfl | rfl | rfl | rfl | rfl | rfl | rfl | rfl | rfl | rfl | rfl <;> rfl
theorem hexCells (W : World) (a b a' b' : Int) (ha : a = a') (hb : b = b') (j : Nat) (u : Value) (hj : [Value.int .u8 a', Value.int .u8 b'][j]? = some u) : ((W.alloc (.cells #[.int .u8 a, .int .u8 b] 5)).drew).cell? (Addr.add ⟨W.heap.size, 0, none⟩ j) = some u := by
  subst ha hb
  match j, hj with
  | 0, hj => simp at hj; subst hj; simp [Addr.add]
  | 1, hj => simp at hj; subst hj; simp [Addr.add]
theorem hexL_succ (xs : List Int) (k : Nat) (h : k < xs.length) : hexL (xs.take (k + 1)) = hexL (xs.take k) ++ [hexD (xs.getD k 0 / 16), hexD (xs.getD k 0 % 16)] := by
  unfold hexL
  rw [List.take_succ_eq_append_getElem h, List.flatMap_append, List.getD_eq_getElem?_getD, List.getElem?_eq_getElem h]
  simp
theorem hexInfo : (Tryd.prog.info? 5).map (fun i => (i.zero, i.size, i.bytes)) = some (some (.int .u8 0), 1, 1) := by kernel_rfl

set_option maxRecDepth 100000 in
set_option maxHeartbeats 1600000 in
theorem l11Hex_any (a : Option Addr) (n c : Nat) (xs : List Int) (w : World) (hn : n ≤ 3000) (h : InRow w a n c xs) :
    Calls Tryd.prog 28 #[.slice a n c] w fun e w' => e = .returned (.string (strOfNums (hexL xs))) ∧ Below w.heap.size w w' := by
  obtain ⟨i0, hi, hz0, hz1, hz2⟩ := info_parts hexInfo
  have HR := Lib.hid h.row
  have HL := Lib.hid h.len
  have HB := Lib.hid h.byte
  clear h
  go_enter Tryd.func28, Tryd.ntmps28
  go_wp2
  go_loopw [4, 5] (fun v i wr => ∃ (k : Nat) (x : Option Addr) (m q : Nat), k ≤ n ∧ i = .int .i64 k ∧ v = .slice x m q ∧ m = 2 * k ∧ wr.ownsRow w.heap.size 5 1 (.slice x m q) m ((hexL (xs.take k)).map (Value.int .u8)) ∧ Below w.heap.size w wr) (fun _ i _ => n - (intOf i).toNat)
  case atStart =>
    refine ⟨0, _, _, _, Nat.zero_le _, rfl, rfl, rfl, ?_, below1 _ _⟩
    simpa [hexL] using lit_owns w 5 .u8 [] 0 rfl (by decide)
  case round =>
    obtain ⟨k, x, m, q, hk, rfl, rfl, rfl, ho, hb⟩ := hrel
    by_cases hlt : k < n
    · rcases HR.out with h0 | ⟨b, o, rfl, h3, h4⟩
      · omega
      · have hc := (hb.cell (p := ⟨b, o + k, none⟩) h3).trans (h4 k hlt)
        have hy := HB.out k
        have HO := Lib.hid ho
        have HBL := Lib.hid hb
        have ht : hexL (xs.take (k + 1)) = hexL (xs.take k) ++ [hexD (xs.getD k 0 / 16), hexD (xs.getD k 0 % 16)] := hexL_succ xs k (by have := HL.out; omega)
        have HT := Lib.hid ht
        clear ht
        generalize xs.getD k 0 = y at hc hy HT
        clear ho hb h4
        have k1 : IntKind.u8.wrap (y.tdiv 16) = y / 16 := IntWalk.u8_quo _ _ (by omega)
        have k2 : y.tmod 16 = y % 16 := Int.tmod_eq_emod_of_nonneg (by omega)
        have k3 : 0 ≤ y / 16 := by omega
        have k4 : y / 16 < 16 := by omega
        have k5 : 0 ≤ y % 16 := by omega
        have k6 : y % 16 < 16 := by omega
        go_wp2
        go_region_law (refine step_own (by rfl) _ _ 22 rfl 5 i0 (.int .u8 0) 1 1 Tryd.underlying22 hi hz0 hz1 hz2 rfl (by decide) w.heap.size _ (2 * k) _ (by rfl) (ownsDrew (HO.out.alloc _)) ⟨wr.heap.size, 0, none⟩ 2 2 [.int .u8 (hexD (y / 16)), .int .u8 (hexD (y % 16))] (by rfl) rfl (hexCells wr _ _ _ _ (hexLit _ k3 k4 _) (hexLit _ k5 k6 _)) (by simp [Value.oneCell']) (by unfold maxLen; omega) (by omega) (by have := HBL.out.size; simp; omega) ?_; intro v' w2 hown' hgrow; obtain ⟨a2, c2, rfl⟩ := owns_slice hown')
        all_goals
          have HO2 := Lib.hid hown'
          have HB2 := Lib.hid (below_appended HBL.out HO.out (grownDrew hgrow))
          clear hown' hgrow
          go_wp2
          go_roundw
          case rel => exact ⟨k + 1, a2, 2 * k + 2, c2, by omega, by go_num, rfl, by omega, by rw [HT.out, List.map_append]; exact HO2.out, HB2.out⟩
          case measure => simp [intOf]; omega
    · obtain rfl : k = n := by omega
      have hcv := conv_row (P := Tryd.prog) wr Tryd.underlying22 Tryd.underlying5 Tryd.underlying9 (Row.of_owns ho)
      rw [← HL.out, List.take_length] at hcv
      have HBL := Lib.hid hb
      have hnn := HL.out
      rw [hnn] at hcv
      clear ho hb
      go_wp2
      go_ret
      exact ⟨rfl, HBL.out⟩

/-- the code and the text of HexText -/
def hexCode (n : Nat) : Int := if 3000 < n then 2 else 0
def hexText (n : Nat) (xs : List Int) : ByteArray := if 3000 < n then ByteArray.empty else strOfNums (hexL xs)
set_option maxHeartbeats 800000 in
theorem specHexText_any (a : Option Addr) (n c : Nat) (xs : List Int) (w : World) (h : InRow w a n c xs) :
    Calls Tryd.prog 12 #[.slice a n c] w (TxtRes w (hexCode n) (hexText n xs)) := by
  have hmx := h.max
  unfold hexCode hexText
  unfold maxLen at hmx
  by_cases hn : 3000 < n
  · rw [if_pos hn, if_pos hn]
    clear h
    go_enter Tryd.func12, Tryd.ntmps12
    go_wp2
    exact bodyPost_ret (v := .agg #[.int .i64 2, .string _]) (by simp [results, Tryd.results12, go_sem]; rfl) rfl ⟨rfl, below1 w _⟩
  · rw [if_neg hn, if_neg hn]
    have K := Lib.hid (fun (W : World) (hW : Below w.heap.size w W) => l11Hex_any a n c xs W (by omega) (h.below hW))
    generalize strOfNums (hexL xs) = t at K ⊢
    clear h
    go_enter Tryd.func12, Tryd.ntmps12
    go_wp2_with fail
    refine (K.out _ (below1 _ _)).mono ?_
    rintro e w1 ⟨rfl, hb⟩
    obtain ⟨hc, hf⟩ := bcell hb
    have HB := Lib.hid hb
    have hz := hb.size
    simp at hz
    clear hb
    go_wp2
    exact bodyPost_ret (v := .agg #[.int .i64 0, .string t]) (by simp [results, Tryd.results12, go_sem, hc]) rfl ⟨rfl, (((below1 w _).trans (HB.out.mono (by simp))).setCell (by simp) _).setCell (by simp) _⟩
end Go.Proofs.YticpebpicdboaaaDoor
