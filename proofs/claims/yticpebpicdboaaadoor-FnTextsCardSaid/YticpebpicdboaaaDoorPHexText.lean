/- The program's HexText. -/
import Derived.Test.YticpebpicdboaaaDoorHex
import Derived.Test.YticpebpicdboaaaDoorBuildB
import Derived.Test.YticpebpicdboaaaDoorShelf
namespace Go.Proofs.YticpebpicdboaaaDoor
open Go.ChangeShapes Go.WideShapes Go.ChangeAt Go.RowKit Go.Shelf
set_option linter.unusedVariables false

theorem hexD_bd (d : Int) (h0 : 0 ≤ d) (h1 : d < 16) : 0 ≤ hexD d ∧ hexD d ≤ 255 := by
  unfold hexD
  split <;> omega
theorem hexL_bd {xs : List Int} (h : ∀ i, 0 ≤ xs.getD i 0 ∧ xs.getD i 0 ≤ 255) : ∀ x ∈ hexL xs, 0 ≤ x ∧ x ≤ 255 := by
  intro x hx
  unfold hexL at hx
  obtain ⟨y, hy, hx2⟩ := List.mem_flatMap.1 hx
  obtain ⟨i, hi, rfl⟩ := List.mem_iff_getElem.1 hy
  have hb := h i
  rw [List.getD_eq_getElem?_getD, List.getElem?_eq_getElem hi] at hb
  simp only [Option.getD_some] at hb
  rcases List.mem_cons.1 hx2 with rfl | hx3
  · exact hexD_bd _ (by omega) (by omega)
  · rw [List.mem_singleton] at hx3
    subst hx3
    exact hexD_bd _ (by omega) (by omega)
theorem cells_nums {l : List Int} (h : ∀ x ∈ l, 0 ≤ x ∧ x ≤ 255) : l.map (Value.int .u8) = Lib.byteCells (strOfNums l).data.toList := by
  rw [strOfNums_data]
  unfold Lib.byteCells
  rw [List.map_map]
  refine List.map_congr_left fun x hx => ?_
  have hb := h x hx
  show Value.int .u8 x = Value.int .u8 ((UInt8.ofNat x.toNat).toNat : Int)
  congr 1
  rw [UInt8.toNat_ofNat']
  omega
theorem hexL_len (xs : List Int) : (hexL xs).length = 2 * xs.length := by
  unfold hexL
  induction xs with
  | nil => rfl
  | cons x xs ih => rw [List.flatMap_cons, List.length_append, ih]; simp; omega

set_option maxRecDepth 100000 in
set_option maxHeartbeats 1600000 in
theorem implHexText_any (a : Option Addr) (n c : Nat) (xs : List Int) (w : World) (h : InRow w a n c xs) :
    Calls Tryd.prog 7 #[.slice a n c] w (TxtRes w (hexCode n) (hexText n xs)) := by
  have hmx := h.max
  unfold hexCode hexText TxtRes
  unfold maxLen at hmx
  by_cases hn : 3000 < n
  · rw [if_pos hn, if_pos hn]
    clear h
    go_enter Tryd.func7, Tryd.ntmps7
    go_wp2
    exact bodyPost_ret (v := .agg #[.int .i64 2, .string _]) (by simp [results, Tryd.results7, go_sem]; rfl) rfl ⟨rfl, below1 w _⟩
  · rw [if_neg hn, if_neg hn]
    have HR := Lib.hid h.row
    have HL := Lib.hid h.len
    have HB := Lib.hid h.byte
    have hc0 := cells_nums (hexL_bd h.byte)
    have hlen := hexL_len xs
    have hln := h.len
    obtain ⟨t, ht⟩ : ∃ t, strOfNums (hexL xs) = t := ⟨_, rfl⟩
    rw [ht] at hc0 ⊢
    have HC := Lib.hid hc0
    clear ht h hc0
    obtain ⟨wR, hwR⟩ : ∃ wR, w.alloc (.cells #[.int .i64 0, .string ⟨#[]⟩] 26) = wR := ⟨_, rfl⟩
    have HRB : Hid (Below w.heap.size w wR) := Lib.hid (by rw [← hwR]; exact below1 _ _)
    have HRC : Hid (∀ W, Below wR.heap.size wR W → (W.cell? ⟨w.heap.size, 0, none⟩ = some (.int .i64 0) ∧ W.cell? ⟨w.heap.size, 1, none⟩ = some (.string ⟨#[]⟩) ∧ W.frozen? ⟨w.heap.size, 0, none⟩ = false ∧ W.frozen? ⟨w.heap.size, 1, none⟩ = false)) := Lib.hid (by
      subst hwR
      intro W hb
      have hz : w.heap.size < (w.alloc (.cells #[.int .i64 0, .string ⟨#[]⟩] 26)).heap.size := by simp
      exact ⟨(hb.cell (p := ⟨w.heap.size, 0, none⟩) hz).trans (by simp), (hb.cell (p := ⟨w.heap.size, 1, none⟩) hz).trans (by simp), (hb.frozen (p := ⟨w.heap.size, 0, none⟩) hz).trans (by go_simp), (hb.frozen (p := ⟨w.heap.size, 1, none⟩) hz).trans (by go_simp)⟩)
    go_enter Tryd.func7, Tryd.ntmps7
    go_wp2
    clear hwR
    go_loopw [12] (fun i wr => ∃ k : Nat, k ≤ n ∧ i = .int .i64 (k : Int) ∧ IsB wr wR.heap.size wR.heap.size ((hexL (xs.take k)).map (Value.int .u8)) ∧ Below wR.heap.size wR wr ∧ wR.heap.size < wr.heap.size) (fun i _ => n - (intOf i).toNat)
    case atStart => exact ⟨0, Nat.zero_le _, rfl, by simpa [hexL] using Lib.IsBuilderF.of (Lib.fresh_isBuilder _ _ wR), below1 _ _, by simp⟩
    case round =>
      obtain ⟨k, hk, rfl, hib, hb, hsz⟩ := hrel
      have HIB := Lib.hid hib
      have HBB := Lib.hid hb
      clear hib
      by_cases hlt : k < n
      · rcases HR.out with h0 | ⟨b, o, rfl, h3, h4⟩
        · omega
        · have hcl := ((HRB.out.trans (hb.mono HRB.out.size)).cell (p := ⟨b, o + k, none⟩) h3).trans (h4 k hlt)
          have hy := HB.out k
          have hls : ((hexL (xs.take k)).map (Value.int .u8)).length ≤ 6000 := by rw [List.length_map, hexL_len, List.length_take]; omega
          have ht := hexL_succ xs k (by omega)
          have HT := Lib.hid ht
          clear ht
          generalize xs.getD k 0 = y at hcl hy HT
          obtain ⟨bs, hbs⟩ : ∃ bs, (hexL (xs.take k)).map (Value.int .u8) = bs := ⟨_, rfl⟩
          rw [hbs] at HIB hls
          have HBS := Lib.hid hbs
          clear hbs
          clear h4 hb
          have q0 : (k : Int) < (n : Int) := by omega
          have k1 : IntKind.u8.wrap (y.tdiv 16) = y / 16 := IntWalk.u8_quo _ _ (by omega)
          have k2 : y.tmod 16 = y % 16 := Int.tmod_eq_emod_of_nonneg (by omega)
          have k3 : 0 ≤ y / 16 := by omega
          have k4 : y / 16 < 16 := by omega
          have k5 : 0 ≤ y % 16 := by omega
          have k6 : y % 16 < 16 := by omega
          go_wp2_with fail
          rw [hexLit _ k3 k4]
          refine (writeByte_any wR.heap.size wR.heap.size bs (hexD (y / 16)) wr HIB.out (by omega) (by omega)).mono ?_
          rintro e w2 ⟨rfl, hat2, hb2, _⟩
          have HAT2 : Hid (IsB w2 wR.heap.size wR.heap.size (bs ++ [.int .u8 (hexD (y / 16))])) := Lib.hid (.inr hat2)
          have hls2 : (bs ++ [Value.int .u8 (hexD (y / 16))]).length ≤ 1000000 := by rw [List.length_append]; simp; omega
          have hs2 := hb2.size
          have HB2 := Lib.hid (HBB.out.trans hb2)
          clear hat2 hb2 hcl HIB
          go_wp2_with fail
          rw [hexLit _ k5 k6]
          refine (writeByte_any wR.heap.size wR.heap.size (bs ++ [.int .u8 (hexD (y / 16))]) (hexD (y % 16)) w2 HAT2.out hls2 (by omega)).mono ?_
          rintro e w3 ⟨rfl, hat3, hb3, _⟩
          have HAT3 := Lib.hid hat3
          have hs3 := hb3.size
          have HB3 := Lib.hid (HB2.out.trans hb3)
          clear hat3 hb3 HAT2
          go_wp2
          go_roundw
          case rel =>
            refine ⟨k + 1, by omega, by go_num, ?_, HB3.out, by omega⟩
            have h3 := HAT3.out
            rw [List.append_assoc] at h3
            rw [HT.out, List.map_append, HBS.out]
            exact .inr h3
          case measure => simp [intOf]; omega
      · obtain rfl : k = n := by omega
        have hxl : xs.take k = xs := by rw [← HL.out]; exact List.take_length
        have KS := Lib.hid (fun (h : IsB wr wR.heap.size wR.heap.size (Lib.byteCells t.data.toList)) => Tryd.Builder_String_any_f wR.heap.size wR.heap.size t.data.toList wr h (by omega))
        have hib := HIB.out
        rw [hxl, HC.out] at hib
        have HI2 := Lib.hid hib
        have hb9 : (⟨t.data.toList.toArray⟩ : ByteArray) = t := by cases t; simp
        rw [hb9] at KS
        clear hib hxl hb9 HIB
        go_wp2_with fail
        refine (KS.out HI2.out).mono ?_
        rintro e w2 ⟨rfl, _, hb2⟩
        have HB2 := Lib.hid (HBB.out.trans hb2)
        obtain ⟨r0, r1, f0, f1⟩ := HRC.out w2 HB2.out
        clear hb2
        go_wp2
        exact bodyPost_ret (v := .agg #[.int .i64 0, .string t]) (by simp [results, Tryd.results7, go_sem, World.cell?_setCell_same _ _ _ r0, r1]) rfl ⟨rfl, ((HRB.out.trans (HB2.out.mono HRB.out.size)).setCell (Nat.le_refl _) _).setCell (Nat.le_refl _) _⟩
end Go.Proofs.YticpebpicdboaaaDoor
