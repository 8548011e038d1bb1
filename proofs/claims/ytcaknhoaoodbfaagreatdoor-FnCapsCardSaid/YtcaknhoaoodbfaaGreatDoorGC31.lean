/- The model's l9Sorted. -/
import Derived.Test.YtcaknhoaoodbfaaGreatDoorGC30
import Derived.Test.YtcaknhoaoodbfaaGreatDoorGC11
import Derived.BigQuiet
import Derived.Maps.AppendAt
import Derived.IntWalk
namespace Go.Proofs.YtcaknhoaoodbfaaGreatDoor
open Go.ChangeShapes Go.WideShapes Go.ChangeAt Go.RowKit
set_option linter.unusedVariables false

theorem less_tri (x y : ByteArray) : (!(Op.bytesLess y.toList x.toList || y.toList == x.toList)) = Op.bytesLess x.toList y.toList := by
  cases h : Op.bytesLess x.toList y.toList
  · cases h2 : Op.bytesLess y.toList x.toList
    · have e : x = y := leT_antisymm (show leT x y from h2) (show leT y x from h)
      subst e
      simp
    · rfl
  · have h2 : Op.bytesLess y.toList x.toList = false := leT_of_less h
    have hne : (y.toList == x.toList) = false := by
      rw [beq_eq_false_iff_ne]
      intro e
      rw [e] at h
      have := leT_refl x
      unfold leT at this
      rw [this] at h
      cases h
    rw [h2, hne]
    rfl
theorem gtr_str0 (y x : ByteArray) (W : World) : (binOp .gtr 9 (.string y) (.string x)).run Tryz.prog W = .ok (.bool (!(Op.bytesLess y.toList x.toList || y.toList == x.toList))) W := by kernel_rfl
theorem gtr_str (y x : ByteArray) (W : World) : (binOp .gtr 9 (.string y) (.string x)).run Tryz.prog W = .ok (.bool (Op.bytesLess x.toList y.toList)) W := by
  rw [gtr_str0, less_tri]
theorem one_str (W : World) (x : ByteArray) : ∀ (j : Nat) (u : Value), ([Value.string x])[j]? = some u → (W.alloc (.cells #[.string x] 9)).cell? (Addr.add ⟨W.heap.size, 0, none⟩ j) = some u := by
  intro j u hj
  match j, hj with
  | 0, hj => simp at hj; subst hj; simp [Addr.add]
theorem own_cell {w : World} {B g n c : Nat} {L : List ByteArray} (h : w.ownsRow B 9 1 (.slice (some ⟨g, 0, none⟩) n c) n (L.map Value.string)) (i : Nat) (hi : i < n) : w.cell? ⟨g, i, none⟩ = some (.string (ix L i)) := by
  have hl : L.length = n := by have h1 : (L.map Value.string).length = n * 1 := h.1; simpa using h1
  rw [h.cellAt i (by omega), List.getElem?_map, List.getElem?_eq_getElem (by omega)]
  show some (Value.string _) = some (Value.string (L.getD i ByteArray.empty))
  rw [List.getD_eq_getElem?_getD, List.getElem?_eq_getElem (by omega)]
  rfl

set_option maxRecDepth 100000 in
set_option maxHeartbeats 6400000 in
theorem l9Sorted_any (a : Option Addr) (n c : Nat) (l : List ByteArray) (w : World) (hn : n ≤ 1000) (hsz : ∀ i, i < n → (l.getD i ByteArray.empty).size ≤ 5000000) (h : StsAt w a n c l) :
    Calls Tryz.prog 169 #[.slice a n c] w fun e w' => e = .returned (.string ⟨(linesT (sortT l)).toArray⟩) ∧ Below w.heap.size w w' := by
  obtain ⟨i0, hi, hz0, hz1, hz2⟩ := info_parts strInfoD
  have HR := Lib.hid h.row
  have HL := Lib.hid h.len
  have HSZ := Lib.hid hsz
  have hl0 : (w.alloc (.cells #[] 9)).ownsRow w.heap.size 9 1 (.slice (some ⟨w.heap.size, 0, none⟩) 0 0) 0 (([] : List ByteArray).map Value.string) := by
    have := World.ownsRow_lit (base := w.heap.size) (e := 9) (size := 1) w #[] 0 (Nat.le_refl _) (by unfold maxLen; omega) rfl
    simpa using this
  have HO0 := Lib.hid hl0
  clear h hsz hl0
  go_enter Tryz.func169, Tryz.ntmps169
  go_wp2
  go_loopw [3, 11] (fun v i wr => ∃ (k : Nat) (a' : Option Addr) (c' : Nat) (L : List ByteArray), k ≤ n ∧ i = .int .i64 k ∧ v = .slice a' k c' ∧ wr.ownsRow w.heap.size 9 1 (.slice a' k c') k (L.map Value.string) ∧ Hid (Sorts (l.take k) L) ∧ Below w.heap.size w wr) (fun _ i _ => n - (intOf i).toNat)
  case atStart => exact ⟨0, _, 0, [], Nat.zero_le _, rfl, rfl, HO0.out, Lib.hid ⟨List.Perm.refl _, List.Pairwise.nil⟩, below1 _ _⟩
  case round =>
    clear HO0
    obtain ⟨k, a', c', L, hk, rfl, rfl, ho, HSO, hb⟩ := hrel
    have HO := Lib.hid ho
    have HB := Lib.hid hb
    have hsz := hb.size
    have hlk : L.length = k := by have h1 : (L.map Value.string).length = k * 1 := ho.1; simpa using h1
    clear ho hb
    by_cases hlt : k < n
    · rcases HR.out with e0 | ⟨b, o, rfl, hbw, hrow⟩
      · omega
      have d0 := (HB.out.cell (p := ⟨b, o + k, none⟩) hbw).trans (hrow k hlt)
      have HT : Hid (l.take (k + 1) = l.take k ++ [l.getD k ByteArray.empty]) := Lib.hid (by rw [List.take_succ_eq_append_getElem (by have := HL.out; omega), List.getD_eq_getElem?_getD, List.getElem?_eq_getElem (by have := HL.out; omega)]; rfl)
      have HROW := Lib.hid hrow
      obtain ⟨x, hx⟩ : ∃ x, l.getD k ByteArray.empty = x := ⟨_, rfl⟩
      rw [hx] at d0 HT
      have HX := Lib.hid hx
      clear hx hrow
      have q1 : (k : Int) < (n : Int) := by omega
      go_wp2_with (at_builtin; refine wpList_append_own _ rfl _ _ 48 rfl w.heap.size 9 i0 (.string ByteArray.empty) 1 16 Tryz.underlying48 hi hz0 hz1 hz2 rfl (by decide) _ k _ rfl (HO.out.alloc _) ⟨wr.heap.size, 0, none⟩ 1 1 [.string x] rfl rfl (one_str wr x) (by simp [Value.oneCell']) (by unfold maxLen; omega) (by omega) (by simp; omega) ?_)
      intro v' w1 hown hgrow _
      obtain ⟨a2, c2, rfl⟩ := owns_slice hown
      obtain ⟨g, rfl⟩ : ∃ g, a2 = some ⟨g, 0, none⟩ := by
        rcases hown.2 with ⟨hv, h0⟩ | ⟨g, cap, cur, hv, _⟩
        · omega
        · simp only [Value.slice.injEq] at hv
          exact ⟨g, hv.1⟩
      have hgb : w.heap.size ≤ g := (hown.lt g rfl).1
      have hbg : b ≠ g := by omega
      have HO1 : Hid (w1.ownsRow w.heap.size 9 1 (.slice (some ⟨g, 0, none⟩) (k + 1) c2) (k + 1) ((rowUp L x k).map Value.string)) := Lib.hid (by rw [← hlk, rowUp_start, List.map_append]; rw [← hlk] at hown; exact hown)
      have HB1 := Lib.hid (below_appended HB.out HO.out hgrow)
      clear hown hgrow d0
      go_wp2
      go_loopw [5] (fun p wr => ∃ q : Nat, q ≤ k ∧ p = .int .i64 q ∧ wr.ownsRow w.heap.size 9 1 (.slice (some ⟨g, 0, none⟩) (k + 1) c2) (k + 1) ((rowUp L x q).map Value.string) ∧ Hid (∀ y ∈ L.drop q, leT x y) ∧ Below w.heap.size w wr) (fun p _ => (intOf p).toNat)
      case atStart => exact ⟨k, Nat.le_refl _, rfl, HO1.out, Lib.hid (fun y hy => by rw [← hlk, List.drop_length] at hy; cases hy), HB1.out⟩
      case round =>
        clear HO1 HB1
        obtain ⟨q, hq, rfl, ho, HHI, hb⟩ := hrel
        have HB2 := Lib.hid hb
        have d0 := (hb.cell (p := ⟨b, o + k, none⟩) hbw).trans (HROW.out k hlt)
        rw [HX.out] at d0
        have hru := rowUp_length L x q (by omega)
        have HFIN := Lib.hid (rowUp_put L x q (by omega))
        have cq := own_cell ho q (by omega)
        have fq := ho.frozenAt q
        have HPUT : Hid (∀ m, ((wr.drewN m).setCell ⟨g, q, none⟩ (.string x)).ownsRow w.heap.size 9 1 (.slice (some ⟨g, 0, none⟩) (k + 1) c2) (k + 1) ((L.take q ++ x :: L.drop q).map Value.string)) := Lib.hid (fun m => by
          have := ((owns_below ho (below_drewN (Below.refl _ _) m)).stored q (.string x)).1
          rwa [← List.map_set, HFIN.out] at this)
        by_cases hstop : q = 0 ∨ Op.bytesLess x.toList (ix L (q - 1)).toList = false
        · have hnew : Hid (Sorts (l.take (k + 1)) (L.take q ++ x :: L.drop q)) := Lib.hid (by
            rw [HT.out]
            exact put_sorts HSO.out (by omega) (take_le HSO.out.2 (by omega) hstop) HHI.out)
          rcases Nat.eq_zero_or_pos q with rfl | hq0
          · clear hstop ho hb HHI
            generalize ix (rowUp L x 0) 0 = z at cq
            go_wp2
            go_quiet (fail)
            go_wp2
            go_roundw
            case rel => exact ⟨k + 1, _, _, _, by omega, by go_num, rfl, HPUT.out _, hnew, (below_drewN HB2.out _).setCell hgb _⟩
            case measure => simp [intOf]; omega
          · have hless := hstop.resolve_left (by omega)
            obtain ⟨r, rfl⟩ : ∃ r, q = r + 1 := ⟨q - 1, by omega⟩
            have cr := own_cell ho r (by omega)
            rw [rowUp_ahead L x (r + 1) r (by omega) (by omega)] at cr
            rw [Nat.add_sub_cancel] at hless
            clear hstop ho hb HHI
            generalize ix (rowUp L x (r + 1)) (r + 1) = z at cq
            generalize ix L r = y at cr hless
            have hcmp := fun W => gtr_str y x W
            rw [hless] at hcmp
            have m1 : IntKind.i64.wrap (r : Int) = (r : Int) := IntWalk.i64_in _ (by omega)
            have m2 : (0 : Int) < (r : Int) + 1 := by omega
            have m5 : (0 : Int) ≤ (r : Int) ∧ (r : Int) < ((k + 1 : Nat) : Int) := by omega
            have m6 : (k : Int) < (n : Int) := by omega
            have m7 : r < k + 1 := by omega
            have m3 : (r : Int) < (k : Int) + 1 := by omega
            have m4 : (r : Int) + 1 < (k : Int) + 1 := by omega
            go_wp2
            go_quiet (fail)
            go_wp2
            go_roundw
            case rel => exact ⟨k + 1, _, _, _, by omega, by go_num, rfl, HPUT.out _, hnew, (below_drewN HB2.out _).setCell hgb _⟩
            case measure => simp [intOf]; omega
        · have hq0 : q ≠ 0 := fun e => hstop (.inl e)
          have hless : Op.bytesLess x.toList (ix L (q - 1)).toList = true := by
            cases hh : Op.bytesLess x.toList (ix L (q - 1)).toList
            · exact absurd (.inr hh) hstop
            · rfl
          obtain ⟨r, rfl⟩ : ∃ r, q = r + 1 := ⟨q - 1, by omega⟩
          rw [Nat.add_sub_cancel] at hless
          have cr := own_cell ho r (by omega)
          rw [rowUp_ahead L x (r + 1) r (by omega) (by omega)] at cr
          have HSTEP : Hid (∀ m, ((wr.drewN m).setCell ⟨g, r + 1, none⟩ (.string (ix L r))).ownsRow w.heap.size 9 1 (.slice (some ⟨g, 0, none⟩) (k + 1) c2) (k + 1) ((rowUp L x r).map Value.string)) := Lib.hid (fun m => by
            have := ((owns_below ho (below_drewN (Below.refl _ _) m)).stored (r + 1) (.string (ix L r))).1
            have hs := rowUp_step L x r (by omega)
            rw [rowUp_ahead L x (r + 1) r (by omega) (by omega)] at hs
            rwa [← List.map_set, hs] at this)
          have HHN : Hid (∀ y ∈ L.drop r, leT x y) := Lib.hid (fun y hy => by
            have hrl : r < L.length := by omega
            rw [List.drop_eq_getElem_cons hrl] at hy
            rcases List.mem_cons.1 hy with rfl | hy
            · have e : ix L r = L[r] := by show L.getD r ByteArray.empty = _; rw [List.getD_eq_getElem?_getD, List.getElem?_eq_getElem hrl]; rfl
              rw [← e]
              exact leT_of_less hless
            · exact HHI.out y hy)
          clear hstop ho hb HHI HPUT
          generalize ix (rowUp L x (r + 1)) (r + 1) = z at cq
          generalize ix L r = y at cr hless HSTEP
          have hcmp := fun W => gtr_str y x W
          rw [hless] at hcmp
          have m1 : IntKind.i64.wrap (r : Int) = (r : Int) := IntWalk.i64_in _ (by omega)
          have m2 : (0 : Int) < (r : Int) + 1 := by omega
          have m3 : (r : Int) < (k : Int) + 1 := by omega
          have m4 : (r : Int) + 1 < (k : Int) + 1 := by omega
          go_wp2
          go_quiet (fail)
          go_wp2
          go_roundw
          case rel => exact ⟨r, by omega, by go_num, HSTEP.out _, HHN, (below_drewN HB2.out _).setCell hgb _⟩
          case measure => simp [intOf]; try omega
    · obtain rfl : k = n := by omega
      have HSORT : Hid (L = sortT l) := Lib.hid (by
        have := HSO.out
        rw [← HL.out, List.take_length] at this
        exact sortT_is this)
      have HSZL : Hid (∀ i, i < k → (ix L i).size ≤ 5000000) := Lib.hid (fun i hi => by
        have hm : ix L i ∈ L := by
          show L.getD i ByteArray.empty ∈ L
          rw [List.getD_eq_getElem?_getD, List.getElem?_eq_getElem (by omega)]
          exact List.getElem_mem _
        have hp := HSO.out.1
        rw [← HL.out, List.take_length] at hp
        obtain ⟨j, hj, he⟩ := List.getElem_of_mem (hp.mem_iff.1 hm)
        have := HSZ.out j (by have := HL.out; omega)
        rw [List.getD_eq_getElem?_getD, List.getElem?_eq_getElem hj] at this
        rw [← he]
        exact this)
      clear HSO HSZ HR
      go_wp2
      go_loopw [6, 57] (fun v i wr2 => ∃ j : Nat, j ≤ k ∧ i = .int .i64 j ∧ v = .string ⟨(linesT (L.take j)).toArray⟩ ∧ (linesT (L.take j)).length ≤ 5000001 * j ∧ wr2 = wr) (fun _ i _ => k - (intOf i).toNat)
      case atStart => exact ⟨0, Nat.zero_le _, by first | rfl | trivial, by first | rfl | trivial, by first | exact Nat.le_refl _ | trivial, by first | rfl | trivial⟩
      case round =>
        obtain ⟨j, hj, rfl, rfl, hlen, rfl⟩ := hrel
        by_cases hlj : j < k
        · obtain ⟨g, rfl⟩ : ∃ g, a' = some ⟨g, 0, none⟩ := by
            rcases HO.out.2 with ⟨hv, h0⟩ | ⟨g, cap, cur, hv, _⟩
            · omega
            · simp only [Value.slice.injEq] at hv
              exact ⟨g, hv.1⟩
          have cr := own_cell HO.out j hlj
          have hsx := HSZL.out j hlj
          have HTS : Hid (linesT (L.take (j + 1)) = linesT (L.take j) ++ ((ix L j).data.toList ++ [60])) := Lib.hid (by
            rw [List.take_succ_eq_append_getElem (by omega), linesT_snoc]
            show _ = _ ++ ((L.getD j ByteArray.empty).data.toList ++ [60])
            rw [List.getD_eq_getElem?_getD, List.getElem?_eq_getElem (by omega)]
            rfl)
          have hos : (⟨(linesT (L.take j)).toArray⟩ : ByteArray).size ≤ 5000001 * j := by show (linesT (L.take j)).toArray.size ≤ _; rw [List.size_toArray]; exact hlen
          have HLEN := Lib.hid hlen
          have HOE : Hid (∀ s : ByteArray, (⟨(linesT (L.take j)).toArray⟩ : ByteArray) ++ s ++ (⟨#[60]⟩ : ByteArray) = ⟨(linesT (L.take j) ++ (s.data.toList ++ [60])).toArray⟩) := Lib.hid (fun s => by apply ByteArray.ext; simp)
          generalize (⟨(linesT (L.take j)).toArray⟩ : ByteArray) = out at hos HOE ⊢
          generalize ix L j = s at cr hsx HTS
          clear hlen
          have q1 : (j : Int) < (k : Int) := by omega
          have s1 : ¬ 9223372036854775807 < out.size + s.size := by omega
          have s2 : ¬ 9223372036854775807 < out.size + s.size + 1 := by omega
          go_wp2
          go_roundw
          case rel =>
            refine ⟨j + 1, by omega, by go_num, ?_, ?_, by first | rfl | trivial⟩
            · rw [HTS.out, ← HOE.out]
            · rw [HTS.out]
              have e1 : s.data.toList.length = s.size := rfl
              simp only [List.length_append, e1, List.length_cons, List.length_nil]
              have := HLEN.out
              omega
          case measure => simp [intOf]; omega
        · obtain rfl : j = k := by omega
          have hall : L.take j = L := List.take_of_length_le (by omega)
          rw [hall, HSORT.out] at *
          go_wp2
          go_ret
          exact ⟨by first | rfl | trivial, HB.out⟩
end Go.Proofs.YtcaknhoaoodbfaaGreatDoor
