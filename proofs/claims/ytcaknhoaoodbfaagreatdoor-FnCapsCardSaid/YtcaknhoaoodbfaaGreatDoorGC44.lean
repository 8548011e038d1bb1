/- The model's l9Sha and Sha1Of. -/
import Derived.Test.YtcaknhoaoodbfaaGreatDoorGC39
import Derived.Test.YtcaknhoaoodbfaaGreatDoorGC41
import Derived.Test.YtcaknhoaoodbfaaGreatDoorGC43
import Derived.Test.YtcaknhoaoodbfaaGreatDoorGC11
namespace Go.Proofs.YtcaknhoaoodbfaaGreatDoor
open Go.ChangeShapes Go.WideShapes Go.ChangeAt Go.RowKit
set_option linter.unusedVariables false

theorem wordB4 (x : Int) (h : In32 x) : wordB x = [IntKind.u8.wrap (x / 16777216), IntKind.u8.wrap (x / 65536), IntKind.u8.wrap (x / 256), IntKind.u8.wrap x] := by
  obtain ⟨h0, h1⟩ := h
  simp only [wordB, highs, IntKind.wrap_u8']
  simp
theorem four_u8 (W : World) (x y z t : Int) : ∀ (j : Nat) (u : Value), ([Value.int .u8 x, .int .u8 y, .int .u8 z, .int .u8 t])[j]? = some u → ((W.alloc (.cells #[.int .u8 x, .int .u8 y, .int .u8 z, .int .u8 t] 5)).drew).cell? (Addr.add ⟨W.heap.size, 0, none⟩ j) = some u := by
  intro j u hj
  match j, hj with
  | 0, hj => simp at hj; subst hj; simp [Addr.add]
  | 1, hj => simp at hj; subst hj; simp [Addr.add]
  | 2, hj => simp at hj; subst hj; simp [Addr.add]
  | 3, hj => simp at hj; subst hj; simp [Addr.add]

set_option maxRecDepth 100000 in
set_option maxHeartbeats 3200000 in
theorem l9Sha_any (a : Option Addr) (n c : Nat) (xs : List Int) (w : World) (hn : n ≤ 3000) (hnil : a = none → c = 0) (h : InRow w a n c xs) :
    Calls Tryz.prog 99 #[.slice a n c] w (OwnsRes w 5 .u8 (shaL xs)) := by
  obtain ⟨i0, hi, hz0, hz1, hz2⟩ := info_parts cpInfo
  have K := Lib.hid (fun W (hb : Below w.heap.size w W) => l9Pad_any a n c xs W hn hnil (in_below h hb))
  have hmem : ∀ x ∈ xs, 0 ≤ x ∧ x ≤ 255 := fun x hx => by
    obtain ⟨i, hi, rfl⟩ := List.getElem_of_mem hx
    have := h.byte i
    rwa [List.getD_eq_getElem?_getD, List.getElem?_eq_getElem hi] at this
  have hpm := padL_mem hmem
  have hlp := padL_length xs
  rw [h.len] at hlp
  have HSH := Lib.hid (shaL_pre xs)
  rw [h.len] at HSH
  clear hnil h hmem
  obtain ⟨p, hp⟩ : ∃ p, padL xs = p := ⟨_, rfl⟩
  rw [hp] at K hpm hlp HSH
  obtain ⟨m, hm⟩ : ∃ m, (n + 72) / 64 = m := ⟨_, rfl⟩
  rw [hm] at hlp HSH
  have hm2 : m ≤ 48 := by omega
  have HLP := Lib.hid hlp
  have HPM := Lib.hid hpm
  unfold OwnsRes at K
  unfold OwnsRes
  clear hp hm hlp hpm
  have HA0 := Lib.hid (ArrU.new w 187 sha0.list)
  go_enter Tryz.func99, Tryz.ntmps99
  go_wp2_with fail
  refine (K.out _ (below1 _ _)).mono ?_
  rintro e w1 ⟨a1, n1, c1, rfl, ho1, hb1⟩
  have hn1 : n1 = 64 * m := (owns_length ho1).trans HLP.out
  have hrow : n1 = 0 ∨ ∃ g, a1 = some ⟨g, 0, none⟩ ∧ g < w1.heap.size ∧ w.heap.size + 1 ≤ g ∧ n1 ≤ c1 ∧ ∀ i, i < n1 → w1.cell? ⟨g, i, none⟩ = some (.int .u8 (p.getD i 0)) := by
    rcases ho1.2 with ⟨hv, h0⟩ | ⟨g, cap, cur, hv, hg, hh, hnc, hmm, hs, ht⟩
    · exact .inl (by omega)
    · simp only [Value.slice.injEq] at hv
      obtain ⟨rfl, _, rfl⟩ := hv
      refine .inr ⟨g, rfl, (ho1.lt g rfl).2, by simpa using hg, hnc, fun i hi => ?_⟩
      rw [ho1.cellAt i (by omega), List.getElem?_map, List.getElem?_eq_getElem (by rw [HLP.out]; omega), List.getD_eq_getElem?_getD, List.getElem?_eq_getElem (by rw [HLP.out]; omega)]
      rfl
  have hA1 : ArrU w1 w.heap.size 187 sha0.list := HA0.out.below hb1
  have hB1 : Below w.heap.size w w1 := below_then (below1 _ _) hb1
  have hz1' : w.heap.size + 1 ≤ w1.heap.size := by have := hb1.size; simpa using this
  have HROW := Lib.hid hrow
  have HA1 := Lib.hid hA1
  have HB1 := Lib.hid hB1
  subst hn1
  clear ho1 hb1 hrow hA1 hB1 K HA0
  go_wp2
  go_loopw [5] (fun i wr => ∃ k : Nat, k ≤ m ∧ i = .int .i64 ((64 * k : Nat) : Int) ∧ ArrU wr w.heap.size 187 (shaSt p k).list ∧ Only (fun i => i = w.heap.size) w1 wr) (fun i _ => 64 * m - (intOf i).toNat)
  case atStart => exact ⟨0, Nat.zero_le _, rfl, HA1.out, Only.refl _⟩
  case round =>
    clear HA1
    obtain ⟨k, hk, rfl, hA, hO⟩ := hrel
    have HA := Lib.hid hA
    have HO := Lib.hid hO
    have hzr := hO.size
    clear hA hO
    by_cases hlk : k < m
    · obtain ⟨g, rfl, hg1, hg2, hnc, hcl⟩ := HROW.out.resolve_left (by omega)
      have hbl := blkAt_length p k m HLP.out (by rw [HLP.out]; omega)
      have hby : ∀ i, 0 ≤ (blkAt p k).getD i 0 ∧ (blkAt p k).getD i 0 ≤ 255 := fun i => by
        rw [List.getD_eq_getElem?_getD]
        rcases Nat.lt_or_ge i (blkAt p k).length with h1 | h1
        · rw [List.getElem?_eq_getElem h1]
          exact HPM.out _ (List.mem_of_mem_drop (List.mem_of_mem_take (List.getElem_mem h1)))
        · rw [List.getElem?_eq_none h1]
          decide
      have hx : ∀ i, i < 64 → wr.cell? ⟨g, 64 * k + i, none⟩ = some (.int .u8 ((blkAt p k).getD i 0)) := fun i hi => by
        rw [blkAt_getD _ _ _ hi]
        exact (HO.out.cell (p := ⟨g, 64 * k + i, none⟩) hg1 (by show ¬ g = w.heap.size; omega)).trans (hcl _ (by omega))
      have KB := Lib.hid (l9Block_any w.heap.size g (64 * k) (c1 - 64 * k) (blkAt p k) (shaSt p k) (shaSt_in p k) wr hbl hby (by omega) hx HA.out)
      have HSN : Hid (shaSt p (k + 1) = withB (shaSt p k) (blkAt p k)) := Lib.hid rfl
      unfold BlockRes at KB
      have q1 : ((64 * k : Nat) : Int) < 64 * (m : Int) := by omega
      have q2 : IntKind.i64.wrap (((64 * k : Nat) : Int) + 64) = ((64 * k : Nat) : Int) + 64 := IntWalk.i64_in _ (by omega)
      have q3 : (((64 * k : Nat) : Int) + 64).toNat = 64 * k + 64 := by omega
      have q4 : 64 * k + 64 ≤ c1 := by omega
      have q5 : 64 * k + 64 - 64 * k = 64 := by omega
      clear hbl hby hx hcl
      go_wp2_with fail
      refine KB.out.mono ?_
      rintro e w2 ⟨rfl, hA2, hO2⟩
      have HA2 := Lib.hid hA2
      have HO2 := Lib.hid (HO.out.trans hO2)
      clear hA2 hO2 KB
      go_wp2
      go_roundw
      case rel => exact ⟨k + 1, by omega, by go_num, by rw [HSN.out]; exact HA2.out, HO2.out⟩
      case measure => simp [intOf]; omega
    · obtain rfl : k = m := by omega
      have q1 : ¬ (((64 * k : Nat) : Int) < 64 * (k : Int)) := by omega
      have hin := shaSt_in p k
      generalize shaSt p k = st at *
      have HIN := Lib.hid (fun j (hj : j < 5) => In_get hin j hj)
      have HPS := Lib.hid (fun j (hj : j < 5) => bytesPre_succ st j hj)
      have hgb := HA.out.lt
      have HAW := Lib.hid (HA.out.below (below1 wr (.cells #[] 5)))
      have HBW : Hid (Below w.heap.size w (wr.alloc (.cells #[] 5))) := Lib.hid ((Only.under HB1.out (Nat.le_refl _) HO.out (fun i hi => Nat.le_of_eq hi.symm)).alloc (by omega) _)
      have HL0 : Hid ((wr.alloc (.cells #[] 5)).ownsRow (w.heap.size + 1) 5 1 (.slice (some ⟨wr.heap.size, 0, none⟩) 0 0) 0 (([] : List Int).map (Value.int .u8))) := Lib.hid (by
        have := World.ownsRow_lit (base := w.heap.size + 1) (e := 5) (size := 1) wr #[] 0 (by omega) (by unfold maxLen; omega) rfl
        simpa using this)
      clear hin HA HROW
      go_wp2
      go_loopw [6, 7] (fun v i wr => ∃ (j : Nat) (a' : Option Addr) (m' c' : Nat), j ≤ 5 ∧ i = .int .i64 j ∧ v = .slice a' m' c' ∧ m' = 4 * j ∧ wr.ownsRow (w.heap.size + 1) 5 1 (.slice a' m' c') m' ((bytesPre st j).map (Value.int .u8)) ∧ ArrU wr w.heap.size 187 st.list ∧ Below w.heap.size w wr) (fun _ i _ => 5 - (intOf i).toNat)
      case atStart => exact ⟨0, _, 0, 0, Nat.zero_le _, rfl, rfl, rfl, HL0.out, HAW.out, HBW.out⟩
      case round =>
        clear HAW HBW HL0 hgb hzr
        obtain ⟨j, a', m', c', hj, rfl, rfl, hm', ho, hA, hB⟩ := hrel
        have HO2 := Lib.hid ho
        have HA := Lib.hid hA
        have HB := Lib.hid hB
        clear ho hA hB
        by_cases hlj : j < 5
        · have cw := HA.out.cell (i := j) (by exact hlj)
          have hin := HIN.out j hlj
          have HSU := Lib.hid (HPS.out j hlj)
          have HW4 := Lib.hid (wordB4 (st.list.getD j 0) hin)
          generalize st.list.getD j 0 = x at cw hin HSU HW4
          obtain ⟨x0, x1⟩ := hin
          have q1 : (j : Int) < 5 := by omega
          have hm2 : m' ≤ 16 := by omega
          have HM := Lib.hid hm'
          clear hm'
          go_wp2
          go_region_law (refine step_own (by rfl) _ _ 22 rfl 5 i0 (.int .u8 0) 1 1 Tryz.underlying22 hi hz0 hz1 hz2 rfl (by decide) (w.heap.size + 1) _ m' _ (by rfl) (HO2.out.alloc _) ⟨wr.heap.size, 0, none⟩ 4 4 [.int .u8 (IntKind.u8.wrap (x / 16777216)), .int .u8 (IntKind.u8.wrap (x / 65536)), .int .u8 (IntKind.u8.wrap (x / 256)), .int .u8 (IntKind.u8.wrap x)] (by rfl) rfl (four_u8 wr _ _ _ _) (by simp [Value.oneCell']) (by unfold maxLen; omega) (by omega) (by have := HB.out.size; have := HA.out.lt; simp; omega) ?_; intro v' w2 hown' hgrow; obtain ⟨a2, c2, rfl⟩ := owns_slice hown')
          all_goals
            have HO4 := Lib.hid hown'
            have hgr2 : (wr.alloc (.cells #[.int .u8 (IntKind.u8.wrap (x / 16777216)), .int .u8 (IntKind.u8.wrap (x / 65536)), .int .u8 (IntKind.u8.wrap (x / 256)), .int .u8 (IntKind.u8.wrap x)] 5)).grownBy w2 (Value.slice a' m' c').ownBlock := ⟨hgrow.os, hgrow.tape, hgrow.output, hgrow.size, hgrow.block⟩
            have hob : ∀ q, (Value.slice a' m' c').ownBlock = some q → w.heap.size + 1 ≤ q := fun q hq => (HO2.out.lt q hq).1
            have HB4 : Hid (Below w.heap.size w w2) := Lib.hid (below_appended HB.out (owns_mono HO2.out (Nat.le_succ w.heap.size)) hgr2)
            have HA4 : Hid (ArrU w2 w.heap.size 187 st.list) := Lib.hid ((HA.out.below (below1 wr _)).kept hgr2 (fun e => by have := hob _ e.symm; omega))
            clear hown' hgrow hgr2 hob
            go_wp2
            go_roundw
            case rel => exact ⟨j + 1, a2, m' + 4, c2, by omega, by go_num, rfl, by have := HM.out; omega, by rw [HSU.out, show highs x 4 = _ from HW4.out, List.map_append]; exact HO4.out, HA4.out, HB4.out⟩
            case measure => simp [intOf]; omega
        · obtain rfl : j = 5 := by omega
          simp only [show ((5 : Nat) : Int) = 5 from rfl]
          have ho := HO2.out
          rw [← HSH.out] at ho
          have HO3 := Lib.hid (owns_mono ho (Nat.le_succ w.heap.size))
          clear ho
          go_wp2
          go_ret
          exact ⟨a', m', c', rfl, HO3.out, HB.out⟩
end Go.Proofs.YtcaknhoaoodbfaaGreatDoor
