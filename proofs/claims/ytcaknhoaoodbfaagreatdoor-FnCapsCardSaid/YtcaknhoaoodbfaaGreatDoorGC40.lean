/- A slice of bytes that came in. -/
import Derived.Test.YtcaknhoaoodbfaaGreatDoorGC0
import Derived.Laws.AppendOwnNone
import Derived.Maps.AppendAt
import Derived.Test.YtcaknhoaoodbfaaGreatDoorGC13
import Derived.RangeFuncBox
import Derived.IntWalk
namespace Go.Proofs.YtcaknhoaoodbfaaGreatDoor
open Go.ChangeShapes Go.WideShapes Go.ChangeAt Go.RowKit
set_option linter.unusedVariables false

/-- the bytes xs are what the slice that came in holds -/
structure InRow (W : World) (a : Option Addr) (n c : Nat) (xs : List Int) : Prop where
  max : n ≤ maxLen
  len : xs.length = n
  byte : ∀ i, 0 ≤ xs.getD i 0 ∧ xs.getD i 0 ≤ 255
  row : n = 0 ∨ ∃ rb ro, a = some ⟨rb, ro, none⟩ ∧ rb < W.heap.size ∧ ∀ i, i < n → W.cell? ⟨rb, ro + i, none⟩ = some (.int .u8 (xs.getD i 0))
theorem InRow.nil (W : World) : InRow W none 0 0 [] := ⟨by decide, rfl, fun i => by simp, .inl rfl⟩
theorem InRow.cells {W : World} {x : Addr} {n : Nat} {zs : List Int} (hn : n ≤ zs.length) (hcell : ∀ i, i < zs.length → W.cell? (x.add i) = some (.int .u8 (zs.getD i 0))) :
    n = 0 ∨ ∃ rb ro, some x = some ⟨rb, ro, none⟩ ∧ rb < W.heap.size ∧ ∀ i, i < n → W.cell? ⟨rb, ro + i, none⟩ = some (.int .u8 (zs.getD i 0)) := by
  by_cases h0 : n = 0
  · exact .inl h0
  · obtain ⟨b, o, s⟩ := x
    have hc := hcell 0 (by omega)
    have hs : s = none := by simpa [Addr.add] using World.cell?_spot hc
    subst hs
    refine .inr ⟨b, o, rfl, by simpa [Addr.add] using World.block_lt_of_cell? W _ hc, fun i hi => ?_⟩
    have := hcell i (by omega)
    rwa [Addr.add_lit] at this
theorem InRow.ofCells {W : World} {x : Addr} {n c : Nat} {zs : List Int} (hl : n ≤ c) (hm : c ≤ maxLen) (hz : zs.length = c) (hcell : ∀ i, i < zs.length → W.cell? (x.add i) = some (.int .u8 (zs.getD i 0)))
    (hwz : ∀ y ∈ zs, (Lit.int .u8 y).wf = true) : InRow W (some x) n c (zs.take n) := by
  have hb : ∀ i, 0 ≤ zs.getD i 0 ∧ zs.getD i 0 ≤ 255 := by
    intro i
    rw [List.getD_eq_getElem?_getD]
    by_cases hi : i < zs.length
    · rw [List.getElem?_eq_getElem hi]
      have := hwz _ (List.getElem_mem hi)
      simp only [Lit.wf, Bool.and_eq_true, decide_eq_true_eq] at this
      exact this
    · rw [List.getElem?_eq_none (by omega)]
      simp
  have hg : ∀ i, i < n → (zs.take n).getD i 0 = zs.getD i 0 := fun i hi => by
    simp only [List.getD_eq_getElem?_getD, List.getElem?_take, hi, if_true]
  refine ⟨Nat.le_trans hl hm, by rw [List.length_take]; omega, fun i => ?_, ?_⟩
  · by_cases hi : i < n
    · rw [hg i hi]
      exact hb i
    · rw [List.getD_eq_getElem?_getD, List.getElem?_eq_none (by rw [List.length_take]; omega)]
      simp
  · rcases InRow.cells (x := x) (n := n) (by omega) hcell with h | ⟨rb, ro, h1, h2, h3⟩
    · exact .inl h
    · exact .inr ⟨rb, ro, h1, h2, fun i hi => by rw [hg i hi]; exact h3 i hi⟩
/-- a row of the call's own, handed on -/
theorem inRow_owned {W : World} {B : Nat} {a : Option Addr} {n c : Nat} {xs : List Int} (h : W.ownsRow B 5 1 (.slice a n c) n (xs.map (Value.int .u8))) (hb : ∀ i, 0 ≤ xs.getD i 0 ∧ xs.getD i 0 ≤ 255) : InRow W a n c xs := by
  have hl := owns_length h
  rcases Row.of_owns h with ⟨hv, rfl⟩ | ⟨b, o, cap, hv, h1, h2, h3, h4⟩
  · simp only [Value.slice.injEq] at hv
    obtain ⟨rfl, rfl, rfl⟩ := hv
    exact ⟨by decide, rfl, hb, .inl rfl⟩
  · simp only [Value.slice.injEq] at hv
    obtain ⟨rfl, rfl, rfl⟩ := hv
    exact ⟨Nat.le_trans h1 h2, rfl, hb, .inr ⟨b, o, rfl, h3, h4⟩⟩
end Go.Proofs.YtcaknhoaoodbfaaGreatDoor

/- The model's l1Copy, and slices.Clone at bytes. -/
namespace Go.Proofs.YtcaknhoaoodbfaaGreatDoor
open Go.ChangeShapes Go.WideShapes Go.ChangeAt Go.RowKit
set_option linter.unusedVariables false

theorem cpInfo : (Tryz.prog.info? 5).map (fun i => (i.zero, i.size, i.bytes)) = some (some (.int .u8 0), 1, 1) := by kernel_rfl
theorem owns_nilcap {w : World} {B e size n : Nat} {a : Option Addr} {c : Nat} {xs : List Value} (h : w.ownsRow B e size (.slice a n c) n xs) : a = none → c = 0 := by
  intro ha
  rcases h.2 with ⟨hv, _⟩ | ⟨g, cap, cur, hv, _⟩
  · simp only [Value.slice.injEq] at hv
    exact hv.2.2
  · simp only [Value.slice.injEq] at hv
    rw [ha] at hv
    cases hv.1
theorem InRow.flat {w : World} {ad : Addr} {n c : Nat} {xs : List Int} (h : InRow w (some ad) n c xs) : ∀ j u, (xs.map (Value.int .u8))[j]? = some u → w.cell? (ad.add j) = some u := by
  intro j u hj
  have hlt : j < xs.length := by
    rcases Nat.lt_or_ge j xs.length with h1 | h1
    · exact h1
    · rw [List.getElem?_eq_none (by simpa using h1)] at hj; cases hj
  rcases h.row with e | ⟨rb, ro, ha, hr, hc⟩
  · have := h.len; omega
  · simp only [Option.some.injEq] at ha
    subst ha
    rw [Addr.add_lit]
    rw [List.getElem?_map, List.getElem?_eq_getElem hlt] at hj
    simp only [Option.map_some, Option.some.injEq] at hj
    rw [hc j (by have := h.len; omega), ← hj, List.getD_eq_getElem?_getD, List.getElem?_eq_getElem hlt]
    rfl
theorem oneI (xs : List Int) : ∀ u ∈ xs.map (Value.int .u8), u.oneCell' = true := by
  intro u hu
  obtain ⟨x, _, rfl⟩ := List.mem_map.1 hu
  rfl
theorem in_below {w w' : World} {a : Option Addr} {n c : Nat} {xs : List Int} (h : InRow w a n c xs) (hb : Below w.heap.size w w') : InRow w' a n c xs := by
  refine ⟨h.max, h.len, h.byte, ?_⟩
  rcases h.row with e | ⟨rb, ro, ha, hr, hc⟩
  · exact .inl e
  · exact .inr ⟨rb, ro, ha, Nat.lt_of_lt_of_le hr hb.size, fun i hi => (hb.cell (p := ⟨rb, ro + i, none⟩) hr).trans (hc i hi)⟩

set_option maxRecDepth 100000 in
set_option maxHeartbeats 1600000 in
theorem l1Copy_any (a : Option Addr) (n c : Nat) (xs : List Int) (w : World) (hn : n ≤ 1048576) (hnil : a = none → c = 0) (h : InRow w a n c xs) :
    Calls Tryz.prog 170 #[.slice a n c] w (OwnsRes w 5 .u8 xs) := by
  obtain ⟨i0, hi, hz0, hz1, hz2⟩ := info_parts cpInfo
  have HL := Lib.hid h.len
  have HIN := Lib.hid (in_below h (below1 w (.cells #[] 5)))
  have hl0 : (w.alloc (.cells #[] 5)).ownsRow w.heap.size 5 1 (.slice (some ⟨w.heap.size, 0, none⟩) 0 0) 0 [] := by
    simpa using lit_owns w 5 .u8 [] 0 rfl (by decide)
  unfold OwnsRes
  cases a with
  | none =>
    obtain rfl : n = 0 := by
      rcases h.row with e | ⟨b5, o5, e5, _⟩
      · exact e
      · cases e5
    obtain rfl : c = 0 := hnil rfl
    obtain rfl : xs = [] := List.length_eq_zero_iff.1 HL.out
    clear hnil h HL HIN
    go_enter Tryz.func170, Tryz.ntmps170
    go_wp2_with (at_builtin; refine wpList_append_own_none rfl _ _ 22 rfl w.heap.size 5 i0 1 Tryz.underlying22 hi _ 0 [] rfl hl0 rfl ?_)
    go_ret
    exact ⟨_, _, _, rfl, by simpa using hl0, below1 _ _⟩
  | some ad =>
    clear hnil h
    go_enter Tryz.func170, Tryz.ntmps170
    go_wp2_with (at_builtin; refine wpList_append_own _ rfl _ _ 22 rfl w.heap.size 5 i0 (.int .u8 0) 1 1 Tryz.underlying22 hi hz0 hz1 hz2 rfl (by decide) _ 0 [] rfl hl0 ad n c (xs.map (Value.int .u8)) rfl ?c6 HIN.out.flat (oneI xs) ?c3 ?c4 ?c5 ?_)
    case c6 => rw [List.length_map, HL.out]; omega
    case c3 => unfold maxLen; omega
    case c4 => omega
    case c5 => simp
    intro v' w1 hown hgrow _
    obtain ⟨a', c', rfl⟩ := owns_slice hown
    have HOWN := Lib.hid hown
    have HB := Lib.hid ((below1 w (.cells #[] 5)).grown hgrow (by simp) (fun j hj => by simp [Value.ownBlock] at hj; omega))
    clear hown hgrow hl0
    go_wp2
    go_ret
    exact ⟨_, _, _, rfl, by simpa using HOWN.out, HB.out⟩
end Go.Proofs.YtcaknhoaoodbfaaGreatDoor

/- slices.Clone at bytes. -/
namespace Go.Proofs.YtcaknhoaoodbfaaGreatDoor
open Go.ChangeShapes Go.WideShapes Go.ChangeAt Go.RowKit
set_option linter.unusedVariables false

theorem eqNilBT (w : World) : (binOp .eql 22 (.slice none 0 0) (.slice none 0 0)).run Tryz.prog w = .ok (.bool true) w := by kernel_rfl
theorem eqNilBF (x : Addr) (n c : Nat) (w : World) : (binOp .eql 22 (.slice (some x) n c) (.slice none 0 0)).run Tryz.prog w = .ok (.bool false) w := by kernel_rfl
set_option maxRecDepth 100000 in
set_option maxHeartbeats 1600000 in
theorem cloneB_any (a : Option Addr) (n c : Nat) (xs : List Int) (w : World) (hn : n ≤ 1048576) (hnil : a = none → c = 0) (h : InRow w a n c xs) :
    Calls Tryz.prog 212 #[.slice a n c] w (OwnsRes w 5 .u8 xs) := by
  obtain ⟨i0, hi, hz0, hz1, hz2⟩ := info_parts cpInfo
  have HL := Lib.hid h.len
  have HIN := Lib.hid (in_below h (below1 w (.cells #[] 5)))
  have hl0 : (w.alloc (.cells #[] 5)).ownsRow w.heap.size 5 1 (.slice (some ⟨w.heap.size, 0, none⟩) 0 0) 0 [] := by
    simpa using lit_owns w 5 .u8 [] 0 rfl (by decide)
  unfold OwnsRes
  cases a with
  | none =>
    obtain rfl : n = 0 := by
      rcases h.row with e | ⟨b5, o5, e5, _⟩
      · exact e
      · cases e5
    obtain rfl : c = 0 := hnil rfl
    obtain rfl : xs = [] := List.length_eq_zero_iff.1 HL.out
    have hq := eqNilBT
    clear hnil h HL HIN hl0
    go_enter Tryz.func212, Tryz.ntmps212
    go_wp2
    go_ret
    exact ⟨_, _, _, rfl, by simpa using World.ownsRow_nil _ _ _ _, Below.refl _ _⟩
  | some ad =>
    have hq := eqNilBF
    clear hnil h
    go_enter Tryz.func212, Tryz.ntmps212
    go_wp2_with (at_builtin; refine wpList_append_own _ rfl _ _ 22 rfl w.heap.size 5 i0 (.int .u8 0) 1 1 Tryz.underlying22 hi hz0 hz1 hz2 rfl (by decide) _ 0 [] rfl hl0 ad n c (xs.map (Value.int .u8)) rfl ?c6 HIN.out.flat (oneI xs) ?c3 ?c4 ?c5 ?_)
    case c6 => rw [List.length_map, HL.out]; omega
    case c3 => unfold maxLen; omega
    case c4 => omega
    case c5 => simp
    intro v' w1 hown hgrow _
    obtain ⟨a', c', rfl⟩ := owns_slice hown
    have HOWN := Lib.hid hown
    have HB := Lib.hid ((below1 w (.cells #[] 5)).grown hgrow (by simp) (fun j hj => by simp [Value.ownBlock] at hj; omega))
    clear hown hgrow hl0
    go_wp2
    go_ret
    exact ⟨_, _, _, rfl, by simpa using HOWN.out, HB.out⟩
end Go.Proofs.YtcaknhoaoodbfaaGreatDoor

/- The program's appendHighFirst, inBlocks. -/
namespace Go.Proofs.YtcaknhoaoodbfaaGreatDoor
open Go.ChangeShapes Go.WideShapes Go.ChangeAt Go.RowKit
set_option linter.unusedVariables false

theorem highs_get (n : Int) : ∀ (k i : Nat), i < k → (highs n k)[i]? = some (n / 2 ^ (8 * (k - 1 - i)) % 256)
  | 0, i, h => by omega
  | k + 1, 0, h => by simp [highs]
  | k + 1, i + 1, h => by
    simp only [highs, List.getElem?_cons_succ]
    rw [highs_get n k i (by omega)]
    congr 4
    omega
theorem highs_take (n : Int) (k i : Nat) (h : i < k) : (highs n k).take (i + 1) = (highs n k).take i ++ [n / 2 ^ (8 * (k - 1 - i)) % 256] := by
  rw [List.take_add_one, highs_get n k i h]
  rfl
/-- an own row with more behind it -/
def PutRes (w : World) (B : Nat) (v : Value) (xs : List Int) (e : Ending) (w' : World) : Prop :=
  ∃ a n c, e = .returned (.slice a n c) ∧ w'.ownsRow B 5 1 (.slice a n c) n (xs.map (Value.int .u8)) ∧ w.grownBy w' v.ownBlock
theorem one_u8 (W : World) (z : Int) : ∀ (j : Nat) (u : Value), [Value.int .u8 z][j]? = some u → (W.alloc (.cells #[.int .u8 z] 5)).cell? (Addr.add ⟨W.heap.size, 0, none⟩ j) = some u := by
  intro j u hj
  match j, hj with
  | 0, hj => simp at hj; subst hj; simp [Addr.add]
theorem grown_append {w wr w1 : World} {o : Obj} {v0 v : Value} {e : TypeId} {size n B : Nat} {xs : List Value} (h : w.grownBy wr v0.ownBlock) (ho : wr.ownsRow B e size v n xs) (hv : v.ownBlock = v0.ownBlock ∨ ∀ k, v.ownBlock = some k → w.heap.size ≤ k) (hg : (wr.alloc o).grownBy w1 v.ownBlock) : w.grownBy w1 v0.ownBlock :=
  ⟨hg.os.trans h.os, hg.tape.trans h.tape, hg.output.trans h.output, Nat.le_trans (Nat.le_trans h.size (by simp)) hg.size, fun i hi hne => by
    rw [hg.block i (by have := h.size; simp; omega) (fun e => by
      rcases hv with h1 | h1
      · exact hne (e.trans h1)
      · have := h1 i e.symm; omega), Below.heap_alloc wr o i (Nat.lt_of_lt_of_le hi h.size)]
    exact h.block i hi hne⟩

set_option maxRecDepth 100000 in
set_option maxHeartbeats 3200000 in
theorem appendHigh_any (B : Nat) (a : Option Addr) (m c : Nat) (L : List Int) (n : Int) (k : Nat) (w : World) (hk : k ≤ 8) (hn0 : 0 ≤ n) (hn1 : n ≤ 4611686018427387904) (hm : m ≤ 100000) (hB : B ≤ w.heap.size) (h : w.ownsRow B 5 1 (.slice a m c) m (L.map (Value.int .u8))) :
    Calls Tryz.prog 168 #[.slice a m c, .int .u64 n, .int .i64 k] w (PutRes w B (.slice a m c) (L ++ highs n k)) := by
  obtain ⟨i0, hi, hz0, hz1, hz2⟩ := info_parts cpInfo
  have HO0 := Lib.hid h
  unfold PutRes
  clear h
  go_enter Tryz.func168, Tryz.ntmps168
  go_wp2
  go_loopw [0, 9] (fun v i wr => ∃ (j : Nat) (a' : Option Addr) (m' c' : Nat), j ≤ k ∧ i = .int .i64 j ∧ v = .slice a' m' c' ∧ m' = m + j ∧ wr.ownsRow B 5 1 (.slice a' m' c') m' ((L ++ (highs n k).take j).map (Value.int .u8)) ∧ ((Value.slice a' m' c').ownBlock = (Value.slice a m c).ownBlock ∨ ∀ q, (Value.slice a' m' c').ownBlock = some q → w.heap.size ≤ q) ∧ w.grownBy wr (Value.slice a m c).ownBlock) (fun _ i _ => k - (intOf i).toNat)
  case atStart => exact ⟨0, a, m, c, Nat.zero_le _, rfl, rfl, rfl, by simpa using HO0.out, .inl rfl, World.grownBy.refl _ _⟩
  case round =>
    obtain ⟨j, a', m', c', hj, rfl, rfl, hm', ho, hv, hg⟩ := hrel
    have HO := Lib.hid ho
    have HV := Lib.hid hv
    have HG := Lib.hid hg
    have HM := Lib.hid hm'
    have hm2 : m' ≤ 100008 := by omega
    have hsz := hg.size
    clear ho hv hg hm'
    by_cases hlt : j < k
    · have HT := Lib.hid (highs_take n k j hlt)
      obtain ⟨s, hs⟩ : ∃ s, 8 * (k - 1 - j) = s := ⟨_, rfl⟩
      have e1 : 8 * ((k : Int) - 1 - (j : Int)) = (s : Int) := by omega
      have hs2 : (s : Int) ≤ 56 := by omega
      rw [hs] at HT
      clear hs
      go_wp2_with (at_builtin; refine wpList_append_own_at _ rfl _ _ 22 rfl B 5 i0 (.int .u8 0) 1 1 Tryz.underlying22 hi hz0 hz1 hz2 rfl (by decide) _ m' _ rfl (HO.out.alloc _) ⟨wr.heap.size, 0, none⟩ 1 1 [.int .u8 (n / 2 ^ s % 256)] rfl rfl (one_u8 wr _) (by simp [Value.oneCell']) (by unfold maxLen; omega) (by omega) (by simp; omega) ?_)
      intro v' w1 hown hgrow _ hblk
      obtain ⟨a2, c2, rfl⟩ := owns_slice hown
      have HO2 := Lib.hid hown
      have HG2 := Lib.hid (grown_append (v := .slice a' m' c') HG.out HO.out HV.out hgrow)
      have HV2 : Hid ((Value.slice a2 (m' + 1) c2).ownBlock = (Value.slice a m c).ownBlock ∨ ∀ q, (Value.slice a2 (m' + 1) c2).ownBlock = some q → w.heap.size ≤ q) := Lib.hid (by
        rcases hblk with h1 | h1
        · rcases HV.out with h2 | h2
          · exact .inl (h1.trans h2)
          · exact .inr (fun q hq => h2 q (h1.symm.trans hq))
        · refine .inr (fun q hq => ?_)
          rw [h1] at hq
          simp at hq
          omega)
      clear hown hgrow hblk
      go_wp2
      go_roundw
      case rel => exact ⟨j + 1, a2, m' + 1, c2, by omega, by go_num, rfl, by have := HM.out; omega, by rw [HT.out]; simpa using HO2.out, HV2.out, HG2.out⟩
      case measure => simp [intOf]; omega
    · obtain rfl : j = k := by omega
      have hall : (highs n j).take j = highs n j := List.take_of_length_le (by rw [highs_length]; exact Nat.le_refl _)
      have ho := HO.out
      rw [hall] at ho
      have HO3 := Lib.hid ho
      clear ho hall
      go_wp2
      go_ret
      exact ⟨a', m', c', rfl, HO3.out, HG.out⟩

theorem fill_not {n j : Nat} (h : j < fills n) : (n + 1 + j) % 64 ≠ 56 := by unfold fills at h; omega
theorem fill_is (n : Nat) : (n + 1 + fills n) % 64 = 56 := by unfold fills; omega
theorem fills_le (n : Nat) : fills n ≤ 63 := by unfold fills; omega
theorem rep_snoc (j : Nat) : List.replicate j (0 : Int) ++ [0] = List.replicate (j + 1) 0 := by rw [List.replicate_succ']

set_option maxRecDepth 100000 in
set_option maxHeartbeats 3200000 in
theorem inBlocks_any (a : Option Addr) (n c : Nat) (xs : List Int) (w : World) (hn : n ≤ 3000) (hnil : a = none → c = 0) (h : InRow w a n c xs) :
    Calls Tryz.prog 166 #[.slice a n c] w (OwnsRes w 5 .u8 (padL xs)) := by
  obtain ⟨i0, hi, hz0, hz1, hz2⟩ := info_parts cpInfo
  have K := Lib.hid (cloneB_any a n c xs w (by omega) hnil h)
  have HL := Lib.hid h.len
  unfold OwnsRes at K
  unfold OwnsRes padL
  have HF := Lib.hid (And.intro (fills_le n) (fill_is n))
  have HFN := Lib.hid (fun j hj => fill_not (n := n) (j := j) hj)
  clear hnil h
  go_enter Tryz.func166, Tryz.ntmps166
  go_wp2_with fail
  refine K.out.mono ?_
  rintro e w1 ⟨a1, n1, c1, rfl, ho1, hb1⟩
  have hn1 : n1 = n := (owns_length ho1).trans HL.out
  subst hn1
  have HO1 := Lib.hid ho1
  have HB1 := Lib.hid hb1
  have hz1' := hb1.size
  clear ho1 hb1
  go_wp2_with (at_builtin; refine wpList_append_own _ rfl _ _ 22 rfl w.heap.size 5 i0 (.int .u8 0) 1 1 Tryz.underlying22 hi hz0 hz1 hz2 rfl (by decide) _ n1 _ rfl (HO1.out.alloc _) ⟨w1.heap.size, 0, none⟩ 1 1 [.int .u8 128] rfl rfl (one_u8 w1 _) (by simp [Value.oneCell']) (by unfold maxLen; omega) (by omega) (by simp; omega) ?_)
  intro v' w2 hown hgrow _
  obtain ⟨a2, c2, rfl⟩ := owns_slice hown
  have HO2 := Lib.hid hown
  have HB2 := Lib.hid (below_appended HB1.out HO1.out hgrow)
  clear hown hgrow
  go_wp2
  go_loopw [3] (fun v wr => ∃ (j : Nat) (a' : Option Addr) (m' c' : Nat), j ≤ fills n1 ∧ v = .slice a' m' c' ∧ m' = n1 + 1 + j ∧ wr.ownsRow w.heap.size 5 1 (.slice a' m' c') m' ((xs ++ [128] ++ List.replicate j 0).map (Value.int .u8)) ∧ Below w.heap.size w wr) (fun v _ => match v with | .slice _ m _ => n1 + 1 + fills n1 - m | _ => 0)
  case atStart => exact ⟨0, a2, n1 + 1, c2, Nat.zero_le _, rfl, rfl, by simpa using HO2.out, HB2.out⟩
  case round =>
    clear HO2 HB2 HB1
    obtain ⟨j, a', m', c', hj, rfl, hm', ho, hb⟩ := hrel
    have HO := Lib.hid ho
    have HB := Lib.hid hb
    have hsz := hb.size
    have hf63 := HF.out.1
    clear ho hb
    by_cases hlt : j < fills n1
    · have hne := HFN.out j hlt
      rw [← hm'] at hne
      have hne2 : ((m' : Int).tmod 64 == 56) = false := by rw [beq_eq_false_iff_ne, Int.tmod_eq_emod_of_nonneg (by omega)]; omega
      have hne3 : ((m' : Int) % 64 == 56) = false := by rw [beq_eq_false_iff_ne]; omega
      have HM := Lib.hid hm'
      have hm2 : m' ≤ 4000 := by omega
      clear hm' hne
      go_wp2_with (at_builtin; refine wpList_append_own _ rfl _ _ 22 rfl w.heap.size 5 i0 (.int .u8 0) 1 1 Tryz.underlying22 hi hz0 hz1 hz2 rfl (by decide) _ m' _ rfl (HO.out.alloc _) ⟨wr.heap.size, 0, none⟩ 1 1 [.int .u8 0] rfl rfl (one_u8 wr _) (by simp [Value.oneCell']) (by unfold maxLen; omega) (by omega) (by simp; omega) ?_)
      intro v' w3 hown hgrow _
      obtain ⟨a3, c3, rfl⟩ := owns_slice hown
      have HO3 := Lib.hid hown
      have HB3 := Lib.hid (below_appended HB.out HO.out hgrow)
      clear hown hgrow
      go_wp2
      go_roundw
      case rel => exact ⟨j + 1, a3, m' + 1, c3, by omega, rfl, by have := HM.out; omega, by rw [← rep_snoc]; simpa using HO3.out, HB3.out⟩
      case measure => have := HM.out; simp; omega
    · obtain rfl : j = fills n1 := by omega
      have heq := HF.out.2
      rw [← hm'] at heq
      have hne2 : ((m' : Int).tmod 64 == 56) = true := by rw [beq_iff_eq, Int.tmod_eq_emod_of_nonneg (by omega)]; omega
      have hne3 : ((m' : Int) % 64 == 56) = true := by rw [beq_iff_eq]; omega
      have hm2 : m' ≤ 4000 := by omega
      have KA := Lib.hid (appendHigh_any w.heap.size a' m' c' _ (8 * (n1 : Int)) 8 wr (by omega) (by omega) (by omega) (by omega) hsz HO.out)
      unfold PutRes at KA
      rw [show ((8 : Nat) : Int) = 8 from rfl] at KA
      have HLN := Lib.hid (show (n1 : Int) = (xs.length : Int) by have := HL.out; omega)
      have HLN2 := Lib.hid (show n1 = xs.length by have := HL.out; omega)
      have HOWNB := Lib.hid (show ∀ q, (Value.slice a' m' c').ownBlock = some q → w.heap.size ≤ q from fun q hq => (HO.out.lt q hq).1)
      clear hm' heq
      go_wp2_with fail
      refine KA.out.mono ?_
      rintro e w3 ⟨a3, n3, c3, rfl, ho3, hg3⟩
      have HO3 := Lib.hid ho3
      have HB3 := Lib.hid (HB.out.grown hg3 hsz HOWNB.out)
      clear ho3 hg3
      go_wp2
      go_ret
      refine ⟨a3, n3, c3, rfl, ?_, HB3.out⟩
      have := HO3.out
      rw [HLN.out, HLN2.out] at this
      exact this
end Go.Proofs.YtcaknhoaoodbfaaGreatDoor
