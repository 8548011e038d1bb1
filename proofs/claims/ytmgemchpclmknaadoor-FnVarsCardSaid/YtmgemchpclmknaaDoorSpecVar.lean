/- Contracts of the model's l2Read and ReadVar. -/
import Derived.Test.YtmgemchpclmknaaDoorPutVar
import Derived.Test.YtmgemchpclmknaaDoorUtf
import Derived.Test.YtmgemchpclmknaaDoorSpecPts
import Derived.IntWalk
namespace Go.Proofs.YtmgemchpclmknaaDoor
open Go.ChangeShapes Go.WideShapes Go.ChangeAt Go.RowKit
set_option linter.unusedVariables false

theorem nums_test (xs ys : List Int) (hx : ∀ x ∈ xs, 0 ≤ x ∧ x < 256) (hy : ∀ x ∈ ys, 0 ≤ x ∧ x < 256) : ((strOfNums xs).toList == (strOfNums ys).toList) = decide (xs = ys) := by
  rw [ByteArray.toList_eq, ByteArray.toList_eq, strOfNums_data, strOfNums_data, Bool.eq_iff_iff, beq_iff_eq, decide_eq_true_iff]
  constructor
  · intro h
    have h2 := (ofNums_inj xs _ hx).1 h
    rw [(ofNums_inj ys _ hy).1 rfl, h2]
  · intro h; rw [h]
theorem getD_bytes {xs : List Int} (h : ∀ i, 0 ≤ xs.getD i 0 ∧ xs.getD i 0 ≤ 255) : ∀ x ∈ xs, 0 ≤ x ∧ x < 256 := by
  intro x hx
  obtain ⟨i, hi, rfl⟩ := List.mem_iff_getElem.1 hx
  have := h i
  rw [List.getD_eq_getElem?_getD, List.getElem?_eq_getElem hi] at this
  simp at this
  omega
theorem vval_drop (l : List Int) (q : Nat) (h : q < l.length) : vval (l.drop q) = l.getD q 0 % 128 + 128 * vval (l.drop (q + 1)) := by
  rw [List.drop_eq_getElem_cons h, List.getD_eq_getElem?_getD, List.getElem?_eq_getElem h]; rfl
theorem vval_drop_le (l : List Int) (q : Nat) (h : l.length ≤ 9) (hq : 1 ≤ q) : 0 ≤ vval (l.drop q) ∧ vval (l.drop q) ≤ 72057594037927935 := by
  refine ⟨vval_nonneg _, ?_⟩
  have h2 := vval_lt (l.drop q)
  have h4 : (128 : Nat) ^ (l.drop q).length ≤ 128 ^ 8 := Nat.pow_le_pow_right (by decide) (by simp; omega)
  have h5 : (128 : Nat) ^ 8 = 72057594037927936 := by decide
  have h6 : (128 : Int) ^ (l.drop q).length = ((128 ^ (l.drop q).length : Nat) : Int) := by simp
  omega

/-- what l2Read answers -/
def ReadRes (xs : List Int) (w : World) (e : Ending) (w' : World) : Prop :=
  e = .returned (.tuple #[.int .i64 (vreadN xs), .int .i64 (vreadK xs)]) ∧ Below w.heap.size w w'
theorem read_none {xs : List Int} (h : vreadOk xs = false) : vreadN xs = 0 ∧ vreadK xs = 0 := by unfold vreadN vreadK; simp [h]
theorem read_some {xs : List Int} {j : Nat} (hj : lead xs = j) (h : vreadOk xs = true) : vreadN xs = vval (xs.take (j + 1)) ∧ vreadK xs = j + 1 := by unfold vreadN vreadK; simp [h, hj]
theorem vread_short {xs : List Int} (h : xs.length = 0) : vreadOk xs = false := by unfold vreadOk; simp; omega

theorem l2Read_nil (w : World) : Calls Tryd.prog 79 #[.slice none 0 0] w (ReadRes [] w) := by
  go_enter Tryd.func79, Tryd.ntmps79
  go_wp2
  go_loop [4] (fun k => k = .int .i64 0) (fun _ => 0)
  case atStart => rfl
  case round =>
    obtain rfl := hrel
    go_wp2
    go_ret2
    exact ⟨rfl, Below.refl _ _⟩

set_option maxRecDepth 100000 in
set_option maxHeartbeats 3200000 in
theorem l2Read_at (b o c n : Nat) (xs : List Int) (w : World) (hn : n = xs.length) (hc : n ≤ c) (hm : c ≤ maxLen) (hlt : b < w.heap.size) (hx : ∀ i, i < n → w.cell? ⟨b, o + i, none⟩ = some (.int .u8 (xs.getD i 0)))
    (hby : ∀ i, 0 ≤ xs.getD i 0 ∧ xs.getD i 0 ≤ 255) :
    Calls Tryd.prog 79 #[.slice (some ⟨b, o, none⟩) n c] w (ReadRes xs w) := by
  have HX := Lib.hid hx
  have HY := Lib.hid hby
  have HN := Lib.hid hn
  clear hx hby hn
  unfold maxLen at hm
  go_enter Tryd.func79, Tryd.ntmps79
  go_wp2
  go_loop [4] (fun k => ∃ j : Nat, j ≤ n ∧ j ≤ 9 ∧ k = .int .i64 j ∧ Hid (∀ i, i < j → 128 ≤ xs.getD i 0)) (fun k => n - (intOf k).toNat)
  case atStart => exact ⟨0, Nat.zero_le _, by omega, rfl, Lib.hid (fun i hi => by omega)⟩
  case round =>
    obtain ⟨j, hj, h9, rfl, H128⟩ := hrel
    by_cases hjn : j < n
    · have hcj := HX.out j hjn
      have hbj := HY.out j
      by_cases hj9 : j < 9
      · by_cases hz : 128 ≤ xs.getD j 0
        · have H128' : Hid (∀ i, i < j + 1 → 128 ≤ xs.getD i 0) := Lib.hid (fun i hi => by
            by_cases h : i < j
            · exact H128.out i h
            · obtain rfl : i = j := by omega
              exact hz)
          generalize xs.getD j 0 = x at hcj hbj hz
          go_wp2
          go_round
          case rel => exact ⟨j + 1, by omega, by omega, by go_num, H128'⟩
          case measure => simp [intOf]; omega
        · have hz0 : xs.getD j 0 < 128 := by omega
          have hlead := lead_is xs j H128.out (by have := HN.out; omega) h9 (fun _ _ => hz0)
          have htl : (xs.take (j + 1)).length = j + 1 := by have := HN.out; simp; omega
          have HT := Lib.hid htl
          have htg : ∀ i, i < j + 1 → (xs.take (j + 1)).getD i 0 = xs.getD i 0 := fun i hi => by
            simp only [List.getD_eq_getElem?_getD, List.getElem?_take, hi, if_true]
          have HTG := Lib.hid htg
          have htb : ∀ i, 0 ≤ (xs.take (j + 1)).getD i 0 ∧ (xs.take (j + 1)).getD i 0 ≤ 255 := fun i => by
            by_cases hi : i < j + 1
            · rw [htg i hi]; exact HY.out i
            · rw [List.getD_eq_getElem?_getD, List.getElem?_eq_none (by rw [htl]; omega)]; simp
          have hput := vread_put xs (fun i _ => HY.out i) j (by have := HN.out; omega) H128.out hz0
          have htest := nums_test (vput (vval (xs.take (j + 1))).toNat) (xs.take (j + 1)) (fun x hx => by have := vput_bytes _ _ (Nat.le_refl _) x hx; omega) (getD_bytes htb)
          have hle9 := vval_le9 (xs.take (j + 1)) (by omega)
          have hge0 := vval_nonneg (xs.take (j + 1))
          have hall : vval ((xs.take (j + 1)).drop (j + 1)) = 0 := by rw [List.drop_of_length_le (by omega)]; rfl
          have hdl := fun q => vval_drop_le (xs.take (j + 1)) q (by omega)
          have hds := fun q (h : q < j + 1) => vval_drop (xs.take (j + 1)) q (by omega)
          have HLD := Lib.hid hlead
          have HP := Lib.hid hput
          have HB := Lib.hid hle9
          have HA := Lib.hid hall
          have HDL := Lib.hid hdl
          have HDS := Lib.hid hds
          have HZ := Lib.hid hz0
          have HRow : Hid (Row w .u8 (.slice (some ⟨b, o, none⟩) (j + 1) c) (xs.take (j + 1))) := Lib.hid (.inr ⟨b, o, c, by rw [htl], by rw [htl]; omega, by unfold maxLen; omega, hlt, fun i hi => by
            rw [htl] at hi
            rw [htg i hi]
            exact HX.out i (by omega)⟩)
          clear hlead htl htg htb hput hle9 hall hdl hds
          have hzz := hz
          clear hz hz0
          generalize hTT : xs.take (j + 1) = T at *
          have HTT := Lib.hid hTT
          clear hTT
          generalize hxj : xs.getD j 0 = x at hcj hbj hzz
          have HXJ := Lib.hid hxj
          clear hxj
          go_wp2
          go_loop [5, 6] (fun m i => ∃ q : Nat, q ≤ j + 1 ∧ ((∃ r : Nat, q = r + 1 ∧ i = .int .i64 r) ∨ (q = 0 ∧ i = .int .i64 (-1))) ∧ m = .int .i64 (vval (T.drop q))) (fun _ i => (intOf i + 1).toNat)
          case atStart => exact ⟨j + 1, Nat.le_refl _, .inl ⟨j, rfl, rfl⟩, by rw [HA.out]⟩
          case round =>
            obtain ⟨q, hq, hi, rfl⟩ := hrel
            rcases hi with ⟨r, rfl, rfl⟩ | ⟨rfl, rfl⟩
            · have hrj : r ≤ j := by omega
              have hcr := HX.out r (by omega)
              have hyr := HY.out r
              have hd1 := HDL.out (r + 1) (by omega)
              have hds := HDS.out r (by omega)
              rw [HTG.out r (by omega)] at hds
              generalize xs.getD r 0 = y at hcr hyr hds
              generalize vval (T.drop (r + 1)) = m at hd1 hds
              have HDS2 := Lib.hid hds
              clear hds
              go_wp2
              go_round
              case rel =>
                refine ⟨r, by omega, ?_, by rw [HDS2.out]; exact vint (by omega)⟩
                cases r with
                | zero => exact .inr ⟨rfl, vint (by omega)⟩
                | succ r' => exact .inl ⟨r', rfl, vint (by omega)⟩
              case measure => simp [intOf]
            · simp only [List.drop_zero]
              obtain ⟨N, hN⟩ : ∃ N : Nat, vval T = N := ⟨(vval T).toNat, by omega⟩
              have hN9 : N ≤ 9223372036854775807 := by have := HB.out; omega
              rw [hN] at htest hge0 ⊢
              rw [Int.toNat_natCast] at htest
              have HP2 := Lib.hid HP.out
              rw [hN, Int.toNat_natCast] at HP2
              have HNN := Lib.hid hN
              have KP := Lib.hid (l2Put_any N hN9)
              have hcv0 := conv_row (P := Tryd.prog) w.drew Tryd.underlying22 Tryd.underlying5 Tryd.underlying9 (HRow.out.drewN 1)
              clear hN hN9 hcj
              by_cases hq : j = 0 ∨ xs.getD j 0 ≠ 0
              · have hd : decide (vput N = T) = true := by rw [decide_eq_true_iff]; exact HP2.out.2 hq
                rw [hd] at htest
                have HOK : Hid (vreadOk xs = true) := Lib.hid (by unfold vreadOk; rw [decide_eq_true_iff, HLD.out]; exact ⟨by have := HN.out; omega, hj9, hq⟩)
                clear hd hq
                have hjc : (j : Int) + 1 ≤ (c : Int) := by omega
                go_wp2
                have k1 : IntKind.i64.wrap ((j : Int) + 1) = (j : Int) + 1 := IntWalk.i64_in _ (by omega)
                have k2 : 0 ≤ (j : Int) + 1 := by omega
                have k3 : ((j : Int) + 1).toNat = j + 1 := by omega
                go_region_with (go_at_call 72; refine (KP.out _).mono ?_; rintro e w2 ⟨a2, n2, c2, rfl, ho, hbl⟩; have hcv := conv_row (P := Tryd.prog) w2 Tryd.underlying22 Tryd.underlying5 Tryd.underlying9 (Row.of_owns ho); have hcv2 := conv_row (P := Tryd.prog) w2 Tryd.underlying22 Tryd.underlying5 Tryd.underlying9 (HRow.out.below (below_of_drew hbl)); clear ho)
                all_goals
                  clear k1 k2 k3
                  go_wp2
                  go_ret2
                  obtain ⟨e1, e2⟩ := read_some HLD.out HOK.out
                  rw [HTT.out, HNN.out] at e1
                  exact ⟨ret2 (int_eq (by rw [e1])) (int_eq (by rw [e2]; omega)), below_of_drew hbl⟩
              · have hd : decide (vput N = T) = false := by rw [decide_eq_false_iff_not]; exact fun h => hq (HP2.out.1 h)
                rw [hd] at htest
                have HOK : Hid (vreadOk xs = false) := Lib.hid (by unfold vreadOk; rw [decide_eq_false_iff_not, HLD.out]; exact fun h => hq h.2.2)
                clear hd hq
                have hjc : (j : Int) + 1 ≤ (c : Int) := by omega
                go_wp2
                have k1 : IntKind.i64.wrap ((j : Int) + 1) = (j : Int) + 1 := IntWalk.i64_in _ (by omega)
                have k2 : 0 ≤ (j : Int) + 1 := by omega
                have k3 : ((j : Int) + 1).toNat = j + 1 := by omega
                go_region_with (go_at_call 72; refine (KP.out _).mono ?_; rintro e w2 ⟨a2, n2, c2, rfl, ho, hbl⟩; have hcv := conv_row (P := Tryd.prog) w2 Tryd.underlying22 Tryd.underlying5 Tryd.underlying9 (Row.of_owns ho); have hcv2 := conv_row (P := Tryd.prog) w2 Tryd.underlying22 Tryd.underlying5 Tryd.underlying9 (HRow.out.below (below_of_drew hbl)); clear ho)
                all_goals
                  clear k1 k2 k3
                  go_wp2
                  go_ret2
                  obtain ⟨e1, e2⟩ := read_none HOK.out
                  exact ⟨ret2 (int_eq (by rw [e1])) (int_eq (by rw [e2]; rfl)), below_of_drew hbl⟩
      · have HL : Hid (vreadOk xs = false) := Lib.hid (by
          have := lead_is xs j H128.out (by have := HN.out; omega) h9 (fun _ h => absurd h hj9)
          unfold vreadOk; simp [this]; omega)
        clear hbj
        generalize xs.getD j 0 = x at hcj
        go_wp2
        go_ret2
        obtain ⟨e1, e2⟩ := read_none HL.out
        exact ⟨by rw [e1, e2]; rfl, Below.refl _ _⟩
    · have HL : Hid (vreadOk xs = false) := Lib.hid (by
        have hnn := HN.out
        have := lead_is xs j H128.out (by omega) h9 (fun h _ => by omega)
        unfold vreadOk; simp [this]; omega)
      go_wp2
      go_ret2
      obtain ⟨e1, e2⟩ := read_none HL.out
      exact ⟨by rw [e1, e2]; rfl, Below.refl _ _⟩

theorem l2Read_any (a : Option Addr) (n c : Nat) (xs : List Int) (w : World) (hn : n = xs.length) (h : Row w .u8 (.slice a n c) xs) (hby : ∀ i, 0 ≤ xs.getD i 0 ∧ xs.getD i 0 ≤ 255) :
    Calls Tryd.prog 79 #[.slice a n c] w (ReadRes xs w) := by
  rcases h with ⟨hv, h0⟩ | ⟨b, o, cap, hv, h1, h2, h3, h4⟩
  · simp only [Value.slice.injEq] at hv
    obtain ⟨rfl, rfl, rfl⟩ := hv
    subst h0
    exact l2Read_nil w
  · simp only [Value.slice.injEq] at hv
    obtain ⟨rfl, rfl, rfl⟩ := hv
    exact l2Read_at b o c xs.length xs w rfl h1 h2 h3 h4 hby

/-- a struct of three integers is handed back -/
def Res3 (w : World) (x y z : Int) (e : Ending) (w' : World) : Prop :=
  e = .returned (.agg #[.int .i64 x, .int .i64 y, .int .i64 z]) ∧ Below w.heap.size w w'
def vcode (xs : List Int) : Int := if vreadOk xs then 0 else 5

set_option maxHeartbeats 800000 in
theorem specReadVar_any (a : Option Addr) (n c : Nat) (xs : List Int) (w : World) (hn : n = xs.length) (h : Row w .u8 (.slice a n c) xs) (hby : ∀ i, 0 ≤ xs.getD i 0 ∧ xs.getD i 0 ≤ 255) :
    Calls Tryd.prog 37 #[.slice a n c] w (Res3 w (vcode xs) (vreadN xs) (vreadK xs)) := by
  have K := Lib.hid (fun (W : World) (hW : Below w.heap.size w W) => l2Read_any a n c xs W hn (h.below hW) hby)
  unfold ReadRes at K
  clear hn h hby
  cases hk : vreadOk xs
  · obtain ⟨e1, e2⟩ := read_none hk
    have e3 : vcode xs = 5 := by unfold vcode; rw [hk]; rfl
    rw [e1, e2] at K ⊢
    rw [e3]
    clear e1 e2 e3 hk
    go_enter Tryd.func37, Tryd.ntmps37
    go_wp2_with fail
    refine (K.out _ (below1 _ _)).mono ?_
    rintro e w1 ⟨rfl, hb⟩
    obtain ⟨hc, hf⟩ := bcell hb
    have hz := hb.size
    simp at hz
    go_wp2
    exact bodyPost_ret (v := .agg #[.int .i64 5, .int .i64 0, .int .i64 0]) (by simp [results, Tryd.results37, go_sem, hc]) rfl
      ⟨rfl, ((((below1 w _).trans (hb.mono (by simp))).setCell (by simp) _).setCell (by simp) _).setCell (by simp) _⟩
  · have e2 : vreadK xs = lead xs + 1 := by unfold vreadK; rw [hk]; rfl
    have e3 : vcode xs = 0 := by unfold vcode; rw [hk]; rfl
    rw [e3]
    have hp : ((vreadK xs : Int) == 0) = false := by rw [e2, beq_eq_false_iff_ne]; omega
    generalize vreadK xs = k at *
    generalize vreadN xs = v at *
    clear e2 e3 hk
    go_enter Tryd.func37, Tryd.ntmps37
    go_wp2_with fail
    refine (K.out _ (below1 _ _)).mono ?_
    rintro e w1 ⟨rfl, hb⟩
    obtain ⟨hc, hf⟩ := bcell hb
    have hz := hb.size
    simp at hz
    go_wp2
    exact bodyPost_ret (v := .agg #[.int .i64 0, .int .i64 v, .int .i64 k]) (by simp [results, Tryd.results37, go_sem, hc]) rfl
      ⟨rfl, ((((below1 w _).trans (hb.mono (by simp))).setCell (by simp) _).setCell (by simp) _).setCell (by simp) _⟩
end Go.Proofs.YtmgemchpclmknaaDoor
