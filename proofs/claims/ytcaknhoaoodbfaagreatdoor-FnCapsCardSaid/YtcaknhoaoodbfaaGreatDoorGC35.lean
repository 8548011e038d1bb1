/- The program's wordsOf. -/
import Derived.Test.YtcaknhoaoodbfaaGreatDoorGC34
import Derived.StillTailTactics
namespace Go.Proofs.YtcaknhoaoodbfaaGreatDoor
open Go.ChangeShapes Go.WideShapes Go.ChangeAt Go.RowKit
set_option linter.unusedVariables false

def wrd (bs : List Int) (i : Nat) : List Int := (List.range 80).map fun j => pw bs j (min 4 (i - 4 * j))
def wrd2 (bs : List Int) (t : Nat) : List Int := (List.range 80).map fun j => if j < t then wd bs j else 0
def z80 : List Int := List.replicate 80 0
theorem wrd_zero (bs : List Int) : z80 = wrd bs 0 := by
  unfold wrd z80
  apply List.ext_getElem?
  intro i
  rw [List.getElem?_replicate, List.getElem?_map]
  by_cases h : i < 80
  · rw [if_pos h, List.getElem?_range h]
    simp [pw]
  · rw [if_neg h, List.getElem?_eq_none (by simp; omega)]
    rfl
theorem zero80 (w : World) : (zeroValue 234).run Tryz.prog w = .ok (.agg (u32s z80)) w := by kernel_rfl
theorem wrd_step (bs : List Int) (i : Nat) (hi : i < 64) : (wrd bs i).set (i / 4) ((pw bs (i / 4) (i % 4) * 256 + bs.getD i 0) % 4294967296) = wrd bs (i + 1) := by
  unfold wrd
  rw [map_set_range]
  apply List.map_congr_left
  intro j hj
  by_cases e : j = i / 4
  · rw [if_pos e]
    have h1 : min 4 (i + 1 - 4 * j) = i % 4 + 1 := by omega
    rw [h1, e]
    show _ = (pw bs (i / 4) (i % 4) * 256 + bs.getD (4 * (i / 4) + i % 4) 0) % 4294967296
    rw [show 4 * (i / 4) + i % 4 = i by omega]
  · rw [if_neg e]
    congr 1
    omega
theorem wrd_get (bs : List Int) (i : Nat) (hi : i < 64) : (wrd bs i).getD (i / 4) 0 = pw bs (i / 4) (i % 4) := by
  unfold wrd
  rw [range_getD _ _ _ (by omega)]
  congr 1
  omega
theorem wrd_end (bs : List Int) : wrd bs 64 = wrd2 bs 16 := by
  unfold wrd wrd2
  apply List.map_congr_left
  intro j hj
  by_cases h : j < 16
  · rw [if_pos h, wd_low _ _ h]
    congr 1
    omega
  · rw [if_neg h, show min 4 (64 - 4 * j) = 0 by omega]
    rfl
theorem wrd2_step (bs : List Int) (t : Nat) (ht : t < 80) : (wrd2 bs t).set t (wd bs t) = wrd2 bs (t + 1) := by
  unfold wrd2
  rw [map_set_range]
  apply List.map_congr_left
  intro j hj
  by_cases e : j = t
  · rw [if_pos e, e, if_pos (by omega)]
  · rw [if_neg e]
    by_cases h : j < t
    · rw [if_pos h, if_pos (by omega)]
    · rw [if_neg h, if_neg (by omega)]
theorem wrd2_get (bs : List Int) (t i : Nat) (hi : i < t) (ht : t ≤ 80) : (wrd2 bs t).getD i 0 = wd bs i := by
  unfold wrd2
  rw [range_getD _ _ _ (by omega), if_pos hi]
theorem wrd2_end (bs : List Int) : wrd2 bs 80 = sched bs 80 := by
  rw [sched_map]
  unfold wrd2
  apply List.map_congr_left
  intro j hj
  rw [if_pos (List.mem_range.1 hj)]
theorem wrd_length (bs : List Int) (i : Nat) : (wrd bs i).length = 80 := by simp [wrd]
theorem wrd2_length (bs : List Int) (i : Nat) : (wrd2 bs i).length = 80 := by simp [wrd2]

set_option maxRecDepth 100000 in
set_option maxHeartbeats 6400000 in
theorem wordsOf_any (b o c : Nat) (bs : List Int) (w : World) (hl : bs.length = 64) (hby : ∀ i, 0 ≤ bs.getD i 0 ∧ bs.getD i 0 ≤ 255) (hlt : b < w.heap.size) (hx : ∀ i, i < 64 → w.cell? ⟨b, o + i, none⟩ = some (.int .u8 (bs.getD i 0))) :
    Calls Tryz.prog 213 #[.slice (some ⟨b, o, none⟩) 64 c] w fun e w' => e = .returned (.agg (u32s (sched bs 80))) ∧ Below w.heap.size w w' := by
  have HX := Lib.hid hx
  have HBY := Lib.hid hby
  clear hx hby
  have hz0 := zero80
  go_enter Tryz.func213, Tryz.ntmps213
  go_wp2
  have hA0 : ArrU ((w.alloc (.cells (u32s z80) 234)).alloc (.cells (u32s z80) 234)) (w.heap.size + 1) 234 (wrd bs 0) := by
    rw [← wrd_zero]
    have := ArrU.new (w.alloc (.cells (u32s z80) 234)) 234 z80
    simpa using this
  have hR0 : ArrU ((w.alloc (.cells (u32s z80) 234)).alloc (.cells (u32s z80) 234)) w.heap.size 234 z80 := (ArrU.new w 234 z80).below (below1 _ _)
  go_loopw [9] (fun i wr => ∃ k : Nat, k ≤ 64 ∧ i = .int .i64 k ∧ ArrU wr (w.heap.size + 1) 234 (wrd bs k) ∧ ArrU wr w.heap.size 234 z80 ∧ Below w.heap.size w wr) (fun i _ => 64 - (intOf i).toNat)
  case atStart => exact ⟨0, Nat.zero_le _, rfl, hA0, hR0, below2 _ _ _⟩
  case round =>
    obtain ⟨k, hk, rfl, hA, hR, hB⟩ := hrel
    have HA := Lib.hid hA
    have HR := Lib.hid hR
    have HB := Lib.hid hB
    clear hA hR hB hA0 hR0
    by_cases hlk : k < 64
    · have d0 := (HB.out.cell (p := ⟨b, o + k, none⟩) hlt).trans (HX.out k hlk)
      have hy := HBY.out k
      have d1 := HA.out.cell (i := k / 4) (by rw [wrd_length]; omega)
      have f1 := HA.out.free (k / 4)
      rw [wrd_get bs k hlk] at d1
      have hp := pw_in bs (k / 4) (k % 4)
      have HS := Lib.hid (wrd_step bs k hlk)
      generalize bs.getD k 0 = y at d0 hy HS
      generalize pw bs (k / 4) (k % 4) = x at d1 hp HS
      obtain ⟨x0, x1⟩ := hp
      have HO := Lib.hid (or_bytes x y x0 x1 hy.1 hy.2)
      have k2 : ((k : Int) / 4).toNat = k / 4 := by omega
      have k3 : 0 ≤ (k : Int) / 4 := by omega
      have k4 : (k : Int) / 4 < 80 := by omega
      go_wp2
      go_roundw
      case rel =>
        refine ⟨k + 1, by omega, by go_num, ?_, HR.out.other _ _ (by simp), HB.out.setCell (by simp) _⟩
        rw [HO.out, ← HS.out]
        exact HA.out.set _ _
      case measure => simp [intOf]; omega
    · obtain rfl : k = 64 := by omega
      have HA16 := HA.out
      rw [wrd_end] at HA16
      have HA2 := Lib.hid HA16
      clear HA16 HA
      simp only [show ((64 : Nat) : Int) = 64 from rfl]
      go_wp2
      go_loopw [6] (fun i wr => ∃ k : Nat, 16 ≤ k ∧ k ≤ 80 ∧ i = .int .i64 k ∧ ArrU wr (w.heap.size + 1) 234 (wrd2 bs k) ∧ ArrU wr w.heap.size 234 z80 ∧ Below w.heap.size w wr) (fun i _ => 80 - (intOf i).toNat)
      case atStart => exact ⟨16, Nat.le_refl _, by omega, rfl, HA2.out, HR.out, HB.out⟩
      case round =>
        clear HA2 HR HB
        obtain ⟨k, hk0, hk, rfl, hA, hR, hB⟩ := hrel
        have HA := Lib.hid hA
        have HR := Lib.hid hR
        have HB := Lib.hid hB
        clear hA hR hB
        by_cases hlk : k < 80
        · have d3 := HA.out.cell (i := k - 3) (by rw [wrd2_length]; omega)
          have d8 := HA.out.cell (i := k - 8) (by rw [wrd2_length]; omega)
          have d14 := HA.out.cell (i := k - 14) (by rw [wrd2_length]; omega)
          have d16 := HA.out.cell (i := k - 16) (by rw [wrd2_length]; omega)
          have d0 := HA.out.cell (i := k) (by rw [wrd2_length]; omega)
          have f0 := HA.out.free k
          rw [wrd2_get _ _ _ (by omega) hk] at d3 d8 d14 d16
          have HS := Lib.hid (wrd2_step bs k hlk)
          have HW := Lib.hid (wd_high bs k hk0)
          have K := Lib.hid (fun W => rot_any (bits .xor .u32 (bits .xor .u32 (bits .xor .u32 (wd bs (k - 3)) (wd bs (k - 8))) (wd bs (k - 14))) (wd bs (k - 16))) 1 (.inl rfl) (bits_in _ _ _) W)
          rw [← HW.out] at K
          have i3 := wd_in bs (k - 3)
          have i8 := wd_in bs (k - 8)
          have i14 := wd_in bs (k - 14)
          have i16 := wd_in bs (k - 16)
          clear HW
          generalize wd bs (k - 3) = x3 at *
          generalize wd bs (k - 8) = x8 at *
          generalize wd bs (k - 14) = x14 at *
          generalize wd bs (k - 16) = x16 at *
          generalize wd bs k = nw at *
          generalize (wrd2 bs k).getD k 0 = od at d0
          obtain ⟨i30, i31⟩ := i3
          obtain ⟨i80, i81⟩ := i8
          obtain ⟨i140, i141⟩ := i14
          obtain ⟨i160, i161⟩ := i16
          have e3 : ((k : Int) - 3).toNat = k - 3 := by omega
          have e8 : ((k : Int) - 8).toNat = k - 8 := by omega
          have e14 : ((k : Int) - 14).toNat = k - 14 := by omega
          have e16 : ((k : Int) - 16).toNat = k - 16 := by omega
          have q1 : (16 : Int) ≤ (k : Int) := by omega
          have q2 : (k : Int) < 80 := by omega
          have l3 : (3 : Int) ≤ (k : Int) := by omega
          have l8 : (8 : Int) ≤ (k : Int) := by omega
          have l14 : (14 : Int) ≤ (k : Int) := by omega
          have g3 : 0 ≤ (k : Int) - 3 ∧ (k : Int) - 3 < 80 := by omega
          have g8 : 0 ≤ (k : Int) - 8 ∧ (k : Int) - 8 < 80 := by omega
          have g14 : 0 ≤ (k : Int) - 14 ∧ (k : Int) - 14 < 80 := by omega
          have g16 : 0 ≤ (k : Int) - 16 ∧ (k : Int) - 16 < 80 := by omega
          have w3 : IntKind.i64.wrap ((k : Int) - 3) = (k : Int) - 3 := IntWalk.i64_in _ (by omega)
          have w8 : IntKind.i64.wrap ((k : Int) - 8) = (k : Int) - 8 := IntWalk.i64_in _ (by omega)
          have w14 : IntKind.i64.wrap ((k : Int) - 14) = (k : Int) - 14 := IntWalk.i64_in _ (by omega)
          have w16 : IntKind.i64.wrap ((k : Int) - 16) = (k : Int) - 16 := IntWalk.i64_in _ (by omega)
          go_wp2
          refine wp_region_still_tail 22 (by kernel_rfl) (by kernel_rfl) ?_
          simp only [List.take_succ_cons, List.take_zero, List.drop_succ_cons, List.drop_zero]
          repeat still_step
          still_call (K.out _)
          repeat still_step
          refine wpStill_nil ?_
          change wpList _ _ _ _ _ wr.drew
          go_wp2
          go_roundw
          case rel =>
            refine ⟨k + 1, by omega, by omega, by go_num, ?_, HR.out.drew.other _ _ (by simp), HB.out.drew.setCell (by simp) _⟩
            rw [← HS.out]
            exact HA.out.drew.set _ _
          case measure => simp [intOf]; omega
        · obtain rfl : k = 80 := by omega
          have z1 : (Tryz.prog.info? 234).map (·.size) = some (u32s (wrd2 bs 80)).size := by rw [u32s_size, wrd2_length]; kernel_rfl
          have z2 : (u32s z80).size = (u32s (wrd2 bs 80)).size := by rw [u32s_size, u32s_size, wrd2_length]; rfl
          have z3 : (u32s (wrd2 bs 80)).all (·.oneCell') = true := by simp [u32s, Value.oneCell']
          have HZ := Lib.hid (And.intro z1 (And.intro z2 z3))
          clear z1 z2 z3
          go_wp2_with (first
            | (refine wpList_load_row rfl _ _ rfl (w.heap.size + 1) rfl _ _ _ _ HA.out Tryz.underlying234 rfl HZ.out.1 ?_)
            | (refine wpList_store_row rfl _ _ _ rfl w.heap.size (u32s (wrd2 bs 80)) rfl rfl _ (u32s z80) HR.out HZ.out.1 HZ.out.2.1 HZ.out.2.2 ?_))
          rw [wrd2_end]
          refine bodyPost_ret (v := .agg (u32s (sched bs 80))) (results_cell_row rfl _ _ w.heap.size 234 _ (0, 0) _ rfl ?_ Tryz.underlying234 rfl ?_) rfl ⟨rfl, below_setRow HB.out (Nat.le_refl _) _⟩
          · have := setRow_heap wr w.heap.size (u32s z80) (u32s (wrd2 bs 80)) 234 (0, 0) HR.out
            rw [wrd2_end] at this
            exact this
          · rw [u32s_size, sched_length]; kernel_rfl
end Go.Proofs.YtcaknhoaoodbfaaGreatDoor
