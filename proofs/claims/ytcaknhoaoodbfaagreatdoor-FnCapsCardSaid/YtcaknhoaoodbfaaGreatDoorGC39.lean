/- The model's l9Block. -/
import Derived.Test.YtcaknhoaoodbfaaGreatDoorGC35
import Derived.Test.YtcaknhoaoodbfaaGreatDoorGC36
import Derived.Test.YtcaknhoaoodbfaaGreatDoorGC38
import Derived.Test.YtcaknhoaoodbfaaGreatDoorGC13
namespace Go.Proofs.YtcaknhoaoodbfaaGreatDoor
open Go.ChangeShapes Go.WideShapes Go.ChangeAt Go.RowKit
set_option linter.unusedVariables false

theorem u32Info : (Tryz.prog.info? 187).map (fun i => (i.zero, i.size, i.bytes)) = some (some (.int .u32 0), 1, 4) := by kernel_rfl
/-- a row of its own that is full is known whole -/
theorem ArrU.of_owns {w : World} {B : Nat} {e : TypeId} {g n : Nat} {xs : List Int} (h : w.ownsRow B e 1 (.slice (some ⟨g, 0, none⟩) n n) n (xs.map (Value.int .u32))) : ArrU w g e xs := by
  rcases h.2 with ⟨hv, _⟩ | ⟨g', cap, cur, hv, _, hh, _, _, hs, ht⟩
  · cases hv
  · simp only [Value.slice.injEq, Option.some.injEq, Addr.mk.injEq, and_true] at hv
    obtain ⟨rfl, _, rfl⟩ := hv
    rw [List.take_of_length_le (by simp [hs])] at ht
    unfold ArrU u32s
    rw [hh, ← ht]
/-- five words that can be read -/
structure RowU (w : World) (g : Nat) (s : St5) : Prop where
  lt : g < w.heap.size
  c0 : w.cell? ⟨g, 0, none⟩ = some (.int .u32 s.a)
  c1 : w.cell? ⟨g, 1, none⟩ = some (.int .u32 s.b)
  c2 : w.cell? ⟨g, 2, none⟩ = some (.int .u32 s.c)
  c3 : w.cell? ⟨g, 3, none⟩ = some (.int .u32 s.d)
  c4 : w.cell? ⟨g, 4, none⟩ = some (.int .u32 s.e)
theorem RowU.below {w w' : World} {g : Nat} {s : St5} (h : RowU w g s) (hb : Below w.heap.size w w') : RowU w' g s :=
  ⟨Nat.lt_of_lt_of_le h.lt hb.size, (hb.cell (by exact h.lt)).trans h.c0, (hb.cell (by exact h.lt)).trans h.c1, (hb.cell (by exact h.lt)).trans h.c2, (hb.cell (by exact h.lt)).trans h.c3, (hb.cell (by exact h.lt)).trans h.c4⟩
theorem RowU.drewN {w : World} {g : Nat} {s : St5} (h : RowU w g s) (n : Nat) : RowU (w.drewN n) g s := ⟨h.lt, h.c0, h.c1, h.c2, h.c3, h.c4⟩
theorem RowU.other {w : World} {g : Nat} {s : St5} (h : RowU w g s) (p : Addr) (v : Value) (hn : p.block ≠ g) : RowU (w.setCell p v) g s := by
  have c : ∀ o, (w.setCell p v).cell? ⟨g, o, none⟩ = w.cell? ⟨g, o, none⟩ := fun o => World.cell?_setCell_other _ _ _ _ (fun e => hn (by rw [e]))
  exact ⟨by simpa using h.lt, (c 0).trans h.c0, (c 1).trans h.c1, (c 2).trans h.c2, (c 3).trans h.c3, (c 4).trans h.c4⟩
theorem RowU.get {w : World} {g : Nat} {s : St5} (h : RowU w g s) (k : Nat) (hk : k < 5) : w.cell? ⟨g, k, none⟩ = some (.int .u32 (s.list.getD k 0)) := by
  match k, hk with
  | 0, _ => exact h.c0
  | 1, _ => exact h.c1
  | 2, _ => exact h.c2
  | 3, _ => exact h.c3
  | 4, _ => exact h.c4
theorem RowU.of_owns {w : World} {B : Nat} {e : TypeId} {a : Option Addr} {c : Nat} {s : St5} (h : w.ownsRow B e 1 (.slice a 5 c) 5 (s.list.map (Value.int .u32))) : ∃ g, a = some ⟨g, 0, none⟩ ∧ B ≤ g ∧ RowU w g s := by
  rcases h.2 with ⟨_, h0⟩ | ⟨g, cap, cur, hv, hg, hh, hnc, hm, hs, ht⟩
  · cases h0
  · simp only [Value.slice.injEq] at hv
    obtain ⟨rfl, _, rfl⟩ := hv
    exact ⟨g, rfl, hg, (h.lt g rfl).2, h.cellAt 0 (by decide), h.cellAt 1 (by decide), h.cellAt 2 (by decide), h.cellAt 3 (by decide), h.cellAt 4 (by decide)⟩
theorem step_sumS (r f e k w : Int) : IntKind.u32.wrap (IntKind.u32.wrap (IntKind.u32.wrap (IntKind.u32.wrap (r + f) + e) + k) + w) = (r + f + e + k + w) % 4294967296 := by
  simp only [IntKind.wrap_u32']
  omega
theorem made80 : (madeCells #[Value.int .u32 0] 80).toList = z80.map (Value.int .u32) := by
  rw [toList_madeCells_one]
  simp [z80]
theorem wrd_at (bs : List Int) (i k : Nat) (hi : i < 16) (hk : k < 4) : (wrd bs (4 * i + k)).getD i 0 = pw bs i k := by
  have h := wrd_get bs (4 * i + k) (by omega)
  rwa [show (4 * i + k) / 4 = i by omega, show (4 * i + k) % 4 = k by omega] at h
theorem wrd_put (bs : List Int) (i k : Nat) (hi : i < 16) (hk : k < 4) : (wrd bs (4 * i + k)).set i ((pw bs i k * 256 + bs.getD (4 * i + k) 0) % 4294967296) = wrd bs (4 * i + (k + 1)) := by
  have h := wrd_step bs (4 * i + k) (by omega)
  rwa [show (4 * i + k) / 4 = i by omega, show (4 * i + k) % 4 = k by omega] at h

theorem mixK_in (k : Nat) : 0 ≤ mixK k ∧ mixK k ≤ 4294967295 := by
  unfold mixK
  split
  · decide
  · split
    · decide
    · split <;> decide

def BlockRes (w : World) (hb : Nat) (s : St5) (e : Ending) (w' : World) : Prop := e = .returned (.tuple #[]) ∧ ArrU w' hb 187 s.list ∧ Only (fun i => i = hb) w w'

set_option maxRecDepth 100000 in
set_option maxHeartbeats 6400000 in
theorem l9Block_any (hb b o c : Nat) (bs : List Int) (s : St5) (hs : s.In) (w : World) (hl : bs.length = 64) (hby : ∀ i, 0 ≤ bs.getD i 0 ∧ bs.getD i 0 ≤ 255) (hlt : b < w.heap.size) (hx : ∀ i, i < 64 → w.cell? ⟨b, o + i, none⟩ = some (.int .u8 (bs.getD i 0))) (hA : ArrU w hb 187 s.list) :
    Calls Tryz.prog 173 #[.slice (some ⟨hb, 0, none⟩) 5 5, .slice (some ⟨b, o, none⟩) 64 c] w (BlockRes w hb (withB s bs)) := by
  obtain ⟨i0, hi, hz0, hz1, hz2⟩ := info_parts u32Info
  have HX := Lib.hid hx
  have HBY := Lib.hid hby
  have HA := Lib.hid hA
  have HIN := Lib.hid hs
  have hhb := hA.lt
  unfold BlockRes
  clear hx hby hA hs
  go_enter Tryz.func173, Tryz.ntmps173
  go_wp2_with (at_make; refine wpList_make_full _ rfl _ _ 194 rfl w.heap.size 187 i0 (.int .u32 0) 1 Tryz.underlying194 hi hz0 hz1 .i64 .i64 80 80 80 rfl rfl rfl rfl ?c1 ?c2 ?c3 ?_)
  case c1 => rw [hz2]; decide
  case c2 => decide
  case c3 => exact Nat.le_refl _
  intro w1 ho1 hg1
  rw [made80] at ho1
  have HW := Lib.hid (ArrU.of_owns ho1)
  have HB1 := Lib.hid (show Below w.heap.size w w1 from ⟨hg1.os, hg1.tape, hg1.output, hg1.size, fun i hi => hg1.block i hi (by simp)⟩)
  clear ho1 hg1
  go_wp2
  go_loopw [5] (fun i wr => ∃ k : Nat, k ≤ 16 ∧ i = .int .i64 k ∧ ArrU wr w.heap.size 187 (wrd bs (4 * k)) ∧ Below w.heap.size w wr) (fun i _ => 16 - (intOf i).toNat)
  case atStart => exact ⟨0, Nat.zero_le _, rfl, by rw [show wrd bs (4 * 0) = z80 from (wrd_zero bs).symm]; exact HW.out, HB1.out⟩
  case round =>
    clear HW HB1
    obtain ⟨k, hk, rfl, hW, hB⟩ := hrel
    have HW := Lib.hid hW
    have HB := Lib.hid hB
    clear hW hB
    by_cases hlk : k < 16
    · have hk16 : decide ((k : Int) < 16) = true := by simpa using (show (k : Int) < 16 by omega)
      go_wp2
      go_loopw [6] (fun j wr => ∃ m : Nat, m ≤ 4 ∧ j = .int .i64 m ∧ ArrU wr w.heap.size 187 (wrd bs (4 * k + m)) ∧ Below w.heap.size w wr) (fun j _ => 4 - (intOf j).toNat)
      case atStart => exact ⟨0, Nat.zero_le _, rfl, HW.out, HB.out⟩
      case round =>
        clear HW HB
        obtain ⟨m, hm, rfl, hW, hB⟩ := hrel
        have HW := Lib.hid hW
        have HB := Lib.hid hB
        clear hW hB
        by_cases hlm : m < 4
        · have d0 := (HB.out.cell (p := ⟨b, o + (4 * k + m), none⟩) hlt).trans (HX.out (4 * k + m) (by omega))
          have hy := HBY.out (4 * k + m)
          have d1 := HW.out.cell (i := k) (by rw [wrd_length]; omega)
          have f1 := HW.out.free k
          rw [wrd_at bs k m hlk hlm] at d1
          have hp := pw_in bs k m
          have HS := Lib.hid (wrd_put bs k m hlk hlm)
          generalize bs.getD (4 * k + m) 0 = y at d0 hy HS
          generalize pw bs k m = x at d1 hp HS
          obtain ⟨x0, x1⟩ := hp
          obtain ⟨y0, y1⟩ := hy
          have w1' : IntKind.u32.wrap (x * 256) = x * 256 % 4294967296 := IntKind.wrap_u32' _
          have w2' : IntKind.u32.wrap (x * 256 % 4294967296 + y) = (x * 256 + y) % 4294967296 := by rw [IntKind.wrap_u32']; omega
          have w5' : IntKind.u32.wrap y = y := by rw [IntKind.wrap_u32']; omega
          have w3' : IntKind.i64.wrap (4 * (k : Int)) = 4 * (k : Int) := IntWalk.i64_in _ (by omega)
          have w4' : IntKind.i64.wrap (4 * (k : Int) + (m : Int)) = 4 * (k : Int) + (m : Int) := IntWalk.i64_in _ (by omega)
          have e1 : (4 * (k : Int) + (m : Int)).toNat = 4 * k + m := by omega
          have q0 : 0 ≤ 4 * (k : Int) + (m : Int) := by omega
          have q1 : 4 * (k : Int) + (m : Int) < 64 := by omega
          have q2 : (k : Int) < 80 := by omega
          go_wp2
          refine wp_region_still_tail 17 (by kernel_rfl) (by kernel_rfl) ?_
          simp only [List.take_succ_cons, List.take_zero, List.drop_succ_cons, List.drop_zero]
          repeat still_step
          refine wpStill_nil ?_
          change wpList _ _ _ _ _ wr.drew
          go_wp2
          go_roundw
          case rel =>
            refine ⟨m + 1, by omega, by go_num, ?_, HB.out.drew.setCell (by simp) _⟩
            rw [← HS.out]
            exact HW.out.drew.set _ _
          case measure => simp [intOf]; omega
        · obtain rfl : m = 4 := by omega
          go_wp2
          go_roundw
          case rel => exact ⟨k + 1, by omega, by go_num, by rw [show 4 * (k + 1) = 4 * k + 4 by omega]; exact HW.out, HB.out⟩
          case measure => simp [intOf]; omega
    · obtain rfl : k = 16 := by omega
      simp only [show ((16 : Nat) : Int) = 16 from rfl]
      have hW16 := HW.out
      rw [show wrd bs (4 * 16) = wrd2 bs 16 from wrd_end bs] at hW16
      have HW2 := Lib.hid hW16
      clear hW16 HW
      go_wp2
      go_loopw [7] (fun i wr => ∃ k : Nat, 16 ≤ k ∧ k ≤ 80 ∧ i = .int .i64 k ∧ ArrU wr w.heap.size 187 (wrd2 bs k) ∧ Below w.heap.size w wr) (fun i _ => 80 - (intOf i).toNat)
      case atStart => exact ⟨16, Nat.le_refl _, by omega, rfl, HW2.out, HB.out⟩
      case round =>
        clear HW2 HB
        obtain ⟨k, hk0, hk, rfl, hW, hB⟩ := hrel
        have HW := Lib.hid hW
        have HB := Lib.hid hB
        clear hW hB
        by_cases hlk : k < 80
        · have d3 := HW.out.cell (i := k - 3) (by rw [wrd2_length]; omega)
          have d8 := HW.out.cell (i := k - 8) (by rw [wrd2_length]; omega)
          have d14 := HW.out.cell (i := k - 14) (by rw [wrd2_length]; omega)
          have d16 := HW.out.cell (i := k - 16) (by rw [wrd2_length]; omega)
          have d0 := HW.out.cell (i := k) (by rw [wrd2_length]; omega)
          have f0 := HW.out.free k
          rw [wrd2_get _ _ _ (by omega) hk] at d3 d8 d14 d16
          have HS := Lib.hid (wrd2_step bs k hlk)
          have HWD := Lib.hid (wd_high bs k hk0)
          have K := Lib.hid (fun W => l9Turn_any (bits .xor .u32 (bits .xor .u32 (bits .xor .u32 (wd bs (k - 3)) (wd bs (k - 8))) (wd bs (k - 14))) (wd bs (k - 16))) 1 (.inl rfl) (bits_in _ _ _) W)
          rw [← HWD.out] at K
          have i3 := wd_in bs (k - 3)
          have i8 := wd_in bs (k - 8)
          have i14 := wd_in bs (k - 14)
          have i16 := wd_in bs (k - 16)
          clear HWD
          generalize wd bs (k - 3) = x3 at *
          generalize wd bs (k - 8) = x8 at *
          generalize wd bs (k - 14) = x14 at *
          generalize wd bs (k - 16) = x16 at *
          generalize wd bs k = nw at *
          generalize (wrd2 bs k).getD k 0 = od at d0
          obtain ⟨i30, i31⟩ := i3
          obtain ⟨i80, i81⟩ := i8
          obtain ⟨i140, i141⟩ := i14
          obtain ⟨i160, i161⟩ := i16
          have e3 : ((k : Int) - 3).toNat = k - 3 := by omega
          have e8 : ((k : Int) - 8).toNat = k - 8 := by omega
          have e14 : ((k : Int) - 14).toNat = k - 14 := by omega
          have e16 : ((k : Int) - 16).toNat = k - 16 := by omega
          have q1 : (16 : Int) ≤ (k : Int) := by omega
          have q2 : (k : Int) < 80 := by omega
          have l3 : (3 : Int) ≤ (k : Int) := by omega
          have l8 : (8 : Int) ≤ (k : Int) := by omega
          have l14 : (14 : Int) ≤ (k : Int) := by omega
          have g3 : 0 ≤ (k : Int) - 3 ∧ (k : Int) - 3 < 80 := by omega
          have g8 : 0 ≤ (k : Int) - 8 ∧ (k : Int) - 8 < 80 := by omega
          have g14 : 0 ≤ (k : Int) - 14 ∧ (k : Int) - 14 < 80 := by omega
          have g16 : 0 ≤ (k : Int) - 16 ∧ (k : Int) - 16 < 80 := by omega
          have w3 : IntKind.i64.wrap ((k : Int) - 3) = (k : Int) - 3 := IntWalk.i64_in _ (by omega)
          have w8 : IntKind.i64.wrap ((k : Int) - 8) = (k : Int) - 8 := IntWalk.i64_in _ (by omega)
          have w14 : IntKind.i64.wrap ((k : Int) - 14) = (k : Int) - 14 := IntWalk.i64_in _ (by omega)
          have w16 : IntKind.i64.wrap ((k : Int) - 16) = (k : Int) - 16 := IntWalk.i64_in _ (by omega)
          go_wp2
          refine wp_region_still_tail 27 (by kernel_rfl) (by kernel_rfl) ?_
          simp only [List.take_succ_cons, List.take_zero, List.drop_succ_cons, List.drop_zero]
          repeat still_step
          still_call (K.out _)
          repeat still_step
          refine wpStill_nil ?_
          change wpList _ _ _ _ _ wr.drew
          go_wp2
          go_roundw
          case rel =>
            refine ⟨k + 1, by omega, by omega, by go_num, ?_, HB.out.drew.setCell (by simp) _⟩
            rw [← HS.out]
            exact HW.out.drew.set _ _
          case measure => simp [intOf]; omega
        · obtain rfl : k = 80 := by omega
          simp only [show ((80 : Nat) : Int) = 80 from rfl]
          have A1 := HA.out.below HB.out
          have hfl : ∀ (j : Nat) (u : Value), (s.list.map (Value.int .u32))[j]? = some u → (wr.alloc (.cells #[] 187)).cell? (Addr.add ⟨hb, 0, none⟩ j) = some u := by
            intro j u hj
            have hj5 : j < 5 := by
              rcases Nat.lt_or_ge j 5 with h1 | h1
              · exact h1
              · rw [List.getElem?_eq_none (by simpa [St5.list] using h1)] at hj; cases hj
            have h1 := (A1.below (below1 wr (.cells #[] 187))).cell (i := j) (by simpa [St5.list] using hj5)
            rw [Addr.add_lit, Nat.zero_add, h1, ← hj, List.getElem?_map, List.getD_eq_getElem?_getD, List.getElem?_eq_getElem (by simpa [St5.list] using hj5)]
            rfl
          have hone : ∀ u ∈ s.list.map (Value.int .u32), u.oneCell' = true := by
            intro u hu
            obtain ⟨x, _, rfl⟩ := List.mem_map.1 hu
            rfl
          have hl0 : (wr.alloc (.cells #[] 187)).ownsRow w.heap.size 187 1 (.slice (some ⟨wr.heap.size, 0, none⟩) 0 0) 0 [] := by
            have := World.ownsRow_lit (base := w.heap.size) (e := 187) (size := 1) wr #[] 0 HB.out.size (by unfold maxLen; omega) rfl
            simpa using this
          have hsz := HB.out.size
          have HWE := Lib.hid (show ArrU wr w.heap.size 187 (sched bs 80) by rw [← wrd2_end]; exact HW.out)
          clear HW A1
          go_wp2_with (at_builtin; refine wpList_append_own _ rfl _ _ 194 rfl w.heap.size 187 i0 (.int .u32 0) 1 4 Tryz.underlying194 hi hz0 hz1 hz2 rfl (by decide) _ 0 [] rfl hl0 ⟨hb, 0, none⟩ 5 5 (s.list.map (Value.int .u32)) rfl rfl hfl hone (by unfold maxLen; omega) (by omega) (by simp; omega) ?_)
          intro v' w2 hown hgrow _
          obtain ⟨a2, c2, rfl⟩ := owns_slice hown
          obtain ⟨gv, rfl, hgv, hrv⟩ := RowU.of_owns (s := s) (by simpa using hown)
          have hb2 : Below wr.heap.size wr w2 := (below1 wr (.cells #[] 187)).grown hgrow (by simp) (fun j hj => by simp [Value.ownBlock] at hj; omega)
          have HRV := Lib.hid hrv
          have HW2 := Lib.hid (HWE.out.below hb2)
          have HB2 := Lib.hid (HB.out.trans (hb2.mono hsz))
          clear hown hgrow hrv hb2 hl0 hfl hone HWE
          go_wp2
          go_loopw [8, 9] (fun v i wr => ∃ (k g c' : Nat), k ≤ 80 ∧ i = .int .i64 k ∧ v = .slice (some ⟨g, 0, none⟩) 5 c' ∧ w.heap.size ≤ g ∧ RowU wr g (turns bs s k) ∧ ArrU wr w.heap.size 187 (sched bs 80) ∧ Below w.heap.size w wr) (fun _ i _ => 80 - (intOf i).toNat)
          case atStart => exact ⟨0, gv, c2, Nat.zero_le _, rfl, rfl, hgv, HRV.out, HW2.out, HB2.out⟩
          case round =>
            clear HRV HW2 HB2 hgv
            obtain ⟨k, g, c', hk, rfl, rfl, hg, hr, hW, hB⟩ := hrel
            have HRV := Lib.hid hr
            have HW := Lib.hid hW
            have HB := Lib.hid hB
            clear hr hW hB
            by_cases hlk : k < 80
            · have HST : Hid (turns bs s (k + 1) = stepT k (turns bs s k) (wd bs k)) := Lib.hid rfl
              have hci := turns_in bs HIN.out k
              generalize turns bs s k = cur at HRV HST hci
              have K5 := Lib.hid (fun W => l9Turn_any cur.a 5 (.inr (.inl rfl)) hci.1 W)
              have K30 := Lib.hid (fun W => l9Turn_any cur.b 30 (.inr (.inr rfl)) hci.2.1 W)
              have KM := Lib.hid (fun W => l9Mix_any k hlk cur.b cur.c cur.d hci.2.1 hci.2.2.1 hci.2.2.2.1 W)
              have HSU := Lib.hid (step_sumS (rotI cur.a 5) (mixF k cur.b cur.c cur.d) cur.e (mixK k) (wd bs k))
              have HNW : Hid (stepT k cur (wd bs k) = ⟨(rotI cur.a 5 + mixF k cur.b cur.c cur.d + cur.e + mixK k + wd bs k) % 4294967296, cur.a, rotI cur.b 30, cur.c, cur.d⟩) := Lib.hid rfl
              have hx5 := rotI_in cur.a 5
              have hx30 := rotI_in cur.b 30
              have hmf := mixF_in k cur.b cur.c cur.d
              generalize (rotI cur.a 5 + mixF k cur.b cur.c cur.d + cur.e + mixK k + wd bs k) % 4294967296 = nw at HSU HNW
              have hmk : 0 ≤ mixK k ∧ mixK k ≤ 4294967295 := mixK_in k
              generalize mixF k cur.b cur.c cur.d = mf at *
              generalize mixK k = mk at *
              generalize rotI cur.a 5 = ra at *
              generalize rotI cur.b 30 = rb at *
              have hwd := wd_in bs k
              have HDW := Lib.hid (sched_getD bs 80 k hlk)
              generalize wd bs k = wk at *
              obtain ⟨r0, r1⟩ := hx5
              obtain ⟨r2, r3⟩ := hx30
              obtain ⟨m0, m1⟩ := hmf
              obtain ⟨m2, m3⟩ := hmk
              obtain ⟨v0, v1⟩ := hwd
              obtain ⟨⟨a0, a1⟩, ⟨b0, b1⟩, ⟨c00, c01⟩, ⟨d0, d1⟩, ⟨e0, e1⟩⟩ := hci
              have q1 : (k : Int) < 80 := by omega
              have hk80 : decide ((k : Int) < 80) = true := by simpa using q1
              have c0 := HRV.out.c0
              have c1 := HRV.out.c1
              have c2 := HRV.out.c2
              have c3 := HRV.out.c3
              have c4 := HRV.out.c4
              go_wp2
              refine wp_region_still_lit (by kernel_rfl) (by kernel_rfl) ?_
              repeat still_step
              still_call (KM.out _)
              repeat still_step
              refine wpStill_nil ?_
              rw [show ({ wr with drawn := wr.drawn + 1 } : World) = wr.drew from rfl]
              have hr1 : RowU wr.drew g cur := HRV.out.drewN 1
              have hw1 : ArrU wr.drew w.heap.size 187 (sched bs 80) := HW.out.drew
              have hb1 : Below w.heap.size w wr.drew := HB.out.drew
              clear c0 c1 c2 c3 c4 HRV HW HB KM
              generalize wr.drew = W1 at hr1 hw1 hb1 ⊢
              have HRV := Lib.hid hr1
              have HW := Lib.hid hw1
              have HB := Lib.hid hb1
              have c0 := hr1.c0
              have c4 := hr1.c4
              have cw := hw1.cell (i := k) (by rw [sched_length]; exact hlk)
              rw [HDW.out] at cw
              clear hr1 hw1 hb1
              go_wp2
              refine wp_region_still_tail 17 (by kernel_rfl) (by kernel_rfl) ?_
              simp only [List.take_succ_cons, List.take_zero, List.drop_succ_cons, List.drop_zero]
              repeat still_step
              still_call (K5.out _)
              repeat still_step
              refine wpStill_nil ?_
              change wpList _ _ _ _ _ W1.drew
              have hr1 : RowU W1.drew g cur := HRV.out.drewN 1
              have hw1 : ArrU W1.drew w.heap.size 187 (sched bs 80) := HW.out.drew
              have hb1 : Below w.heap.size w W1.drew := HB.out.drew
              clear c0 c4 cw HRV HW HB K5
              generalize W1.drew = W2 at hr1 hw1 hb1 ⊢
              have HRV := Lib.hid hr1
              have HW := Lib.hid hw1
              have HB := Lib.hid hb1
              have c0 := hr1.c0
              have c1 := hr1.c1
              have c2 := hr1.c2
              have c3 := hr1.c3
              clear hr1 hw1 hb1
              rw [HSU.out]
              go_wp2
              refine wp_region_still_tail 14 (by kernel_rfl) (by kernel_rfl) ?_
              simp only [List.take_succ_cons, List.take_zero, List.drop_succ_cons, List.drop_zero]
              repeat still_step
              still_call (K30.out _)
              repeat still_step
              refine wpStill_nil ?_
              change wpList _ _ _ _ _ W2.drew
              have hw1 : ArrU W2.drew w.heap.size 187 (sched bs 80) := HW.out.drew
              have hb1 : Below w.heap.size w W2.drew := HB.out.drew
              clear c0 c1 c2 c3 HRV HW HB K30
              generalize W2.drew = W3 at hw1 hb1 ⊢
              have HW := Lib.hid hw1
              have HB := Lib.hid hb1
              clear hw1 hb1
              go_wp2
              go_roundw
              case rel =>
                refine ⟨k + 1, W3.heap.size, 5, by omega, by go_num, rfl, HB.out.size, ?_, HW.out.below (below1 _ _), HB.out.alloc HB.out.size _⟩
                rw [HST.out, HNW.out]
                exact ⟨by simp, by simp, by simp, by simp, by simp, by simp⟩
              case measure => simp [intOf]; omega
            · obtain rfl : k = 80 := by omega
              simp only [show ((80 : Nat) : Int) = 80 from rfl]
              have HM := Lib.hid (mixL_five s (turns bs s 80))
              have HM0 := Lib.hid (mixL_zero s (turns bs s 80).list)
              have HG := Lib.hid (fun j (hj : j < 5) => And.intro (In_get HIN.out j hj) (In_get (turns_in bs HIN.out 80) j hj))
              obtain ⟨nt, hnt⟩ : ∃ nt, addS s (turns bs s 80) = nt := ⟨_, rfl⟩
              have HNT : Hid (addS s (turns bs s 80) = nt) := Lib.hid hnt
              rw [hnt] at HM
              obtain ⟨tt, htt⟩ : ∃ tt, turns bs s 80 = tt := ⟨_, rfl⟩
              rw [htt] at HRV HM HM0 HG
              clear hnt htt
              have HA2 := Lib.hid (HA.out.below HB.out)
              have HO2 := Lib.hid (Only.below (P := fun i => i = hb) HB.out)
              have hgs := HRV.out.lt
              clear HW
              go_wp2
              go_loopw [13] (fun i wr => ∃ k : Nat, k ≤ 5 ∧ i = .int .i64 k ∧ ArrU wr hb 187 (mixL s.list tt.list k) ∧ RowU wr g tt ∧ Only (fun i => i = hb) w wr) (fun i _ => 5 - (intOf i).toNat)
              case atStart => exact ⟨0, Nat.zero_le _, rfl, by rw [HM0.out]; exact HA2.out, HRV.out, HO2.out⟩
              case round =>
                clear HA2 HRV HO2 hgs
                obtain ⟨k, hk, rfl, hA2, hr, ho⟩ := hrel
                have HA2 := Lib.hid hA2
                have HRV := Lib.hid hr
                have HO2 := Lib.hid ho
                clear hA2 hr ho
                by_cases hlk : k < 5
                · have c2 := HA2.out.cell (i := k) (by rw [mixL_length]; exact hlk)
                  have c5 := HRV.out.get k hlk
                  have f2 := HA2.out.free k
                  rw [mixL_get _ _ _ hlk] at c2
                  have HST := Lib.hid (mixL_step s.list tt.list k hlk)
                  obtain ⟨⟨x0, x1⟩, ⟨y0, y1⟩⟩ := HG.out k hlk
                  generalize s.list.getD k 0 = x at c2 HST x0 x1
                  generalize tt.list.getD k 0 = y at c5 HST y0 y1
                  have hwr : IntKind.u32.wrap (x + y) = (x + y) % 4294967296 := IntKind.wrap_u32' _
                  have q1 : (k : Int) < 5 := by omega
                  go_wp2
                  refine wp_region_still_tail 12 (by kernel_rfl) (by kernel_rfl) ?_
                  simp only [List.take_succ_cons, List.take_zero, List.drop_succ_cons, List.drop_zero]
                  repeat still_step
                  refine wpStill_nil ?_
                  change wpList _ _ _ _ _ wr.drew
                  go_wp2
                  go_roundw
                  case rel =>
                    refine ⟨k + 1, by omega, by go_num, ?_, (HRV.out.drewN 1).other _ _ (by simp; omega), ?_⟩
                    · rw [← HST.out]
                      exact HA2.out.drew.set _ _
                    · exact HO2.out.trans ((Only.below (P := fun i => i = hb) ((Below.refl _ _).drew)).trans (Only.set _ _ _ rfl))
                  case measure => simp [intOf]; omega
                · obtain rfl : k = 5 := by omega
                  have h1 := HA2.out
                  rw [HM.out] at h1
                  have H1 := Lib.hid h1
                  clear h1
                  go_wp2
                  go_end0
                  exact ⟨rfl, by show ArrU _ _ _ (addS s (turns bs s 80)).list; rw [HNT.out]; exact H1.out, HO2.out⟩
end Go.Proofs.YtcaknhoaoodbfaaGreatDoor
