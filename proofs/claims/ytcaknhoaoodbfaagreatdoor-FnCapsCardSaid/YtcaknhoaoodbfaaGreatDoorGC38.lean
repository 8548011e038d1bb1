/- The program's with: what a block makes of the words. -/
import Derived.Test.YtcaknhoaoodbfaaGreatDoorGC35
import Derived.Test.YtcaknhoaoodbfaaGreatDoorGC37
import Derived.Test.YtcaknhoaoodbfaaGreatDoorGC9
namespace Go.Proofs.YtcaknhoaoodbfaaGreatDoor
open Go.ChangeShapes Go.WideShapes Go.ChangeAt Go.RowKit
set_option linter.unusedVariables false

theorem index80 (xs : List Int) (k : Nat) (hl : xs.length = 80) (hk : k < 80) (w : World) : (Instr.index 234 (.agg (u32s xs)) (.int .i64 k)).run Tryz.prog w = .ok (.int .u32 (xs.getD k 0)) w := by
  have hn : 0 ≤ (k : Int) ∧ (k : Int) < ((80 : Nat) : Int) := by omega
  have h1 : (u32s xs)[k]? = some (.int .u32 (xs.getD k 0)) := by
    simp [u32s, List.getD_eq_getElem?_getD, List.getElem?_eq_getElem (show k < xs.length by omega)]
  simp [Instr.index, run_underlying Tryz.underlying234, asIntOf, hn, go_sem, h1]
  intro h
  omega

def mixL (xs ys : List Int) (k : Nat) : List Int := (List.range 5).map fun j => if j < k then (xs.getD j 0 + ys.getD j 0) % 4294967296 else xs.getD j 0
theorem mixL_zero (s : St5) (ys : List Int) : mixL s.list ys 0 = s.list := rfl
theorem mixL_five (s t : St5) : mixL s.list t.list 5 = (addS s t).list := rfl
theorem mixL_length (xs ys : List Int) (k : Nat) : (mixL xs ys k).length = 5 := by simp [mixL]
theorem mixL_get (xs ys : List Int) (k : Nat) (h : k < 5) : (mixL xs ys k).getD k 0 = xs.getD k 0 := by
  unfold mixL
  rw [range_getD _ _ _ h, if_neg (by omega)]
theorem mixL_step (xs ys : List Int) (k : Nat) (h : k < 5) : (mixL xs ys k).set k ((xs.getD k 0 + ys.getD k 0) % 4294967296) = mixL xs ys (k + 1) := by
  unfold mixL
  rw [map_set_range]
  apply List.map_congr_left
  intro j hj
  by_cases e : j = k
  · rw [if_pos e, e, if_pos (by omega)]
  · rw [if_neg e]
    by_cases h2 : j < k
    · rw [if_pos h2, if_pos (by omega)]
    · rw [if_neg h2, if_neg (by omega)]
theorem In_get {s : St5} (h : s.In) (k : Nat) (hk : k < 5) : In32 (s.list.getD k 0) := by
  obtain ⟨h0, h1, h2, h3, h4⟩ := h
  match k, hk with
  | 0, _ => exact h0
  | 1, _ => exact h1
  | 2, _ => exact h2
  | 3, _ => exact h3
  | 4, _ => exact h4
/-- five words laid into a row of five -/
theorem ArrU.put5 {w : World} {g : Nat} {T : TypeId} {s : St5} (h : ArrU w g T s.list) (t : St5) :
    ArrU (((((w.setCell ⟨g, 0, none⟩ (.int .u32 t.a)).setCell ⟨g, 1, none⟩ (.int .u32 t.b)).setCell ⟨g, 2, none⟩ (.int .u32 t.c)).setCell ⟨g, 3, none⟩ (.int .u32 t.d)).setCell ⟨g, 4, none⟩ (.int .u32 t.e)) g T t.list :=
  ((((h.set 0 t.a).set 1 t.b).set 2 t.c).set 3 t.d).set 4 t.e
theorem ArrU.keep5 {w : World} {g R : Nat} {T : TypeId} {xs : List Int} {x0 x1 x2 x3 x4 : Value} (h : ArrU w g T xs) (hn : R ≠ g) :
    ArrU (((((w.setCell ⟨R, 0, none⟩ x0).setCell ⟨R, 1, none⟩ x1).setCell ⟨R, 2, none⟩ x2).setCell ⟨R, 3, none⟩ x3).setCell ⟨R, 4, none⟩ x4) g T xs :=
  ((((h.other _ _ hn).other _ _ hn).other _ _ hn).other _ _ hn).other _ _ hn
theorem ArrU.five {w : World} {g : Nat} {T : TypeId} {s : St5} (h : ArrU w g T s.list) :
    w.cell? ⟨g, 0, none⟩ = some (.int .u32 s.a) ∧ w.cell? ⟨g, 1, none⟩ = some (.int .u32 s.b) ∧ w.cell? ⟨g, 2, none⟩ = some (.int .u32 s.c) ∧ w.cell? ⟨g, 3, none⟩ = some (.int .u32 s.d) ∧ w.cell? ⟨g, 4, none⟩ = some (.int .u32 s.e) :=
  ⟨h.cell (i := 0) (by simp [St5.list]), h.cell (i := 1) (by simp [St5.list]), h.cell (i := 2) (by simp [St5.list]), h.cell (i := 3) (by simp [St5.list]), h.cell (i := 4) (by simp [St5.list])⟩
def st0 : St5 := ⟨0, 0, 0, 0, 0⟩

set_option maxRecDepth 100000 in
set_option maxHeartbeats 6400000 in
theorem with_any (b o c : Nat) (bs : List Int) (s : St5) (hs : s.In) (w : World) (hl : bs.length = 64) (hby : ∀ i, 0 ≤ bs.getD i 0 ∧ bs.getD i 0 ≤ 255) (hlt : b < w.heap.size) (hx : ∀ i, i < 64 → w.cell? ⟨b, o + i, none⟩ = some (.int .u8 (bs.getD i 0))) :
    Calls Tryz.prog 167 #[aggS s, .slice (some ⟨b, o, none⟩) 64 c] w fun e w' => e = .returned (aggS (withB s bs)) ∧ Below w.heap.size w w' := by
  have KW := Lib.hid (fun W (hb : Below w.heap.size w W) => wordsOf_any b o c bs W hl hby (Nat.lt_of_lt_of_le hlt hb.size) (fun i hi => (hb.cell (p := ⟨b, o + i, none⟩) hlt).trans (hx i hi)))
  have KT := Lib.hid (fun k W (hk : k < 80) => turn_any k hk (turns bs s k) (turns_in bs hs k) (wd bs k) (wd_in bs k) W)
  have HIX := Lib.hid (fun k W (hk : k < 80) => (index80 (sched bs 80) k (sched_length bs 80) hk W).trans (by rw [sched_getD _ _ _ hk]))
  have HIN := Lib.hid (And.intro hs (turns_in bs hs 80))
  have hq : Hid (u32s (sched bs 80) = u32s (sched bs 80)) := Lib.hid rfl
  generalize hws : u32s (sched bs 80) = ws at KW HIX
  unfold aggS withB
  clear hs hby hlt hx hws hq hl
  have hA2 := (ArrU.new w 189 s.list)
  have hB2 := ((ArrU.new w 189 s.list).below (below1 _ (.cells (u32s st0.list) 189)))
  have hA4 := ArrU.new (w.alloc (.cells (u32s s.list) 189)) 189 st0.list
  have hB5 := ArrU.new ((w.alloc (.cells (u32s s.list) 189)).alloc (.cells (u32s st0.list) 189)) 189 s.list
  have hC2 := hB2.below (below1 _ (.cells (u32s s.list) 189))
  have hC4 := hA4.below (below1 _ (.cells (u32s s.list) 189))
  simp only [World.size_alloc] at hC4 hB5
  have hB0 := below3 w (.cells (u32s s.list) 189) (.cells (u32s st0.list) 189) (.cells (u32s s.list) 189)
  clear hA2 hB2 hA4
  have HS := Lib.hid (rfl : s = ⟨s.a, s.b, s.c, s.d, s.e⟩)
  obtain ⟨W0, hW0⟩ : ∃ W0, W0 = ((w.alloc (.cells #[.int .u32 s.a, .int .u32 s.b, .int .u32 s.c, .int .u32 s.d, .int .u32 s.e] 189)).alloc (.cells #[.int .u32 0, .int .u32 0, .int .u32 0, .int .u32 0, .int .u32 0] 189)).alloc (.cells #[.int .u32 s.a, .int .u32 s.b, .int .u32 s.c, .int .u32 s.d, .int .u32 s.e] 189) := ⟨_, rfl⟩
  have HW0 := Lib.hid hW0
  have C2 : ArrU W0 w.heap.size 189 s.list := by rw [hW0]; exact hC2
  have C4 : ArrU W0 (w.heap.size + 1) 189 st0.list := by rw [hW0]; exact hC4
  have C5 : ArrU W0 (w.heap.size + 1 + 1) 189 s.list := by rw [hW0]; exact hB5
  have B0 : Below w.heap.size w W0 := by rw [hW0]; exact hB0
  have HC2 := Lib.hid C2
  have HC4 := Lib.hid C4
  have HC5 := Lib.hid C5
  have HB0 := Lib.hid B0
  clear C2 C4 C5 B0 hC2 hC4 hB5 hB0 hW0
  have HT0 := Lib.hid (rfl : turns bs s 0 = s)
  go_enter Tryz.func167, Tryz.ntmps167
  go_wp2_with fail
  rw [← HW0.out]
  refine (KW.out _ HB0.out).mono ?_
  rintro e w1 ⟨rfl, hb1⟩
  have D2 := Lib.hid (HC2.out.below hb1)
  have D4 := Lib.hid (HC4.out.below hb1)
  have D5 := Lib.hid (HC5.out.below hb1)
  have B1 := Lib.hid (HB0.out.trans (hb1.mono HB0.out.size))
  clear hb1 HW0 HC2 HC4 HC5 HB0
  go_wp2
  go_loopw [12] (fun i wr => ∃ k : Nat, k ≤ 80 ∧ i = .int .i64 k ∧ ArrU wr w.heap.size 189 s.list ∧ ArrU wr (w.heap.size + 1) 189 st0.list ∧ ArrU wr (w.heap.size + 1 + 1) 189 (turns bs s k).list ∧ Below w.heap.size w wr) (fun i _ => 80 - (intOf i).toNat)
  case atStart => exact ⟨0, Nat.zero_le _, rfl, D2.out, D4.out, D5.out, B1.out⟩
  case round =>
    clear D2 D4 D5 B1
    obtain ⟨k, hk, rfl, h2, h4, h5, hB⟩ := hrel
    have D2 := Lib.hid h2
    have D4 := Lib.hid h4
    have D5 := Lib.hid h5
    have HB := Lib.hid hB
    clear h2 h4 h5 hB
    by_cases hlk : k < 80
    · obtain ⟨c0, c1, c2, c3, c4⟩ := D5.out.five
      have hix := fun W => HIX.out k W hlk
      have KK := Lib.hid (fun W => KT.out k W hlk)
      have HST : Hid (turns bs s (k + 1) = stepT k (turns bs s k) (wd bs k)) := Lib.hid rfl
      unfold aggS at KK
      generalize stepT k (turns bs s k) (wd bs k) = nt at KK HST
      generalize hcur : turns bs s k = cur at *
      generalize wd bs k = wk at *
      clear hcur
      go_wp2_with fail
      refine (KK.out _).mono ?_
      rintro e w2 ⟨rfl, hb2⟩
      have E2 := Lib.hid (D2.out.below hb2)
      have E4 := Lib.hid (D4.out.below hb2)
      have E5 := D5.out.below hb2
      obtain ⟨y0, y1, y2, y3, y4⟩ := E5.five
      have f0 := E5.free 0
      have f1 := E5.free 1
      have f2 := E5.free 2
      have f3 := E5.free 3
      have f4 := E5.free 4
      have HE5 := Lib.hid E5
      have HB2 := Lib.hid (HB.out.trans (hb2.mono HB.out.size))
      clear E5 hb2 c0 c1 c2 c3 c4 hix KK
      go_wp2
      go_roundw
      case rel =>
        refine ⟨k + 1, by omega, by go_num, E2.out.keep5 (by omega), E4.out.keep5 (by omega), ?_, ((((HB2.out.setCell (by simp; omega) _).setCell (by simp; omega) _).setCell (by simp; omega) _).setCell (by simp; omega) _).setCell (by simp; omega) _⟩
        rw [HST.out]
        exact HE5.out.put5 nt
      case measure => simp [intOf]; omega
    · obtain rfl : k = 80 := by omega
      simp only [show ((80 : Nat) : Int) = 80 from rfl]
      have HM := Lib.hid (mixL_five s (turns bs s 80))
      have HM0 := Lib.hid (mixL_zero s (turns bs s 80).list)
      have HG := Lib.hid (fun j (hj : j < 5) => And.intro (In_get HIN.out.1 j hj) (In_get HIN.out.2 j hj))
      obtain ⟨nt, hnt⟩ : ∃ nt, addS s (turns bs s 80) = nt := ⟨_, rfl⟩
      have HNT : Hid (addS s (turns bs s 80) = nt) := Lib.hid hnt
      rw [hnt] at HM
      obtain ⟨tt, htt⟩ : ∃ tt, turns bs s 80 = tt := ⟨_, rfl⟩
      rw [htt] at D5 HM HM0 HG
      clear KT HIX KW HT0 hnt htt
      go_wp2
      go_loopw [21] (fun i wr => ∃ k : Nat, k ≤ 5 ∧ i = .int .i64 k ∧ ArrU wr w.heap.size 189 (mixL s.list tt.list k) ∧ ArrU wr (w.heap.size + 1) 189 st0.list ∧ ArrU wr (w.heap.size + 1 + 1) 189 tt.list ∧ Below w.heap.size w wr) (fun i _ => 5 - (intOf i).toNat)
      case atStart => exact ⟨0, Nat.zero_le _, rfl, by rw [HM0.out]; exact D2.out, D4.out, D5.out, HB.out⟩
      case round =>
        clear D2 D4 D5 HB
        obtain ⟨k, hk, rfl, h2, h4, h5, hB⟩ := hrel
        have D2 := Lib.hid h2
        have D4 := Lib.hid h4
        have D5 := Lib.hid h5
        have HB := Lib.hid hB
        clear h2 h4 h5 hB
        by_cases hlk : k < 5
        · have c2 := D2.out.cell (i := k) (by rw [mixL_length]; exact hlk)
          have c5 := D5.out.cell (i := k) (by simp [St5.list]; exact hlk)
          have f2 := D2.out.free k
          rw [mixL_get _ _ _ hlk] at c2
          have HST := Lib.hid (mixL_step s.list tt.list k hlk)
          obtain ⟨⟨x0, x1⟩, ⟨y0, y1⟩⟩ := HG.out k hlk
          generalize s.list.getD k 0 = x at c2 HST x0 x1
          generalize tt.list.getD k 0 = y at c5 HST y0 y1
          have hwr : IntKind.u32.wrap (x + y) = (x + y) % 4294967296 := IntKind.wrap_u32' _
          have q1 : (k : Int) < 5 := by omega
          go_wp2
          refine wp_region_still_tail 8 (by kernel_rfl) (by kernel_rfl) ?_
          simp only [List.take_succ_cons, List.take_zero, List.drop_succ_cons, List.drop_zero]
          repeat still_step
          refine wpStill_nil ?_
          change wpList _ _ _ _ _ wr.drew
          go_wp2
          go_roundw
          case rel =>
            refine ⟨k + 1, by omega, by go_num, ?_, D4.out.drew.other _ _ (by simp), D5.out.drew.other _ _ (by simp; omega), HB.out.drew.setCell (by simp) _⟩
            rw [← HST.out]
            exact D2.out.drew.set _ _
          case measure => simp [intOf]; omega
        · obtain rfl : k = 5 := by omega
          have A2 := D2.out
          rw [HM.out] at A2
          obtain ⟨c0, c1, c2, c3, c4⟩ := A2.five
          obtain ⟨y0, y1, y2, y3, y4⟩ := D4.out.five
          have f0 := D4.out.free 0
          have f1 := D4.out.free 1
          have f2 := D4.out.free 2
          have f3 := D4.out.free 3
          have f4 := D4.out.free 4
          have hz : w.heap.size + 1 < wr.heap.size := D4.out.lt
          obtain ⟨s0, s1, s2, s3, s4⟩ := five_set (x0 := .int .u32 nt.a) (x1 := .int .u32 nt.b) (x2 := .int .u32 nt.c) (x3 := .int .u32 nt.d) (x4 := .int .u32 nt.e) y0 y1 y2 y3 y4
          clear A2
          go_wp2
          exact bodyPost_ret (v := .agg #[.int .u32 nt.a, .int .u32 nt.b, .int .u32 nt.c, .int .u32 nt.d, .int .u32 nt.e]) (by simp [results, Tryz.results167, go_sem, s0, s1, s2, s3, s4]) rfl ⟨by rw [HNT.out], ((((HB.out.setCell (by simp) _).setCell (by simp) _).setCell (by simp) _).setCell (by simp) _).setCell (by simp) _⟩
end Go.Proofs.YtcaknhoaoodbfaaGreatDoor
