/- toIdentity, toIdentityS, toStringS, toDisco: what came in is copied. -/
import Derived.Test.YtmmicoiiklcakaaDoorGK4
import Derived.Test.YtmmicoiiklcakaaDoorGK11
import Derived.Lib.FrozenHead2
import Derived.BigQuiet
import Derived.Maps.AppendAt
import Derived.IntWalk
namespace Go.Proofs.YtmmicoiiklcakaaDoor
open Go.ChangeShapes Go.WideShapes Go.ChangeAt Go.RowKit
set_option linter.unusedVariables false

theorem identInfo : (Tryd.prog.info? 46).map (fun i => (i.zero, i.size, i.bytes)) = some (some (.agg #[.string ByteArray.empty, .string ByteArray.empty, .string ByteArray.empty, .string ByteArray.empty]), 4, 64) := by kernel_rfl
theorem strInfoD : (Tryd.prog.info? 9).map (fun i => (i.zero, i.size, i.bytes)) = some (some (.string ByteArray.empty), 1, 16) := by kernel_rfl
/-- a block of two cells -/
structure TwoC (W : World) (b : Nat) (u v : Value) : Prop where
  lt : b < W.heap.size
  c0 : W.cell? ⟨b, 0, none⟩ = some u
  c1 : W.cell? ⟨b, 1, none⟩ = some v
  fz : ∀ i, W.frozen? ⟨b, i, none⟩ = false
theorem TwoC.new (w : World) (b : Nat) (T : TypeId) (u v : Value) (hb : b = w.heap.size) : TwoC (w.alloc (.cells #[u, v] T)) b u v := by
  subst hb
  have h : (w.alloc (.cells #[u, v] T)).heap[w.heap.size]? = some (.cells #[u, v] T (0, 0)) := heap_alloc_new w _
  exact ⟨by simp, by rw [Lib.cell_of_heap h]; rfl, by rw [Lib.cell_of_heap h]; rfl, fun i => Lib.frozen_of_heap h i⟩
theorem TwoC.below {W W' : World} {b : Nat} {u v : Value} (h : TwoC W b u v) (hb : Below W.heap.size W W') : TwoC W' b u v :=
  ⟨Nat.lt_of_lt_of_le h.lt hb.size, (hb.cell (by exact h.lt)).trans h.c0, (hb.cell (by exact h.lt)).trans h.c1, fun i => (hb.frozen (by exact h.lt)).trans (h.fz i)⟩
theorem TwoC.other {W : World} {b : Nat} {u v : Value} (h : TwoC W b u v) (p : Addr) (x : Value) (hp : p.block ≠ b) : TwoC (W.setCell p x) b u v :=
  ⟨by simpa using h.lt, (World.cell?_setCell_other _ _ _ _ (fun e => hp (by rw [e]))).trans h.c0, (World.cell?_setCell_other _ _ _ _ (fun e => hp (by rw [e]))).trans h.c1, fun i => by simpa using h.fz i⟩
theorem TwoC.set0 {W : World} {b : Nat} {u v : Value} (h : TwoC W b u v) (x : Value) : TwoC (W.setCell ⟨b, 0, none⟩ x) b x v :=
  ⟨by simpa using h.lt, World.cell?_setCell_same _ _ _ (by rw [h.c0]), (World.cell?_setCell_other _ _ _ _ (fun e => by simp at e)).trans h.c1, fun i => by simpa using h.fz i⟩
/-- what is known of a slice's spare room -/
def CapOk (a : Option Addr) (n c : Nat) : Prop := n ≤ c ∧ c ≤ maxLen ∧ (a = none → c = 0)
def IdsResC (w : World) (l : List Ident) (e : Ending) (w' : World) : Prop := ∃ a n c, e = .returned (.slice a n c) ∧ IdsAt w' a n c l ∧ CapOk a n c ∧ (∀ y, a = some y → w.heap.size ≤ y.block) ∧ Below w.heap.size w w'
def StsResC (w : World) (l : List ByteArray) (e : Ending) (w' : World) : Prop := ∃ a n c, e = .returned (.slice a n c) ∧ StsAt w' a n c l ∧ CapOk a n c ∧ (∀ y, a = some y → w.heap.size ≤ y.block) ∧ Below w.heap.size w w'
def DisResC (w : World) (d : Dis) (e : Ending) (w' : World) : Prop := ∃ a1 n1 c1 a2 n2 c2, e = .returned (.agg #[.slice a1 n1 c1, .slice a2 n2 c2]) ∧ DisAt w' a1 n1 c1 a2 n2 c2 d ∧ (CapOk a1 n1 c1 ∧ CapOk a2 n2 c2) ∧ Below w.heap.size w w'
theorem ids_step {w : World} {B j n : Nat} {l : List Ident} {s t u v : ByteArray} (hr : Room w B (n * 4)) (hj : j < n) (hx : l.getD j dId = ⟨s, t, u, v⟩)
    (hd : ∀ i, i < j → IdAt w B (i * 4) (l.getD i dId)) :
    ∀ i, i < j + 1 → IdAt ((((w.setCell ⟨B, j * 4, none⟩ (.string s)).setCell ⟨B, j * 4 + 1, none⟩ (.string t)).setCell ⟨B, j * 4 + 2, none⟩ (.string u)).setCell ⟨B, j * 4 + 3, none⟩ (.string v)) B (i * 4) (l.getD i dId) := by
  intro i hi
  rcases Nat.lt_or_ge i j with h | h
  · exact ((((hd i h).set (by omega)).set (by omega)).set (by omega)).set (by omega)
  · obtain rfl : i = j := by omega
    rw [hx]
    have r1 := hr.set ⟨B, i * 4, none⟩ (.string s)
    have r2 := r1.set ⟨B, i * 4 + 1, none⟩ (.string t)
    have r3 := r2.set ⟨B, i * 4 + 2, none⟩ (.string u)
    refine ⟨(r3.set _ _).1, ?_, ?_, ?_, ?_⟩
    · rw [set_off (by omega), set_off (by omega), set_off (by omega)]
      exact hr.put (by omega) _
    · rw [set_off (by omega), set_off (by omega)]
      exact r1.put (by omega) _
    · rw [set_off (by omega)]
      exact r2.put (by omega) _
    · exact r3.put (by omega) _

set_option maxRecDepth 100000 in
set_option maxHeartbeats 1600000 in
theorem toIdentityS_any (a : Option Addr) (n c : Nat) (l : List Ident) (w : World) (hn : l.length ≤ 1048576) (h : IdsAt w a n c l) :
    Calls Tryd.prog 14 #[.slice a n c] w (IdsResC w l) := by
  obtain ⟨i0, hi, hz0, hz1, hz2⟩ := info_parts identInfo
  have HR := Lib.hid h.row
  have HL := Lib.hid h.len
  have hn' : n ≤ 1048576 := by have := h.len; omega
  clear h hn
  go_enter Tryd.func14, Tryd.ntmps14
  go_wp2_with (at_make; refine wpList_make_full _ rfl _ _ 30 rfl w.heap.size 46 i0 _ 4 Tryd.underlying30 hi hz0 hz1 .i64 .i64 (n : Int) (n : Int) n rfl rfl rfl rfl ?c1 ?c2 ?c3 ?_)
  case c1 => rw [hz2]; omega
  case c2 => unfold maxLen; omega
  case c3 => exact Nat.le_refl _
  intro w1 ho1 hg1
  have HRoom := Lib.hid (room_made ho1)
  have HB1 := Lib.hid (below_made hg1)
  clear ho1 hg1
  go_wp2
  go_loopw [4] (fun i wr => ∃ j : Nat, j ≤ n ∧ i = .int .i64 j ∧ Room wr w.heap.size (n * 4) ∧ (∀ i, i < j → IdAt wr w.heap.size (i * 4) (l.getD i dId)) ∧ Below w.heap.size w wr) (fun i _ => n - (intOf i).toNat)
  case atStart => exact ⟨0, Nat.zero_le _, rfl, HRoom.out, fun i hi => by omega, HB1.out⟩
  case round =>
    obtain ⟨j, hj, rfl, hroom, hdone, hb⟩ := hrel
    by_cases hlt : j < n
    · rcases HR.out with h0 | ⟨b, o, rfl, h4⟩
      · omega
      · have hi4 := (h4 j hlt).below hb
        have d0 := hi4.c0
        have d1 := hi4.c1
        have d2 := hi4.c2
        have d3 := hi4.c3
        obtain ⟨x, hx⟩ : ∃ x, l.getD j dId = x := ⟨_, rfl⟩
        rw [hx] at d0 d1 d2 d3
        have HX := Lib.hid hx
        have HROOM := Lib.hid hroom
        have HDONE := Lib.hid hdone
        have HB := Lib.hid hb
        obtain ⟨s, t, u, v⟩ := x
        dsimp only at d0 d1 d2 d3
        clear hx hi4 h4 hroom hdone hb
        go_wp2_with fail
        refine (toIdentity_any s t u v _).mono ?_
        rintro e w2 ⟨rfl, hb2⟩
        have hr2 := HROOM.out.below hb2
        obtain ⟨⟨v0, q0⟩, f0⟩ := hr2.2 (j * 4) (by omega)
        obtain ⟨⟨v1, q1⟩, f1⟩ := hr2.2 (j * 4 + 1) (by omega)
        obtain ⟨⟨v2, q2⟩, f2⟩ := hr2.2 (j * 4 + 2) (by omega)
        obtain ⟨⟨v3, q3⟩, f3⟩ := hr2.2 (j * 4 + 3) (by omega)
        have HR2 := Lib.hid hr2
        have HB2 := Lib.hid hb2
        clear hr2 hb2 d0 d1 d2 d3
        go_wp2
        go_roundw
        case rel =>
          refine ⟨j + 1, by omega, by go_num, (((HR2.out.set _ _).set _ _).set _ _).set _ _, ids_step HR2.out hlt HX.out (fun i hi => (HDONE.out i hi).below HB2.out), ?_⟩
          have hb3 := HB.out.trans (HB2.out.mono HB.out.size)
          exact (((hb3.setCell (Nat.le_refl _) _).setCell (Nat.le_refl _) _).setCell (Nat.le_refl _) _).setCell (Nat.le_refl _) _
        case measure => simp [intOf]; omega
    · obtain rfl : j = n := by omega
      have HDONE := Lib.hid hdone
      have HB := Lib.hid hb
      clear hroom hdone hb
      go_wp2
      go_ret
      exact ⟨_, _, _, rfl, ⟨HL.out, by omega, .inr ⟨w.heap.size, 0, rfl, fun i hi => by rw [Nat.zero_add]; exact HDONE.out i hi⟩⟩, ⟨Nat.le_refl _, by unfold maxLen; omega, fun h => by cases h⟩, fun y hy => by cases hy; exact Nat.le_refl _, HB.out⟩

set_option maxRecDepth 100000 in
set_option maxHeartbeats 1600000 in
theorem toStringS_any (a : Option Addr) (n c : Nat) (l : List ByteArray) (w : World) (hn : l.length ≤ 1048576) (h : StsAt w a n c l) :
    Calls Tryd.prog 15 #[.slice a n c] w (StsResC w l) := by
  obtain ⟨i0, hi, hz0, hz1, hz2⟩ := info_parts strInfoD
  have HR := Lib.hid h.row
  have HL := Lib.hid h.len
  have hn' : n ≤ 1048576 := by have := h.len; omega
  clear h hn
  go_enter Tryd.func15, Tryd.ntmps15
  go_wp2_with (at_make; refine wpList_make_full _ rfl _ _ 23 rfl w.heap.size 9 i0 _ 1 Tryd.underlying23 hi hz0 hz1 .i64 .i64 (n : Int) (n : Int) n rfl rfl rfl rfl ?c1 ?c2 ?c3 ?_)
  case c1 => rw [hz2]; omega
  case c2 => unfold maxLen; omega
  case c3 => exact Nat.le_refl _
  intro w1 ho1 hg1
  have HRoom := Lib.hid (room_made ho1)
  have HB1 := Lib.hid (below_made hg1)
  clear ho1 hg1
  go_wp2
  go_loopw [4] (fun i wr => ∃ j : Nat, j ≤ n ∧ i = .int .i64 j ∧ Room wr w.heap.size (n * 1) ∧ (∀ i, i < j → wr.cell? ⟨w.heap.size, i, none⟩ = some (.string (l.getD i ByteArray.empty))) ∧ Below w.heap.size w wr) (fun i _ => n - (intOf i).toNat)
  case atStart => exact ⟨0, Nat.zero_le _, rfl, HRoom.out, fun i hi => by omega, HB1.out⟩
  case round =>
    obtain ⟨j, hj, rfl, hroom, hdone, hb⟩ := hrel
    by_cases hlt : j < n
    · rcases HR.out with h0 | ⟨b, o, rfl, hb0, h4⟩
      · omega
      · have d0 := (hb.cell (p := ⟨b, o + j, none⟩) hb0).trans (h4 j hlt)
        obtain ⟨x, hx⟩ : ∃ x, l.getD j ByteArray.empty = x := ⟨_, rfl⟩
        rw [hx] at d0
        obtain ⟨⟨v0, q0⟩, f0⟩ := hroom.2 j (by omega)
        have HX := Lib.hid hx
        have HROOM := Lib.hid hroom
        have HDONE := Lib.hid hdone
        have HB := Lib.hid hb
        clear hx h4 hroom hdone hb
        go_wp2
        go_roundw
        case rel =>
          refine ⟨j + 1, by omega, by go_num, HROOM.out.set _ _, fun i hi => ?_, HB.out.setCell (p := ⟨w.heap.size, j, none⟩) (Nat.le_refl _) _⟩
          rcases Nat.lt_or_ge i j with h | h
          · rw [set_off (by omega)]
            exact HDONE.out i h
          · obtain rfl : i = j := by omega
            rw [HX.out]
            exact HROOM.out.put (by omega) _
        case measure => simp [intOf]; omega
    · obtain rfl : j = n := by omega
      have HROOM := Lib.hid hroom
      have HDONE := Lib.hid hdone
      have HB := Lib.hid hb
      clear hroom hdone hb
      go_wp2
      go_ret
      exact ⟨_, _, _, rfl, ⟨HL.out, by omega, .inr ⟨w.heap.size, 0, rfl, HROOM.out.1, fun i hi => by rw [Nat.zero_add]; exact HDONE.out i hi⟩⟩, ⟨Nat.le_refl _, by unfold maxLen; omega, fun h => by cases h⟩, fun y hy => by cases hy; exact Nat.le_refl _, HB.out⟩

set_option maxRecDepth 100000 in
set_option maxHeartbeats 1600000 in
theorem toDisco_any (a1 a2 : Option Addr) (n1 c1 n2 c2 : Nat) (d : Dis) (w : World) (hs : SmallDis d) (h : DisAt w a1 n1 c1 a2 n2 c2 d) :
    Calls Tryd.prog 6 #[.agg #[.slice a1 n1 c1, .slice a2 n2 c2]] w (DisResC w d) := by
  have K1 := Lib.hid (fun W (hb : Below w.heap.size w W) => toIdentityS_any a1 n1 c1 d.ids W hs.1.1 (h.ids.below hb))
  have K2 := Lib.hid (fun W (hb : Below w.heap.size w W) => toStringS_any a2 n2 c2 d.feats W hs.2.1 (h.feats.below hb))
  unfold IdsResC at K1
  unfold StsResC at K2
  unfold DisResC
  clear hs h
  go_enter Tryd.func6, Tryd.ntmps6
  go_wp2_with fail
  refine (K1.out _ (below3 _ _ _ _)).mono ?_
  rintro e w1 ⟨b1, m1, k1, rfl, hi1, hcp1, hy1, hb1⟩
  have T0 := Lib.hid ((((TwoC.new w w.heap.size 25 (.slice a1 n1 c1) (.slice a2 n2 c2) rfl).below (below1 _ (.cells #[.slice none 0 0, .slice none 0 0] 32))).below (below1 _ (.cells #[.slice none 0 0, .slice none 0 0] 32))).below hb1)
  have T1 := Lib.hid (((TwoC.new (w.alloc (.cells #[.slice a1 n1 c1, .slice a2 n2 c2] 25)) (w.heap.size + 1) 32 (.slice none 0 0) (.slice none 0 0) (by simp)).below (below1 _ (.cells #[.slice none 0 0, .slice none 0 0] 32))).below hb1)
  have T2 := Lib.hid ((TwoC.new ((w.alloc (.cells #[.slice a1 n1 c1, .slice a2 n2 c2] 25)).alloc (.cells #[.slice none 0 0, .slice none 0 0] 32)) (w.heap.size + 1 + 1) 32 (.slice none 0 0) (.slice none 0 0) (by simp)).below hb1)
  have HI1 := Lib.hid hi1
  have HCP1 := Lib.hid hcp1
  have HY1 := Lib.hid (fun y hy => by have := hy1 y hy; simp at this; exact this : ∀ y, b1 = some y → w.heap.size + 1 + 1 + 1 ≤ y.block)
  have HB1 := Lib.hid (below_then (below3 _ _ _ _) hb1)
  have g1 := T0.out.c1
  have h0 := T0.out.lt
  have h02 := T2.out.lt
  have e3 := T2.out.fz 0
  have g4 := T2.out.c0
  clear hi1 hcp1 hy1 hb1
  go_wp2_with fail
  refine (K2.out _ (HB1.out.setCell (by simp; omega) _)).mono ?_
  rintro e w2 ⟨b2, m2, k2, rfl, hi2, hcp2, hy2, hb2⟩
  have s2 : (w1.setCell ⟨w.heap.size + 1 + 1, 0, none⟩ (.slice b1 m1 k1)).heap.size = w1.heap.size := by simp
  have HI2 := Lib.hid hi2
  have HCP2 := Lib.hid hcp2
  have HY2 := Lib.hid (fun y hy => by have := hy2 y hy; rw [s2] at this; omega : ∀ y, b2 = some y → w.heap.size + 1 + 1 + 1 ≤ y.block)
  have HI12 := Lib.hid ((HI1.out.set (p := ⟨w.heap.size + 1 + 1, 0, none⟩) (v := .slice b1 m1 k1) (fun y hy => by have := HY1.out y hy; show w.heap.size + 1 + 1 ≠ y.block; omega)).below hb2)
  have HB2 := Lib.hid (below_then (HB1.out.setCell (p := ⟨w.heap.size + 1 + 1, 0, none⟩) (by show w.heap.size ≤ w.heap.size + 1 + 1; omega) (.slice b1 m1 k1)) hb2)
  have U1 := (T1.out.other ⟨w.heap.size + 1 + 1, 0, none⟩ (.slice b1 m1 k1) (by show w.heap.size + 1 + 1 ≠ w.heap.size + 1; omega)).below hb2
  have U2 := (T2.out.set0 (.slice b1 m1 k1)).below hb2
  have k0' := U1.c0
  have k1' := U1.c1
  have k2' := U2.c0
  have k3' := U2.c1
  have f1' := U1.fz
  have f2' := U2.fz
  have l1 := U1.lt
  have l2 := U2.lt
  clear hi2 hcp2 hy2 hb2 g1 g4 e3 h0 h02 s2 U1 U2
  go_wp2_with fail
  have np : ∀ (q : Addr), q.block ≤ w.heap.size + 1 + 1 → (∀ y, b1 = some y → q.block ≠ y.block) ∧ (∀ y, b2 = some y → q.block ≠ y.block) := fun q hq => ⟨fun y hy => by have := HY1.out y hy; omega, fun y hy => by have := HY2.out y hy; omega⟩
  refine bodyPost_ret (v := .agg #[.slice b1 m1 k1, .slice b2 m2 k2]) ?_ rfl ⟨b1, m1, k1, b2, m2, k2, rfl, ⟨?_, ?_⟩, ⟨HCP1.out, HCP2.out⟩, ?_⟩
  · have r0 : (((w2.setCell ⟨w.heap.size + 1 + 1, 1, none⟩ (.slice b2 m2 k2)).setCell ⟨w.heap.size + 1, 0, none⟩ (.slice b1 m1 k1)).setCell ⟨w.heap.size + 1, 1, none⟩ (.slice b2 m2 k2)).cell? ⟨w.heap.size + 1, 0, none⟩ = some (.slice b1 m1 k1) := by
      rw [World.cell?_setCell_other _ _ _ _ (fun e => by simp at e)]
      exact World.cell?_setCell_same _ _ _ (by rw [World.cell?_setCell_other _ _ _ _ (fun e => by simp at e), k0'])
    have r1 : (((w2.setCell ⟨w.heap.size + 1 + 1, 1, none⟩ (.slice b2 m2 k2)).setCell ⟨w.heap.size + 1, 0, none⟩ (.slice b1 m1 k1)).setCell ⟨w.heap.size + 1, 1, none⟩ (.slice b2 m2 k2)).cell? ⟨w.heap.size + 1, 1, none⟩ = some (.slice b2 m2 k2) := by
      exact World.cell?_setCell_same _ _ _ (by rw [World.cell?_setCell_other _ _ _ _ (fun e => by simp at e), World.cell?_setCell_other _ _ _ _ (fun e => by simp at e), k1'])
    simp [results, Tryd.results6, go_sem, r0, r1]
  · exact ((HI12.out.set (np _ (by show _ + 1 + 1 ≤ _; omega)).1).set (np _ (by show w.heap.size + 1 ≤ _; omega)).1).set (np _ (by show w.heap.size + 1 ≤ _; omega)).1
  · exact ((HI2.out.set (np _ (by show _ + 1 + 1 ≤ _; omega)).2).set (np _ (by show w.heap.size + 1 ≤ _; omega)).2).set (np _ (by show w.heap.size + 1 ≤ _; omega)).2
  · exact ((HB2.out.setCell (by show w.heap.size ≤ w.heap.size + 1 + 1; omega) _).setCell (by show w.heap.size ≤ w.heap.size + 1; omega) _).setCell (by show w.heap.size ≤ w.heap.size + 1; omega) _
end Go.Proofs.YtmmicoiiklcakaaDoor

/- The model's l9Sorted. -/
namespace Go.Proofs.YtmmicoiiklcakaaDoor
open Go.ChangeShapes Go.WideShapes Go.ChangeAt Go.RowKit
set_option linter.unusedVariables false

theorem less_tri (x y : ByteArray) : (!(Op.bytesLess y.toList x.toList || y.toList == x.toList)) = Op.bytesLess x.toList y.toList := by
  cases h : Op.bytesLess x.toList y.toList
  · cases h2 : Op.bytesLess y.toList x.toList
    · have e : x = y := leT_antisymm (show leT x y from h2) (show leT y x from h)
      subst e
      simp
    · rfl
  · have h2 : Op.bytesLess y.toList x.toList = false := leT_of_less h
    have hne : (y.toList == x.toList) = false := by
      rw [beq_eq_false_iff_ne]
      intro e
      rw [e] at h
      have := leT_refl x
      unfold leT at this
      rw [this] at h
      cases h
    rw [h2, hne]
    rfl
theorem gtr_str0 (y x : ByteArray) (W : World) : (binOp .gtr 9 (.string y) (.string x)).run Tryd.prog W = .ok (.bool (!(Op.bytesLess y.toList x.toList || y.toList == x.toList))) W := by kernel_rfl
theorem gtr_str (y x : ByteArray) (W : World) : (binOp .gtr 9 (.string y) (.string x)).run Tryd.prog W = .ok (.bool (Op.bytesLess x.toList y.toList)) W := by
  rw [gtr_str0, less_tri]
theorem one_str (W : World) (x : ByteArray) : ∀ (j : Nat) (u : Value), ([Value.string x])[j]? = some u → (W.alloc (.cells #[.string x] 9)).cell? (Addr.add ⟨W.heap.size, 0, none⟩ j) = some u := by
  intro j u hj
  match j, hj with
  | 0, hj => simp at hj; subst hj; simp [Addr.add]
theorem own_cell {w : World} {B g n c : Nat} {L : List ByteArray} (h : w.ownsRow B 9 1 (.slice (some ⟨g, 0, none⟩) n c) n (L.map Value.string)) (i : Nat) (hi : i < n) : w.cell? ⟨g, i, none⟩ = some (.string (ix L i)) := by
  have hl : L.length = n := by have h1 : (L.map Value.string).length = n * 1 := h.1; simpa using h1
  rw [h.cellAt i (by omega), List.getElem?_map, List.getElem?_eq_getElem (by omega)]
  show some (Value.string _) = some (Value.string (L.getD i ByteArray.empty))
  rw [List.getD_eq_getElem?_getD, List.getElem?_eq_getElem (by omega)]
  rfl

set_option maxRecDepth 100000 in
set_option maxHeartbeats 6400000 in
theorem l9Sorted_any (a : Option Addr) (n c : Nat) (l : List ByteArray) (w : World) (hn : n ≤ 1000) (hsz : ∀ i, i < n → (l.getD i ByteArray.empty).size ≤ 5000000) (h : StsAt w a n c l) :
    Calls Tryd.prog 26 #[.slice a n c] w fun e w' => e = .returned (.string ⟨(linesT (sortT l)).toArray⟩) ∧ Below w.heap.size w w' := by
  obtain ⟨i0, hi, hz0, hz1, hz2⟩ := info_parts strInfoD
  have HR := Lib.hid h.row
  have HL := Lib.hid h.len
  have HSZ := Lib.hid hsz
  have hl0 : (w.alloc (.cells #[] 9)).ownsRow w.heap.size 9 1 (.slice (some ⟨w.heap.size, 0, none⟩) 0 0) 0 (([] : List ByteArray).map Value.string) := by
    have := World.ownsRow_lit (base := w.heap.size) (e := 9) (size := 1) w #[] 0 (Nat.le_refl _) (by unfold maxLen; omega) rfl
    simpa using this
  have HO0 := Lib.hid hl0
  clear h hsz hl0
  go_enter Tryd.func26, Tryd.ntmps26
  go_wp2
  go_loopw [3, 11] (fun v i wr => ∃ (k : Nat) (a' : Option Addr) (c' : Nat) (L : List ByteArray), k ≤ n ∧ i = .int .i64 k ∧ v = .slice a' k c' ∧ wr.ownsRow w.heap.size 9 1 (.slice a' k c') k (L.map Value.string) ∧ Hid (Sorts (l.take k) L) ∧ Below w.heap.size w wr) (fun _ i _ => n - (intOf i).toNat)
  case atStart => exact ⟨0, _, 0, [], Nat.zero_le _, rfl, rfl, HO0.out, Lib.hid ⟨List.Perm.refl _, List.Pairwise.nil⟩, below1 _ _⟩
  case round =>
    clear HO0
    obtain ⟨k, a', c', L, hk, rfl, rfl, ho, HSO, hb⟩ := hrel
    have HO := Lib.hid ho
    have HB := Lib.hid hb
    have hsz := hb.size
    have hlk : L.length = k := by have h1 : (L.map Value.string).length = k * 1 := ho.1; simpa using h1
    clear ho hb
    by_cases hlt : k < n
    · rcases HR.out with e0 | ⟨b, o, rfl, hbw, hrow⟩
      · omega
      have d0 := (HB.out.cell (p := ⟨b, o + k, none⟩) hbw).trans (hrow k hlt)
      have HT : Hid (l.take (k + 1) = l.take k ++ [l.getD k ByteArray.empty]) := Lib.hid (by rw [List.take_succ_eq_append_getElem (by have := HL.out; omega), List.getD_eq_getElem?_getD, List.getElem?_eq_getElem (by have := HL.out; omega)]; rfl)
      have HROW := Lib.hid hrow
      obtain ⟨x, hx⟩ : ∃ x, l.getD k ByteArray.empty = x := ⟨_, rfl⟩
      rw [hx] at d0 HT
      have HX := Lib.hid hx
      clear hx hrow
      have q1 : (k : Int) < (n : Int) := by omega
      go_wp2_with (at_builtin; refine wpList_append_own _ rfl _ _ 23 rfl w.heap.size 9 i0 (.string ByteArray.empty) 1 16 Tryd.underlying23 hi hz0 hz1 hz2 rfl (by decide) _ k _ rfl (HO.out.alloc _) ⟨wr.heap.size, 0, none⟩ 1 1 [.string x] rfl rfl (one_str wr x) (by simp [Value.oneCell']) (by unfold maxLen; omega) (by omega) (by simp; omega) ?_)
      intro v' w1 hown hgrow _
      obtain ⟨a2, c2, rfl⟩ := owns_slice hown
      obtain ⟨g, rfl⟩ : ∃ g, a2 = some ⟨g, 0, none⟩ := by
        rcases hown.2 with ⟨hv, h0⟩ | ⟨g, cap, cur, hv, _⟩
        · omega
        · simp only [Value.slice.injEq] at hv
          exact ⟨g, hv.1⟩
      have hgb : w.heap.size ≤ g := (hown.lt g rfl).1
      have hbg : b ≠ g := by omega
      have HO1 : Hid (w1.ownsRow w.heap.size 9 1 (.slice (some ⟨g, 0, none⟩) (k + 1) c2) (k + 1) ((rowUp L x k).map Value.string)) := Lib.hid (by rw [← hlk, rowUp_start, List.map_append]; rw [← hlk] at hown; exact hown)
      have HB1 := Lib.hid (below_appended HB.out HO.out hgrow)
      clear hown hgrow d0
      go_wp2
      go_loopw [5] (fun p wr => ∃ q : Nat, q ≤ k ∧ p = .int .i64 q ∧ wr.ownsRow w.heap.size 9 1 (.slice (some ⟨g, 0, none⟩) (k + 1) c2) (k + 1) ((rowUp L x q).map Value.string) ∧ Hid (∀ y ∈ L.drop q, leT x y) ∧ Below w.heap.size w wr) (fun p _ => (intOf p).toNat)
      case atStart => exact ⟨k, Nat.le_refl _, rfl, HO1.out, Lib.hid (fun y hy => by rw [← hlk, List.drop_length] at hy; cases hy), HB1.out⟩
      case round =>
        clear HO1 HB1
        obtain ⟨q, hq, rfl, ho, HHI, hb⟩ := hrel
        have HB2 := Lib.hid hb
        have d0 := (hb.cell (p := ⟨b, o + k, none⟩) hbw).trans (HROW.out k hlt)
        rw [HX.out] at d0
        have hru := rowUp_length L x q (by omega)
        have HFIN := Lib.hid (rowUp_put L x q (by omega))
        have cq := own_cell ho q (by omega)
        have fq := ho.frozenAt q
        have HPUT : Hid (∀ m, ((wr.drewN m).setCell ⟨g, q, none⟩ (.string x)).ownsRow w.heap.size 9 1 (.slice (some ⟨g, 0, none⟩) (k + 1) c2) (k + 1) ((L.take q ++ x :: L.drop q).map Value.string)) := Lib.hid (fun m => by
          have := ((owns_below ho (below_drewN (Below.refl _ _) m)).stored q (.string x)).1
          rwa [← List.map_set, HFIN.out] at this)
        by_cases hstop : q = 0 ∨ Op.bytesLess x.toList (ix L (q - 1)).toList = false
        · have hnew : Hid (Sorts (l.take (k + 1)) (L.take q ++ x :: L.drop q)) := Lib.hid (by
            rw [HT.out]
            exact put_sorts HSO.out (by omega) (take_le HSO.out.2 (by omega) hstop) HHI.out)
          rcases Nat.eq_zero_or_pos q with rfl | hq0
          · clear hstop ho hb HHI
            generalize ix (rowUp L x 0) 0 = z at cq
            go_wp2
            go_quiet (fail)
            go_wp2
            go_roundw
            case rel => exact ⟨k + 1, _, _, _, by omega, by go_num, rfl, HPUT.out _, hnew, (below_drewN HB2.out _).setCell hgb _⟩
            case measure => simp [intOf]; omega
          · have hless := hstop.resolve_left (by omega)
            obtain ⟨r, rfl⟩ : ∃ r, q = r + 1 := ⟨q - 1, by omega⟩
            have cr := own_cell ho r (by omega)
            rw [rowUp_ahead L x (r + 1) r (by omega) (by omega)] at cr
            rw [Nat.add_sub_cancel] at hless
            clear hstop ho hb HHI
            generalize ix (rowUp L x (r + 1)) (r + 1) = z at cq
            generalize ix L r = y at cr hless
            have hcmp := fun W => gtr_str y x W
            rw [hless] at hcmp
            have m1 : IntKind.i64.wrap (r : Int) = (r : Int) := IntWalk.i64_in _ (by omega)
            have m2 : (0 : Int) < (r : Int) + 1 := by omega
            have m5 : (0 : Int) ≤ (r : Int) ∧ (r : Int) < ((k + 1 : Nat) : Int) := by omega
            have m6 : (k : Int) < (n : Int) := by omega
            have m7 : r < k + 1 := by omega
            have m3 : (r : Int) < (k : Int) + 1 := by omega
            have m4 : (r : Int) + 1 < (k : Int) + 1 := by omega
            go_wp2
            go_quiet (fail)
            go_wp2
            go_roundw
            case rel => exact ⟨k + 1, _, _, _, by omega, by go_num, rfl, HPUT.out _, hnew, (below_drewN HB2.out _).setCell hgb _⟩
            case measure => simp [intOf]; omega
        · have hq0 : q ≠ 0 := fun e => hstop (.inl e)
          have hless : Op.bytesLess x.toList (ix L (q - 1)).toList = true := by
            cases hh : Op.bytesLess x.toList (ix L (q - 1)).toList
            · exact absurd (.inr hh) hstop
            · rfl
          obtain ⟨r, rfl⟩ : ∃ r, q = r + 1 := ⟨q - 1, by omega⟩
          rw [Nat.add_sub_cancel] at hless
          have cr := own_cell ho r (by omega)
          rw [rowUp_ahead L x (r + 1) r (by omega) (by omega)] at cr
          have HSTEP : Hid (∀ m, ((wr.drewN m).setCell ⟨g, r + 1, none⟩ (.string (ix L r))).ownsRow w.heap.size 9 1 (.slice (some ⟨g, 0, none⟩) (k + 1) c2) (k + 1) ((rowUp L x r).map Value.string)) := Lib.hid (fun m => by
            have := ((owns_below ho (below_drewN (Below.refl _ _) m)).stored (r + 1) (.string (ix L r))).1
            have hs := rowUp_step L x r (by omega)
            rw [rowUp_ahead L x (r + 1) r (by omega) (by omega)] at hs
            rwa [← List.map_set, hs] at this)
          have HHN : Hid (∀ y ∈ L.drop r, leT x y) := Lib.hid (fun y hy => by
            have hrl : r < L.length := by omega
            rw [List.drop_eq_getElem_cons hrl] at hy
            rcases List.mem_cons.1 hy with rfl | hy
            · have e : ix L r = L[r] := by show L.getD r ByteArray.empty = _; rw [List.getD_eq_getElem?_getD, List.getElem?_eq_getElem hrl]; rfl
              rw [← e]
              exact leT_of_less hless
            · exact HHI.out y hy)
          clear hstop ho hb HHI HPUT
          generalize ix (rowUp L x (r + 1)) (r + 1) = z at cq
          generalize ix L r = y at cr hless HSTEP
          have hcmp := fun W => gtr_str y x W
          rw [hless] at hcmp
          have m1 : IntKind.i64.wrap (r : Int) = (r : Int) := IntWalk.i64_in _ (by omega)
          have m2 : (0 : Int) < (r : Int) + 1 := by omega
          have m3 : (r : Int) < (k : Int) + 1 := by omega
          have m4 : (r : Int) + 1 < (k : Int) + 1 := by omega
          go_wp2
          go_quiet (fail)
          go_wp2
          go_roundw
          case rel => exact ⟨r, by omega, by go_num, HSTEP.out _, HHN, (below_drewN HB2.out _).setCell hgb _⟩
          case measure => simp [intOf]; try omega
    · obtain rfl : k = n := by omega
      have HSORT : Hid (L = sortT l) := Lib.hid (by
        have := HSO.out
        rw [← HL.out, List.take_length] at this
        exact sortT_is this)
      have HSZL : Hid (∀ i, i < k → (ix L i).size ≤ 5000000) := Lib.hid (fun i hi => by
        have hm : ix L i ∈ L := by
          show L.getD i ByteArray.empty ∈ L
          rw [List.getD_eq_getElem?_getD, List.getElem?_eq_getElem (by omega)]
          exact List.getElem_mem _
        have hp := HSO.out.1
        rw [← HL.out, List.take_length] at hp
        obtain ⟨j, hj, he⟩ := List.getElem_of_mem (hp.mem_iff.1 hm)
        have := HSZ.out j (by have := HL.out; omega)
        rw [List.getD_eq_getElem?_getD, List.getElem?_eq_getElem hj] at this
        rw [← he]
        exact this)
      clear HSO HSZ HR
      go_wp2
      go_loopw [6, 57] (fun v i wr2 => ∃ j : Nat, j ≤ k ∧ i = .int .i64 j ∧ v = .string ⟨(linesT (L.take j)).toArray⟩ ∧ (linesT (L.take j)).length ≤ 5000001 * j ∧ wr2 = wr) (fun _ i _ => k - (intOf i).toNat)
      case atStart => exact ⟨0, Nat.zero_le _, by first | rfl | trivial, by first | rfl | trivial, by first | exact Nat.le_refl _ | trivial, by first | rfl | trivial⟩
      case round =>
        obtain ⟨j, hj, rfl, rfl, hlen, rfl⟩ := hrel
        by_cases hlj : j < k
        · obtain ⟨g, rfl⟩ : ∃ g, a' = some ⟨g, 0, none⟩ := by
            rcases HO.out.2 with ⟨hv, h0⟩ | ⟨g, cap, cur, hv, _⟩
            · omega
            · simp only [Value.slice.injEq] at hv
              exact ⟨g, hv.1⟩
          have cr := own_cell HO.out j hlj
          have hsx := HSZL.out j hlj
          have HTS : Hid (linesT (L.take (j + 1)) = linesT (L.take j) ++ ((ix L j).data.toList ++ [60])) := Lib.hid (by
            rw [List.take_succ_eq_append_getElem (by omega), linesT_snoc]
            show _ = _ ++ ((L.getD j ByteArray.empty).data.toList ++ [60])
            rw [List.getD_eq_getElem?_getD, List.getElem?_eq_getElem (by omega)]
            rfl)
          have hos : (⟨(linesT (L.take j)).toArray⟩ : ByteArray).size ≤ 5000001 * j := by show (linesT (L.take j)).toArray.size ≤ _; rw [List.size_toArray]; exact hlen
          have HLEN := Lib.hid hlen
          have HOE : Hid (∀ s : ByteArray, (⟨(linesT (L.take j)).toArray⟩ : ByteArray) ++ s ++ (⟨#[60]⟩ : ByteArray) = ⟨(linesT (L.take j) ++ (s.data.toList ++ [60])).toArray⟩) := Lib.hid (fun s => by apply ByteArray.ext; simp)
          generalize (⟨(linesT (L.take j)).toArray⟩ : ByteArray) = out at hos HOE ⊢
          generalize ix L j = s at cr hsx HTS
          clear hlen
          have q1 : (j : Int) < (k : Int) := by omega
          have s1 : ¬ 9223372036854775807 < out.size + s.size := by omega
          have s2 : ¬ 9223372036854775807 < out.size + s.size + 1 := by omega
          go_wp2
          go_roundw
          case rel =>
            refine ⟨j + 1, by omega, by go_num, ?_, ?_, by first | rfl | trivial⟩
            · rw [HTS.out, ← HOE.out]
            · rw [HTS.out]
              have e1 : s.data.toList.length = s.size := rfl
              simp only [List.length_append, e1, List.length_cons, List.length_nil]
              have := HLEN.out
              omega
          case measure => simp [intOf]; omega
        · obtain rfl : j = k := by omega
          have hall : L.take j = L := List.take_of_length_le (by omega)
          rw [hall, HSORT.out] at *
          go_wp2
          go_ret
          exact ⟨by first | rfl | trivial, HB.out⟩
end Go.Proofs.YtmmicoiiklcakaaDoor
