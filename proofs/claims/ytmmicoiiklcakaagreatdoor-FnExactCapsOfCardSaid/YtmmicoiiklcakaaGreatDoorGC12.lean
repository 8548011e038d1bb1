/- Plain words on a text put into its place in a rising row. -/
import Derived.Test.YtmmicoiiklcakaaGreatDoorGC3
import Derived.Lib.FrozenHead2
namespace Go.Proofs.YtmmicoiiklcakaaGreatDoor
set_option linter.unusedVariables false

/-- the row L ++ [x] when what stood from place p on has been moved up by one -/
def rowUp (L : List ByteArray) (x : ByteArray) (p : Nat) : List ByteArray := L.take p ++ (match L.drop p with | [] => [x] | y :: ys => y :: y :: ys)
theorem rowUp_start (L : List ByteArray) (x : ByteArray) : rowUp L x L.length = L ++ [x] := by simp [rowUp]
theorem rowUp_length (L : List ByteArray) (x : ByteArray) (p : Nat) (h : p ≤ L.length) : (rowUp L x p).length = L.length + 1 := by
  unfold rowUp
  cases hd : L.drop p with
  | nil =>
    have : L.length ≤ p := List.drop_eq_nil_iff.1 hd
    simp
    omega
  | cons y ys =>
    have h2 : (L.drop p).length = ys.length + 1 := by rw [hd]; rfl
    rw [List.length_drop] at h2
    simp
    omega
theorem rowUp_ahead (L : List ByteArray) (x : ByteArray) (p j : Nat) (h : p ≤ L.length) (hj : j < p) : ix (rowUp L x p) j = ix L j := by
  unfold rowUp ix
  rw [List.getD_eq_getElem?_getD, List.getD_eq_getElem?_getD, List.getElem?_append_left (by simp; omega), List.getElem?_take, if_pos hj]
theorem rowUp_step (L : List ByteArray) (x : ByteArray) (p : Nat) (h : p + 1 ≤ L.length) : (rowUp L x (p + 1)).set (p + 1) (ix (rowUp L x (p + 1)) p) = rowUp L x p := by
  rw [rowUp_ahead L x (p + 1) p h (by omega)]
  have hp : p < L.length := by omega
  have hix : ix L p = L[p] := by unfold ix; rw [List.getD_eq_getElem?_getD, List.getElem?_eq_getElem hp]; rfl
  unfold rowUp
  have hl : (L.take (p + 1)).length = p + 1 := by simp; omega
  rw [List.set_append_right _ _ (by omega), hl, Nat.sub_self, List.drop_eq_getElem_cons hp, hix, List.take_succ_eq_append_getElem hp, List.append_assoc]
  cases hd : L.drop (p + 1) with
  | nil => simp
  | cons y ys => simp
theorem rowUp_put (L : List ByteArray) (x : ByteArray) (p : Nat) (h : p ≤ L.length) : (rowUp L x p).set p x = L.take p ++ x :: L.drop p := by
  have hl : (L.take p).length = p := by simp; omega
  unfold rowUp
  rw [List.set_append_right _ _ (by omega), hl, Nat.sub_self]
  cases hd : L.drop p with
  | nil => simp
  | cons y ys => simp
/-- x put in at p keeps the row rising -/
theorem put_sorts {xs L : List ByteArray} {x : ByteArray} {p : Nat} (h : Sorts xs L) (hp : p ≤ L.length) (hlo : ∀ y ∈ L.take p, leT y x) (hhi : ∀ y ∈ L.drop p, leT x y) : Sorts (xs ++ [x]) (L.take p ++ x :: L.drop p) := by
  refine ⟨?_, ?_⟩
  · have h1 : (L.take p ++ x :: L.drop p).Perm (x :: (L.take p ++ L.drop p)) := List.perm_middle
    rw [List.take_append_drop] at h1
    exact h1.trans ((List.Perm.cons x h.1).trans (List.perm_append_singleton x xs).symm)
  · have hs := h.2
    rw [← List.take_append_drop p L, List.pairwise_append] at hs
    rw [List.pairwise_append, List.pairwise_cons]
    refine ⟨hs.1, ⟨hhi, hs.2.1⟩, fun a ha b hb => ?_⟩
    rcases List.mem_cons.1 hb with rfl | hb
    · exact hlo a ha
    · exact hs.2.2 a ha b hb
/-- in a rising row, what stands ahead of a place is not above what stands there -/
theorem take_le {L : List ByteArray} {x : ByteArray} {p : Nat} (hs : L.Pairwise leT) (hp : p ≤ L.length) (h : p = 0 ∨ leT (ix L (p - 1)) x) : ∀ y ∈ L.take p, leT y x := by
  intro y hy
  rcases h with rfl | h
  · simp at hy
  · obtain ⟨i, hi, rfl⟩ := List.getElem_of_mem hy
    rw [List.length_take] at hi
    have hq : p - 1 < L.length := by omega
    have e : ix L (p - 1) = L[p - 1] := by unfold ix; rw [List.getD_eq_getElem?_getD, List.getElem?_eq_getElem hq]; rfl
    rw [List.getElem_take]
    rw [e] at h
    rcases Nat.lt_or_ge i (p - 1) with h1 | h1
    · exact leT_trans (List.pairwise_iff_getElem.1 hs i (p - 1) (by omega) hq h1) h
    · have : i = p - 1 := by omega
      subst this
      exact h
end Go.Proofs.YtmmicoiiklcakaaGreatDoor

/- toIdentity: what came in is copied. -/
namespace Go.Proofs.YtmmicoiiklcakaaGreatDoor
open Go.ChangeShapes Go.WideShapes Go.ChangeAt Go.RowKit
set_option linter.unusedVariables false

set_option maxHeartbeats 400000 in
theorem toIdentity_any (s t u v : ByteArray) (w : World) :
    Calls Tryz.prog 234 #[.agg #[.string s, .string t, .string u, .string v]] w fun e w' => e = .returned (.agg #[.string s, .string t, .string u, .string v]) ∧ Below w.heap.size w w' := by
  go_enter Tryz.func234, Tryz.ntmps234
  go_wp2
  exact bodyPost_ret (v := .agg #[.string s, .string t, .string u, .string v]) (by simp [results, Tryz.results234, go_sem]) rfl ⟨rfl, below3 _ _ _ _⟩

end Go.Proofs.YtmmicoiiklcakaaGreatDoor

/- toIdentity, toIdentityS, toStringS, toDisco: what came in is copied. -/
namespace Go.Proofs.YtmmicoiiklcakaaGreatDoor
open Go.ChangeShapes Go.WideShapes Go.ChangeAt Go.RowKit
set_option linter.unusedVariables false

theorem identInfo : (Tryz.prog.info? 54).map (fun i => (i.zero, i.size, i.bytes)) = some (some (.agg #[.string ByteArray.empty, .string ByteArray.empty, .string ByteArray.empty, .string ByteArray.empty]), 4, 64) := by kernel_rfl
theorem strInfoD : (Tryz.prog.info? 9).map (fun i => (i.zero, i.size, i.bytes)) = some (some (.string ByteArray.empty), 1, 16) := by kernel_rfl
/-- a block of two cells -/
structure TwoC (W : World) (b : Nat) (u v : Value) : Prop where
  lt : b < W.heap.size
  c0 : W.cell? ⟨b, 0, none⟩ = some u
  c1 : W.cell? ⟨b, 1, none⟩ = some v
  fz : ∀ i, W.frozen? ⟨b, i, none⟩ = false
theorem TwoC.new (w : World) (b : Nat) (T : TypeId) (u v : Value) (hb : b = w.heap.size) : TwoC (w.alloc (.cells #[u, v] T)) b u v := by
  subst hb
  have h : (w.alloc (.cells #[u, v] T)).heap[w.heap.size]? = some (.cells #[u, v] T (0, 0)) := heap_alloc_new w _
  exact ⟨by simp, by rw [Lib.cell_of_heap h]; rfl, by rw [Lib.cell_of_heap h]; rfl, fun i => Lib.frozen_of_heap h i⟩
theorem TwoC.below {W W' : World} {b : Nat} {u v : Value} (h : TwoC W b u v) (hb : Below W.heap.size W W') : TwoC W' b u v :=
  ⟨Nat.lt_of_lt_of_le h.lt hb.size, (hb.cell (by exact h.lt)).trans h.c0, (hb.cell (by exact h.lt)).trans h.c1, fun i => (hb.frozen (by exact h.lt)).trans (h.fz i)⟩
theorem TwoC.other {W : World} {b : Nat} {u v : Value} (h : TwoC W b u v) (p : Addr) (x : Value) (hp : p.block ≠ b) : TwoC (W.setCell p x) b u v :=
  ⟨by simpa using h.lt, (World.cell?_setCell_other _ _ _ _ (fun e => hp (by rw [e]))).trans h.c0, (World.cell?_setCell_other _ _ _ _ (fun e => hp (by rw [e]))).trans h.c1, fun i => by simpa using h.fz i⟩
theorem TwoC.set0 {W : World} {b : Nat} {u v : Value} (h : TwoC W b u v) (x : Value) : TwoC (W.setCell ⟨b, 0, none⟩ x) b x v :=
  ⟨by simpa using h.lt, World.cell?_setCell_same _ _ _ (by rw [h.c0]), (World.cell?_setCell_other _ _ _ _ (fun e => by simp at e)).trans h.c1, fun i => by simpa using h.fz i⟩
/-- what is known of a slice's spare room -/
def CapOk (a : Option Addr) (n c : Nat) : Prop := n ≤ c ∧ c ≤ maxLen ∧ (a = none → c = 0)
def IdsResC (w : World) (l : List Ident) (e : Ending) (w' : World) : Prop := ∃ a n c, e = .returned (.slice a n c) ∧ IdsAt w' a n c l ∧ CapOk a n c ∧ (∀ y, a = some y → w.heap.size ≤ y.block) ∧ Below w.heap.size w w'
def StsResC (w : World) (l : List ByteArray) (e : Ending) (w' : World) : Prop := ∃ a n c, e = .returned (.slice a n c) ∧ StsAt w' a n c l ∧ CapOk a n c ∧ (∀ y, a = some y → w.heap.size ≤ y.block) ∧ Below w.heap.size w w'
def DisResC (w : World) (d : Dis) (e : Ending) (w' : World) : Prop := ∃ a1 n1 c1 a2 n2 c2, e = .returned (.agg #[.slice a1 n1 c1, .slice a2 n2 c2]) ∧ DisAt w' a1 n1 c1 a2 n2 c2 d ∧ (CapOk a1 n1 c1 ∧ CapOk a2 n2 c2) ∧ Below w.heap.size w w'
theorem ids_step {w : World} {B j n : Nat} {l : List Ident} {s t u v : ByteArray} (hr : Room w B (n * 4)) (hj : j < n) (hx : l.getD j dId = ⟨s, t, u, v⟩)
    (hd : ∀ i, i < j → IdAt w B (i * 4) (l.getD i dId)) :
    ∀ i, i < j + 1 → IdAt ((((w.setCell ⟨B, j * 4, none⟩ (.string s)).setCell ⟨B, j * 4 + 1, none⟩ (.string t)).setCell ⟨B, j * 4 + 2, none⟩ (.string u)).setCell ⟨B, j * 4 + 3, none⟩ (.string v)) B (i * 4) (l.getD i dId) := by
  intro i hi
  rcases Nat.lt_or_ge i j with h | h
  · exact ((((hd i h).set (by omega)).set (by omega)).set (by omega)).set (by omega)
  · obtain rfl : i = j := by omega
    rw [hx]
    have r1 := hr.set ⟨B, i * 4, none⟩ (.string s)
    have r2 := r1.set ⟨B, i * 4 + 1, none⟩ (.string t)
    have r3 := r2.set ⟨B, i * 4 + 2, none⟩ (.string u)
    refine ⟨(r3.set _ _).1, ?_, ?_, ?_, ?_⟩
    · rw [set_off (by omega), set_off (by omega), set_off (by omega)]
      exact hr.put (by omega) _
    · rw [set_off (by omega), set_off (by omega)]
      exact r1.put (by omega) _
    · rw [set_off (by omega)]
      exact r2.put (by omega) _
    · exact r3.put (by omega) _

set_option maxRecDepth 100000 in
set_option maxHeartbeats 1600000 in
theorem toIdentityS_any (a : Option Addr) (n c : Nat) (l : List Ident) (w : World) (hn : l.length ≤ 1048576) (h : IdsAt w a n c l) :
    Calls Tryz.prog 143 #[.slice a n c] w (IdsResC w l) := by
  obtain ⟨i0, hi, hz0, hz1, hz2⟩ := info_parts identInfo
  have HR := Lib.hid h.row
  have HL := Lib.hid h.len
  have hn' : n ≤ 1048576 := by have := h.len; omega
  clear h hn
  go_enter Tryz.func143, Tryz.ntmps143
  go_wp2_with (at_make; refine wpList_make_full _ rfl _ _ 47 rfl w.heap.size 54 i0 _ 4 Tryz.underlying47 hi hz0 hz1 .i64 .i64 (n : Int) (n : Int) n rfl rfl rfl rfl ?c1 ?c2 ?c3 ?_)
  case c1 => rw [hz2]; omega
  case c2 => unfold maxLen; omega
  case c3 => exact Nat.le_refl _
  intro w1 ho1 hg1
  have HRoom := Lib.hid (room_made ho1)
  have HB1 := Lib.hid (below_made hg1)
  clear ho1 hg1
  go_wp2
  go_loopw [4] (fun i wr => ∃ j : Nat, j ≤ n ∧ i = .int .i64 j ∧ Room wr w.heap.size (n * 4) ∧ (∀ i, i < j → IdAt wr w.heap.size (i * 4) (l.getD i dId)) ∧ Below w.heap.size w wr) (fun i _ => n - (intOf i).toNat)
  case atStart => exact ⟨0, Nat.zero_le _, rfl, HRoom.out, fun i hi => by omega, HB1.out⟩
  case round =>
    obtain ⟨j, hj, rfl, hroom, hdone, hb⟩ := hrel
    by_cases hlt : j < n
    · rcases HR.out with h0 | ⟨b, o, rfl, h4⟩
      · omega
      · have hi4 := (h4 j hlt).below hb
        have d0 := hi4.c0
        have d1 := hi4.c1
        have d2 := hi4.c2
        have d3 := hi4.c3
        obtain ⟨x, hx⟩ : ∃ x, l.getD j dId = x := ⟨_, rfl⟩
        rw [hx] at d0 d1 d2 d3
        have HX := Lib.hid hx
        have HROOM := Lib.hid hroom
        have HDONE := Lib.hid hdone
        have HB := Lib.hid hb
        obtain ⟨s, t, u, v⟩ := x
        dsimp only at d0 d1 d2 d3
        clear hx hi4 h4 hroom hdone hb
        go_wp2_with fail
        refine (toIdentity_any s t u v _).mono ?_
        rintro e w2 ⟨rfl, hb2⟩
        have hr2 := HROOM.out.below hb2
        obtain ⟨⟨v0, q0⟩, f0⟩ := hr2.2 (j * 4) (by omega)
        obtain ⟨⟨v1, q1⟩, f1⟩ := hr2.2 (j * 4 + 1) (by omega)
        obtain ⟨⟨v2, q2⟩, f2⟩ := hr2.2 (j * 4 + 2) (by omega)
        obtain ⟨⟨v3, q3⟩, f3⟩ := hr2.2 (j * 4 + 3) (by omega)
        have HR2 := Lib.hid hr2
        have HB2 := Lib.hid hb2
        clear hr2 hb2 d0 d1 d2 d3
        go_wp2
        go_roundw
        case rel =>
          refine ⟨j + 1, by omega, by go_num, (((HR2.out.set _ _).set _ _).set _ _).set _ _, ids_step HR2.out hlt HX.out (fun i hi => (HDONE.out i hi).below HB2.out), ?_⟩
          have hb3 := HB.out.trans (HB2.out.mono HB.out.size)
          exact (((hb3.setCell (Nat.le_refl _) _).setCell (Nat.le_refl _) _).setCell (Nat.le_refl _) _).setCell (Nat.le_refl _) _
        case measure => simp [intOf]; omega
    · obtain rfl : j = n := by omega
      have HDONE := Lib.hid hdone
      have HB := Lib.hid hb
      clear hroom hdone hb
      go_wp2
      go_ret
      exact ⟨_, _, _, rfl, ⟨HL.out, by omega, .inr ⟨w.heap.size, 0, rfl, fun i hi => by rw [Nat.zero_add]; exact HDONE.out i hi⟩⟩, ⟨Nat.le_refl _, by unfold maxLen; omega, fun h => by cases h⟩, fun y hy => by cases hy; exact Nat.le_refl _, HB.out⟩

set_option maxRecDepth 100000 in
set_option maxHeartbeats 1600000 in
theorem toStringS_any (a : Option Addr) (n c : Nat) (l : List ByteArray) (w : World) (hn : l.length ≤ 1048576) (h : StsAt w a n c l) :
    Calls Tryz.prog 144 #[.slice a n c] w (StsResC w l) := by
  obtain ⟨i0, hi, hz0, hz1, hz2⟩ := info_parts strInfoD
  have HR := Lib.hid h.row
  have HL := Lib.hid h.len
  have hn' : n ≤ 1048576 := by have := h.len; omega
  clear h hn
  go_enter Tryz.func144, Tryz.ntmps144
  go_wp2_with (at_make; refine wpList_make_full _ rfl _ _ 48 rfl w.heap.size 9 i0 _ 1 Tryz.underlying48 hi hz0 hz1 .i64 .i64 (n : Int) (n : Int) n rfl rfl rfl rfl ?c1 ?c2 ?c3 ?_)
  case c1 => rw [hz2]; omega
  case c2 => unfold maxLen; omega
  case c3 => exact Nat.le_refl _
  intro w1 ho1 hg1
  have HRoom := Lib.hid (room_made ho1)
  have HB1 := Lib.hid (below_made hg1)
  clear ho1 hg1
  go_wp2
  go_loopw [4] (fun i wr => ∃ j : Nat, j ≤ n ∧ i = .int .i64 j ∧ Room wr w.heap.size (n * 1) ∧ (∀ i, i < j → wr.cell? ⟨w.heap.size, i, none⟩ = some (.string (l.getD i ByteArray.empty))) ∧ Below w.heap.size w wr) (fun i _ => n - (intOf i).toNat)
  case atStart => exact ⟨0, Nat.zero_le _, rfl, HRoom.out, fun i hi => by omega, HB1.out⟩
  case round =>
    obtain ⟨j, hj, rfl, hroom, hdone, hb⟩ := hrel
    by_cases hlt : j < n
    · rcases HR.out with h0 | ⟨b, o, rfl, hb0, h4⟩
      · omega
      · have d0 := (hb.cell (p := ⟨b, o + j, none⟩) hb0).trans (h4 j hlt)
        obtain ⟨x, hx⟩ : ∃ x, l.getD j ByteArray.empty = x := ⟨_, rfl⟩
        rw [hx] at d0
        obtain ⟨⟨v0, q0⟩, f0⟩ := hroom.2 j (by omega)
        have HX := Lib.hid hx
        have HROOM := Lib.hid hroom
        have HDONE := Lib.hid hdone
        have HB := Lib.hid hb
        clear hx h4 hroom hdone hb
        go_wp2
        go_roundw
        case rel =>
          refine ⟨j + 1, by omega, by go_num, HROOM.out.set _ _, fun i hi => ?_, HB.out.setCell (p := ⟨w.heap.size, j, none⟩) (Nat.le_refl _) _⟩
          rcases Nat.lt_or_ge i j with h | h
          · rw [set_off (by omega)]
            exact HDONE.out i h
          · obtain rfl : i = j := by omega
            rw [HX.out]
            exact HROOM.out.put (by omega) _
        case measure => simp [intOf]; omega
    · obtain rfl : j = n := by omega
      have HROOM := Lib.hid hroom
      have HDONE := Lib.hid hdone
      have HB := Lib.hid hb
      clear hroom hdone hb
      go_wp2
      go_ret
      exact ⟨_, _, _, rfl, ⟨HL.out, by omega, .inr ⟨w.heap.size, 0, rfl, HROOM.out.1, fun i hi => by rw [Nat.zero_add]; exact HDONE.out i hi⟩⟩, ⟨Nat.le_refl _, by unfold maxLen; omega, fun h => by cases h⟩, fun y hy => by cases hy; exact Nat.le_refl _, HB.out⟩

set_option maxRecDepth 100000 in
set_option maxHeartbeats 1600000 in
theorem toDisco_any (a1 a2 : Option Addr) (n1 c1 n2 c2 : Nat) (d : Dis) (w : World) (hs : SmallDis d) (h : DisAt w a1 n1 c1 a2 n2 c2 d) :
    Calls Tryz.prog 67 #[.agg #[.slice a1 n1 c1, .slice a2 n2 c2]] w (DisResC w d) := by
  have K1 := Lib.hid (fun W (hb : Below w.heap.size w W) => toIdentityS_any a1 n1 c1 d.ids W hs.1.1 (h.ids.below hb))
  have K2 := Lib.hid (fun W (hb : Below w.heap.size w W) => toStringS_any a2 n2 c2 d.feats W hs.2.1 (h.feats.below hb))
  unfold IdsResC at K1
  unfold StsResC at K2
  unfold DisResC
  clear hs h
  go_enter Tryz.func67, Tryz.ntmps67
  go_wp2_with fail
  refine (K1.out _ (below3 _ _ _ _)).mono ?_
  rintro e w1 ⟨b1, m1, k1, rfl, hi1, hcp1, hy1, hb1⟩
  have T0 := Lib.hid ((((TwoC.new w w.heap.size 71 (.slice a1 n1 c1) (.slice a2 n2 c2) rfl).below (below1 _ (.cells #[.slice none 0 0, .slice none 0 0] 50))).below (below1 _ (.cells #[.slice none 0 0, .slice none 0 0] 50))).below hb1)
  have T1 := Lib.hid (((TwoC.new (w.alloc (.cells #[.slice a1 n1 c1, .slice a2 n2 c2] 71)) (w.heap.size + 1) 50 (.slice none 0 0) (.slice none 0 0) (by simp)).below (below1 _ (.cells #[.slice none 0 0, .slice none 0 0] 50))).below hb1)
  have T2 := Lib.hid ((TwoC.new ((w.alloc (.cells #[.slice a1 n1 c1, .slice a2 n2 c2] 71)).alloc (.cells #[.slice none 0 0, .slice none 0 0] 50)) (w.heap.size + 1 + 1) 50 (.slice none 0 0) (.slice none 0 0) (by simp)).below hb1)
  have HI1 := Lib.hid hi1
  have HCP1 := Lib.hid hcp1
  have HY1 := Lib.hid (fun y hy => by have := hy1 y hy; simp at this; exact this : ∀ y, b1 = some y → w.heap.size + 1 + 1 + 1 ≤ y.block)
  have HB1 := Lib.hid (below_then (below3 _ _ _ _) hb1)
  have g1 := T0.out.c1
  have h0 := T0.out.lt
  have h02 := T2.out.lt
  have e3 := T2.out.fz 0
  have g4 := T2.out.c0
  clear hi1 hcp1 hy1 hb1
  go_wp2_with fail
  refine (K2.out _ (HB1.out.setCell (by simp; omega) _)).mono ?_
  rintro e w2 ⟨b2, m2, k2, rfl, hi2, hcp2, hy2, hb2⟩
  have s2 : (w1.setCell ⟨w.heap.size + 1 + 1, 0, none⟩ (.slice b1 m1 k1)).heap.size = w1.heap.size := by simp
  have HI2 := Lib.hid hi2
  have HCP2 := Lib.hid hcp2
  have HY2 := Lib.hid (fun y hy => by have := hy2 y hy; rw [s2] at this; omega : ∀ y, b2 = some y → w.heap.size + 1 + 1 + 1 ≤ y.block)
  have HI12 := Lib.hid ((HI1.out.set (p := ⟨w.heap.size + 1 + 1, 0, none⟩) (v := .slice b1 m1 k1) (fun y hy => by have := HY1.out y hy; show w.heap.size + 1 + 1 ≠ y.block; omega)).below hb2)
  have HB2 := Lib.hid (below_then (HB1.out.setCell (p := ⟨w.heap.size + 1 + 1, 0, none⟩) (by show w.heap.size ≤ w.heap.size + 1 + 1; omega) (.slice b1 m1 k1)) hb2)
  have U1 := (T1.out.other ⟨w.heap.size + 1 + 1, 0, none⟩ (.slice b1 m1 k1) (by show w.heap.size + 1 + 1 ≠ w.heap.size + 1; omega)).below hb2
  have U2 := (T2.out.set0 (.slice b1 m1 k1)).below hb2
  have k0' := U1.c0
  have k1' := U1.c1
  have k2' := U2.c0
  have k3' := U2.c1
  have f1' := U1.fz
  have f2' := U2.fz
  have l1 := U1.lt
  have l2 := U2.lt
  clear hi2 hcp2 hy2 hb2 g1 g4 e3 h0 h02 s2 U1 U2
  go_wp2_with fail
  have np : ∀ (q : Addr), q.block ≤ w.heap.size + 1 + 1 → (∀ y, b1 = some y → q.block ≠ y.block) ∧ (∀ y, b2 = some y → q.block ≠ y.block) := fun q hq => ⟨fun y hy => by have := HY1.out y hy; omega, fun y hy => by have := HY2.out y hy; omega⟩
  refine bodyPost_ret (v := .agg #[.slice b1 m1 k1, .slice b2 m2 k2]) ?_ rfl ⟨b1, m1, k1, b2, m2, k2, rfl, ⟨?_, ?_⟩, ⟨HCP1.out, HCP2.out⟩, ?_⟩
  · have r0 : (((w2.setCell ⟨w.heap.size + 1 + 1, 1, none⟩ (.slice b2 m2 k2)).setCell ⟨w.heap.size + 1, 0, none⟩ (.slice b1 m1 k1)).setCell ⟨w.heap.size + 1, 1, none⟩ (.slice b2 m2 k2)).cell? ⟨w.heap.size + 1, 0, none⟩ = some (.slice b1 m1 k1) := by
      rw [World.cell?_setCell_other _ _ _ _ (fun e => by simp at e)]
      exact World.cell?_setCell_same _ _ _ (by rw [World.cell?_setCell_other _ _ _ _ (fun e => by simp at e), k0'])
    have r1 : (((w2.setCell ⟨w.heap.size + 1 + 1, 1, none⟩ (.slice b2 m2 k2)).setCell ⟨w.heap.size + 1, 0, none⟩ (.slice b1 m1 k1)).setCell ⟨w.heap.size + 1, 1, none⟩ (.slice b2 m2 k2)).cell? ⟨w.heap.size + 1, 1, none⟩ = some (.slice b2 m2 k2) := by
      exact World.cell?_setCell_same _ _ _ (by rw [World.cell?_setCell_other _ _ _ _ (fun e => by simp at e), World.cell?_setCell_other _ _ _ _ (fun e => by simp at e), k1'])
    simp [results, Tryz.results67, go_sem, r0, r1]
  · exact ((HI12.out.set (np _ (by show _ + 1 + 1 ≤ _; omega)).1).set (np _ (by show w.heap.size + 1 ≤ _; omega)).1).set (np _ (by show w.heap.size + 1 ≤ _; omega)).1
  · exact ((HI2.out.set (np _ (by show _ + 1 + 1 ≤ _; omega)).2).set (np _ (by show w.heap.size + 1 ≤ _; omega)).2).set (np _ (by show w.heap.size + 1 ≤ _; omega)).2
  · exact ((HB2.out.setCell (by show w.heap.size ≤ w.heap.size + 1 + 1; omega) _).setCell (by show w.heap.size ≤ w.heap.size + 1; omega) _).setCell (by show w.heap.size ≤ w.heap.size + 1; omega) _
end Go.Proofs.YtmmicoiiklcakaaGreatDoor
