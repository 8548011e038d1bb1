/- toAttr, toAttrS, toItem, toItemS: what came in is copied. -/
import Derived.Test.YtgfjpngcmgfdcaaTree
namespace Go.Proofs.Ytgfjpngcmgfdcaa
open Go.ChangeShapes Go.WideShapes Go.ChangeAt Go.RowKit
set_option linter.unusedVariables false

theorem below3 (w : World) (o1 o2 o3 : Obj) : Below w.heap.size w (((w.alloc o1).alloc o2).alloc o3) := (((Below.refl _ _).alloc (Nat.le_refl _) _).alloc (by simp) _).alloc (by simp; omega) _

set_option maxHeartbeats 400000 in
theorem toAttr_any (s t : ByteArray) (w : World) :
    Calls Try.prog 85 #[.agg #[.string s, .string t]] w fun e w' => e = .returned (.agg #[.string s, .string t]) ∧ Below w.heap.size w w' := by
  go_enter Try.func85, Try.ntmps85
  go_wp2
  exact bodyPost_ret (v := .agg #[.string s, .string t]) (by simp [results, Try.results85, go_sem]) rfl ⟨rfl, below3 _ _ _ _⟩

theorem attrInfo : (Try.prog.info? 108).map (fun i => (i.zero, i.size, i.bytes)) = some (some (.agg #[.string ByteArray.empty, .string ByteArray.empty]), 2, 32) := by kernel_rfl
theorem itemInfo : (Try.prog.info? 30).map (fun i => (i.zero, i.size, i.bytes)) = some (some (.agg #[.int .i64 0, .string ByteArray.empty, .string ByteArray.empty, .string ByteArray.empty, .slice none 0 0]), 5, 80) := by kernel_rfl
theorem below_grown0 {w w1 : World} (h : w.grownBy w1 none) : Below w.heap.size w w1 := ⟨h.os, h.tape, h.output, h.size, fun i hi => h.block i hi (by simp)⟩

/-- a new slice of attributes is handed back -/
def AtsRes (w : World) (l : List At) (e : Ending) (w' : World) : Prop := ∃ a n c, e = .returned (.slice a n c) ∧ AtsAt w' a n c l ∧ (∀ x, a = some x → w.heap.size ≤ x.block) ∧ Below w.heap.size w w'

/-- m cells in block b, not frozen -/
def Room (w : World) (b m : Nat) : Prop := b < w.heap.size ∧ ∀ i, i < m → (∃ v, w.cell? ⟨b, i, none⟩ = some v) ∧ w.frozen? ⟨b, i, none⟩ = false
theorem Room.below {w w' : World} {b m : Nat} (h : Room w b m) (hb : Below w.heap.size w w') : Room w' b m :=
  ⟨Nat.lt_of_lt_of_le h.1 hb.size, fun i hi => ⟨(h.2 i hi).1.imp fun v hv => (hb.cell (p := ⟨b, i, none⟩) h.1).trans hv, (hb.frozen (p := ⟨b, i, none⟩) h.1).trans (h.2 i hi).2⟩⟩
theorem room_made {w : World} {base : Nat} {e : TypeId} {size n g cap : Nat} {xs : List Value} (h : w.ownsRow base e size (.slice (some ⟨g, 0, none⟩) n cap) n xs) : Room w g (n * size) := by
  refine ⟨(h.lt g rfl).2, fun i hi => ⟨?_, h.frozenAt i⟩⟩
  rw [h.cellAt i hi]
  have := h.1
  exact ⟨xs[i]'(by omega), List.getElem?_eq_getElem (by omega)⟩

theorem Room.set {w : World} {b m : Nat} (h : Room w b m) (p : Addr) (v : Value) : Room (w.setCell p v) b m :=
  ⟨by simpa using h.1, fun i hi => ⟨by obtain ⟨v', hv⟩ := (h.2 i hi).1; exact cell?_setCell_some hv, by rw [World.frozen?_setCell]; exact (h.2 i hi).2⟩⟩
theorem Room.put {w : World} {b m i : Nat} (h : Room w b m) (hi : i < m) (v : Value) : (w.setCell ⟨b, i, none⟩ v).cell? ⟨b, i, none⟩ = some v := by
  obtain ⟨u, hu⟩ := (h.2 i hi).1
  exact World.cell?_setCell_same _ _ _ hu
theorem set_off {w : World} {b i j : Nat} {v : Value} (h : i ≠ j) : (w.setCell ⟨b, i, none⟩ v).cell? ⟨b, j, none⟩ = w.cell? ⟨b, j, none⟩ := World.cell?_setCell_other _ _ _ _ (fun e => absurd (congrArg Addr.off e) h)
theorem ats_step {w : World} {B j n : Nat} {l : List At} {s t : ByteArray} (hr : Room w B (n * 2)) (hj : j < n) (hs : (l.getD j dAt).name = s) (ht : (l.getD j dAt).value = t)
    (hd : ∀ i, i < j → w.cell? ⟨B, i * 2, none⟩ = some (.string (l.getD i dAt).name) ∧ w.cell? ⟨B, i * 2 + 1, none⟩ = some (.string (l.getD i dAt).value)) :
    ∀ i, i < j + 1 → ((w.setCell ⟨B, j * 2, none⟩ (.string s)).setCell ⟨B, j * 2 + 1, none⟩ (.string t)).cell? ⟨B, i * 2, none⟩ = some (.string (l.getD i dAt).name) ∧ ((w.setCell ⟨B, j * 2, none⟩ (.string s)).setCell ⟨B, j * 2 + 1, none⟩ (.string t)).cell? ⟨B, i * 2 + 1, none⟩ = some (.string (l.getD i dAt).value) := by
  intro i hi
  rcases Nat.lt_or_ge i j with h | h
  · rw [set_off (by omega), set_off (by omega), set_off (by omega), set_off (by omega)]
    exact hd i h
  · obtain rfl : i = j := by omega
    rw [set_off (by omega), hr.put (by omega), hs, (hr.set _ _).put (by omega), ht]
    exact ⟨rfl, rfl⟩

set_option maxRecDepth 100000 in
set_option maxHeartbeats 1600000 in
theorem toAttrS_any (a : Option Addr) (n c : Nat) (l : List At) (w : World) (hn : l.length ≤ 1048576) (h : AtsAt w a n c l) :
    Calls Try.prog 50 #[.slice a n c] w (AtsRes w l) := by
  obtain ⟨i0, hi, hz0, hz1, hz2⟩ := info_parts attrInfo
  have HR := Lib.hid h.row
  have HS := Lib.hid h.size
  have HL := Lib.hid h.len
  have hn' : n ≤ 1048576 := by have := h.len; omega
  clear h hn
  go_enter Try.func50, Try.ntmps50
  go_wp2_with (at_make; refine wpList_make_full _ rfl _ _ 28 rfl w.heap.size 108 i0 _ 2 Try.underlying28 hi hz0 hz1 .i64 .i64 (n : Int) (n : Int) n rfl rfl rfl rfl ?c1 ?c2 ?c3 ?_)
  case c1 => rw [hz2]; omega
  case c2 => unfold maxLen; omega
  case c3 => exact Nat.le_refl _
  intro w1 ho1 hg1
  have HRoom := Lib.hid (room_made ho1)
  have HB1 := Lib.hid (below_grown0 hg1)
  clear ho1 hg1
  go_wp2
  go_loopw [4] (fun i wr => ∃ j : Nat, j ≤ n ∧ i = .int .i64 j ∧ Room wr w.heap.size (n * 2) ∧ (∀ i, i < j → wr.cell? ⟨w.heap.size, i * 2, none⟩ = some (.string (l.getD i dAt).name) ∧ wr.cell? ⟨w.heap.size, i * 2 + 1, none⟩ = some (.string (l.getD i dAt).value)) ∧ Below w.heap.size w wr) (fun i _ => n - (intOf i).toNat)
  case atStart => exact ⟨0, Nat.zero_le _, rfl, HRoom.out, fun i hi => by omega, HB1.out⟩
  case round =>
    obtain ⟨j, hj, rfl, hroom, hdone, hb⟩ := hrel
    by_cases hlt : j < n
    · rcases HR.out with h0 | ⟨b, o, rfl, h3, h4⟩
      · omega
      · have d0 : wr.cell? ⟨b, o + j * 2, none⟩ = some (.string (l.getD j dAt).name) := (hb.cell (by exact h3)).trans (h4 j hlt).1
        have d1 : wr.cell? ⟨b, o + j * 2 + 1, none⟩ = some (.string (l.getD j dAt).value) := (hb.cell (by exact h3)).trans (h4 j hlt).2
        have HX := Lib.hid (show ∃ x, x = l.getD j dAt from ⟨_, rfl⟩)
        obtain ⟨s, hs⟩ : ∃ s, (l.getD j dAt).name = s := ⟨_, rfl⟩
        obtain ⟨t, ht⟩ : ∃ t, (l.getD j dAt).value = t := ⟨_, rfl⟩
        rw [hs] at d0
        rw [ht] at d1
        have HS1 := Lib.hid hs
        have HT1 := Lib.hid ht
        have HROOM := Lib.hid hroom
        have HDONE := Lib.hid hdone
        have HB := Lib.hid hb
        clear hs ht h4 hroom hdone hb
        go_wp2_with fail
        refine (toAttr_any s t _).mono ?_
        rintro e w2 ⟨rfl, hb2⟩
        have hr2 := HROOM.out.below hb2
        obtain ⟨⟨v0, q0⟩, f0⟩ := hr2.2 (j * 2) (by omega)
        obtain ⟨⟨v1, q1⟩, f1⟩ := hr2.2 (j * 2 + 1) (by omega)
        have HR2 := Lib.hid hr2
        have HB2 := Lib.hid hb2
        clear hr2 hb2 d0 d1
        go_wp2
        go_roundw
        case rel =>
          exact ⟨j + 1, by omega, by go_num, (HR2.out.set _ _).set _ _, ats_step HR2.out hlt HS1.out HT1.out (fun i hi => ⟨(HB2.out.cell (p := ⟨w.heap.size, i * 2, none⟩) HROOM.out.1).trans (HDONE.out i hi).1, (HB2.out.cell (p := ⟨w.heap.size, i * 2 + 1, none⟩) HROOM.out.1).trans (HDONE.out i hi).2⟩),
            ((HB.out.trans (HB2.out.mono HB.out.size)).setCell (p := ⟨w.heap.size, j * 2, none⟩) (Nat.le_refl _) _).setCell (p := ⟨w.heap.size, j * 2 + 1, none⟩) (Nat.le_refl _) _⟩
        case measure => simp [intOf]; omega
    · obtain rfl : j = n := by omega
      have HROOM := Lib.hid hroom
      have HDONE := Lib.hid hdone
      have HB := Lib.hid hb
      clear hroom hdone hb
      go_wp2
      go_ret
      exact ⟨_, _, _, rfl, ⟨HL.out, by omega, HS.out, .inr ⟨w.heap.size, 0, rfl, HROOM.out.1, fun i hi => by rw [Nat.zero_add]; exact HDONE.out i hi⟩⟩, fun x hx => by cases hx; exact Nat.le_refl _, HB.out⟩

/-- five cells that read as an item, its attributes in another block behind B -/
structure ItNew (w : World) (B o : Nat) (x : It) : Prop where
  lt : B < w.heap.size
  wf : -9223372036854775808 ≤ x.depth ∧ x.depth ≤ 9223372036854775807
  size : x.text.size ≤ 9223372036854775807 ∧ x.space.size ≤ 9223372036854775807 ∧ x.name.size ≤ 9223372036854775807
  c0 : w.cell? ⟨B, o, none⟩ = some (.int .i64 x.depth)
  c1 : w.cell? ⟨B, o + 1, none⟩ = some (.string x.text)
  c2 : w.cell? ⟨B, o + 2, none⟩ = some (.string x.space)
  c3 : w.cell? ⟨B, o + 3, none⟩ = some (.string x.name)
  c4 : ∃ a n c, w.cell? ⟨B, o + 4, none⟩ = some (.slice a n c) ∧ AtsAt w a n c x.attrs ∧ ∀ y, a = some y → B < y.block
theorem ItNew.it {w : World} {B o : Nat} {x : It} (h : ItNew w B o x) : ItAt w B o x := by
  obtain ⟨a, n, c, h4, hat, _⟩ := h.c4
  exact ⟨h.lt, h.wf, h.size, h.c0, h.c1, h.c2, h.c3, a, n, c, h4, hat⟩
theorem ItNew.below {w w' : World} {b o : Nat} {x : It} (h : ItNew w b o x) (hb : Below w.heap.size w w') : ItNew w' b o x := by
  obtain ⟨a, n, c, h4, hat, hs⟩ := h.c4
  exact ⟨Nat.lt_of_lt_of_le h.lt hb.size, h.wf, h.size, (hb.cell (by exact h.lt)).trans h.c0, (hb.cell (by exact h.lt)).trans h.c1, (hb.cell (by exact h.lt)).trans h.c2, (hb.cell (by exact h.lt)).trans h.c3, a, n, c, (hb.cell (by exact h.lt)).trans h4, hat.below hb, hs⟩
theorem AtsAt.set {w : World} {a : Option Addr} {n c : Nat} {l : List At} {B i : Nat} {v : Value} (h : AtsAt w a n c l) (hs : ∀ y, a = some y → B < y.block) : AtsAt (w.setCell ⟨B, i, none⟩ v) a n c l := by
  refine ⟨h.len, h.max, h.size, ?_⟩
  rcases h.row with e | ⟨b, o, ha, hr, hc⟩
  · exact .inl e
  · have hne := hs _ ha
    refine .inr ⟨b, o, ha, by simpa using hr, fun i hi => ⟨?_, ?_⟩⟩
    · rw [World.cell?_setCell_other _ _ _ _ (fun e => by simp only [Addr.mk.injEq] at e; simp only at hne; omega)]; exact (hc i hi).1
    · rw [World.cell?_setCell_other _ _ _ _ (fun e => by simp only [Addr.mk.injEq] at e; simp only at hne; omega)]; exact (hc i hi).2
theorem ItNew.set {w : World} {B o i : Nat} {x : It} {v : Value} (h : ItNew w B o x) (hi : i < o ∨ o + 5 ≤ i) : ItNew (w.setCell ⟨B, i, none⟩ v) B o x := by
  obtain ⟨a, n, c, h4, hat, hs⟩ := h.c4
  refine ⟨by simpa using h.lt, h.wf, h.size, ?_, ?_, ?_, ?_, a, n, c, ?_, hat.set hs, hs⟩
  · rw [set_off (by omega)]; exact h.c0
  · rw [set_off (by omega)]; exact h.c1
  · rw [set_off (by omega)]; exact h.c2
  · rw [set_off (by omega)]; exact h.c3
  · rw [set_off (by omega)]; exact h4

/-- an item by value is handed back, its attributes in new memory -/
def ItRes (w : World) (x : It) (e : Ending) (w' : World) : Prop := ∃ a n c, e = .returned (.agg #[.int .i64 x.depth, .string x.text, .string x.space, .string x.name, .slice a n c]) ∧ AtsAt w' a n c x.attrs ∧ (∀ y, a = some y → w.heap.size ≤ y.block) ∧ Below w.heap.size w w'

set_option maxHeartbeats 800000 in
theorem toItem_any (x : It) (a : Option Addr) (n c : Nat) (w : World) (hn : x.attrs.length ≤ 1048576) (h : AtsAt w a n c x.attrs) :
    Calls Try.prog 16 #[.agg #[.int .i64 x.depth, .string x.text, .string x.space, .string x.name, .slice a n c]] w (ItRes w x) := by
  obtain ⟨d, s, t, u, l⟩ := x
  dsimp only at hn h ⊢
  have K := Lib.hid (fun W (hb : Below w.heap.size w W) => toAttrS_any a n c l W hn (h.below hb))
  clear h
  go_enter Try.func16, Try.ntmps16
  go_wp2_with fail
  refine (K.out _ (below3 _ _ _ _)).mono ?_
  rintro e w1 ⟨a1, n1, c1, rfl, hat, hsep, hb⟩
  obtain ⟨hc, hf⟩ := bcell hb
  have hz : w.heap.size + 2 < w1.heap.size := by have := hb.size; simp at this; omega
  have HAT := Lib.hid hat
  have HSEP := Lib.hid hsep
  have HB := Lib.hid hb
  clear hat hsep hb
  go_wp2
  refine bodyPost_ret (v := .agg #[.int .i64 d, .string s, .string t, .string u, .slice a1 n1 c1]) (by simp [results, Try.results16, go_sem, hc]) rfl ⟨_, _, _, rfl, ?_, ?_, ?_⟩
  · have hs : ∀ y, a1 = some y → w.heap.size + 2 < y.block := fun y hy => by have := HSEP.out y hy; simp at this; omega
    have hs1 : ∀ y, a1 = some y → w.heap.size + 1 < y.block := fun y hy => by have := hs y hy; omega
    exact (((((HAT.out.set hs).set hs1).set hs1).set hs1).set hs1).set hs1
  · intro y hy
    have := HSEP.out y hy
    simp at this
    omega
  · have hb := below_then (below3 _ _ _ _) HB.out
    exact (((((hb.setCell (by simp; omega) _).setCell (by simp) _).setCell (by simp) _).setCell (by simp) _).setCell (by simp) _).setCell (by simp) _

/-- a new slice of items is handed back -/
def ItsRes (w : World) (l : List It) (e : Ending) (w' : World) : Prop := ∃ a n c, e = .returned (.slice a n c) ∧ ItsAt w' a n c l ∧ Below w.heap.size w w'
theorem its_step {w : World} {B j n : Nat} {l : List It} {x : It} {a : Option Addr} {m c : Nat} (hr : Room w B (n * 5)) (hj : j < n) (hx : l.getD j dIt = x)
    (hwf : -9223372036854775808 ≤ x.depth ∧ x.depth ≤ 9223372036854775807) (hsz : x.text.size ≤ 9223372036854775807 ∧ x.space.size ≤ 9223372036854775807 ∧ x.name.size ≤ 9223372036854775807)
    (hat : AtsAt w a m c x.attrs) (hs : ∀ y, a = some y → B < y.block) (hd : ∀ i, i < j → ItNew w B (i * 5) (l.getD i dIt)) :
    ∀ i, i < j + 1 → ItNew (((((w.setCell ⟨B, j * 5, none⟩ (.int .i64 x.depth)).setCell ⟨B, j * 5 + 1, none⟩ (.string x.text)).setCell ⟨B, j * 5 + 2, none⟩ (.string x.space)).setCell ⟨B, j * 5 + 3, none⟩ (.string x.name)).setCell ⟨B, j * 5 + 4, none⟩ (.slice a m c)) B (i * 5) (l.getD i dIt) := by
  intro i hi
  rcases Nat.lt_or_ge i j with h | h
  · exact (((((hd i h).set (by omega)).set (by omega)).set (by omega)).set (by omega)).set (by omega)
  · obtain rfl : i = j := by omega
    rw [hx]
    have r1 := hr.set ⟨B, i * 5, none⟩ (.int .i64 x.depth)
    have r2 := r1.set ⟨B, i * 5 + 1, none⟩ (.string x.text)
    have r3 := r2.set ⟨B, i * 5 + 2, none⟩ (.string x.space)
    have r4 := r3.set ⟨B, i * 5 + 3, none⟩ (.string x.name)
    refine ⟨(r4.set _ _).1, hwf, hsz, ?_, ?_, ?_, ?_, a, m, c, ?_, ((((hat.set hs).set hs).set hs).set hs).set hs, hs⟩
    · rw [set_off (by omega), set_off (by omega), set_off (by omega), set_off (by omega)]
      exact hr.put (by omega) _
    · rw [set_off (by omega), set_off (by omega), set_off (by omega)]
      exact r1.put (by omega) _
    · rw [set_off (by omega), set_off (by omega)]
      exact r2.put (by omega) _
    · rw [set_off (by omega)]
      exact r3.put (by omega) _
    · exact r4.put (by omega) _

set_option maxRecDepth 100000 in
set_option maxHeartbeats 1600000 in
theorem toItemS_any (a : Option Addr) (n c : Nat) (l : List It) (w : World) (hn : l.length ≤ 1048576 ∧ ∀ i, i < l.length → (l.getD i dIt).attrs.length ≤ 1048576) (h : ItsAt w a n c l) :
    Calls Try.prog 21 #[.slice a n c] w (ItsRes w l) := by
  obtain ⟨i0, hi, hz0, hz1, hz2⟩ := info_parts itemInfo
  have HR := Lib.hid h.row
  have HL := Lib.hid h.len
  have hn' : n ≤ 1048576 := by have := h.len; omega
  have HN := Lib.hid hn.2
  clear h hn
  go_enter Try.func21, Try.ntmps21
  go_wp2_with (at_make; refine wpList_make_full _ rfl _ _ 37 rfl w.heap.size 30 i0 _ 5 Try.underlying37 hi hz0 hz1 .i64 .i64 (n : Int) (n : Int) n rfl rfl rfl rfl ?c1 ?c2 ?c3 ?_)
  case c1 => rw [hz2]; omega
  case c2 => unfold maxLen; omega
  case c3 => exact Nat.le_refl _
  intro w1 ho1 hg1
  have HRoom := Lib.hid (room_made ho1)
  have HB1 := Lib.hid (below_grown0 hg1)
  clear ho1 hg1
  go_wp2
  go_loopw [4] (fun i wr => ∃ j : Nat, j ≤ n ∧ i = .int .i64 j ∧ Room wr w.heap.size (n * 5) ∧ (∀ i, i < j → ItNew wr w.heap.size (i * 5) (l.getD i dIt)) ∧ Below w.heap.size w wr) (fun i _ => n - (intOf i).toNat)
  case atStart => exact ⟨0, Nat.zero_le _, rfl, HRoom.out, fun i hi => by omega, HB1.out⟩
  case round =>
    obtain ⟨j, hj, rfl, hroom, hdone, hb⟩ := hrel
    by_cases hlt : j < n
    · rcases HR.out with h0 | ⟨b, o, rfl, h4⟩
      · omega
      · have hi4 := (h4 j hlt).below hb
        have d0 := hi4.c0
        have d1 := hi4.c1
        have d2 := hi4.c2
        have d3 := hi4.c3
        obtain ⟨a4, n4, c4, d4, hat4⟩ := hi4.c4
        have K := Lib.hid (fun W => toItem_any (l.getD j dIt) a4 n4 c4 W (HN.out j (by have := HL.out; omega)))
        have HWF := Lib.hid hi4.wf
        have HSZ := Lib.hid hi4.size
        have HAT4 := Lib.hid hat4
        obtain ⟨x, hx⟩ : ∃ x, l.getD j dIt = x := ⟨_, rfl⟩
        rw [hx] at d0 d1 d2 d3 K HWF HSZ HAT4
        have HX := Lib.hid hx
        have HROOM := Lib.hid hroom
        have HDONE := Lib.hid hdone
        have HB := Lib.hid hb
        obtain ⟨xd, xt, xs, xn, xa⟩ := x
        dsimp only at d0 d1 d2 d3 K HWF HSZ HAT4
        clear hx hi4 hat4 h4 hroom hdone hb
        go_wp2_with fail
        refine (K.out _ HAT4.out).mono ?_
        rintro e w2 ⟨a5, n5, c5, rfl, hat5, hsep5, hb2⟩
        have hr2 := HROOM.out.below hb2
        obtain ⟨⟨v0, q0⟩, f0⟩ := hr2.2 (j * 5) (by omega)
        obtain ⟨⟨v1, q1⟩, f1⟩ := hr2.2 (j * 5 + 1) (by omega)
        obtain ⟨⟨v2, q2⟩, f2⟩ := hr2.2 (j * 5 + 2) (by omega)
        obtain ⟨⟨v3, q3⟩, f3⟩ := hr2.2 (j * 5 + 3) (by omega)
        obtain ⟨⟨v4, q4⟩, f4⟩ := hr2.2 (j * 5 + 4) (by omega)
        have HR2 := Lib.hid hr2
        have HB2 := Lib.hid hb2
        have HAT5 := Lib.hid hat5
        have HSEP := Lib.hid (fun y hy => Nat.lt_of_lt_of_le HROOM.out.1 (hsep5 y hy))
        clear hr2 hb2 hat5 hsep5 d0 d1 d2 d3 d4
        go_wp2
        go_roundw
        case rel =>
          refine ⟨j + 1, by omega, by go_num, ((((HR2.out.set _ _).set _ _).set _ _).set _ _).set _ _, its_step (x := ⟨xd, xt, xs, xn, xa⟩) HR2.out hlt HX.out HWF.out HSZ.out HAT5.out HSEP.out (fun i hi => (HDONE.out i hi).below HB2.out), ?_⟩
          have hb3 := HB.out.trans (HB2.out.mono HB.out.size)
          exact ((((hb3.setCell (Nat.le_refl _) _).setCell (Nat.le_refl _) _).setCell (Nat.le_refl _) _).setCell (Nat.le_refl _) _).setCell (Nat.le_refl _) _
        case measure => simp [intOf]; omega
    · obtain rfl : j = n := by omega
      have HROOM := Lib.hid hroom
      have HDONE := Lib.hid hdone
      have HB := Lib.hid hb
      clear hroom hdone hb
      go_wp2
      go_ret
      exact ⟨_, _, _, rfl, ⟨HL.out, by omega, .inr ⟨w.heap.size, 0, rfl, fun i hi => by rw [Nat.zero_add]; exact (HDONE.out i hi).it⟩⟩, HB.out⟩
end Go.Proofs.Ytgfjpngcmgfdcaa
