/- Texts laid together, part 1. -/
import Derived.Test.YtbfjhjkllaceaaaGreatDoorGB0
import Derived.Maps.AppendAt

/- markText. -/
namespace Go.Proofs.YtbfjhjkllaceaaaGreatDoor
open Go.ChangeShapes Go.WideShapes Go.ChangeAt Go.RowKit
set_option linter.unusedVariables false

/-- k's digits ahead of out -/
def digM (k : Nat) (out : ByteArray) : ByteArray := if h : k = 0 then out else digM (k / 10) (strOfNums [48 + (k : Int) % 10] ++ out)
termination_by k
decreasing_by omega
theorem digM_zero (out : ByteArray) : digM 0 out = out := by rw [digM]; rfl
theorem digM_pos {k : Nat} (h : 0 < k) (out : ByteArray) : digM k out = digM (k / 10) (strOfNums [48 + (k : Int) % 10] ++ out) := by rw [digM, dif_neg (by omega)]
/-- the text of a mark -/
def markT (k : Nat) : ByteArray := { data := #[109] } ++ digM k ByteArray.empty

set_option maxRecDepth 100000 in
set_option maxHeartbeats 1600000 in
theorem markText_any (k : Nat) (h0 : 0 < k) (h1 : k ≤ 1000000000000000000) (w : World) :
    Calls Tryz.prog 76 #[.int .i64 k] w fun e w' => e = .returned (.string (markT k)) ∧ Below w.heap.size w w' := by
  obtain ⟨D, hD⟩ : ∃ D, digM k ByteArray.empty = D := ⟨_, rfl⟩
  unfold markT
  rw [hD]
  have HD := Lib.hid hD
  clear hD
  have k1 : (0 : Int) < (k : Int) := by omega
  go_enter Tryz.func76, Tryz.ntmps76
  go_wp2
  go_loopw [0, 3] (fun v s wr => ∃ (j : Nat) (out : ByteArray), out.size + j ≤ k ∧ v = .int .i64 j ∧ s = .string out ∧ digM j out = D ∧ Below w.heap.size w wr) (fun v _ _ => (intOf v).toNat)
  case atStart => exact ⟨k, ByteArray.empty, by simp, rfl, rfl, HD.out, Below.refl _ _⟩
  case round =>
    obtain ⟨j, out, hj, rfl, rfl, hd, hb⟩ := hrel
    by_cases hj0 : 0 < j
    · have HD2 := Lib.hid ((digM_pos hj0 out).symm.trans hd)
      have HB := Lib.hid hb
      have r0 : (0 : Int) ≤ (j : Int) % 10 := by omega
      have r1 : (j : Int) % 10 < 10 := by omega
      have r2 : (0 : Int) ≤ (j : Int) / 10 := by omega
      have r3 : (j : Int) / 10 ≤ (j : Int) := by omega
      have hcv := fun (c : Int) => conv_row (P := Tryz.prog) (wr.alloc (.cells #[.int .u8 c] 5)) Tryz.underlying22 Tryz.underlying5 Tryz.underlying9 (a := some ⟨wr.heap.size, 0, none⟩) (n := 1) (c := 1) (xs := [c])
        (.inr ⟨wr.heap.size, 0, 1, rfl, by simp, by unfold maxLen; omega, by simp, fun i hi => match i, hi with | 0, _ => by simp⟩)
      have hsz : (strOfNums [48 + (j : Int) % 10]).size ≤ 1 := by rw [strOfNums_size]; simp
      clear hd hb
      go_wp2
      go_roundw
      case rel => exact ⟨j / 10, _, by rw [ByteArray.size_append]; omega, by go_num, rfl, HD2.out, HB.out.trans (((Below.refl _ _).alloc (Nat.le_refl _) _).mono HB.out.size)⟩
      case measure => simp [intOf]; omega
    · obtain rfl : j = 0 := by omega
      rw [digM_zero] at hd
      subst hd
      go_wp2
      go_ret
      exact ⟨rfl, hb⟩
theorem markText_succ (k : Nat) (h1 : k + 1 ≤ 1000000000000000000) (w : World) :
    Calls Tryz.prog 76 #[.int .i64 ((k : Int) + 1)] w fun e w' => e = .returned (.string (markT (k + 1))) ∧ Below w.heap.size w w' := by
  have h := markText_any (k + 1) (by omega) h1 w
  rwa [Int.natCast_add, Int.natCast_one] at h
theorem markText_at (k i : Nat) (h0 : 0 < k + i) (h1 : k + i ≤ 1000000000000000000) (w : World) :
    Calls Tryz.prog 76 #[.int .i64 ((k : Int) + (i : Int))] w fun e w' => e = .returned (.string (markT (k + i))) ∧ Below w.heap.size w w' := by
  have h := markText_any (k + i) h0 h1 w
  rwa [Int.natCast_add] at h
end Go.Proofs.YtbfjhjkllaceaaaGreatDoor

/- Rooms: cells of one's own, attributes and items laid into them. -/
namespace Go.Proofs.YtbfjhjkllaceaaaGreatDoor
open Go.ChangeShapes Go.WideShapes Go.ChangeAt Go.RowKit
set_option linter.unusedVariables false

theorem below3 (w : World) (o1 o2 o3 : Obj) : Below w.heap.size w (((w.alloc o1).alloc o2).alloc o3) := (((Below.refl _ _).alloc (Nat.le_refl _) _).alloc (by simp) _).alloc (by simp; omega) _

theorem attrInfo : (Tryz.prog.info? 73).map (fun i => (i.zero, i.size, i.bytes)) = some (some (.agg #[.string ByteArray.empty, .string ByteArray.empty]), 2, 32) := by kernel_rfl
theorem itemInfo : (Tryz.prog.info? 68).map (fun i => (i.zero, i.size, i.bytes)) = some (some (.agg #[.int .i64 0, .string ByteArray.empty, .string ByteArray.empty, .string ByteArray.empty, .slice none 0 0]), 5, 80) := by kernel_rfl
theorem below_made {w w1 : World} (h : w.grownBy w1 none) : Below w.heap.size w w1 := ⟨h.os, h.tape, h.output, h.size, fun i hi => h.block i hi (by simp)⟩

/-- a new slice of attributes is handed back -/
def AtsRes (w : World) (l : List At) (e : Ending) (w' : World) : Prop := ∃ a n c, e = .returned (.slice a n c) ∧ AtsAt w' a n c l ∧ (∀ x, a = some x → w.heap.size ≤ x.block) ∧ Below w.heap.size w w'

/-- m cells in block b, not frozen -/
def Room (w : World) (b m : Nat) : Prop := b < w.heap.size ∧ ∀ i, i < m → (∃ v, w.cell? ⟨b, i, none⟩ = some v) ∧ w.frozen? ⟨b, i, none⟩ = false
theorem Room.below {w w' : World} {b m : Nat} (h : Room w b m) (hb : Below w.heap.size w w') : Room w' b m :=
  ⟨Nat.lt_of_lt_of_le h.1 hb.size, fun i hi => ⟨(h.2 i hi).1.imp fun v hv => (hb.cell (p := ⟨b, i, none⟩) h.1).trans hv, (hb.frozen (p := ⟨b, i, none⟩) h.1).trans (h.2 i hi).2⟩⟩
theorem room_made {w : World} {base : Nat} {e : TypeId} {size n g cap : Nat} {xs : List Value} (h : w.ownsRow base e size (.slice (some ⟨g, 0, none⟩) n cap) n xs) : Room w g (n * size) := by
  refine ⟨(h.lt g rfl).2, fun i hi => ⟨?_, h.frozenAt i⟩⟩
  rw [h.cellAt i hi]
  have := h.1
  exact ⟨xs[i]'(by omega), List.getElem?_eq_getElem (by omega)⟩

theorem Room.set {w : World} {b m : Nat} (h : Room w b m) (p : Addr) (v : Value) : Room (w.setCell p v) b m :=
  ⟨by simpa using h.1, fun i hi => ⟨by obtain ⟨v', hv⟩ := (h.2 i hi).1; exact cell?_setCell_some hv, by rw [World.frozen?_setCell]; exact (h.2 i hi).2⟩⟩
theorem Room.put {w : World} {b m i : Nat} (h : Room w b m) (hi : i < m) (v : Value) : (w.setCell ⟨b, i, none⟩ v).cell? ⟨b, i, none⟩ = some v := by
  obtain ⟨u, hu⟩ := (h.2 i hi).1
  exact World.cell?_setCell_same _ _ _ hu
theorem set_off {w : World} {b i j : Nat} {v : Value} (h : i ≠ j) : (w.setCell ⟨b, i, none⟩ v).cell? ⟨b, j, none⟩ = w.cell? ⟨b, j, none⟩ := World.cell?_setCell_other _ _ _ _ (fun e => absurd (congrArg Addr.off e) h)
theorem ats_step {w : World} {B j n : Nat} {l : List At} {s t : ByteArray} (hr : Room w B (n * 2)) (hj : j < n) (hs : (l.getD j dAt).name = s) (ht : (l.getD j dAt).value = t)
    (hd : ∀ i, i < j → w.cell? ⟨B, i * 2, none⟩ = some (.string (l.getD i dAt).name) ∧ w.cell? ⟨B, i * 2 + 1, none⟩ = some (.string (l.getD i dAt).value)) :
    ∀ i, i < j + 1 → ((w.setCell ⟨B, j * 2, none⟩ (.string s)).setCell ⟨B, j * 2 + 1, none⟩ (.string t)).cell? ⟨B, i * 2, none⟩ = some (.string (l.getD i dAt).name) ∧ ((w.setCell ⟨B, j * 2, none⟩ (.string s)).setCell ⟨B, j * 2 + 1, none⟩ (.string t)).cell? ⟨B, i * 2 + 1, none⟩ = some (.string (l.getD i dAt).value) := by
  intro i hi
  rcases Nat.lt_or_ge i j with h | h
  · rw [set_off (by omega), set_off (by omega), set_off (by omega), set_off (by omega)]
    exact hd i h
  · obtain rfl : i = j := by omega
    rw [set_off (by omega), hr.put (by omega), hs, (hr.set _ _).put (by omega), ht]
    exact ⟨rfl, rfl⟩

/-- five cells that read as an item, its attributes in another block behind B -/
structure ItNew (w : World) (B o : Nat) (x : It) : Prop where
  lt : B < w.heap.size
  wf : -9223372036854775808 ≤ x.depth ∧ x.depth ≤ 9223372036854775807
  size : x.text.size ≤ 9223372036854775807 ∧ x.space.size ≤ 9223372036854775807 ∧ x.name.size ≤ 9223372036854775807
  c0 : w.cell? ⟨B, o, none⟩ = some (.int .i64 x.depth)
  c1 : w.cell? ⟨B, o + 1, none⟩ = some (.string x.text)
  c2 : w.cell? ⟨B, o + 2, none⟩ = some (.string x.space)
  c3 : w.cell? ⟨B, o + 3, none⟩ = some (.string x.name)
  c4 : ∃ a n c, w.cell? ⟨B, o + 4, none⟩ = some (.slice a n c) ∧ AtsAt w a n c x.attrs ∧ ∀ y, a = some y → B < y.block
theorem ItNew.it {w : World} {B o : Nat} {x : It} (h : ItNew w B o x) : ItAt w B o x := by
  obtain ⟨a, n, c, h4, hat, _⟩ := h.c4
  exact ⟨h.lt, h.wf, h.size, h.c0, h.c1, h.c2, h.c3, a, n, c, h4, hat⟩
theorem ItNew.below {w w' : World} {b o : Nat} {x : It} (h : ItNew w b o x) (hb : Below w.heap.size w w') : ItNew w' b o x := by
  obtain ⟨a, n, c, h4, hat, hs⟩ := h.c4
  exact ⟨Nat.lt_of_lt_of_le h.lt hb.size, h.wf, h.size, (hb.cell (by exact h.lt)).trans h.c0, (hb.cell (by exact h.lt)).trans h.c1, (hb.cell (by exact h.lt)).trans h.c2, (hb.cell (by exact h.lt)).trans h.c3, a, n, c, (hb.cell (by exact h.lt)).trans h4, hat.below hb, hs⟩
theorem AtsAt.set {w : World} {a : Option Addr} {n c : Nat} {l : List At} {B i : Nat} {v : Value} (h : AtsAt w a n c l) (hs : ∀ y, a = some y → B < y.block) : AtsAt (w.setCell ⟨B, i, none⟩ v) a n c l := by
  refine ⟨h.len, h.max, h.size, ?_⟩
  rcases h.row with e | ⟨b, o, ha, hr, hc⟩
  · exact .inl e
  · have hne := hs _ ha
    refine .inr ⟨b, o, ha, by simpa using hr, fun i hi => ⟨?_, ?_⟩⟩
    · rw [World.cell?_setCell_other _ _ _ _ (fun e => by simp only [Addr.mk.injEq] at e; simp only at hne; omega)]; exact (hc i hi).1
    · rw [World.cell?_setCell_other _ _ _ _ (fun e => by simp only [Addr.mk.injEq] at e; simp only at hne; omega)]; exact (hc i hi).2
theorem ItNew.set {w : World} {B o i : Nat} {x : It} {v : Value} (h : ItNew w B o x) (hi : i < o ∨ o + 5 ≤ i) : ItNew (w.setCell ⟨B, i, none⟩ v) B o x := by
  obtain ⟨a, n, c, h4, hat, hs⟩ := h.c4
  refine ⟨by simpa using h.lt, h.wf, h.size, ?_, ?_, ?_, ?_, a, n, c, ?_, hat.set hs, hs⟩
  · rw [set_off (by omega)]; exact h.c0
  · rw [set_off (by omega)]; exact h.c1
  · rw [set_off (by omega)]; exact h.c2
  · rw [set_off (by omega)]; exact h.c3
  · rw [set_off (by omega)]; exact h4

/-- an item by value is handed back, its attributes in new memory -/
def ItRes (w : World) (x : It) (e : Ending) (w' : World) : Prop := ∃ a n c, e = .returned (.agg #[.int .i64 x.depth, .string x.text, .string x.space, .string x.name, .slice a n c]) ∧ AtsAt w' a n c x.attrs ∧ (∀ y, a = some y → w.heap.size ≤ y.block) ∧ Below w.heap.size w w'

/-- a new slice of items is handed back -/
def ItsRes (w : World) (l : List It) (e : Ending) (w' : World) : Prop := ∃ a n c, e = .returned (.slice a n c) ∧ ItsAt w' a n c l ∧ Below w.heap.size w w'
theorem its_step {w : World} {B j n : Nat} {l : List It} {x : It} {a : Option Addr} {m c : Nat} (hr : Room w B (n * 5)) (hj : j < n) (hx : l.getD j dIt = x)
    (hwf : -9223372036854775808 ≤ x.depth ∧ x.depth ≤ 9223372036854775807) (hsz : x.text.size ≤ 9223372036854775807 ∧ x.space.size ≤ 9223372036854775807 ∧ x.name.size ≤ 9223372036854775807)
    (hat : AtsAt w a m c x.attrs) (hs : ∀ y, a = some y → B < y.block) (hd : ∀ i, i < j → ItNew w B (i * 5) (l.getD i dIt)) :
    ∀ i, i < j + 1 → ItNew (((((w.setCell ⟨B, j * 5, none⟩ (.int .i64 x.depth)).setCell ⟨B, j * 5 + 1, none⟩ (.string x.text)).setCell ⟨B, j * 5 + 2, none⟩ (.string x.space)).setCell ⟨B, j * 5 + 3, none⟩ (.string x.name)).setCell ⟨B, j * 5 + 4, none⟩ (.slice a m c)) B (i * 5) (l.getD i dIt) := by
  intro i hi
  rcases Nat.lt_or_ge i j with h | h
  · exact (((((hd i h).set (by omega)).set (by omega)).set (by omega)).set (by omega)).set (by omega)
  · obtain rfl : i = j := by omega
    rw [hx]
    have r1 := hr.set ⟨B, i * 5, none⟩ (.int .i64 x.depth)
    have r2 := r1.set ⟨B, i * 5 + 1, none⟩ (.string x.text)
    have r3 := r2.set ⟨B, i * 5 + 2, none⟩ (.string x.space)
    have r4 := r3.set ⟨B, i * 5 + 3, none⟩ (.string x.name)
    refine ⟨(r4.set _ _).1, hwf, hsz, ?_, ?_, ?_, ?_, a, m, c, ?_, ((((hat.set hs).set hs).set hs).set hs).set hs, hs⟩
    · rw [set_off (by omega), set_off (by omega), set_off (by omega), set_off (by omega)]
      exact hr.put (by omega) _
    · rw [set_off (by omega), set_off (by omega), set_off (by omega)]
      exact r1.put (by omega) _
    · rw [set_off (by omega), set_off (by omega)]
      exact r2.put (by omega) _
    · rw [set_off (by omega)]
      exact r3.put (by omega) _
    · exact r4.put (by omega) _

end Go.Proofs.YtbfjhjkllaceaaaGreatDoor

/- Rows of attributes and of items of one's own; what becomes of memory if only some blocks are written. -/
namespace Go.Proofs.YtbfjhjkllaceaaaGreatDoor
open Go.ChangeShapes Go.WideShapes Go.ChangeAt Go.RowKit
set_option linter.unusedVariables false

/-- blocks for which P does not hold are as they were; new ones may have been made -/
structure Only (P : Nat → Prop) (w w' : World) : Prop where
  os : w'.os = w.os
  tape : w'.tape = w.tape
  output : w'.output = w.output
  size : w.heap.size ≤ w'.heap.size
  block : ∀ i, i < w.heap.size → ¬ P i → w'.heap[i]? = w.heap[i]?
theorem Only.refl {P : Nat → Prop} (w : World) : Only P w w := ⟨rfl, rfl, rfl, Nat.le_refl _, fun _ _ _ => rfl⟩
theorem Only.trans {P : Nat → Prop} {a b c : World} (h : Only P a b) (k : Only P b c) : Only P a c :=
  ⟨k.os.trans h.os, k.tape.trans h.tape, k.output.trans h.output, Nat.le_trans h.size k.size, fun i hi hp => (k.block i (Nat.lt_of_lt_of_le hi h.size) hp).trans (h.block i hi hp)⟩
theorem Only.mono {P Q : Nat → Prop} {a b : World} (h : Only P a b) (hpq : ∀ i, P i → Q i) : Only Q a b :=
  ⟨h.os, h.tape, h.output, h.size, fun i hi hq => h.block i hi fun hp => hq (hpq i hp)⟩
theorem Only.below {P : Nat → Prop} {a b : World} (h : Below a.heap.size a b) : Only P a b := ⟨h.os, h.tape, h.output, h.size, fun i hi _ => h.block i hi⟩
theorem Only.set {P : Nat → Prop} (w : World) (p : Addr) (v : Value) (h : P p.block) : Only P w (w.setCell p v) :=
  ⟨rfl, rfl, rfl, by simp, fun i hi hp => Below.heap_setCell w p v i fun e => hp (e ▸ h)⟩
theorem Only.cell {P : Nat → Prop} {a b : World} (h : Only P a b) {p : Addr} (hp : p.block < a.heap.size) (hn : ¬ P p.block) : b.cell? p = a.cell? p := by
  unfold World.cell?
  rw [h.block _ hp hn]
theorem Only.frozen {P : Nat → Prop} {a b : World} (h : Only P a b) {p : Addr} (hp : p.block < a.heap.size) (hn : ¬ P p.block) : b.frozen? p = a.frozen? p := by
  unfold World.frozen?
  rw [h.block _ hp hn]
/-- below a bound that all written blocks lie behind, nothing has changed -/
theorem Only.under {P : Nat → Prop} {B : Nat} {w0 a b : World} (h0 : Below B w0 a) (hB : B ≤ w0.heap.size) (h : Only P a b) (hP : ∀ i, P i → B ≤ i) : Below B w0 b :=
  ⟨h.os.trans h0.os, h.tape.trans h0.tape, h.output.trans h0.output, Nat.le_trans h0.size h.size, fun i hi => (h.block i (Nat.lt_of_lt_of_le hi (Nat.le_trans hB h0.size)) fun hp => by have := hP i hp; omega).trans (h0.block i hi)⟩
theorem AtsAt.only {P : Nat → Prop} {w w' : World} {a : Option Addr} {n c : Nat} {l : List At} (h : AtsAt w a n c l) (ho : Only P w w') (hn : ∀ x, a = some x → n ≠ 0 → ¬ P x.block) : AtsAt w' a n c l := by
  refine ⟨h.len, h.max, h.size, ?_⟩
  rcases h.row with e | ⟨b, o, ha, hr, hc⟩
  · exact .inl e
  · by_cases h0 : n = 0
    · exact .inl h0
    · have hb := hn _ ha h0
      exact .inr ⟨b, o, ha, Nat.lt_of_lt_of_le hr ho.size, fun i hi => ⟨(ho.cell (p := ⟨b, o + i * 2, none⟩) hr hb).trans (hc i hi).1, (ho.cell (p := ⟨b, o + i * 2 + 1, none⟩) hr hb).trans (hc i hi).2⟩⟩
theorem Room.only {P : Nat → Prop} {w w' : World} {b m : Nat} (h : Room w b m) (ho : Only P w w') (hn : ¬ P b) : Room w' b m :=
  ⟨Nat.lt_of_lt_of_le h.1 ho.size, fun i hi => ⟨(h.2 i hi).1.imp fun v hv => (ho.cell (p := ⟨b, i, none⟩) h.1 hn).trans hv, (ho.frozen (p := ⟨b, i, none⟩) h.1 hn).trans (h.2 i hi).2⟩⟩

/-- a row of attributes of its own, in a block of lo to hi -/
structure OwnAts (w : World) (lo hi : Nat) (a : Option Addr) (n c : Nat) (l : List At) : Prop where
  ats : AtsAt w a n c l
  own : n = 0 ∨ ∃ b, a = some ⟨b, 0, none⟩ ∧ lo ≤ b ∧ b < hi ∧ Room w b (n * 2)
theorem OwnAts.only {P : Nat → Prop} {w w' : World} {lo hi : Nat} {a : Option Addr} {n c : Nat} {l : List At} (h : OwnAts w lo hi a n c l) (ho : Only P w w') (hn : ∀ x, a = some x → n ≠ 0 → ¬ P x.block) : OwnAts w' lo hi a n c l := by
  refine ⟨h.ats.only ho hn, ?_⟩
  rcases h.own with e | ⟨b, ha, h1, h2, hr⟩
  · exact .inl e
  · by_cases h0 : n = 0
    · exact .inl h0
    · exact .inr ⟨b, ha, h1, h2, hr.only ho (hn _ ha h0)⟩
/-- the block of a slice that holds anything -/
def BlockOf (a : Option Addr) (n : Nat) (i : Nat) : Prop := ∃ x, a = some x ∧ x.block = i ∧ n ≠ 0

def markAts (k n : Nat) : List At := (List.range n).map fun i => ⟨markT (k + 2 * i), markT (k + 2 * i + 1)⟩
theorem markAts_length (k n : Nat) : (markAts k n).length = n := by simp [markAts]
theorem markAts_get (k n i : Nat) (h : i < n) : (markAts k n).getD i dAt = ⟨markT (k + 2 * i), markT (k + 2 * i + 1)⟩ := by simp [markAts, List.getD_eq_getElem?_getD, h]
theorem digM_size (k : Nat) : ∀ out : ByteArray, (digM k out).size ≤ out.size + k := by
  induction k using Nat.strongRecOn with
  | ind k ih =>
    intro out
    by_cases h : k = 0
    · subst h; rw [digM_zero]; omega
    · rw [digM_pos (by omega)]
      have := ih (k / 10) (by omega) (strOfNums [48 + (k : Int) % 10] ++ out)
      rw [ByteArray.size_append, strOfNums_size] at this
      simp only [List.length_cons, List.length_nil] at this
      omega
theorem markT_size (k : Nat) (h : k ≤ 1000000000000000000) : (markT k).size ≤ 9223372036854775807 := by
  unfold markT
  have := digM_size k ByteArray.empty
  rw [ByteArray.size_append]
  have h1 : ({ data := #[109] } : ByteArray).size = 1 := rfl
  have h2 : ByteArray.empty.size = 0 := rfl
  omega

/-- the marks are written, and only there -/
def MarkAts (w : World) (lo hi : Nat) (a : Option Addr) (n c k : Nat) (e : Ending) (w' : World) : Prop :=
  e = .returned (.int .i64 ((k + 2 * n : Nat) : Int)) ∧ OwnAts w' lo hi a n c (markAts k n) ∧ Only (BlockOf a n) w w'

set_option maxRecDepth 100000 in
set_option maxHeartbeats 1600000 in
theorem markAttrS_any (lo hi : Nat) (a : Option Addr) (n c k : Nat) (l : List At) (w : World) (h0 : 0 < k) (hn : n ≤ 1048576) (h1 : k ≤ 100000000000000000) (h : OwnAts w lo hi a n c l) :
    Calls Tryz.prog 77 #[.slice a n c, .int .i64 k] w (MarkAts w lo hi a n c k) := by
  by_cases hz : n = 0
  · subst hz
    clear h
    go_enter Tryz.func77, Tryz.ntmps77
    go_wp2
    go_loop [1, 5] (fun v i => i = .int .i64 0 ∧ v = .int .i64 k) (fun _ _ => 0)
    case atStart => exact ⟨rfl, rfl⟩
    case round =>
      obtain ⟨rfl, rfl⟩ := hrel
      go_wp2
      go_ret
      exact ⟨by simp, ⟨⟨by simp [markAts], by omega, fun i => by simp [markAts, dAt], .inl rfl⟩, .inl rfl⟩, Only.refl _⟩
  · obtain ⟨b, rfl, hlo, hhi, hroom⟩ := h.own.resolve_left hz
    have HRoom := Lib.hid hroom
    clear h hroom
    go_enter Tryz.func77, Tryz.ntmps77
    go_wp2
    go_loopw [1, 5] (fun v i wr => ∃ j : Nat, j ≤ n ∧ i = .int .i64 j ∧ v = .int .i64 ((k + 2 * j : Nat) : Int) ∧ Room wr b (n * 2) ∧ (∀ i, i < j → wr.cell? ⟨b, i * 2, none⟩ = some (.string (markT (k + 2 * i))) ∧ wr.cell? ⟨b, i * 2 + 1, none⟩ = some (.string (markT (k + 2 * i + 1)))) ∧ Only (fun i => i = b) w wr) (fun _ i _ => n - (intOf i).toNat)
    case atStart => exact ⟨0, Nat.zero_le _, rfl, rfl, HRoom.out, fun i hi => by omega, Only.refl _⟩
    case round =>
      obtain ⟨j, hj, rfl, rfl, hroom, hdone, ho⟩ := hrel
      have HROOM := Lib.hid hroom
      have HDONE := Lib.hid hdone
      have HO := Lib.hid ho
      clear hroom hdone ho
      by_cases hlt : j < n
      · have K1 := Lib.hid (markText_any (k + 2 * j) (by omega) (by omega))
        have K2 := Lib.hid (markText_succ (k + 2 * j) (by omega))
        obtain ⟨kk, hkk⟩ : ∃ kk, k + 2 * j = kk := ⟨_, rfl⟩
        rw [hkk] at K1 K2
        have q0 : kk ≤ 1000000000000000000 := by omega
        have HKK := Lib.hid hkk
        rw [hkk]
        clear hkk
        go_wp2_with fail
        refine (K1.out _).mono ?_
        rintro e w1 ⟨rfl, hb1⟩
        have hr1 := HROOM.out.below hb1
        obtain ⟨⟨v0, p0⟩, f0⟩ := hr1.2 (j * 2) (by omega)
        obtain ⟨⟨v1, p1⟩, f1⟩ := hr1.2 (j * 2 + 1) (by omega)
        have HR1 := Lib.hid hr1
        have HB1 := Lib.hid hb1
        clear hr1 hb1
        go_wp2_with fail
        refine (K2.out _).mono ?_
        rintro e w2 ⟨rfl, hb2⟩
        have hr2 := (HR1.out.set ⟨b, j * 2, none⟩ (.string (markT kk))).below hb2
        obtain ⟨⟨v2, p2⟩, f2⟩ := hr2.2 (j * 2 + 1) (by omega)
        have HR2 := Lib.hid hr2
        have HB2 := Lib.hid hb2
        clear hr2 hb2 p0 p1 f0 f1
        go_wp2
        go_roundw
        case rel =>
          have hw1 : Only (fun i => i = b) wr w1 := Only.below HB1.out
          have hw2 : Only (fun i => i = b) w1 w2 := (Only.set (P := fun i => i = b) w1 ⟨b, j * 2, none⟩ _ rfl).trans (Only.below HB2.out)
          have hB : b < (w1.setCell ⟨b, j * 2, none⟩ (.string (markT kk))).heap.size := (HR1.out.set _ _).1
          refine ⟨j + 1, by omega, by go_num, by rw [← HKK.out]; first | rfl | (congr 1; omega), HR2.out.set _ _, fun i hi => ?_, (HO.out.trans (hw1.trans hw2)).trans (Only.set (P := fun i => i = b) w2 ⟨b, j * 2 + 1, none⟩ _ rfl)⟩
          rcases Nat.lt_or_ge i j with h | h
          · rw [set_off (by omega), set_off (by omega), HB2.out.cell (p := ⟨b, i * 2, none⟩) hB, HB2.out.cell (p := ⟨b, i * 2 + 1, none⟩) hB, set_off (by omega), set_off (by omega), HB1.out.cell (p := ⟨b, i * 2, none⟩) HROOM.out.1, HB1.out.cell (p := ⟨b, i * 2 + 1, none⟩) HROOM.out.1]
            exact HDONE.out i h
          · obtain rfl : i = j := by omega
            rw [set_off (by omega), HB2.out.cell (p := ⟨b, i * 2, none⟩) hB, HR1.out.put (by omega), HR2.out.put (by omega), ← HKK.out]
            exact ⟨rfl, rfl⟩
        case measure => simp [intOf]; omega
      · obtain rfl : j = n := by omega
        go_wp2
        go_ret
        refine ⟨rfl, ⟨⟨markAts_length _ _, by omega, fun i => ?_, .inr ⟨b, 0, rfl, HROOM.out.1, fun i hi => by rw [markAts_get _ _ _ hi, Nat.zero_add]; exact HDONE.out i hi⟩⟩, .inr ⟨b, rfl, hlo, hhi, HROOM.out⟩⟩, ?_⟩
        · by_cases hi : i < j
          · rw [markAts_get _ _ _ hi]
            exact ⟨markT_size _ (by omega), markT_size _ (by omega)⟩
          · rw [List.getD_eq_getElem?_getD, List.getElem?_eq_none (by rw [markAts_length]; omega)]
            simp [dAt]
        · exact HO.out.mono fun i hi => ⟨_, rfl, hi.symm, hz⟩
end Go.Proofs.YtbfjhjkllaceaaaGreatDoor

/- markItemS. -/
namespace Go.Proofs.YtbfjhjkllaceaaaGreatDoor
open Go.ChangeShapes Go.WideShapes Go.ChangeAt Go.RowKit
set_option linter.unusedVariables false

/-- the five cells of item i in block b -/
structure Cells5 (w : World) (b i : Nat) (x : It) (a : Option Addr) (n c : Nat) : Prop where
  c0 : w.cell? ⟨b, i * 5, none⟩ = some (.int .i64 x.depth)
  c1 : w.cell? ⟨b, i * 5 + 1, none⟩ = some (.string x.text)
  c2 : w.cell? ⟨b, i * 5 + 2, none⟩ = some (.string x.space)
  c3 : w.cell? ⟨b, i * 5 + 3, none⟩ = some (.string x.name)
  c4 : w.cell? ⟨b, i * 5 + 4, none⟩ = some (.slice a n c)
  nil : a = none → c = 0
theorem Cells5.set {w : World} {b i m : Nat} {x : It} {a : Option Addr} {n c : Nat} {v : Value} (h : Cells5 w b i x a n c) (hm : m < i * 5 ∨ i * 5 + 5 ≤ m) : Cells5 (w.setCell ⟨b, m, none⟩ v) b i x a n c :=
  ⟨by rw [set_off (by omega)]; exact h.c0, by rw [set_off (by omega)]; exact h.c1, by rw [set_off (by omega)]; exact h.c2, by rw [set_off (by omega)]; exact h.c3, by rw [set_off (by omega)]; exact h.c4, h.nil⟩
theorem Cells5.below {w w' : World} {b i : Nat} {x : It} {a : Option Addr} {n c : Nat} (h : Cells5 w b i x a n c) (hlt : b < w.heap.size) (hb : Below w.heap.size w w') : Cells5 w' b i x a n c :=
  ⟨(hb.cell (by exact hlt)).trans h.c0, (hb.cell (by exact hlt)).trans h.c1, (hb.cell (by exact hlt)).trans h.c2, (hb.cell (by exact hlt)).trans h.c3, (hb.cell (by exact hlt)).trans h.c4, h.nil⟩
theorem Cells5.only {P : Nat → Prop} {w w' : World} {b i : Nat} {x : It} {a : Option Addr} {n c : Nat} (h : Cells5 w b i x a n c) (hlt : b < w.heap.size) (ho : Only P w w') (hn : ¬ P b) : Cells5 w' b i x a n c :=
  ⟨(ho.cell (p := ⟨b, i * 5, none⟩) hlt hn).trans h.c0, (ho.cell (p := ⟨b, i * 5 + 1, none⟩) hlt hn).trans h.c1, (ho.cell (p := ⟨b, i * 5 + 2, none⟩) hlt hn).trans h.c2, (ho.cell (p := ⟨b, i * 5 + 3, none⟩) hlt hn).trans h.c3, (ho.cell (p := ⟨b, i * 5 + 4, none⟩) hlt hn).trans h.c4, h.nil⟩

/-- item i of a row of one's own: its cells, its attributes -/
def OwnAt (w : World) (lo hi b i : Nat) (x : It) (a : Option Addr) (n c : Nat) : Prop := Cells5 w b i x a n c ∧ OwnAts w lo hi a n c x.attrs
/-- a row of items of one's own, in blocks of lo to hi -/
structure OwnIts (w : World) (lo hi : Nat) (a : Option Addr) (n c : Nat) (l : List It) : Prop where
  len : l.length = n
  max : n ≤ 1048576
  it : ∀ i, i < n → (-9223372036854775808 ≤ (l.getD i dIt).depth ∧ (l.getD i dIt).depth ≤ 9223372036854775807) ∧ ((l.getD i dIt).text.size ≤ 9223372036854775807 ∧ (l.getD i dIt).space.size ≤ 9223372036854775807 ∧ (l.getD i dIt).name.size ≤ 9223372036854775807)
  row : n = 0 ∨ ∃ (b : Nat) (A : Nat → Option Addr) (N C : Nat → Nat), a = some ⟨b, 0, none⟩ ∧ lo ≤ b ∧ b < hi ∧ Room w b (n * 5) ∧ (∀ i, i < n → OwnAt w lo hi b i (l.getD i dIt) (A i) (N i) (C i)) ∧
    (∀ i, i < n → ∀ x, A i = some x → N i ≠ 0 → x.block ≠ b) ∧ (∀ i j, i < n → j < n → i ≠ j → ∀ x y, A i = some x → A j = some y → N i ≠ 0 → N j ≠ 0 → x.block ≠ y.block)
theorem OwnIts.its {w : World} {lo hi : Nat} {a : Option Addr} {n c : Nat} {l : List It} (h : OwnIts w lo hi a n c l) : ItsAt w a n c l := by
  refine ⟨h.len, by have := h.max; omega, ?_⟩
  rcases h.row with e | ⟨b, A, N, C, ha, h1, h2, hr, hc, _, _⟩
  · exact .inl e
  · refine .inr ⟨b, 0, ha, fun i hi => ?_⟩
    have hi5 := hc i hi
    rw [Nat.zero_add]
    exact ⟨hr.1, (h.it i hi).1, (h.it i hi).2, hi5.1.c0, hi5.1.c1, hi5.1.c2, hi5.1.c3, _, _, _, hi5.1.c4, hi5.2.ats⟩

def kAt (k : Nat) (l : List It) : Nat → Nat
  | 0 => k
  | i + 1 => kAt k l i + 4 + 2 * (l.getD i dIt).attrs.length
theorem kAt_le (k : Nat) (l : List It) {i j : Nat} (h : i ≤ j) : kAt k l i ≤ kAt k l j := by
  induction j with
  | zero => obtain rfl : i = 0 := by omega
            exact Nat.le_refl _
  | succ j ih =>
    rcases Nat.lt_or_ge i (j + 1) with h1 | h1
    · have := ih (by omega)
      show _ ≤ kAt k l j + 4 + _
      omega
    · obtain rfl : i = j + 1 := by omega
      exact Nat.le_refl _
def markIt (k : Nat) (x : It) : It := ⟨(k : Int), markT (k + 1), markT (k + 2), markT (k + 3), markAts (k + 4) x.attrs.length⟩
def markIts (k : Nat) (l : List It) : List It := (List.range l.length).map fun i => markIt (kAt k l i) (l.getD i dIt)
theorem markIts_length (k : Nat) (l : List It) : (markIts k l).length = l.length := by simp [markIts]
theorem markIts_get (k : Nat) (l : List It) (i : Nat) (h : i < l.length) : (markIts k l).getD i dIt = markIt (kAt k l i) (l.getD i dIt) := by
  unfold markIts
  rw [List.getD_eq_getElem?_getD, List.getElem?_map, List.getElem?_range h]; rfl

/-- the marks are written, and only there -/
def MarkIts (w : World) (lo hi : Nat) (a : Option Addr) (n c k : Nat) (l : List It) (e : Ending) (w' : World) : Prop :=
  e = .returned (.int .i64 ((kAt k l n : Nat) : Int)) ∧ OwnIts w' lo hi a n c (markIts k l) ∧ Only (fun i => lo ≤ i ∧ i < hi) w w'

set_option maxRecDepth 100000 in
set_option maxHeartbeats 3200000 in
theorem markItemS_any (lo hi : Nat) (a : Option Addr) (n c k : Nat) (l : List It) (w : World) (h0 : 0 < k) (hK : kAt k l n ≤ 10000000000000000) (hA : ∀ i, i < n → (l.getD i dIt).attrs.length ≤ 1048576) (h : OwnIts w lo hi a n c l) :
    Calls Tryz.prog 46 #[.slice a n c, .int .i64 k] w (MarkIts w lo hi a n c k l) := by
  have hm := h.max
  have HL := Lib.hid h.len
  by_cases hz : n = 0
  · subst hz
    have HE : l = [] := List.length_eq_zero_iff.1 h.len
    subst HE
    clear h hK hA
    go_enter Tryz.func46, Tryz.ntmps46
    go_wp2
    go_loop [1, 5] (fun v i => i = .int .i64 0 ∧ v = .int .i64 k) (fun _ _ => 0)
    case atStart => exact ⟨rfl, rfl⟩
    case round =>
      obtain ⟨rfl, rfl⟩ := hrel
      go_wp2
      go_ret
      exact ⟨rfl, ⟨rfl, by omega, fun i hi => by omega, .inl rfl⟩, Only.refl _⟩
  · obtain ⟨b, A, N, C, rfl, hlo, hhi, hroom, hcs, hab, haa⟩ := h.row.resolve_left hz
    have HRoom := Lib.hid hroom
    have HCS := Lib.hid hcs
    have HAB := Lib.hid hab
    have HAA := Lib.hid haa
    have HK := Lib.hid hK
    have HA := Lib.hid hA
    clear h hroom hcs hab haa hK hA
    go_enter Tryz.func46, Tryz.ntmps46
    go_wp2
    go_loopw [1, 5] (fun v i wr => ∃ j : Nat, j ≤ n ∧ i = .int .i64 j ∧ v = .int .i64 ((kAt k l j : Nat) : Int) ∧ Room wr b (n * 5) ∧ (∀ i, i < j → OwnAt wr lo hi b i (markIt (kAt k l i) (l.getD i dIt)) (A i) (N i) (C i)) ∧ (∀ i, j ≤ i → i < n → OwnAt wr lo hi b i (l.getD i dIt) (A i) (N i) (C i)) ∧ Only (fun i => lo ≤ i ∧ i < hi) w wr) (fun _ i _ => n - (intOf i).toNat)
    case atStart => exact ⟨0, Nat.zero_le _, rfl, rfl, HRoom.out, fun i hi => by omega, fun i _ hi => HCS.out i hi, Only.refl _⟩
    case round =>
      obtain ⟨j, hj, rfl, rfl, hroom, hdone, hleft, ho⟩ := hrel
      have HROOM := Lib.hid hroom
      have HDONE := Lib.hid hdone
      have HLEFT := Lib.hid hleft
      have HO := Lib.hid ho
      clear hroom hdone hleft ho
      by_cases hlt : j < n
      · have HKJ : Hid (kAt k l (j + 1) = kAt k l j + 4 + 2 * (l.getD j dIt).attrs.length) := Lib.hid rfl
        have hle1 := kAt_le k l (i := 0) (j := j) (by omega)
        have hle2 := kAt_le k l (i := j) (j := n) (by omega)
        have hkk0 : 0 < kAt k l j := by show 0 < _; have : kAt k l 0 = k := rfl; omega
        have hkk1 : kAt k l j ≤ 10000000000000000 := by have := HK.out; omega
        clear hle1 hle2
        have hlen : (l.getD j dIt).attrs.length = N j := (HLEFT.out j (Nat.le_refl _) hlt).2.ats.len
        have hNj : N j ≤ 1048576 := by have := HA.out j hlt; omega
        have HLEN := Lib.hid hlen
        clear hlen
        obtain ⟨kk, hkk⟩ : ∃ kk, kAt k l j = kk := ⟨_, rfl⟩
        rw [hkk] at hkk0 hkk1
        have HKK := Lib.hid hkk
        rw [hkk]
        clear hkk
        have K1 := Lib.hid (markText_at kk 1 (by omega) (by omega))
        have K2 := Lib.hid (markText_at kk 2 (by omega) (by omega))
        have K3 := Lib.hid (markText_at kk 3 (by omega) (by omega))
        have q4 : kk ≤ 10000000000000000 := hkk1
        obtain ⟨⟨v0, p0⟩, f0⟩ := HROOM.out.2 (j * 5) (by omega)
        go_wp2_with fail
        refine (K1.out _).mono ?_
        rintro e w1 ⟨rfl, hb1⟩
        have HR1 := Lib.hid ((HROOM.out.set ⟨b, j * 5, none⟩ (.int .i64 kk)).below hb1)
        have HB1 := Lib.hid hb1
        clear hb1 p0 f0
        obtain ⟨⟨v1, p1⟩, f1⟩ := HR1.out.2 (j * 5 + 1) (by omega)
        go_wp2_with fail
        refine (K2.out _).mono ?_
        rintro e w2 ⟨rfl, hb2⟩
        have HR2 := Lib.hid ((HR1.out.set ⟨b, j * 5 + 1, none⟩ (.string (markT (kk + 1)))).below hb2)
        have HB2 := Lib.hid hb2
        clear hb2 p1 f1
        obtain ⟨⟨v2, p2⟩, f2⟩ := HR2.out.2 (j * 5 + 2) (by omega)
        go_wp2_with fail
        refine (K3.out _).mono ?_
        rintro e w3 ⟨rfl, hb3⟩
        have HR3 := Lib.hid ((HR2.out.set ⟨b, j * 5 + 2, none⟩ (.string (markT (kk + 2)))).below hb3)
        have HB3 := Lib.hid hb3
        clear hb3 p2 f2
        obtain ⟨⟨v3, p3⟩, f3⟩ := HR3.out.2 (j * 5 + 3) (by omega)
        -- what has become of the rows by now
        have hb0 := HROOM.out.1
        have hs0 : b < (wr.setCell ⟨b, j * 5, none⟩ (.int .i64 kk)).heap.size := by simpa using hb0
        have hs1 : b < (w1.setCell ⟨b, j * 5 + 1, none⟩ (.string (markT (kk + 1)))).heap.size := by simpa using HR1.out.1
        have hs2 : b < (w2.setCell ⟨b, j * 5 + 2, none⟩ (.string (markT (kk + 2)))).heap.size := by simpa using HR2.out.1
        have HON : Hid (Only (fun i => i = b) wr w3) := Lib.hid
          (((Only.set (P := fun i => i = b) wr ⟨b, j * 5, none⟩ _ rfl).trans (Only.below HB1.out)).trans (((Only.set (P := fun i => i = b) w1 ⟨b, j * 5 + 1, none⟩ _ rfl).trans (Only.below HB2.out)).trans ((Only.set (P := fun i => i = b) w2 ⟨b, j * 5 + 2, none⟩ _ rfl).trans (Only.below HB3.out))))
        have HC5 : Hid (∀ i x a n c, i ≠ j → Cells5 wr b i x a n c → Cells5 w3 b i x a n c) := Lib.hid fun i x a n c hij hc =>
          ((((((hc.set (by omega)).below hs0 HB1.out).set (by omega)).below hs1 HB2.out).set (by omega)).below hs2 HB3.out)
        have d4 : w3.cell? ⟨b, j * 5 + 4, none⟩ = some (.slice (A j) (N j) (C j)) := by
          rw [HB3.out.cell (by exact hs2), set_off (by omega), HB2.out.cell (by exact hs1), set_off (by omega), HB1.out.cell (by exact hs0), set_off (by omega)]
          exact (HLEFT.out j (Nat.le_refl _) hlt).1.c4
        have HD4 := Lib.hid d4
        have HD0 : Hid (w3.cell? ⟨b, j * 5, none⟩ = some (.int .i64 kk)) := Lib.hid (by
          rw [HB3.out.cell (by exact hs2), set_off (by omega), HB2.out.cell (by exact hs1), set_off (by omega), HB1.out.cell (by exact hs0)]
          exact HROOM.out.put (by omega) _)
        have HD1 : Hid (w3.cell? ⟨b, j * 5 + 1, none⟩ = some (.string (markT (kk + 1)))) := Lib.hid (by
          rw [HB3.out.cell (by exact hs2), set_off (by omega), HB2.out.cell (by exact hs1)]
          exact HR1.out.put (by omega) _)
        have HD2 : Hid (w3.cell? ⟨b, j * 5 + 2, none⟩ = some (.string (markT (kk + 2)))) := Lib.hid (by
          rw [HB3.out.cell (by exact hs2)]
          exact HR2.out.put (by omega) _)
        have HOA : Hid (OwnAts (w3.setCell ⟨b, j * 5 + 3, none⟩ (.string (markT (kk + 3)))) lo hi (A j) (N j) (C j) (l.getD j dIt).attrs) := Lib.hid
          ((HLEFT.out j (Nat.le_refl _) hlt).2.only (HON.out.trans (Only.set (P := fun i => i = b) w3 ⟨b, j * 5 + 3, none⟩ _ rfl)) (fun x hx hne => HAB.out j hlt x hx hne))
        have K4 := Lib.hid (markAttrS_any lo hi (A j) (N j) (C j) (kk + 4) (l.getD j dIt).attrs _ (by omega) hNj (by omega) HOA.out)
        clear hs0 hs1 hs2 hb0
        go_wp2_with fail
        refine K4.out.mono ?_
        rintro e w4 ⟨rfl, hown4, ho4⟩
        have HOWN4 := Lib.hid hown4
        have HO4 := Lib.hid ho4
        have HNB : Hid (¬ BlockOf (A j) (N j) b) := Lib.hid fun ⟨x, hx, hb, hne⟩ => HAB.out j hlt x hx hne hb
        clear hown4 ho4 d4 p3 f3
        go_wp2
        go_roundw
        case rel =>
          have hr3 := HR3.out.set ⟨b, j * 5 + 3, none⟩ (.string (markT (kk + 3)))
          have keep : ∀ i x, i < n → i ≠ j → OwnAt wr lo hi b i x (A i) (N i) (C i) → OwnAt w4 lo hi b i x (A i) (N i) (C i) := fun i x hi hij hx =>
            ⟨((HC5.out i x _ _ _ hij hx.1).set (by omega)).only hr3.1 HO4.out HNB.out,
              (hx.2.only (HON.out.trans (Only.set (P := fun i => i = b) w3 ⟨b, j * 5 + 3, none⟩ _ rfl)) (fun y hy hne => HAB.out i hi y hy hne)).only HO4.out
                (fun y hy hne ⟨z, hz, hzb, hzn⟩ => HAA.out i j hi hlt hij y z hy hz hne hzn hzb.symm)⟩
          refine ⟨j + 1, by omega, by go_num, ?_, hr3.only HO4.out HNB.out, fun i hi => ?_, fun i h1 h2 => keep i _ h2 (by omega) (HLEFT.out i (by omega) h2), ?_⟩
          · rw [HKJ.out, HKK.out, HLEN.out]
            congr 1
          · rcases Nat.lt_or_ge i j with h | h
            · exact keep i _ (by omega) (by omega) (HDONE.out i h)
            · obtain rfl : i = j := by omega
              rw [HKK.out]
              refine ⟨⟨?_, ?_, ?_, ?_, ?_, (HLEFT.out i (Nat.le_refl _) hlt).1.nil⟩, ?_⟩
              · rw [HO4.out.cell (by exact hr3.1) HNB.out, set_off (by omega)]; exact HD0.out
              · rw [HO4.out.cell (by exact hr3.1) HNB.out, set_off (by omega)]; exact HD1.out
              · rw [HO4.out.cell (by exact hr3.1) HNB.out, set_off (by omega)]; exact HD2.out
              · rw [HO4.out.cell (by exact hr3.1) HNB.out]; exact HR3.out.put (by omega) _
              · rw [HO4.out.cell (by exact hr3.1) HNB.out, set_off (by omega)]; exact HD4.out
              · have := HOWN4.out
                unfold markIt
                rw [HLEN.out]
                exact this
          · have hbi : ∀ i, i = b → lo ≤ i ∧ i < hi := fun i e => by omega
            refine HO.out.trans ((HON.out.mono hbi).trans ((Only.set w3 ⟨b, j * 5 + 3, none⟩ _ ⟨hlo, hhi⟩).trans (HO4.out.mono fun i hi => ?_)))
            obtain ⟨x, hx, hxb, hne⟩ := hi
            obtain ⟨b2, hb2, h1, h2, _⟩ := (HLEFT.out j (Nat.le_refl _) hlt).2.own.resolve_left hne
            rw [hx] at hb2
            cases hb2
            exact ⟨by rw [← hxb]; exact h1, by rw [← hxb]; exact h2⟩
        case measure => simp [intOf]; omega
      · obtain rfl : j = n := by omega
        go_wp2
        go_ret
        refine ⟨rfl, ⟨by rw [markIts_length]; exact HL.out, hm, fun i hi => ?_, .inr ⟨b, A, N, C, rfl, hlo, hhi, HROOM.out, fun i hi => by rw [markIts_get k l i (by have := HL.out; omega)]; exact HDONE.out i hi, HAB.out, HAA.out⟩⟩, HO.out⟩
        rw [markIts_get k l i (by have := HL.out; omega)]
        have hki := kAt_le k l (i := i) (j := j) (by omega)
        have hkb := HK.out
        refine ⟨⟨by show (-9223372036854775808 : Int) ≤ ((kAt k l i : Nat) : Int); omega, by show ((kAt k l i : Nat) : Int) ≤ 9223372036854775807; omega⟩, markT_size _ (by omega), markT_size _ (by omega), markT_size _ (by omega)⟩
end Go.Proofs.YtbfjhjkllaceaaaGreatDoor

/- Rows of items that grow. -/
namespace Go.Proofs.YtbfjhjkllaceaaaGreatDoor
open Go.ChangeShapes Go.WideShapes Go.ChangeAt Go.RowKit
set_option linter.unusedVariables false

/-- the cells of attributes in a row -/
def flatA (l : List At) : List Value := (List.range (l.length * 2)).map fun j => if j % 2 = 0 then .string (l.getD (j / 2) dAt).name else .string (l.getD (j / 2) dAt).value
theorem flatA_length (l : List At) : (flatA l).length = l.length * 2 := by simp [flatA]
theorem flatA_get (l : List At) (j : Nat) (h : j < l.length * 2) : (flatA l)[j]? = some (if j % 2 = 0 then .string (l.getD (j / 2) dAt).name else .string (l.getD (j / 2) dAt).value) := by
  unfold flatA
  rw [List.getElem?_map, List.getElem?_range h]; rfl
theorem flatA_name (l : List At) (i : Nat) (h : i < l.length) : (flatA l)[i * 2]? = some (.string (l.getD i dAt).name) := by
  rw [flatA_get l _ (by omega), if_pos (by omega), show i * 2 / 2 = i by omega]
theorem flatA_value (l : List At) (i : Nat) (h : i < l.length) : (flatA l)[i * 2 + 1]? = some (.string (l.getD i dAt).value) := by
  rw [flatA_get l _ (by omega), if_neg (by omega), show (i * 2 + 1) / 2 = i by omega]
theorem flatA_one (l : List At) : ∀ u ∈ flatA l, u.oneCell' = true := by
  intro u hu
  unfold flatA at hu
  rw [List.mem_map] at hu
  obtain ⟨j, _, rfl⟩ := hu
  split <;> rfl
theorem AtsAt.flat {w : World} {x : Addr} {n c : Nat} {l : List At} (h : AtsAt w (some x) n c l) : ∀ j u, (flatA l)[j]? = some u → w.cell? (x.add j) = some u := by
  intro j u hj
  have hlt : j < l.length * 2 := by
    rcases Nat.lt_or_ge j (l.length * 2) with h1 | h1
    · exact h1
    · rw [List.getElem?_eq_none (by rw [flatA_length]; exact h1)] at hj; cases hj
  rcases h.row with e | ⟨b, o, ha, _, hc⟩
  · have := h.len; omega
  · simp only [Option.some.injEq] at ha
    subst ha
    rw [Addr.add_lit]
    rw [flatA_get l j hlt] at hj
    simp only [Option.some.injEq] at hj
    have hi := hc (j / 2) (by have := h.len; omega)
    by_cases h2 : j % 2 = 0
    · rw [if_pos h2] at hj
      rw [← hj, ← hi.1, show o + j / 2 * 2 = o + j by omega]
    · rw [if_neg h2] at hj
      rw [← hj, ← hi.2, show o + j / 2 * 2 + 1 = o + j by omega]
/-- a row of one's own that holds these cells reads as these attributes -/
theorem ownAts_of {w : World} {B : Nat} {T : TypeId} {a : Option Addr} {n c : Nat} {l : List At} (h : w.ownsRow B T 2 (.slice a n c) n (flatA l)) (hn : n ≤ 9223372036854775807)
    (hs : ∀ i, (l.getD i dAt).name.size ≤ 9223372036854775807 ∧ (l.getD i dAt).value.size ≤ 9223372036854775807) : OwnAts w B w.heap.size a n c l := by
  have hl : l.length = n := by have := h.1; rw [flatA_length] at this; omega
  rcases h.2 with ⟨hv, h0⟩ | ⟨g, cap, cur, hv, hg, hb, _⟩
  · exact ⟨⟨hl, hn, hs, .inl h0⟩, .inl h0⟩
  · simp only [Value.slice.injEq] at hv
    obtain ⟨rfl, _, rfl⟩ := hv
    have hr := room_made h
    refine ⟨⟨hl, hn, hs, .inr ⟨g, 0, rfl, hr.1, fun i hi => ?_⟩⟩, .inr ⟨g, rfl, hg, hr.1, hr⟩⟩
    rw [Nat.zero_add, h.cellAt _ (by omega), h.cellAt _ (by omega)]
    exact ⟨flatA_name l i (by omega), flatA_value l i (by omega)⟩

theorem lit_behind2 (w : World) (o1 o2 : Obj) : (((w.alloc o1).alloc o2).alloc (.cells #[] 73)).ownsRow w.heap.size 73 2 (.slice (some ⟨w.heap.size + 1 + 1, 0, none⟩) 0 0) 0 [] := by
  have := World.ownsRow_lit (base := w.heap.size) (e := 73) (size := 2) ((w.alloc o1).alloc o2) #[] 0 (by simp; omega) (by unfold maxLen; omega) rfl
  simpa using this
theorem Only.grown {w w' : World} {r : Option Nat} (h : w.grownBy w' r) : Only (fun i => some i = r) w w' := ⟨h.os, h.tape, h.output, h.size, fun i hi hn => h.block i hi hn⟩

/-- the cells of items in a row -/
def cellI (l : List It) (A : Nat → Option Addr) (N C : Nat → Nat) (j : Nat) : Value :=
  if j % 5 = 0 then .int .i64 (l.getD (j / 5) dIt).depth else if j % 5 = 1 then .string (l.getD (j / 5) dIt).text else if j % 5 = 2 then .string (l.getD (j / 5) dIt).space else if j % 5 = 3 then .string (l.getD (j / 5) dIt).name else .slice (A (j / 5)) (N (j / 5)) (C (j / 5))
def flatI (l : List It) (A : Nat → Option Addr) (N C : Nat → Nat) : List Value := (List.range (l.length * 5)).map (cellI l A N C)
theorem flatI_length (l : List It) (A : Nat → Option Addr) (N C : Nat → Nat) : (flatI l A N C).length = l.length * 5 := by simp [flatI]
theorem flatI_get (l : List It) (A : Nat → Option Addr) (N C : Nat → Nat) (j : Nat) (h : j < l.length * 5) : (flatI l A N C)[j]? = some (cellI l A N C j) := by
  unfold flatI
  rw [List.getElem?_map, List.getElem?_range h]; rfl
def putA {α : Type} (n : Nat) (a : α) (A : Nat → α) (i : Nat) : α := if i = n then a else A i
theorem flatI_snoc (l : List It) (A : Nat → Option Addr) (N C : Nat → Nat) (x : It) (a : Option Addr) (n c : Nat) :
    flatI (l ++ [x]) (putA l.length a A) (putA l.length n N) (putA l.length c C) = flatI l A N C ++ [.int .i64 x.depth, .string x.text, .string x.space, .string x.name, .slice a n c] := by
  apply List.ext_getElem?
  intro j
  have hx : (l ++ [x]).getD l.length dIt = x := by simp [List.getD_eq_getElem?_getD]
  have hl : ∀ i, i < l.length → (l ++ [x]).getD i dIt = l.getD i dIt := fun i hi => by simp [List.getD_eq_getElem?_getD, List.getElem?_append_left hi]
  by_cases h1 : j < l.length * 5
  · have h2 : j / 5 < l.length := by omega
    rw [flatI_get _ _ _ _ _ (by simp; omega), List.getElem?_append_left (by rw [flatI_length]; exact h1), flatI_get _ _ _ _ _ h1]
    have g : ∀ {α : Type} (u : α) (F : Nat → α), putA l.length u F (j / 5) = F (j / 5) := fun u F => by unfold putA; rw [if_neg (by omega)]
    unfold cellI
    rw [hl _ h2, g, g, g]
  · by_cases h3 : j < (l.length + 1) * 5
    · rw [flatI_get _ _ _ _ _ (by simp; omega), List.getElem?_append_right (by rw [flatI_length]; omega), flatI_length]
      have h4 : j / 5 = l.length := by omega
      unfold cellI putA
      rw [h4, hx, if_pos rfl, if_pos rfl, if_pos rfl]
      obtain ⟨q, rfl⟩ : ∃ q, j = l.length * 5 + q := ⟨j - l.length * 5, by omega⟩
      have hq : q < 5 := by omega
      rw [show (l.length * 5 + q) % 5 = q by omega, Nat.add_sub_cancel_left]
      match q, hq with
      | 0, _ => rfl
      | 1, _ => rfl
      | 2, _ => rfl
      | 3, _ => rfl
      | 4, _ => rfl
    · rw [List.getElem?_eq_none (by rw [flatI_length]; simp; omega), List.getElem?_eq_none (by rw [List.length_append, flatI_length]; simp; omega)]

/-- a row of items that grows -/
structure GrowIts (w : World) (B : Nat) (v : Value) (n : Nat) (l : List It) (A : Nat → Option Addr) (N C : Nat → Nat) : Prop where
  row : w.ownsRow B 68 5 v n (flatI l A N C)
  ats : ∀ i, i < l.length → OwnAts w B w.heap.size (A i) (N i) (C i) (l.getD i dIt).attrs ∧ (A i = none → C i = 0)
  apart : ∀ i, i < l.length → ∀ x, A i = some x → N i ≠ 0 → v.ownBlock ≠ some x.block
  each : ∀ i j, i < l.length → j < l.length → i ≠ j → ∀ x y, A i = some x → A j = some y → N i ≠ 0 → N j ≠ 0 → x.block ≠ y.block
theorem GrowIts.len {w : World} {B : Nat} {v : Value} {n : Nat} {l : List It} {A : Nat → Option Addr} {N C : Nat → Nat} (h : GrowIts w B v n l A N C) : l.length = n := by
  have := h.row.1
  rw [flatI_length] at this
  omega
theorem OwnAts.in {w : World} {lo hi : Nat} {a : Option Addr} {n c : Nat} {l : List At} (h : OwnAts w lo hi a n c l) {x : Addr} (hx : a = some x) (hn : n ≠ 0) : lo ≤ x.block ∧ x.block < hi := by
  obtain ⟨b, hb, h1, h2, _⟩ := h.own.resolve_left hn
  rw [hx] at hb
  cases hb
  exact ⟨h1, h2⟩
theorem GrowIts.below {w w' : World} {B : Nat} {v : Value} {n : Nat} {l : List It} {A : Nat → Option Addr} {N C : Nat → Nat} (h : GrowIts w B v n l A N C) (hb : Below w.heap.size w w') : GrowIts w' B v n l A N C := by
  refine ⟨owns_below h.row hb, fun i hi => ⟨?_, (h.ats i hi).2⟩, h.apart, h.each⟩
  have h1 := (h.ats i hi).1.only (Only.below (P := fun _ => False) hb) fun _ _ _ h => h
  exact ⟨h1.ats, h1.own.imp id fun ⟨b, g1, g2, g3, g4⟩ => ⟨b, g1, g2, by have := hb.size; omega, g4⟩⟩
/-- behind an append of one item -/
theorem GrowIts.snoc {w w0 w1 : World} {B : Nat} {v v' : Value} {n : Nat} {l : List It} {A : Nat → Option Addr} {N C : Nat → Nat} {x : It} {a : Option Addr} {m c : Nat}
    (h : GrowIts w B v n l A N C) (hw : Below w.heap.size w w0) (ha : OwnAts w0 w.heap.size w0.heap.size a m c x.attrs) (hnil : a = none → c = 0) (hB : B ≤ w.heap.size)
    (hr : w1.ownsRow B 68 5 v' (n + 1) (flatI l A N C ++ [.int .i64 x.depth, .string x.text, .string x.space, .string x.name, .slice a m c])) (hg : w0.grownBy w1 v.ownBlock)
    (hv : v'.ownBlock = v.ownBlock ∨ ∃ g, v'.ownBlock = some g ∧ w0.heap.size ≤ g) :
    GrowIts w1 B v' (n + 1) (l ++ [x]) (putA l.length a A) (putA l.length m N) (putA l.length c C) := by
  have hon := Only.grown hg
  have hs0 := hw.size
  have hs1 := hg.size
  have hvlt : ∀ g, v.ownBlock = some g → g < w.heap.size := fun g hgb => (h.row.lt g hgb).2
  have hx : (l ++ [x]).getD l.length dIt = x := by simp [List.getD_eq_getElem?_getD]
  have hl : ∀ i, i < l.length → (l ++ [x]).getD i dIt = l.getD i dIt := fun i hi => by simp [List.getD_eq_getElem?_getD, List.getElem?_append_left hi]
  have hold : ∀ i, i < l.length → ∀ y, A i = some y → N i ≠ 0 → B ≤ y.block ∧ y.block < w.heap.size := fun i hi y hy hne => (h.ats i hi).1.in hy hne
  refine ⟨by rw [flatI_snoc]; exact hr, fun i hi => ?_, fun i hi y hy hne => ?_, fun i j hi hj hij y z hy hz hny hnz => ?_⟩
  · rw [List.length_append] at hi
    simp only [List.length_cons, List.length_nil] at hi
    by_cases e : i = l.length
    · subst e
      unfold putA
      rw [if_pos rfl, if_pos rfl, if_pos rfl, hx]
      have h1 := ha.only hon fun y hy hne hq => by
        have g1 := (ha.in hy hne).1
        have g2 := hvlt y.block hq.symm
        omega
      exact ⟨⟨h1.ats, h1.own.imp id fun ⟨b, g1, g2, g3, g4⟩ => ⟨b, g1, by omega, by omega, g4⟩⟩, hnil⟩
    · have hi2 : i < l.length := by omega
      unfold putA
      rw [if_neg e, if_neg e, if_neg e, hl i hi2]
      have h0 := (h.ats i hi2).1.only (Only.below (P := fun _ => False) hw) fun _ _ _ h => h
      have h1 := h0.only hon fun y hy hne hq => h.apart i hi2 y hy hne hq.symm
      exact ⟨⟨h1.ats, h1.own.imp id fun ⟨b, g1, g2, g3, g4⟩ => ⟨b, g1, g2, by omega, g4⟩⟩, (h.ats i hi2).2⟩
  · rw [List.length_append] at hi
    simp only [List.length_cons, List.length_nil] at hi
    unfold putA at hy hne
    by_cases e : i = l.length
    · rw [if_pos e] at hy hne
      have g1 := ha.in hy hne
      rcases hv with hv | ⟨g, hv, hg2⟩
      · rw [hv]
        intro hq
        have g2 := hvlt _ hq
        omega
      · rw [hv]
        intro hq
        simp only [Option.some.injEq] at hq
        omega
    · rw [if_neg e] at hy hne
      have g1 := hold i (by omega) y hy hne
      rcases hv with hv | ⟨g, hv, hg2⟩
      · rw [hv]
        exact h.apart i (by omega) y hy hne
      · rw [hv]
        intro hq
        simp only [Option.some.injEq] at hq
        omega
  · rw [List.length_append] at hi hj
    simp only [List.length_cons, List.length_nil] at hi hj
    unfold putA at hy hz hny hnz
    by_cases e : i = l.length
    · rw [if_pos e] at hy hny
      rw [if_neg (by omega)] at hz hnz
      have g1 := ha.in hy hny
      have g2 := hold j (by omega) z hz hnz
      omega
    · rw [if_neg e] at hy hny
      have g2 := hold i (by omega) y hy hny
      by_cases e2 : j = l.length
      · rw [if_pos e2] at hz hnz
        have g1 := ha.in hz hnz
        omega
      · rw [if_neg e2] at hz hnz
        exact h.each i j (by omega) (by omega) hij y z hy hz hny hnz
/-- behind an append of one item, where one block below was written -/
theorem GrowIts.snocO {w w0 w1 : World} {B : Nat} {P : Nat → Prop} {v v' : Value} {n : Nat} {l : List It} {A : Nat → Option Addr} {N C : Nat → Nat} {x : It} {a : Option Addr} {m c : Nat}
    (h : GrowIts w B v n l A N C) (hw : Only P w w0) (hP : ∀ i, B ≤ i → ¬ P i) (ha : OwnAts w0 w.heap.size w0.heap.size a m c x.attrs) (hnil : a = none → c = 0) (hB : B ≤ w.heap.size)
    (hr : w1.ownsRow B 68 5 v' (n + 1) (flatI l A N C ++ [.int .i64 x.depth, .string x.text, .string x.space, .string x.name, .slice a m c])) (hg : w0.grownBy w1 v.ownBlock)
    (hv : v'.ownBlock = v.ownBlock ∨ ∃ g, v'.ownBlock = some g ∧ w0.heap.size ≤ g) :
    GrowIts w1 B v' (n + 1) (l ++ [x]) (putA l.length a A) (putA l.length m N) (putA l.length c C) := by
  have hon := Only.grown hg
  have hs0 := hw.size
  have hs1 := hg.size
  have hvlt : ∀ g, v.ownBlock = some g → g < w.heap.size := fun g hgb => (h.row.lt g hgb).2
  have hx : (l ++ [x]).getD l.length dIt = x := by simp [List.getD_eq_getElem?_getD]
  have hl : ∀ i, i < l.length → (l ++ [x]).getD i dIt = l.getD i dIt := fun i hi => by simp [List.getD_eq_getElem?_getD, List.getElem?_append_left hi]
  have hold : ∀ i, i < l.length → ∀ y, A i = some y → N i ≠ 0 → B ≤ y.block ∧ y.block < w.heap.size := fun i hi y hy hne => (h.ats i hi).1.in hy hne
  refine ⟨by rw [flatI_snoc]; exact hr, fun i hi => ?_, fun i hi y hy hne => ?_, fun i j hi hj hij y z hy hz hny hnz => ?_⟩
  · rw [List.length_append] at hi
    simp only [List.length_cons, List.length_nil] at hi
    by_cases e : i = l.length
    · subst e
      unfold putA
      rw [if_pos rfl, if_pos rfl, if_pos rfl, hx]
      have h1 := ha.only hon fun y hy hne hq => by
        have g1 := (ha.in hy hne).1
        have g2 := hvlt y.block hq.symm
        omega
      exact ⟨⟨h1.ats, h1.own.imp id fun ⟨b, g1, g2, g3, g4⟩ => ⟨b, g1, by omega, by omega, g4⟩⟩, hnil⟩
    · have hi2 : i < l.length := by omega
      unfold putA
      rw [if_neg e, if_neg e, if_neg e, hl i hi2]
      have h0 := (h.ats i hi2).1.only hw fun y hy hne => hP _ ((h.ats i hi2).1.in hy hne).1
      have h1 := h0.only hon fun y hy hne hq => h.apart i hi2 y hy hne hq.symm
      exact ⟨⟨h1.ats, h1.own.imp id fun ⟨b, g1, g2, g3, g4⟩ => ⟨b, g1, g2, by omega, g4⟩⟩, (h.ats i hi2).2⟩
  · rw [List.length_append] at hi
    simp only [List.length_cons, List.length_nil] at hi
    unfold putA at hy hne
    by_cases e : i = l.length
    · rw [if_pos e] at hy hne
      have g1 := ha.in hy hne
      rcases hv with hv | ⟨g, hv, hg2⟩
      · rw [hv]
        intro hq
        have g2 := hvlt _ hq
        omega
      · rw [hv]
        intro hq
        simp only [Option.some.injEq] at hq
        omega
    · rw [if_neg e] at hy hne
      have g1 := hold i (by omega) y hy hne
      rcases hv with hv | ⟨g, hv, hg2⟩
      · rw [hv]
        exact h.apart i (by omega) y hy hne
      · rw [hv]
        intro hq
        simp only [Option.some.injEq] at hq
        omega
  · rw [List.length_append] at hi hj
    simp only [List.length_cons, List.length_nil] at hi hj
    unfold putA at hy hz hny hnz
    by_cases e : i = l.length
    · rw [if_pos e] at hy hny
      rw [if_neg (by omega)] at hz hnz
      have g1 := ha.in hy hny
      have g2 := hold j (by omega) z hz hnz
      omega
    · rw [if_neg e] at hy hny
      have g2 := hold i (by omega) y hy hny
      by_cases e2 : j = l.length
      · rw [if_pos e2] at hz hnz
        have g1 := ha.in hz hnz
        omega
      · rw [if_neg e2] at hz hnz
        exact h.each i j (by omega) (by omega) hij y z hy hz hny hnz
/-- the row that has grown is of one's own, item by item -/
theorem GrowIts.own {w : World} {B : Nat} {a : Option Addr} {n c : Nat} {l : List It} {A : Nat → Option Addr} {N C : Nat → Nat} (h : GrowIts w B (.slice a n c) n l A N C) (hn : n ≤ 1048576)
    (hit : ∀ i, i < n → (-9223372036854775808 ≤ (l.getD i dIt).depth ∧ (l.getD i dIt).depth ≤ 9223372036854775807) ∧ ((l.getD i dIt).text.size ≤ 9223372036854775807 ∧ (l.getD i dIt).space.size ≤ 9223372036854775807 ∧ (l.getD i dIt).name.size ≤ 9223372036854775807)) :
    OwnIts w B w.heap.size a n c l := by
  refine ⟨h.len, hn, hit, ?_⟩
  have hlen := h.len
  rcases h.row.2 with ⟨hv, h0⟩ | ⟨g, cap, cur, hv, hg, hb, _⟩
  · exact .inl h0
  · simp only [Value.slice.injEq] at hv
    obtain ⟨rfl, _, rfl⟩ := hv
    have hr := room_made h.row
    refine .inr ⟨g, A, N, C, rfl, hg, hr.1, hr, fun i hi => ⟨?_, (h.ats i (by omega)).1⟩, fun i hi x hx hne hq => h.apart i (by omega) x hx hne (by simp [Value.ownBlock, hq]), fun i j hi hj => h.each i j (by omega) (by omega)⟩
    have hc : ∀ q, q < 5 → w.cell? ⟨g, i * 5 + q, none⟩ = some (cellI l A N C (i * 5 + q)) := fun q hq => by
      rw [h.row.cellAt _ (by omega), flatI_get _ _ _ _ _ (by omega)]
    refine ⟨?_, ?_, ?_, ?_, ?_, (h.ats i (by omega)).2⟩
    · have := hc 0 (by omega); unfold cellI at this; rwa [show (i * 5 + 0) % 5 = 0 by omega, if_pos rfl, show (i * 5 + 0) / 5 = i by omega] at this
    · have := hc 1 (by omega); unfold cellI at this; rwa [show (i * 5 + 1) % 5 = 1 by omega, if_neg (by omega), if_pos rfl, show (i * 5 + 1) / 5 = i by omega] at this
    · have := hc 2 (by omega); unfold cellI at this; rwa [show (i * 5 + 2) % 5 = 2 by omega, if_neg (by omega), if_neg (by omega), if_pos rfl, show (i * 5 + 2) / 5 = i by omega] at this
    · have := hc 3 (by omega); unfold cellI at this; rwa [show (i * 5 + 3) % 5 = 3 by omega, if_neg (by omega), if_neg (by omega), if_neg (by omega), if_pos rfl, show (i * 5 + 3) / 5 = i by omega] at this
    · have := hc 4 (by omega); unfold cellI at this; rwa [show (i * 5 + 4) % 5 = 4 by omega, if_neg (by omega), if_neg (by omega), if_neg (by omega), if_neg (by omega), show (i * 5 + 4) / 5 = i by omega] at this

theorem lit_item (w : World) : (w.alloc (.cells #[] 68)).ownsRow w.heap.size 68 5 (.slice (some ⟨w.heap.size, 0, none⟩) 0 0) 0 [] := by
  have := World.ownsRow_lit (base := w.heap.size) (e := 68) (size := 5) w #[] 0 (Nat.le_refl _) (by unfold maxLen; omega) rfl
  simpa using this
/-- items from a place up to another one, deeper by so much -/
def movedTo (l : List It) (f k : Nat) (by_ : Int) : List It := (List.range (k - f)).map fun i => ⟨(l.getD (f + i) dIt).depth + by_, (l.getD (f + i) dIt).text, (l.getD (f + i) dIt).space, (l.getD (f + i) dIt).name, (l.getD (f + i) dIt).attrs⟩
theorem movedTo_length (l : List It) (f k : Nat) (by_ : Int) : (movedTo l f k by_).length = k - f := by simp [movedTo]
theorem movedTo_step (l : List It) {f k : Nat} (h : f ≤ k) (by_ : Int) : movedTo l f (k + 1) by_ = movedTo l f k by_ ++ [⟨(l.getD k dIt).depth + by_, (l.getD k dIt).text, (l.getD k dIt).space, (l.getD k dIt).name, (l.getD k dIt).attrs⟩] := by
  unfold movedTo
  rw [show k + 1 - f = (k - f) + 1 by omega, List.range_succ, List.map_append, List.map_cons, List.map_nil, show f + (k - f) = k by omega]
theorem movedTo_get (l : List It) (f k : Nat) (by_ : Int) (i : Nat) (h : i < k - f) : (movedTo l f k by_).getD i dIt = ⟨(l.getD (f + i) dIt).depth + by_, (l.getD (f + i) dIt).text, (l.getD (f + i) dIt).space, (l.getD (f + i) dIt).name, (l.getD (f + i) dIt).attrs⟩ := by
  unfold movedTo
  rw [List.getD_eq_getElem?_getD, List.getElem?_map, List.getElem?_range h]; rfl

end Go.Proofs.YtbfjhjkllaceaaaGreatDoor
