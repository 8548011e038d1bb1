/- What is written in some blocks alone. -/
import Derived.Test.YticpebpicdboaaaGreatDoorGY0
import Derived.Test.YticpebpicdboaaaGreatDoorGY9
namespace Go.Proofs.YticpebpicdboaaaGreatDoor
open Go.ChangeShapes Go.WideShapes Go.ChangeAt Go.RowKit
set_option linter.unusedVariables false

/-- blocks for which P does not hold are as they were; new ones may have been made -/
structure Only (P : Nat → Prop) (w w' : World) : Prop where
  os : w'.os = w.os
  tape : w'.tape = w.tape
  output : w'.output = w.output
  size : w.heap.size ≤ w'.heap.size
  block : ∀ i, i < w.heap.size → ¬ P i → w'.heap[i]? = w.heap[i]?
theorem Only.refl {P : Nat → Prop} (w : World) : Only P w w := ⟨rfl, rfl, rfl, Nat.le_refl _, fun _ _ _ => rfl⟩
theorem Only.trans {P : Nat → Prop} {a b c : World} (h : Only P a b) (k : Only P b c) : Only P a c :=
  ⟨k.os.trans h.os, k.tape.trans h.tape, k.output.trans h.output, Nat.le_trans h.size k.size, fun i hi hp => (k.block i (Nat.lt_of_lt_of_le hi h.size) hp).trans (h.block i hi hp)⟩
theorem Only.mono {P Q : Nat → Prop} {a b : World} (h : Only P a b) (hpq : ∀ i, P i → Q i) : Only Q a b :=
  ⟨h.os, h.tape, h.output, h.size, fun i hi hq => h.block i hi fun hp => hq (hpq i hp)⟩
theorem Only.below {P : Nat → Prop} {a b : World} (h : Below a.heap.size a b) : Only P a b := ⟨h.os, h.tape, h.output, h.size, fun i hi _ => h.block i hi⟩
theorem Only.set {P : Nat → Prop} (w : World) (p : Addr) (v : Value) (h : P p.block) : Only P w (w.setCell p v) :=
  ⟨rfl, rfl, rfl, by simp, fun i hi hp => Below.heap_setCell w p v i fun e => hp (e ▸ h)⟩
theorem Only.cell {P : Nat → Prop} {a b : World} (h : Only P a b) {p : Addr} (hp : p.block < a.heap.size) (hn : ¬ P p.block) : b.cell? p = a.cell? p := by
  unfold World.cell?
  rw [h.block _ hp hn]
theorem Only.frozen {P : Nat → Prop} {a b : World} (h : Only P a b) {p : Addr} (hp : p.block < a.heap.size) (hn : ¬ P p.block) : b.frozen? p = a.frozen? p := by
  unfold World.frozen?
  rw [h.block _ hp hn]
/-- below a bound that all written blocks lie behind, nothing has changed -/
theorem Only.under {P : Nat → Prop} {B : Nat} {w0 a b : World} (h0 : Below B w0 a) (hB : B ≤ w0.heap.size) (h : Only P a b) (hP : ∀ i, P i → B ≤ i) : Below B w0 b :=
  ⟨h.os.trans h0.os, h.tape.trans h0.tape, h.output.trans h0.output, Nat.le_trans h0.size h.size, fun i hi => (h.block i (Nat.lt_of_lt_of_le hi (Nat.le_trans hB h0.size)) fun hp => by have := hP i hp; omega).trans (h0.block i hi)⟩
theorem Room.only {P : Nat → Prop} {w w' : World} {b m : Nat} (h : Room w b m) (ho : Only P w w') (hn : ¬ P b) : Room w' b m :=
  ⟨Nat.lt_of_lt_of_le h.1 ho.size, fun i hi => ⟨(h.2 i hi).1.imp fun v hv => (ho.cell (p := ⟨b, i, none⟩) h.1 hn).trans hv, (ho.frozen (p := ⟨b, i, none⟩) h.1 hn).trans (h.2 i hi).2⟩⟩
end Go.Proofs.YticpebpicdboaaaGreatDoor

/- What is written in some blocks alone; attributes of one's own. -/
namespace Go.Proofs.YticpebpicdboaaaGreatDoor
open Go.ChangeShapes Go.WideShapes Go.ChangeAt Go.RowKit
set_option linter.unusedVariables false

theorem AtsAt.only {P : Nat → Prop} {w w' : World} {a : Option Addr} {n c : Nat} {l : List At} (h : AtsAt w a n c l) (ho : Only P w w') (hn : ∀ x, a = some x → n ≠ 0 → ¬ P x.block) : AtsAt w' a n c l := by
  refine ⟨h.len, h.max, h.size, ?_⟩
  rcases h.row with e | ⟨b, o, ha, hr, hc⟩
  · exact .inl e
  · by_cases h0 : n = 0
    · exact .inl h0
    · have hb := hn _ ha h0
      exact .inr ⟨b, o, ha, Nat.lt_of_lt_of_le hr ho.size, fun i hi => ⟨(ho.cell (p := ⟨b, o + i * 2, none⟩) hr hb).trans (hc i hi).1, (ho.cell (p := ⟨b, o + i * 2 + 1, none⟩) hr hb).trans (hc i hi).2⟩⟩
/-- a row of attributes of its own, in a block of lo to hi -/
structure OwnAts (w : World) (lo hi : Nat) (a : Option Addr) (n c : Nat) (l : List At) : Prop where
  ats : AtsAt w a n c l
  own : n = 0 ∨ ∃ b, a = some ⟨b, 0, none⟩ ∧ lo ≤ b ∧ b < hi ∧ Room w b (n * 2)
theorem OwnAts.only {P : Nat → Prop} {w w' : World} {lo hi : Nat} {a : Option Addr} {n c : Nat} {l : List At} (h : OwnAts w lo hi a n c l) (ho : Only P w w') (hn : ∀ x, a = some x → n ≠ 0 → ¬ P x.block) : OwnAts w' lo hi a n c l := by
  refine ⟨h.ats.only ho hn, ?_⟩
  rcases h.own with e | ⟨b, ha, h1, h2, hr⟩
  · exact .inl e
  · by_cases h0 : n = 0
    · exact .inl h0
    · exact .inr ⟨b, ha, h1, h2, hr.only ho (hn _ ha h0)⟩
/-- the block of a slice that holds anything -/
def BlockOf (a : Option Addr) (n : Nat) (i : Nat) : Prop := ∃ x, a = some x ∧ x.block = i ∧ n ≠ 0

end Go.Proofs.YticpebpicdboaaaGreatDoor

/- Rows of attributes and of items of one's own; what becomes of memory if only some blocks are written. -/
namespace Go.Proofs.YticpebpicdboaaaGreatDoor
open Go.ChangeShapes Go.WideShapes Go.ChangeAt Go.RowKit
set_option linter.unusedVariables false

def markAts (k n : Nat) : List At := (List.range n).map fun i => ⟨markT (k + 2 * i), markT (k + 2 * i + 1)⟩
theorem markAts_length (k n : Nat) : (markAts k n).length = n := by simp [markAts]
theorem markAts_get (k n i : Nat) (h : i < n) : (markAts k n).getD i dAt = ⟨markT (k + 2 * i), markT (k + 2 * i + 1)⟩ := by simp [markAts, List.getD_eq_getElem?_getD, h]
theorem digM_size (k : Nat) : ∀ out : ByteArray, (digM k out).size ≤ out.size + k := by
  induction k using Nat.strongRecOn with
  | ind k ih =>
    intro out
    by_cases h : k = 0
    · subst h; rw [digM_zero]; omega
    · rw [digM_pos (by omega)]
      have := ih (k / 10) (by omega) (strOfNums [48 + (k : Int) % 10] ++ out)
      rw [ByteArray.size_append, strOfNums_size] at this
      simp only [List.length_cons, List.length_nil] at this
      omega
theorem markT_size (k : Nat) (h : k ≤ 1000000000000000000) : (markT k).size ≤ 9223372036854775807 := by
  unfold markT
  have := digM_size k ByteArray.empty
  rw [ByteArray.size_append]
  have h1 : ({ data := #[109] } : ByteArray).size = 1 := rfl
  have h2 : ByteArray.empty.size = 0 := rfl
  omega

/-- the marks are written, and only there -/
def MarkAts (w : World) (lo hi : Nat) (a : Option Addr) (n c k : Nat) (e : Ending) (w' : World) : Prop :=
  e = .returned (.int .i64 ((k + 2 * n : Nat) : Int)) ∧ OwnAts w' lo hi a n c (markAts k n) ∧ Only (BlockOf a n) w w'

set_option maxRecDepth 100000 in
set_option maxHeartbeats 1600000 in
theorem markAttrS_any (lo hi : Nat) (a : Option Addr) (n c k : Nat) (l : List At) (w : World) (h0 : 0 < k) (hn : n ≤ 1048576) (h1 : k ≤ 100000000000000000) (h : OwnAts w lo hi a n c l) :
    Calls Tryz.prog 133 #[.slice a n c, .int .i64 k] w (MarkAts w lo hi a n c k) := by
  by_cases hz : n = 0
  · subst hz
    clear h
    go_enter Tryz.func133, Tryz.ntmps133
    go_wp2
    go_loop [1, 5] (fun v i => i = .int .i64 0 ∧ v = .int .i64 k) (fun _ _ => 0)
    case atStart => exact ⟨rfl, rfl⟩
    case round =>
      obtain ⟨rfl, rfl⟩ := hrel
      go_wp2
      go_ret
      exact ⟨by simp, ⟨⟨by simp [markAts], by omega, fun i => by simp [markAts, dAt], .inl rfl⟩, .inl rfl⟩, Only.refl _⟩
  · obtain ⟨b, rfl, hlo, hhi, hroom⟩ := h.own.resolve_left hz
    have HRoom := Lib.hid hroom
    clear h hroom
    go_enter Tryz.func133, Tryz.ntmps133
    go_wp2
    go_loopw [1, 5] (fun v i wr => ∃ j : Nat, j ≤ n ∧ i = .int .i64 j ∧ v = .int .i64 ((k + 2 * j : Nat) : Int) ∧ Room wr b (n * 2) ∧ (∀ i, i < j → wr.cell? ⟨b, i * 2, none⟩ = some (.string (markT (k + 2 * i))) ∧ wr.cell? ⟨b, i * 2 + 1, none⟩ = some (.string (markT (k + 2 * i + 1)))) ∧ Only (fun i => i = b) w wr) (fun _ i _ => n - (intOf i).toNat)
    case atStart => exact ⟨0, Nat.zero_le _, rfl, rfl, HRoom.out, fun i hi => by omega, Only.refl _⟩
    case round =>
      obtain ⟨j, hj, rfl, rfl, hroom, hdone, ho⟩ := hrel
      have HROOM := Lib.hid hroom
      have HDONE := Lib.hid hdone
      have HO := Lib.hid ho
      clear hroom hdone ho
      by_cases hlt : j < n
      · have K1 := Lib.hid (markText_any (k + 2 * j) (by omega) (by omega))
        have K2 := Lib.hid (markText_succ (k + 2 * j) (by omega))
        obtain ⟨kk, hkk⟩ : ∃ kk, k + 2 * j = kk := ⟨_, rfl⟩
        rw [hkk] at K1 K2
        have q0 : kk ≤ 1000000000000000000 := by omega
        have HKK := Lib.hid hkk
        rw [hkk]
        clear hkk
        go_wp2_with fail
        refine (K1.out _).mono ?_
        rintro e w1 ⟨rfl, hb1⟩
        have hr1 := HROOM.out.below hb1
        obtain ⟨⟨v0, p0⟩, f0⟩ := hr1.2 (j * 2) (by omega)
        obtain ⟨⟨v1, p1⟩, f1⟩ := hr1.2 (j * 2 + 1) (by omega)
        have HR1 := Lib.hid hr1
        have HB1 := Lib.hid hb1
        clear hr1 hb1
        go_wp2_with fail
        refine (K2.out _).mono ?_
        rintro e w2 ⟨rfl, hb2⟩
        have hr2 := (HR1.out.set ⟨b, j * 2, none⟩ (.string (markT kk))).below hb2
        obtain ⟨⟨v2, p2⟩, f2⟩ := hr2.2 (j * 2 + 1) (by omega)
        have HR2 := Lib.hid hr2
        have HB2 := Lib.hid hb2
        clear hr2 hb2 p0 p1 f0 f1
        go_wp2
        go_roundw
        case rel =>
          have hw1 : Only (fun i => i = b) wr w1 := Only.below HB1.out
          have hw2 : Only (fun i => i = b) w1 w2 := (Only.set (P := fun i => i = b) w1 ⟨b, j * 2, none⟩ _ rfl).trans (Only.below HB2.out)
          have hB : b < (w1.setCell ⟨b, j * 2, none⟩ (.string (markT kk))).heap.size := (HR1.out.set _ _).1
          refine ⟨j + 1, by omega, by go_num, by rw [← HKK.out]; first | rfl | (congr 1; omega), HR2.out.set _ _, fun i hi => ?_, (HO.out.trans (hw1.trans hw2)).trans (Only.set (P := fun i => i = b) w2 ⟨b, j * 2 + 1, none⟩ _ rfl)⟩
          rcases Nat.lt_or_ge i j with h | h
          · rw [set_off (by omega), set_off (by omega), HB2.out.cell (p := ⟨b, i * 2, none⟩) hB, HB2.out.cell (p := ⟨b, i * 2 + 1, none⟩) hB, set_off (by omega), set_off (by omega), HB1.out.cell (p := ⟨b, i * 2, none⟩) HROOM.out.1, HB1.out.cell (p := ⟨b, i * 2 + 1, none⟩) HROOM.out.1]
            exact HDONE.out i h
          · obtain rfl : i = j := by omega
            rw [set_off (by omega), HB2.out.cell (p := ⟨b, i * 2, none⟩) hB, HR1.out.put (by omega), HR2.out.put (by omega), ← HKK.out]
            exact ⟨rfl, rfl⟩
        case measure => simp [intOf]; omega
      · obtain rfl : j = n := by omega
        go_wp2
        go_ret
        refine ⟨rfl, ⟨⟨markAts_length _ _, by omega, fun i => ?_, .inr ⟨b, 0, rfl, HROOM.out.1, fun i hi => by rw [markAts_get _ _ _ hi, Nat.zero_add]; exact HDONE.out i hi⟩⟩, .inr ⟨b, rfl, hlo, hhi, HROOM.out⟩⟩, ?_⟩
        · by_cases hi : i < j
          · rw [markAts_get _ _ _ hi]
            exact ⟨markT_size _ (by omega), markT_size _ (by omega)⟩
          · rw [List.getD_eq_getElem?_getD, List.getElem?_eq_none (by rw [markAts_length]; omega)]
            simp [dAt]
        · exact HO.out.mono fun i hi => ⟨_, rfl, hi.symm, hz⟩
end Go.Proofs.YticpebpicdboaaaGreatDoor

/- Items of one's own. -/
namespace Go.Proofs.YticpebpicdboaaaGreatDoor
open Go.ChangeShapes Go.WideShapes Go.ChangeAt Go.RowKit
set_option linter.unusedVariables false

/-- the five cells of item i in block b -/
structure Cells5 (w : World) (b i : Nat) (x : It) (a : Option Addr) (n c : Nat) : Prop where
  c0 : w.cell? ⟨b, i * 5, none⟩ = some (.int .i64 x.depth)
  c1 : w.cell? ⟨b, i * 5 + 1, none⟩ = some (.string x.text)
  c2 : w.cell? ⟨b, i * 5 + 2, none⟩ = some (.string x.space)
  c3 : w.cell? ⟨b, i * 5 + 3, none⟩ = some (.string x.name)
  c4 : w.cell? ⟨b, i * 5 + 4, none⟩ = some (.slice a n c)
  nil : a = none → c = 0
theorem Cells5.set {w : World} {b i m : Nat} {x : It} {a : Option Addr} {n c : Nat} {v : Value} (h : Cells5 w b i x a n c) (hm : m < i * 5 ∨ i * 5 + 5 ≤ m) : Cells5 (w.setCell ⟨b, m, none⟩ v) b i x a n c :=
  ⟨by rw [set_off (by omega)]; exact h.c0, by rw [set_off (by omega)]; exact h.c1, by rw [set_off (by omega)]; exact h.c2, by rw [set_off (by omega)]; exact h.c3, by rw [set_off (by omega)]; exact h.c4, h.nil⟩
theorem Cells5.below {w w' : World} {b i : Nat} {x : It} {a : Option Addr} {n c : Nat} (h : Cells5 w b i x a n c) (hlt : b < w.heap.size) (hb : Below w.heap.size w w') : Cells5 w' b i x a n c :=
  ⟨(hb.cell (by exact hlt)).trans h.c0, (hb.cell (by exact hlt)).trans h.c1, (hb.cell (by exact hlt)).trans h.c2, (hb.cell (by exact hlt)).trans h.c3, (hb.cell (by exact hlt)).trans h.c4, h.nil⟩
theorem Cells5.only {P : Nat → Prop} {w w' : World} {b i : Nat} {x : It} {a : Option Addr} {n c : Nat} (h : Cells5 w b i x a n c) (hlt : b < w.heap.size) (ho : Only P w w') (hn : ¬ P b) : Cells5 w' b i x a n c :=
  ⟨(ho.cell (p := ⟨b, i * 5, none⟩) hlt hn).trans h.c0, (ho.cell (p := ⟨b, i * 5 + 1, none⟩) hlt hn).trans h.c1, (ho.cell (p := ⟨b, i * 5 + 2, none⟩) hlt hn).trans h.c2, (ho.cell (p := ⟨b, i * 5 + 3, none⟩) hlt hn).trans h.c3, (ho.cell (p := ⟨b, i * 5 + 4, none⟩) hlt hn).trans h.c4, h.nil⟩

/-- item i of a row of one's own: its cells, its attributes -/
def OwnAt (w : World) (lo hi b i : Nat) (x : It) (a : Option Addr) (n c : Nat) : Prop := Cells5 w b i x a n c ∧ OwnAts w lo hi a n c x.attrs
/-- a row of items of one's own, in blocks of lo to hi -/
structure OwnIts (w : World) (lo hi : Nat) (a : Option Addr) (n c : Nat) (l : List It) : Prop where
  len : l.length = n
  max : n ≤ 1048576
  it : ∀ i, i < n → (-9223372036854775808 ≤ (l.getD i dIt).depth ∧ (l.getD i dIt).depth ≤ 9223372036854775807) ∧ ((l.getD i dIt).text.size ≤ 9223372036854775807 ∧ (l.getD i dIt).space.size ≤ 9223372036854775807 ∧ (l.getD i dIt).name.size ≤ 9223372036854775807)
  row : n = 0 ∨ ∃ (b : Nat) (A : Nat → Option Addr) (N C : Nat → Nat), a = some ⟨b, 0, none⟩ ∧ lo ≤ b ∧ b < hi ∧ Room w b (n * 5) ∧ (∀ i, i < n → OwnAt w lo hi b i (l.getD i dIt) (A i) (N i) (C i)) ∧
    (∀ i, i < n → ∀ x, A i = some x → N i ≠ 0 → x.block ≠ b) ∧ (∀ i j, i < n → j < n → i ≠ j → ∀ x y, A i = some x → A j = some y → N i ≠ 0 → N j ≠ 0 → x.block ≠ y.block)
theorem OwnIts.its {w : World} {lo hi : Nat} {a : Option Addr} {n c : Nat} {l : List It} (h : OwnIts w lo hi a n c l) : ItsAt w a n c l := by
  refine ⟨h.len, by have := h.max; omega, ?_⟩
  rcases h.row with e | ⟨b, A, N, C, ha, h1, h2, hr, hc, _, _⟩
  · exact .inl e
  · refine .inr ⟨b, 0, ha, fun i hi => ?_⟩
    have hi5 := hc i hi
    rw [Nat.zero_add]
    exact ⟨hr.1, (h.it i hi).1, (h.it i hi).2, hi5.1.c0, hi5.1.c1, hi5.1.c2, hi5.1.c3, _, _, _, hi5.1.c4, hi5.2.ats⟩

theorem OwnIts.below {w w' : World} {lo hi : Nat} {a : Option Addr} {n c : Nat} {l : List It} (h : OwnIts w lo hi a n c l) (hb : Below w.heap.size w w') : OwnIts w' lo hi a n c l := by
  refine ⟨h.len, h.max, h.it, h.row.imp id ?_⟩
  rintro ⟨b, A, N, C, ha, h1, h2, hr, hc, hab, haa⟩
  exact ⟨b, A, N, C, ha, h1, h2, hr.below hb, fun i hi => ⟨(hc i hi).1.below hr.1 hb, (hc i hi).2.only (Only.below (P := fun _ => False) hb) fun _ _ _ h => h⟩, hab, haa⟩
/-- what is written in other blocks leaves the row as it is -/
theorem OwnIts.only {P : Nat → Prop} {w w' : World} {lo hi : Nat} {a : Option Addr} {n c : Nat} {l : List It} (h : OwnIts w lo hi a n c l) (ho : Only P w w') (hP : ∀ i, lo ≤ i → i < hi → ¬ P i) : OwnIts w' lo hi a n c l := by
  refine ⟨h.len, h.max, h.it, h.row.imp id ?_⟩
  rintro ⟨b, A, N, C, ha, h1, h2, hr, hc, hab, haa⟩
  refine ⟨b, A, N, C, ha, h1, h2, hr.only ho (hP b h1 h2), fun i hi => ⟨(hc i hi).1.only hr.1 ho (hP b h1 h2), (hc i hi).2.only ho fun x hx hne => ?_⟩, hab, haa⟩
  obtain ⟨b5, e5, g1, g2, _⟩ := (hc i hi).2.own.resolve_left hne
  rw [hx] at e5
  cases e5
  exact hP b5 g1 g2
theorem OwnIts.mono {w : World} {lo hi lo' hi' : Nat} {a : Option Addr} {n c : Nat} {l : List It} (h : OwnIts w lo hi a n c l) (h1 : lo' ≤ lo) (h2 : hi ≤ hi') : OwnIts w lo' hi' a n c l := by
  refine ⟨h.len, h.max, h.it, h.row.imp id ?_⟩
  rintro ⟨b, A, N, C, ha, g1, g2, hr, hc, hab, haa⟩
  refine ⟨b, A, N, C, ha, by omega, by omega, hr, fun i hi => ⟨(hc i hi).1, (hc i hi).2.ats, (hc i hi).2.own.imp id ?_⟩, hab, haa⟩
  rintro ⟨b5, e5, k1, k2, k3⟩
  exact ⟨b5, e5, by omega, by omega, k3⟩

end Go.Proofs.YticpebpicdboaaaGreatDoor
