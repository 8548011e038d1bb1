/- What is written in some blocks alone. -/
import Derived.Test.YticpebpicdboaaaGreatDoorGQ1
import Derived.Test.YticpebpicdboaaaGreatDoorGQ4
namespace Go.Proofs.YticpebpicdboaaaGreatDoor
open Go.ChangeShapes Go.WideShapes Go.ChangeAt Go.RowKit
set_option linter.unusedVariables false

/-- blocks for which P does not hold are as they were; new ones may have been made -/
structure Only (P : Nat → Prop) (w w' : World) : Prop where
  os : w'.os = w.os
  tape : w'.tape = w.tape
  output : w'.output = w.output
  size : w.heap.size ≤ w'.heap.size
  block : ∀ i, i < w.heap.size → ¬ P i → w'.heap[i]? = w.heap[i]?
theorem Only.refl {P : Nat → Prop} (w : World) : Only P w w := ⟨rfl, rfl, rfl, Nat.le_refl _, fun _ _ _ => rfl⟩
theorem Only.trans {P : Nat → Prop} {a b c : World} (h : Only P a b) (k : Only P b c) : Only P a c :=
  ⟨k.os.trans h.os, k.tape.trans h.tape, k.output.trans h.output, Nat.le_trans h.size k.size, fun i hi hp => (k.block i (Nat.lt_of_lt_of_le hi h.size) hp).trans (h.block i hi hp)⟩
theorem Only.mono {P Q : Nat → Prop} {a b : World} (h : Only P a b) (hpq : ∀ i, P i → Q i) : Only Q a b :=
  ⟨h.os, h.tape, h.output, h.size, fun i hi hq => h.block i hi fun hp => hq (hpq i hp)⟩
theorem Only.below {P : Nat → Prop} {a b : World} (h : Below a.heap.size a b) : Only P a b := ⟨h.os, h.tape, h.output, h.size, fun i hi _ => h.block i hi⟩
theorem Only.set {P : Nat → Prop} (w : World) (p : Addr) (v : Value) (h : P p.block) : Only P w (w.setCell p v) :=
  ⟨rfl, rfl, rfl, by simp, fun i hi hp => Below.heap_setCell w p v i fun e => hp (e ▸ h)⟩
theorem Only.cell {P : Nat → Prop} {a b : World} (h : Only P a b) {p : Addr} (hp : p.block < a.heap.size) (hn : ¬ P p.block) : b.cell? p = a.cell? p := by
  unfold World.cell?
  rw [h.block _ hp hn]
theorem Only.frozen {P : Nat → Prop} {a b : World} (h : Only P a b) {p : Addr} (hp : p.block < a.heap.size) (hn : ¬ P p.block) : b.frozen? p = a.frozen? p := by
  unfold World.frozen?
  rw [h.block _ hp hn]
/-- below a bound that all written blocks lie behind, nothing has changed -/
theorem Only.under {P : Nat → Prop} {B : Nat} {w0 a b : World} (h0 : Below B w0 a) (hB : B ≤ w0.heap.size) (h : Only P a b) (hP : ∀ i, P i → B ≤ i) : Below B w0 b :=
  ⟨h.os.trans h0.os, h.tape.trans h0.tape, h.output.trans h0.output, Nat.le_trans h0.size h.size, fun i hi => (h.block i (Nat.lt_of_lt_of_le hi (Nat.le_trans hB h0.size)) fun hp => by have := hP i hp; omega).trans (h0.block i hi)⟩
theorem Room.only {P : Nat → Prop} {w w' : World} {b m : Nat} (h : Room w b m) (ho : Only P w w') (hn : ¬ P b) : Room w' b m :=
  ⟨Nat.lt_of_lt_of_le h.1 ho.size, fun i hi => ⟨(h.2 i hi).1.imp fun v hv => (ho.cell (p := ⟨b, i, none⟩) h.1 hn).trans hv, (ho.frozen (p := ⟨b, i, none⟩) h.1 hn).trans (h.2 i hi).2⟩⟩
end Go.Proofs.YticpebpicdboaaaGreatDoor

/- What is written in some blocks alone; attributes of one's own. -/
namespace Go.Proofs.YticpebpicdboaaaGreatDoor
open Go.ChangeShapes Go.WideShapes Go.ChangeAt Go.RowKit
set_option linter.unusedVariables false

theorem AtsAt.only {P : Nat → Prop} {w w' : World} {a : Option Addr} {n c : Nat} {l : List At} (h : AtsAt w a n c l) (ho : Only P w w') (hn : ∀ x, a = some x → n ≠ 0 → ¬ P x.block) : AtsAt w' a n c l := by
  refine ⟨h.len, h.max, h.size, ?_⟩
  rcases h.row with e | ⟨b, o, ha, hr, hc⟩
  · exact .inl e
  · by_cases h0 : n = 0
    · exact .inl h0
    · have hb := hn _ ha h0
      exact .inr ⟨b, o, ha, Nat.lt_of_lt_of_le hr ho.size, fun i hi => ⟨(ho.cell (p := ⟨b, o + i * 2, none⟩) hr hb).trans (hc i hi).1, (ho.cell (p := ⟨b, o + i * 2 + 1, none⟩) hr hb).trans (hc i hi).2⟩⟩
/-- a row of attributes of its own, in a block of lo to hi -/
structure OwnAts (w : World) (lo hi : Nat) (a : Option Addr) (n c : Nat) (l : List At) : Prop where
  ats : AtsAt w a n c l
  own : n = 0 ∨ ∃ b, a = some ⟨b, 0, none⟩ ∧ lo ≤ b ∧ b < hi ∧ Room w b (n * 2)
theorem OwnAts.only {P : Nat → Prop} {w w' : World} {lo hi : Nat} {a : Option Addr} {n c : Nat} {l : List At} (h : OwnAts w lo hi a n c l) (ho : Only P w w') (hn : ∀ x, a = some x → n ≠ 0 → ¬ P x.block) : OwnAts w' lo hi a n c l := by
  refine ⟨h.ats.only ho hn, ?_⟩
  rcases h.own with e | ⟨b, ha, h1, h2, hr⟩
  · exact .inl e
  · by_cases h0 : n = 0
    · exact .inl h0
    · exact .inr ⟨b, ha, h1, h2, hr.only ho (hn _ ha h0)⟩
/-- the block of a slice that holds anything -/
def BlockOf (a : Option Addr) (n : Nat) (i : Nat) : Prop := ∃ x, a = some x ∧ x.block = i ∧ n ≠ 0

end Go.Proofs.YticpebpicdboaaaGreatDoor

/- markText. -/
namespace Go.Proofs.YticpebpicdboaaaGreatDoor
open Go.ChangeShapes Go.WideShapes Go.ChangeAt Go.RowKit
set_option linter.unusedVariables false

/-- k's digits ahead of out -/
def digM (k : Nat) (out : ByteArray) : ByteArray := if h : k = 0 then out else digM (k / 10) (strOfNums [48 + (k : Int) % 10] ++ out)
termination_by k
decreasing_by omega
theorem digM_zero (out : ByteArray) : digM 0 out = out := by rw [digM]; rfl
theorem digM_pos {k : Nat} (h : 0 < k) (out : ByteArray) : digM k out = digM (k / 10) (strOfNums [48 + (k : Int) % 10] ++ out) := by rw [digM, dif_neg (by omega)]
/-- the text of a mark -/
def markT (k : Nat) : ByteArray := { data := #[109] } ++ digM k ByteArray.empty

set_option maxRecDepth 100000 in
set_option maxHeartbeats 1600000 in
theorem markText_any (k : Nat) (h0 : 0 < k) (h1 : k ≤ 1000000000000000000) (w : World) :
    Calls Tryz.prog 132 #[.int .i64 k] w fun e w' => e = .returned (.string (markT k)) ∧ Below w.heap.size w w' := by
  obtain ⟨D, hD⟩ : ∃ D, digM k ByteArray.empty = D := ⟨_, rfl⟩
  unfold markT
  rw [hD]
  have HD := Lib.hid hD
  clear hD
  have k1 : (0 : Int) < (k : Int) := by omega
  go_enter Tryz.func132, Tryz.ntmps132
  go_wp2
  go_loopw [0, 3] (fun v s wr => ∃ (j : Nat) (out : ByteArray), out.size + j ≤ k ∧ v = .int .i64 j ∧ s = .string out ∧ digM j out = D ∧ Below w.heap.size w wr) (fun v _ _ => (intOf v).toNat)
  case atStart => exact ⟨k, ByteArray.empty, by simp, rfl, rfl, HD.out, Below.refl _ _⟩
  case round =>
    obtain ⟨j, out, hj, rfl, rfl, hd, hb⟩ := hrel
    by_cases hj0 : 0 < j
    · have HD2 := Lib.hid ((digM_pos hj0 out).symm.trans hd)
      have HB := Lib.hid hb
      have r0 : (0 : Int) ≤ (j : Int) % 10 := by omega
      have r1 : (j : Int) % 10 < 10 := by omega
      have r2 : (0 : Int) ≤ (j : Int) / 10 := by omega
      have r3 : (j : Int) / 10 ≤ (j : Int) := by omega
      have hcv := fun (c : Int) => conv_row (P := Tryz.prog) (wr.alloc (.cells #[.int .u8 c] 5)) Tryz.underlying22 Tryz.underlying5 Tryz.underlying9 (a := some ⟨wr.heap.size, 0, none⟩) (n := 1) (c := 1) (xs := [c])
        (.inr ⟨wr.heap.size, 0, 1, rfl, by simp, by unfold maxLen; omega, by simp, fun i hi => match i, hi with | 0, _ => by simp⟩)
      have hsz : (strOfNums [48 + (j : Int) % 10]).size ≤ 1 := by rw [strOfNums_size]; simp
      clear hd hb
      go_wp2
      go_roundw
      case rel => exact ⟨j / 10, _, by rw [ByteArray.size_append]; omega, by go_num, rfl, HD2.out, HB.out.trans (((Below.refl _ _).alloc (Nat.le_refl _) _).mono HB.out.size)⟩
      case measure => simp [intOf]; omega
    · obtain rfl : j = 0 := by omega
      rw [digM_zero] at hd
      subst hd
      go_wp2
      go_ret
      exact ⟨rfl, hb⟩
theorem markText_succ (k : Nat) (h1 : k + 1 ≤ 1000000000000000000) (w : World) :
    Calls Tryz.prog 132 #[.int .i64 ((k : Int) + 1)] w fun e w' => e = .returned (.string (markT (k + 1))) ∧ Below w.heap.size w w' := by
  have h := markText_any (k + 1) (by omega) h1 w
  rwa [Int.natCast_add, Int.natCast_one] at h
theorem markText_at (k i : Nat) (h0 : 0 < k + i) (h1 : k + i ≤ 1000000000000000000) (w : World) :
    Calls Tryz.prog 132 #[.int .i64 ((k : Int) + (i : Int))] w fun e w' => e = .returned (.string (markT (k + i))) ∧ Below w.heap.size w w' := by
  have h := markText_any (k + i) h0 h1 w
  rwa [Int.natCast_add] at h
end Go.Proofs.YticpebpicdboaaaGreatDoor

/- Rows of attributes and of items of one's own; what becomes of memory if only some blocks are written. -/
namespace Go.Proofs.YticpebpicdboaaaGreatDoor
open Go.ChangeShapes Go.WideShapes Go.ChangeAt Go.RowKit
set_option linter.unusedVariables false

def markAts (k n : Nat) : List At := (List.range n).map fun i => ⟨markT (k + 2 * i), markT (k + 2 * i + 1)⟩
theorem markAts_length (k n : Nat) : (markAts k n).length = n := by simp [markAts]
theorem markAts_get (k n i : Nat) (h : i < n) : (markAts k n).getD i dAt = ⟨markT (k + 2 * i), markT (k + 2 * i + 1)⟩ := by simp [markAts, List.getD_eq_getElem?_getD, h]
theorem digM_size (k : Nat) : ∀ out : ByteArray, (digM k out).size ≤ out.size + k := by
  induction k using Nat.strongRecOn with
  | ind k ih =>
    intro out
    by_cases h : k = 0
    · subst h; rw [digM_zero]; omega
    · rw [digM_pos (by omega)]
      have := ih (k / 10) (by omega) (strOfNums [48 + (k : Int) % 10] ++ out)
      rw [ByteArray.size_append, strOfNums_size] at this
      simp only [List.length_cons, List.length_nil] at this
      omega
theorem markT_size (k : Nat) (h : k ≤ 1000000000000000000) : (markT k).size ≤ 9223372036854775807 := by
  unfold markT
  have := digM_size k ByteArray.empty
  rw [ByteArray.size_append]
  have h1 : ({ data := #[109] } : ByteArray).size = 1 := rfl
  have h2 : ByteArray.empty.size = 0 := rfl
  omega

/-- the marks are written, and only there -/
def MarkAts (w : World) (lo hi : Nat) (a : Option Addr) (n c k : Nat) (e : Ending) (w' : World) : Prop :=
  e = .returned (.int .i64 ((k + 2 * n : Nat) : Int)) ∧ OwnAts w' lo hi a n c (markAts k n) ∧ Only (BlockOf a n) w w'

set_option maxRecDepth 100000 in
set_option maxHeartbeats 1600000 in
theorem markAttrS_any (lo hi : Nat) (a : Option Addr) (n c k : Nat) (l : List At) (w : World) (h0 : 0 < k) (hn : n ≤ 1048576) (h1 : k ≤ 100000000000000000) (h : OwnAts w lo hi a n c l) :
    Calls Tryz.prog 133 #[.slice a n c, .int .i64 k] w (MarkAts w lo hi a n c k) := by
  by_cases hz : n = 0
  · subst hz
    clear h
    go_enter Tryz.func133, Tryz.ntmps133
    go_wp2
    go_loop [1, 5] (fun v i => i = .int .i64 0 ∧ v = .int .i64 k) (fun _ _ => 0)
    case atStart => exact ⟨rfl, rfl⟩
    case round =>
      obtain ⟨rfl, rfl⟩ := hrel
      go_wp2
      go_ret
      exact ⟨by simp, ⟨⟨by simp [markAts], by omega, fun i => by simp [markAts, dAt], .inl rfl⟩, .inl rfl⟩, Only.refl _⟩
  · obtain ⟨b, rfl, hlo, hhi, hroom⟩ := h.own.resolve_left hz
    have HRoom := Lib.hid hroom
    clear h hroom
    go_enter Tryz.func133, Tryz.ntmps133
    go_wp2
    go_loopw [1, 5] (fun v i wr => ∃ j : Nat, j ≤ n ∧ i = .int .i64 j ∧ v = .int .i64 ((k + 2 * j : Nat) : Int) ∧ Room wr b (n * 2) ∧ (∀ i, i < j → wr.cell? ⟨b, i * 2, none⟩ = some (.string (markT (k + 2 * i))) ∧ wr.cell? ⟨b, i * 2 + 1, none⟩ = some (.string (markT (k + 2 * i + 1)))) ∧ Only (fun i => i = b) w wr) (fun _ i _ => n - (intOf i).toNat)
    case atStart => exact ⟨0, Nat.zero_le _, rfl, rfl, HRoom.out, fun i hi => by omega, Only.refl _⟩
    case round =>
      obtain ⟨j, hj, rfl, rfl, hroom, hdone, ho⟩ := hrel
      have HROOM := Lib.hid hroom
      have HDONE := Lib.hid hdone
      have HO := Lib.hid ho
      clear hroom hdone ho
      by_cases hlt : j < n
      · have K1 := Lib.hid (markText_any (k + 2 * j) (by omega) (by omega))
        have K2 := Lib.hid (markText_succ (k + 2 * j) (by omega))
        obtain ⟨kk, hkk⟩ : ∃ kk, k + 2 * j = kk := ⟨_, rfl⟩
        rw [hkk] at K1 K2
        have q0 : kk ≤ 1000000000000000000 := by omega
        have HKK := Lib.hid hkk
        rw [hkk]
        clear hkk
        go_wp2_with fail
        refine (K1.out _).mono ?_
        rintro e w1 ⟨rfl, hb1⟩
        have hr1 := HROOM.out.below hb1
        obtain ⟨⟨v0, p0⟩, f0⟩ := hr1.2 (j * 2) (by omega)
        obtain ⟨⟨v1, p1⟩, f1⟩ := hr1.2 (j * 2 + 1) (by omega)
        have HR1 := Lib.hid hr1
        have HB1 := Lib.hid hb1
        clear hr1 hb1
        go_wp2_with fail
        refine (K2.out _).mono ?_
        rintro e w2 ⟨rfl, hb2⟩
        have hr2 := (HR1.out.set ⟨b, j * 2, none⟩ (.string (markT kk))).below hb2
        obtain ⟨⟨v2, p2⟩, f2⟩ := hr2.2 (j * 2 + 1) (by omega)
        have HR2 := Lib.hid hr2
        have HB2 := Lib.hid hb2
        clear hr2 hb2 p0 p1 f0 f1
        go_wp2
        go_roundw
        case rel =>
          have hw1 : Only (fun i => i = b) wr w1 := Only.below HB1.out
          have hw2 : Only (fun i => i = b) w1 w2 := (Only.set (P := fun i => i = b) w1 ⟨b, j * 2, none⟩ _ rfl).trans (Only.below HB2.out)
          have hB : b < (w1.setCell ⟨b, j * 2, none⟩ (.string (markT kk))).heap.size := (HR1.out.set _ _).1
          refine ⟨j + 1, by omega, by go_num, by rw [← HKK.out]; first | rfl | (congr 1; omega), HR2.out.set _ _, fun i hi => ?_, (HO.out.trans (hw1.trans hw2)).trans (Only.set (P := fun i => i = b) w2 ⟨b, j * 2 + 1, none⟩ _ rfl)⟩
          rcases Nat.lt_or_ge i j with h | h
          · rw [set_off (by omega), set_off (by omega), HB2.out.cell (p := ⟨b, i * 2, none⟩) hB, HB2.out.cell (p := ⟨b, i * 2 + 1, none⟩) hB, set_off (by omega), set_off (by omega), HB1.out.cell (p := ⟨b, i * 2, none⟩) HROOM.out.1, HB1.out.cell (p := ⟨b, i * 2 + 1, none⟩) HROOM.out.1]
            exact HDONE.out i h
          · obtain rfl : i = j := by omega
            rw [set_off (by omega), HB2.out.cell (p := ⟨b, i * 2, none⟩) hB, HR1.out.put (by omega), HR2.out.put (by omega), ← HKK.out]
            exact ⟨rfl, rfl⟩
        case measure => simp [intOf]; omega
      · obtain rfl : j = n := by omega
        go_wp2
        go_ret
        refine ⟨rfl, ⟨⟨markAts_length _ _, by omega, fun i => ?_, .inr ⟨b, 0, rfl, HROOM.out.1, fun i hi => by rw [markAts_get _ _ _ hi, Nat.zero_add]; exact HDONE.out i hi⟩⟩, .inr ⟨b, rfl, hlo, hhi, HROOM.out⟩⟩, ?_⟩
        · by_cases hi : i < j
          · rw [markAts_get _ _ _ hi]
            exact ⟨markT_size _ (by omega), markT_size _ (by omega)⟩
          · rw [List.getD_eq_getElem?_getD, List.getElem?_eq_none (by rw [markAts_length]; omega)]
            simp [dAt]
        · exact HO.out.mono fun i hi => ⟨_, rfl, hi.symm, hz⟩
end Go.Proofs.YticpebpicdboaaaGreatDoor
