/- Rows of attributes and of items of one's own; what becomes of memory if only some blocks are written. -/
import Derived.Test.YtppgdbejbhhjlaaDoorGP23
import Derived.Test.YtppgdbejbhhjlaaDoorGP13
namespace Go.Proofs.YtppgdbejbhhjlaaDoor
open Go.ChangeShapes Go.WideShapes Go.ChangeAt Go.RowKit
set_option linter.unusedVariables false

def markAts (k n : Nat) : List At := (List.range n).map fun i => ⟨markT (k + 2 * i), markT (k + 2 * i + 1)⟩
theorem markAts_length (k n : Nat) : (markAts k n).length = n := by simp [markAts]
theorem markAts_get (k n i : Nat) (h : i < n) : (markAts k n).getD i dAt = ⟨markT (k + 2 * i), markT (k + 2 * i + 1)⟩ := by simp [markAts, List.getD_eq_getElem?_getD, h]
theorem digM_size (k : Nat) : ∀ out : ByteArray, (digM k out).size ≤ out.size + k := by
  induction k using Nat.strongRecOn with
  | ind k ih =>
    intro out
    by_cases h : k = 0
    · subst h; rw [digM_zero]; omega
    · rw [digM_pos (by omega)]
      have := ih (k / 10) (by omega) (strOfNums [48 + (k : Int) % 10] ++ out)
      rw [ByteArray.size_append, strOfNums_size] at this
      simp only [List.length_cons, List.length_nil] at this
      omega
theorem markT_size (k : Nat) (h : k ≤ 1000000000000000000) : (markT k).size ≤ 9223372036854775807 := by
  unfold markT
  have := digM_size k ByteArray.empty
  rw [ByteArray.size_append]
  have h1 : ({ data := #[109] } : ByteArray).size = 1 := rfl
  have h2 : ByteArray.empty.size = 0 := rfl
  omega

/-- the marks are written, and only there -/
def MarkAts (w : World) (lo hi : Nat) (a : Option Addr) (n c k : Nat) (e : Ending) (w' : World) : Prop :=
  e = .returned (.int .i64 ((k + 2 * n : Nat) : Int)) ∧ OwnAts w' lo hi a n c (markAts k n) ∧ Only (BlockOf a n) w w'

set_option maxRecDepth 100000 in
set_option maxHeartbeats 1600000 in
theorem markAttrS_any (lo hi : Nat) (a : Option Addr) (n c k : Nat) (l : List At) (w : World) (h0 : 0 < k) (hn : n ≤ 1048576) (h1 : k ≤ 100000000000000000) (h : OwnAts w lo hi a n c l) :
    Calls Tryd.prog 54 #[.slice a n c, .int .i64 k] w (MarkAts w lo hi a n c k) := by
  by_cases hz : n = 0
  · subst hz
    clear h
    go_enter Tryd.func54, Tryd.ntmps54
    go_wp2
    go_loop [1, 5] (fun v i => i = .int .i64 0 ∧ v = .int .i64 k) (fun _ _ => 0)
    case atStart => exact ⟨rfl, rfl⟩
    case round =>
      obtain ⟨rfl, rfl⟩ := hrel
      go_wp2
      go_ret
      exact ⟨by simp, ⟨⟨by simp [markAts], by omega, fun i => by simp [markAts, dAt], .inl rfl⟩, .inl rfl⟩, Only.refl _⟩
  · obtain ⟨b, rfl, hlo, hhi, hroom⟩ := h.own.resolve_left hz
    have HRoom := Lib.hid hroom
    clear h hroom
    go_enter Tryd.func54, Tryd.ntmps54
    go_wp2
    go_loopw [1, 5] (fun v i wr => ∃ j : Nat, j ≤ n ∧ i = .int .i64 j ∧ v = .int .i64 ((k + 2 * j : Nat) : Int) ∧ Room wr b (n * 2) ∧ (∀ i, i < j → wr.cell? ⟨b, i * 2, none⟩ = some (.string (markT (k + 2 * i))) ∧ wr.cell? ⟨b, i * 2 + 1, none⟩ = some (.string (markT (k + 2 * i + 1)))) ∧ Only (fun i => i = b) w wr) (fun _ i _ => n - (intOf i).toNat)
    case atStart => exact ⟨0, Nat.zero_le _, rfl, rfl, HRoom.out, fun i hi => by omega, Only.refl _⟩
    case round =>
      obtain ⟨j, hj, rfl, rfl, hroom, hdone, ho⟩ := hrel
      have HROOM := Lib.hid hroom
      have HDONE := Lib.hid hdone
      have HO := Lib.hid ho
      clear hroom hdone ho
      by_cases hlt : j < n
      · have K1 := Lib.hid (markText_any (k + 2 * j) (by omega) (by omega))
        have K2 := Lib.hid (markText_succ (k + 2 * j) (by omega))
        obtain ⟨kk, hkk⟩ : ∃ kk, k + 2 * j = kk := ⟨_, rfl⟩
        rw [hkk] at K1 K2
        have q0 : kk ≤ 1000000000000000000 := by omega
        have HKK := Lib.hid hkk
        rw [hkk]
        clear hkk
        go_wp2_with fail
        refine (K1.out _).mono ?_
        rintro e w1 ⟨rfl, hb1⟩
        have hr1 := HROOM.out.below hb1
        obtain ⟨⟨v0, p0⟩, f0⟩ := hr1.2 (j * 2) (by omega)
        obtain ⟨⟨v1, p1⟩, f1⟩ := hr1.2 (j * 2 + 1) (by omega)
        have HR1 := Lib.hid hr1
        have HB1 := Lib.hid hb1
        clear hr1 hb1
        go_wp2_with fail
        refine (K2.out _).mono ?_
        rintro e w2 ⟨rfl, hb2⟩
        have hr2 := (HR1.out.set ⟨b, j * 2, none⟩ (.string (markT kk))).below hb2
        obtain ⟨⟨v2, p2⟩, f2⟩ := hr2.2 (j * 2 + 1) (by omega)
        have HR2 := Lib.hid hr2
        have HB2 := Lib.hid hb2
        clear hr2 hb2 p0 p1 f0 f1
        go_wp2
        go_roundw
        case rel =>
          have hw1 : Only (fun i => i = b) wr w1 := Only.below HB1.out
          have hw2 : Only (fun i => i = b) w1 w2 := (Only.set (P := fun i => i = b) w1 ⟨b, j * 2, none⟩ _ rfl).trans (Only.below HB2.out)
          have hB : b < (w1.setCell ⟨b, j * 2, none⟩ (.string (markT kk))).heap.size := (HR1.out.set _ _).1
          refine ⟨j + 1, by omega, by go_num, by rw [← HKK.out]; first | rfl | (congr 1; omega), HR2.out.set _ _, fun i hi => ?_, (HO.out.trans (hw1.trans hw2)).trans (Only.set (P := fun i => i = b) w2 ⟨b, j * 2 + 1, none⟩ _ rfl)⟩
          rcases Nat.lt_or_ge i j with h | h
          · rw [set_off (by omega), set_off (by omega), HB2.out.cell (p := ⟨b, i * 2, none⟩) hB, HB2.out.cell (p := ⟨b, i * 2 + 1, none⟩) hB, set_off (by omega), set_off (by omega), HB1.out.cell (p := ⟨b, i * 2, none⟩) HROOM.out.1, HB1.out.cell (p := ⟨b, i * 2 + 1, none⟩) HROOM.out.1]
            exact HDONE.out i h
          · obtain rfl : i = j := by omega
            rw [set_off (by omega), HB2.out.cell (p := ⟨b, i * 2, none⟩) hB, HR1.out.put (by omega), HR2.out.put (by omega), ← HKK.out]
            exact ⟨rfl, rfl⟩
        case measure => simp [intOf]; omega
      · obtain rfl : j = n := by omega
        go_wp2
        go_ret
        refine ⟨rfl, ⟨⟨markAts_length _ _, by omega, fun i => ?_, .inr ⟨b, 0, rfl, HROOM.out.1, fun i hi => by rw [markAts_get _ _ _ hi, Nat.zero_add]; exact HDONE.out i hi⟩⟩, .inr ⟨b, rfl, hlo, hhi, HROOM.out⟩⟩, ?_⟩
        · by_cases hi : i < j
          · rw [markAts_get _ _ _ hi]
            exact ⟨markT_size _ (by omega), markT_size _ (by omega)⟩
          · rw [List.getD_eq_getElem?_getD, List.getElem?_eq_none (by rw [markAts_length]; omega)]
            simp [dAt]
        · exact HO.out.mono fun i hi => ⟨_, rfl, hi.symm, hz⟩
end Go.Proofs.YtppgdbejbhhjlaaDoor

/- markItemS. -/
namespace Go.Proofs.YtppgdbejbhhjlaaDoor
open Go.ChangeShapes Go.WideShapes Go.ChangeAt Go.RowKit
set_option linter.unusedVariables false

def kAt (k : Nat) (l : List It) : Nat → Nat
  | 0 => k
  | i + 1 => kAt k l i + 4 + 2 * (l.getD i dIt).attrs.length
theorem kAt_le (k : Nat) (l : List It) {i j : Nat} (h : i ≤ j) : kAt k l i ≤ kAt k l j := by
  induction j with
  | zero => obtain rfl : i = 0 := by omega
            exact Nat.le_refl _
  | succ j ih =>
    rcases Nat.lt_or_ge i (j + 1) with h1 | h1
    · have := ih (by omega)
      show _ ≤ kAt k l j + 4 + _
      omega
    · obtain rfl : i = j + 1 := by omega
      exact Nat.le_refl _
def markIt (k : Nat) (x : It) : It := ⟨(k : Int), markT (k + 1), markT (k + 2), markT (k + 3), markAts (k + 4) x.attrs.length⟩
def markIts (k : Nat) (l : List It) : List It := (List.range l.length).map fun i => markIt (kAt k l i) (l.getD i dIt)
theorem markIts_length (k : Nat) (l : List It) : (markIts k l).length = l.length := by simp [markIts]
theorem markIts_get (k : Nat) (l : List It) (i : Nat) (h : i < l.length) : (markIts k l).getD i dIt = markIt (kAt k l i) (l.getD i dIt) := by
  unfold markIts
  rw [List.getD_eq_getElem?_getD, List.getElem?_map, List.getElem?_range h]; rfl

/-- the marks are written, and only there -/
def MarkIts (w : World) (lo hi : Nat) (a : Option Addr) (n c k : Nat) (l : List It) (e : Ending) (w' : World) : Prop :=
  e = .returned (.int .i64 ((kAt k l n : Nat) : Int)) ∧ OwnIts w' lo hi a n c (markIts k l) ∧ Only (fun i => lo ≤ i ∧ i < hi) w w'

set_option maxRecDepth 100000 in
set_option maxHeartbeats 3200000 in
theorem markItemS_any (lo hi : Nat) (a : Option Addr) (n c k : Nat) (l : List It) (w : World) (h0 : 0 < k) (hK : kAt k l n ≤ 10000000000000000) (hA : ∀ i, i < n → (l.getD i dIt).attrs.length ≤ 1048576) (h : OwnIts w lo hi a n c l) :
    Calls Tryd.prog 38 #[.slice a n c, .int .i64 k] w (MarkIts w lo hi a n c k l) := by
  have hm := h.max
  have HL := Lib.hid h.len
  by_cases hz : n = 0
  · subst hz
    have HE : l = [] := List.length_eq_zero_iff.1 h.len
    subst HE
    clear h hK hA
    go_enter Tryd.func38, Tryd.ntmps38
    go_wp2
    go_loop [1, 5] (fun v i => i = .int .i64 0 ∧ v = .int .i64 k) (fun _ _ => 0)
    case atStart => exact ⟨rfl, rfl⟩
    case round =>
      obtain ⟨rfl, rfl⟩ := hrel
      go_wp2
      go_ret
      exact ⟨rfl, ⟨rfl, by omega, fun i hi => by omega, .inl rfl⟩, Only.refl _⟩
  · obtain ⟨b, A, N, C, rfl, hlo, hhi, hroom, hcs, hab, haa⟩ := h.row.resolve_left hz
    have HRoom := Lib.hid hroom
    have HCS := Lib.hid hcs
    have HAB := Lib.hid hab
    have HAA := Lib.hid haa
    have HK := Lib.hid hK
    have HA := Lib.hid hA
    clear h hroom hcs hab haa hK hA
    go_enter Tryd.func38, Tryd.ntmps38
    go_wp2
    go_loopw [1, 5] (fun v i wr => ∃ j : Nat, j ≤ n ∧ i = .int .i64 j ∧ v = .int .i64 ((kAt k l j : Nat) : Int) ∧ Room wr b (n * 5) ∧ (∀ i, i < j → OwnAt wr lo hi b i (markIt (kAt k l i) (l.getD i dIt)) (A i) (N i) (C i)) ∧ (∀ i, j ≤ i → i < n → OwnAt wr lo hi b i (l.getD i dIt) (A i) (N i) (C i)) ∧ Only (fun i => lo ≤ i ∧ i < hi) w wr) (fun _ i _ => n - (intOf i).toNat)
    case atStart => exact ⟨0, Nat.zero_le _, rfl, rfl, HRoom.out, fun i hi => by omega, fun i _ hi => HCS.out i hi, Only.refl _⟩
    case round =>
      obtain ⟨j, hj, rfl, rfl, hroom, hdone, hleft, ho⟩ := hrel
      have HROOM := Lib.hid hroom
      have HDONE := Lib.hid hdone
      have HLEFT := Lib.hid hleft
      have HO := Lib.hid ho
      clear hroom hdone hleft ho
      by_cases hlt : j < n
      · have HKJ : Hid (kAt k l (j + 1) = kAt k l j + 4 + 2 * (l.getD j dIt).attrs.length) := Lib.hid rfl
        have hle1 := kAt_le k l (i := 0) (j := j) (by omega)
        have hle2 := kAt_le k l (i := j) (j := n) (by omega)
        have hkk0 : 0 < kAt k l j := by show 0 < _; have : kAt k l 0 = k := rfl; omega
        have hkk1 : kAt k l j ≤ 10000000000000000 := by have := HK.out; omega
        clear hle1 hle2
        have hlen : (l.getD j dIt).attrs.length = N j := (HLEFT.out j (Nat.le_refl _) hlt).2.ats.len
        have hNj : N j ≤ 1048576 := by have := HA.out j hlt; omega
        have HLEN := Lib.hid hlen
        clear hlen
        obtain ⟨kk, hkk⟩ : ∃ kk, kAt k l j = kk := ⟨_, rfl⟩
        rw [hkk] at hkk0 hkk1
        have HKK := Lib.hid hkk
        rw [hkk]
        clear hkk
        have K1 := Lib.hid (markText_at kk 1 (by omega) (by omega))
        have K2 := Lib.hid (markText_at kk 2 (by omega) (by omega))
        have K3 := Lib.hid (markText_at kk 3 (by omega) (by omega))
        have q4 : kk ≤ 10000000000000000 := hkk1
        obtain ⟨⟨v0, p0⟩, f0⟩ := HROOM.out.2 (j * 5) (by omega)
        go_wp2_with fail
        refine (K1.out _).mono ?_
        rintro e w1 ⟨rfl, hb1⟩
        have HR1 := Lib.hid ((HROOM.out.set ⟨b, j * 5, none⟩ (.int .i64 kk)).below hb1)
        have HB1 := Lib.hid hb1
        clear hb1 p0 f0
        obtain ⟨⟨v1, p1⟩, f1⟩ := HR1.out.2 (j * 5 + 1) (by omega)
        go_wp2_with fail
        refine (K2.out _).mono ?_
        rintro e w2 ⟨rfl, hb2⟩
        have HR2 := Lib.hid ((HR1.out.set ⟨b, j * 5 + 1, none⟩ (.string (markT (kk + 1)))).below hb2)
        have HB2 := Lib.hid hb2
        clear hb2 p1 f1
        obtain ⟨⟨v2, p2⟩, f2⟩ := HR2.out.2 (j * 5 + 2) (by omega)
        go_wp2_with fail
        refine (K3.out _).mono ?_
        rintro e w3 ⟨rfl, hb3⟩
        have HR3 := Lib.hid ((HR2.out.set ⟨b, j * 5 + 2, none⟩ (.string (markT (kk + 2)))).below hb3)
        have HB3 := Lib.hid hb3
        clear hb3 p2 f2
        obtain ⟨⟨v3, p3⟩, f3⟩ := HR3.out.2 (j * 5 + 3) (by omega)
        -- what has become of the rows by now
        have hb0 := HROOM.out.1
        have hs0 : b < (wr.setCell ⟨b, j * 5, none⟩ (.int .i64 kk)).heap.size := by simpa using hb0
        have hs1 : b < (w1.setCell ⟨b, j * 5 + 1, none⟩ (.string (markT (kk + 1)))).heap.size := by simpa using HR1.out.1
        have hs2 : b < (w2.setCell ⟨b, j * 5 + 2, none⟩ (.string (markT (kk + 2)))).heap.size := by simpa using HR2.out.1
        have HON : Hid (Only (fun i => i = b) wr w3) := Lib.hid
          (((Only.set (P := fun i => i = b) wr ⟨b, j * 5, none⟩ _ rfl).trans (Only.below HB1.out)).trans (((Only.set (P := fun i => i = b) w1 ⟨b, j * 5 + 1, none⟩ _ rfl).trans (Only.below HB2.out)).trans ((Only.set (P := fun i => i = b) w2 ⟨b, j * 5 + 2, none⟩ _ rfl).trans (Only.below HB3.out))))
        have HC5 : Hid (∀ i x a n c, i ≠ j → Cells5 wr b i x a n c → Cells5 w3 b i x a n c) := Lib.hid fun i x a n c hij hc =>
          ((((((hc.set (by omega)).below hs0 HB1.out).set (by omega)).below hs1 HB2.out).set (by omega)).below hs2 HB3.out)
        have d4 : w3.cell? ⟨b, j * 5 + 4, none⟩ = some (.slice (A j) (N j) (C j)) := by
          rw [HB3.out.cell (by exact hs2), set_off (by omega), HB2.out.cell (by exact hs1), set_off (by omega), HB1.out.cell (by exact hs0), set_off (by omega)]
          exact (HLEFT.out j (Nat.le_refl _) hlt).1.c4
        have HD4 := Lib.hid d4
        have HD0 : Hid (w3.cell? ⟨b, j * 5, none⟩ = some (.int .i64 kk)) := Lib.hid (by
          rw [HB3.out.cell (by exact hs2), set_off (by omega), HB2.out.cell (by exact hs1), set_off (by omega), HB1.out.cell (by exact hs0)]
          exact HROOM.out.put (by omega) _)
        have HD1 : Hid (w3.cell? ⟨b, j * 5 + 1, none⟩ = some (.string (markT (kk + 1)))) := Lib.hid (by
          rw [HB3.out.cell (by exact hs2), set_off (by omega), HB2.out.cell (by exact hs1)]
          exact HR1.out.put (by omega) _)
        have HD2 : Hid (w3.cell? ⟨b, j * 5 + 2, none⟩ = some (.string (markT (kk + 2)))) := Lib.hid (by
          rw [HB3.out.cell (by exact hs2)]
          exact HR2.out.put (by omega) _)
        have HOA : Hid (OwnAts (w3.setCell ⟨b, j * 5 + 3, none⟩ (.string (markT (kk + 3)))) lo hi (A j) (N j) (C j) (l.getD j dIt).attrs) := Lib.hid
          ((HLEFT.out j (Nat.le_refl _) hlt).2.only (HON.out.trans (Only.set (P := fun i => i = b) w3 ⟨b, j * 5 + 3, none⟩ _ rfl)) (fun x hx hne => HAB.out j hlt x hx hne))
        have K4 := Lib.hid (markAttrS_any lo hi (A j) (N j) (C j) (kk + 4) (l.getD j dIt).attrs _ (by omega) hNj (by omega) HOA.out)
        clear hs0 hs1 hs2 hb0
        go_wp2_with fail
        refine K4.out.mono ?_
        rintro e w4 ⟨rfl, hown4, ho4⟩
        have HOWN4 := Lib.hid hown4
        have HO4 := Lib.hid ho4
        have HNB : Hid (¬ BlockOf (A j) (N j) b) := Lib.hid fun ⟨x, hx, hb, hne⟩ => HAB.out j hlt x hx hne hb
        clear hown4 ho4 d4 p3 f3
        go_wp2
        go_roundw
        case rel =>
          have hr3 := HR3.out.set ⟨b, j * 5 + 3, none⟩ (.string (markT (kk + 3)))
          have keep : ∀ i x, i < n → i ≠ j → OwnAt wr lo hi b i x (A i) (N i) (C i) → OwnAt w4 lo hi b i x (A i) (N i) (C i) := fun i x hi hij hx =>
            ⟨((HC5.out i x _ _ _ hij hx.1).set (by omega)).only hr3.1 HO4.out HNB.out,
              (hx.2.only (HON.out.trans (Only.set (P := fun i => i = b) w3 ⟨b, j * 5 + 3, none⟩ _ rfl)) (fun y hy hne => HAB.out i hi y hy hne)).only HO4.out
                (fun y hy hne ⟨z, hz, hzb, hzn⟩ => HAA.out i j hi hlt hij y z hy hz hne hzn hzb.symm)⟩
          refine ⟨j + 1, by omega, by go_num, ?_, hr3.only HO4.out HNB.out, fun i hi => ?_, fun i h1 h2 => keep i _ h2 (by omega) (HLEFT.out i (by omega) h2), ?_⟩
          · rw [HKJ.out, HKK.out, HLEN.out]
            congr 1
          · rcases Nat.lt_or_ge i j with h | h
            · exact keep i _ (by omega) (by omega) (HDONE.out i h)
            · obtain rfl : i = j := by omega
              rw [HKK.out]
              refine ⟨⟨?_, ?_, ?_, ?_, ?_, (HLEFT.out i (Nat.le_refl _) hlt).1.nil⟩, ?_⟩
              · rw [HO4.out.cell (by exact hr3.1) HNB.out, set_off (by omega)]; exact HD0.out
              · rw [HO4.out.cell (by exact hr3.1) HNB.out, set_off (by omega)]; exact HD1.out
              · rw [HO4.out.cell (by exact hr3.1) HNB.out, set_off (by omega)]; exact HD2.out
              · rw [HO4.out.cell (by exact hr3.1) HNB.out]; exact HR3.out.put (by omega) _
              · rw [HO4.out.cell (by exact hr3.1) HNB.out, set_off (by omega)]; exact HD4.out
              · have := HOWN4.out
                unfold markIt
                rw [HLEN.out]
                exact this
          · have hbi : ∀ i, i = b → lo ≤ i ∧ i < hi := fun i e => by omega
            refine HO.out.trans ((HON.out.mono hbi).trans ((Only.set w3 ⟨b, j * 5 + 3, none⟩ _ ⟨hlo, hhi⟩).trans (HO4.out.mono fun i hi => ?_)))
            obtain ⟨x, hx, hxb, hne⟩ := hi
            obtain ⟨b2, hb2, h1, h2, _⟩ := (HLEFT.out j (Nat.le_refl _) hlt).2.own.resolve_left hne
            rw [hx] at hb2
            cases hb2
            exact ⟨by rw [← hxb]; exact h1, by rw [← hxb]; exact h2⟩
        case measure => simp [intOf]; omega
      · obtain rfl : j = n := by omega
        go_wp2
        go_ret
        refine ⟨rfl, ⟨by rw [markIts_length]; exact HL.out, hm, fun i hi => ?_, .inr ⟨b, A, N, C, rfl, hlo, hhi, HROOM.out, fun i hi => by rw [markIts_get k l i (by have := HL.out; omega)]; exact HDONE.out i hi, HAB.out, HAA.out⟩⟩, HO.out⟩
        rw [markIts_get k l i (by have := HL.out; omega)]
        have hki := kAt_le k l (i := i) (j := j) (by omega)
        have hkb := HK.out
        refine ⟨⟨by show (-9223372036854775808 : Int) ≤ ((kAt k l i : Nat) : Int); omega, by show ((kAt k l i : Nat) : Int) ≤ 9223372036854775807; omega⟩, markT_size _ (by omega), markT_size _ (by omega), markT_size _ (by omega)⟩
end Go.Proofs.YtppgdbejbhhjlaaDoor
