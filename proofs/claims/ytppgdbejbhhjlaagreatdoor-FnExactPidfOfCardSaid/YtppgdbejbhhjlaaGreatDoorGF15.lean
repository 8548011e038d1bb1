/- Items of one's own. -/
import Derived.Test.YtppgdbejbhhjlaaGreatDoorGF14
namespace Go.Proofs.YtppgdbejbhhjlaaGreatDoor
open Go.ChangeShapes Go.WideShapes Go.ChangeAt Go.RowKit
set_option linter.unusedVariables false

/-- the five cells of item i in block b -/
structure Cells5 (w : World) (b i : Nat) (x : It) (a : Option Addr) (n c : Nat) : Prop where
  c0 : w.cell? ⟨b, i * 5, none⟩ = some (.int .i64 x.depth)
  c1 : w.cell? ⟨b, i * 5 + 1, none⟩ = some (.string x.text)
  c2 : w.cell? ⟨b, i * 5 + 2, none⟩ = some (.string x.space)
  c3 : w.cell? ⟨b, i * 5 + 3, none⟩ = some (.string x.name)
  c4 : w.cell? ⟨b, i * 5 + 4, none⟩ = some (.slice a n c)
  nil : a = none → c = 0
theorem Cells5.set {w : World} {b i m : Nat} {x : It} {a : Option Addr} {n c : Nat} {v : Value} (h : Cells5 w b i x a n c) (hm : m < i * 5 ∨ i * 5 + 5 ≤ m) : Cells5 (w.setCell ⟨b, m, none⟩ v) b i x a n c :=
  ⟨by rw [set_off (by omega)]; exact h.c0, by rw [set_off (by omega)]; exact h.c1, by rw [set_off (by omega)]; exact h.c2, by rw [set_off (by omega)]; exact h.c3, by rw [set_off (by omega)]; exact h.c4, h.nil⟩
theorem Cells5.below {w w' : World} {b i : Nat} {x : It} {a : Option Addr} {n c : Nat} (h : Cells5 w b i x a n c) (hlt : b < w.heap.size) (hb : Below w.heap.size w w') : Cells5 w' b i x a n c :=
  ⟨(hb.cell (by exact hlt)).trans h.c0, (hb.cell (by exact hlt)).trans h.c1, (hb.cell (by exact hlt)).trans h.c2, (hb.cell (by exact hlt)).trans h.c3, (hb.cell (by exact hlt)).trans h.c4, h.nil⟩
theorem Cells5.only {P : Nat → Prop} {w w' : World} {b i : Nat} {x : It} {a : Option Addr} {n c : Nat} (h : Cells5 w b i x a n c) (hlt : b < w.heap.size) (ho : Only P w w') (hn : ¬ P b) : Cells5 w' b i x a n c :=
  ⟨(ho.cell (p := ⟨b, i * 5, none⟩) hlt hn).trans h.c0, (ho.cell (p := ⟨b, i * 5 + 1, none⟩) hlt hn).trans h.c1, (ho.cell (p := ⟨b, i * 5 + 2, none⟩) hlt hn).trans h.c2, (ho.cell (p := ⟨b, i * 5 + 3, none⟩) hlt hn).trans h.c3, (ho.cell (p := ⟨b, i * 5 + 4, none⟩) hlt hn).trans h.c4, h.nil⟩

/-- item i of a row of one's own: its cells, its attributes -/
def OwnAt (w : World) (lo hi b i : Nat) (x : It) (a : Option Addr) (n c : Nat) : Prop := Cells5 w b i x a n c ∧ OwnAts w lo hi a n c x.attrs
/-- a row of items of one's own, in blocks of lo to hi -/
structure OwnIts (w : World) (lo hi : Nat) (a : Option Addr) (n c : Nat) (l : List It) : Prop where
  len : l.length = n
  max : n ≤ 1048576
  it : ∀ i, i < n → (-9223372036854775808 ≤ (l.getD i dIt).depth ∧ (l.getD i dIt).depth ≤ 9223372036854775807) ∧ ((l.getD i dIt).text.size ≤ 9223372036854775807 ∧ (l.getD i dIt).space.size ≤ 9223372036854775807 ∧ (l.getD i dIt).name.size ≤ 9223372036854775807)
  row : n = 0 ∨ ∃ (b : Nat) (A : Nat → Option Addr) (N C : Nat → Nat), a = some ⟨b, 0, none⟩ ∧ lo ≤ b ∧ b < hi ∧ Room w b (n * 5) ∧ (∀ i, i < n → OwnAt w lo hi b i (l.getD i dIt) (A i) (N i) (C i)) ∧
    (∀ i, i < n → ∀ x, A i = some x → N i ≠ 0 → x.block ≠ b) ∧ (∀ i j, i < n → j < n → i ≠ j → ∀ x y, A i = some x → A j = some y → N i ≠ 0 → N j ≠ 0 → x.block ≠ y.block)
theorem OwnIts.its {w : World} {lo hi : Nat} {a : Option Addr} {n c : Nat} {l : List It} (h : OwnIts w lo hi a n c l) : ItsAt w a n c l := by
  refine ⟨h.len, by have := h.max; omega, ?_⟩
  rcases h.row with e | ⟨b, A, N, C, ha, h1, h2, hr, hc, _, _⟩
  · exact .inl e
  · refine .inr ⟨b, 0, ha, fun i hi => ?_⟩
    have hi5 := hc i hi
    rw [Nat.zero_add]
    exact ⟨hr.1, (h.it i hi).1, (h.it i hi).2, hi5.1.c0, hi5.1.c1, hi5.1.c2, hi5.1.c3, _, _, _, hi5.1.c4, hi5.2.ats⟩

theorem OwnIts.below {w w' : World} {lo hi : Nat} {a : Option Addr} {n c : Nat} {l : List It} (h : OwnIts w lo hi a n c l) (hb : Below w.heap.size w w') : OwnIts w' lo hi a n c l := by
  refine ⟨h.len, h.max, h.it, h.row.imp id ?_⟩
  rintro ⟨b, A, N, C, ha, h1, h2, hr, hc, hab, haa⟩
  exact ⟨b, A, N, C, ha, h1, h2, hr.below hb, fun i hi => ⟨(hc i hi).1.below hr.1 hb, (hc i hi).2.only (Only.below (P := fun _ => False) hb) fun _ _ _ h => h⟩, hab, haa⟩
/-- what is written in other blocks leaves the row as it is -/
theorem OwnIts.only {P : Nat → Prop} {w w' : World} {lo hi : Nat} {a : Option Addr} {n c : Nat} {l : List It} (h : OwnIts w lo hi a n c l) (ho : Only P w w') (hP : ∀ i, lo ≤ i → i < hi → ¬ P i) : OwnIts w' lo hi a n c l := by
  refine ⟨h.len, h.max, h.it, h.row.imp id ?_⟩
  rintro ⟨b, A, N, C, ha, h1, h2, hr, hc, hab, haa⟩
  refine ⟨b, A, N, C, ha, h1, h2, hr.only ho (hP b h1 h2), fun i hi => ⟨(hc i hi).1.only hr.1 ho (hP b h1 h2), (hc i hi).2.only ho fun x hx hne => ?_⟩, hab, haa⟩
  obtain ⟨b5, e5, g1, g2, _⟩ := (hc i hi).2.own.resolve_left hne
  rw [hx] at e5
  cases e5
  exact hP b5 g1 g2
theorem OwnIts.mono {w : World} {lo hi lo' hi' : Nat} {a : Option Addr} {n c : Nat} {l : List It} (h : OwnIts w lo hi a n c l) (h1 : lo' ≤ lo) (h2 : hi ≤ hi') : OwnIts w lo' hi' a n c l := by
  refine ⟨h.len, h.max, h.it, h.row.imp id ?_⟩
  rintro ⟨b, A, N, C, ha, g1, g2, hr, hc, hab, haa⟩
  refine ⟨b, A, N, C, ha, by omega, by omega, hr, fun i hi => ⟨(hc i hi).1, (hc i hi).2.ats, (hc i hi).2.own.imp id ?_⟩, hab, haa⟩
  rintro ⟨b5, e5, k1, k2, k3⟩
  exact ⟨b5, e5, by omega, by omega, k3⟩

end Go.Proofs.YtppgdbejbhhjlaaGreatDoor

/- markItemS. -/
namespace Go.Proofs.YtppgdbejbhhjlaaGreatDoor
open Go.ChangeShapes Go.WideShapes Go.ChangeAt Go.RowKit
set_option linter.unusedVariables false

def kAt (k : Nat) (l : List It) : Nat → Nat
  | 0 => k
  | i + 1 => kAt k l i + 4 + 2 * (l.getD i dIt).attrs.length
theorem kAt_le (k : Nat) (l : List It) {i j : Nat} (h : i ≤ j) : kAt k l i ≤ kAt k l j := by
  induction j with
  | zero => obtain rfl : i = 0 := by omega
            exact Nat.le_refl _
  | succ j ih =>
    rcases Nat.lt_or_ge i (j + 1) with h1 | h1
    · have := ih (by omega)
      show _ ≤ kAt k l j + 4 + _
      omega
    · obtain rfl : i = j + 1 := by omega
      exact Nat.le_refl _
def markIt (k : Nat) (x : It) : It := ⟨(k : Int), markT (k + 1), markT (k + 2), markT (k + 3), markAts (k + 4) x.attrs.length⟩
def markIts (k : Nat) (l : List It) : List It := (List.range l.length).map fun i => markIt (kAt k l i) (l.getD i dIt)
theorem markIts_length (k : Nat) (l : List It) : (markIts k l).length = l.length := by simp [markIts]
theorem markIts_get (k : Nat) (l : List It) (i : Nat) (h : i < l.length) : (markIts k l).getD i dIt = markIt (kAt k l i) (l.getD i dIt) := by
  unfold markIts
  rw [List.getD_eq_getElem?_getD, List.getElem?_map, List.getElem?_range h]; rfl

/-- the marks are written, and only there -/
def MarkIts (w : World) (lo hi : Nat) (a : Option Addr) (n c k : Nat) (l : List It) (e : Ending) (w' : World) : Prop :=
  e = .returned (.int .i64 ((kAt k l n : Nat) : Int)) ∧ OwnIts w' lo hi a n c (markIts k l) ∧ Only (fun i => lo ≤ i ∧ i < hi) w w'

set_option maxRecDepth 100000 in
set_option maxHeartbeats 3200000 in
theorem markItemS_any (lo hi : Nat) (a : Option Addr) (n c k : Nat) (l : List It) (w : World) (h0 : 0 < k) (hK : kAt k l n ≤ 10000000000000000) (hA : ∀ i, i < n → (l.getD i dIt).attrs.length ≤ 1048576) (h : OwnIts w lo hi a n c l) :
    Calls Tryz.prog 51 #[.slice a n c, .int .i64 k] w (MarkIts w lo hi a n c k l) := by
  have hm := h.max
  have HL := Lib.hid h.len
  by_cases hz : n = 0
  · subst hz
    have HE : l = [] := List.length_eq_zero_iff.1 h.len
    subst HE
    clear h hK hA
    go_enter Tryz.func51, Tryz.ntmps51
    go_wp2
    go_loop [1, 5] (fun v i => i = .int .i64 0 ∧ v = .int .i64 k) (fun _ _ => 0)
    case atStart => exact ⟨rfl, rfl⟩
    case round =>
      obtain ⟨rfl, rfl⟩ := hrel
      go_wp2
      go_ret
      exact ⟨rfl, ⟨rfl, by omega, fun i hi => by omega, .inl rfl⟩, Only.refl _⟩
  · obtain ⟨b, A, N, C, rfl, hlo, hhi, hroom, hcs, hab, haa⟩ := h.row.resolve_left hz
    have HRoom := Lib.hid hroom
    have HCS := Lib.hid hcs
    have HAB := Lib.hid hab
    have HAA := Lib.hid haa
    have HK := Lib.hid hK
    have HA := Lib.hid hA
    clear h hroom hcs hab haa hK hA
    go_enter Tryz.func51, Tryz.ntmps51
    go_wp2
    go_loopw [1, 5] (fun v i wr => ∃ j : Nat, j ≤ n ∧ i = .int .i64 j ∧ v = .int .i64 ((kAt k l j : Nat) : Int) ∧ Room wr b (n * 5) ∧ (∀ i, i < j → OwnAt wr lo hi b i (markIt (kAt k l i) (l.getD i dIt)) (A i) (N i) (C i)) ∧ (∀ i, j ≤ i → i < n → OwnAt wr lo hi b i (l.getD i dIt) (A i) (N i) (C i)) ∧ Only (fun i => lo ≤ i ∧ i < hi) w wr) (fun _ i _ => n - (intOf i).toNat)
    case atStart => exact ⟨0, Nat.zero_le _, rfl, rfl, HRoom.out, fun i hi => by omega, fun i _ hi => HCS.out i hi, Only.refl _⟩
    case round =>
      obtain ⟨j, hj, rfl, rfl, hroom, hdone, hleft, ho⟩ := hrel
      have HROOM := Lib.hid hroom
      have HDONE := Lib.hid hdone
      have HLEFT := Lib.hid hleft
      have HO := Lib.hid ho
      clear hroom hdone hleft ho
      by_cases hlt : j < n
      · have HKJ : Hid (kAt k l (j + 1) = kAt k l j + 4 + 2 * (l.getD j dIt).attrs.length) := Lib.hid rfl
        have hle1 := kAt_le k l (i := 0) (j := j) (by omega)
        have hle2 := kAt_le k l (i := j) (j := n) (by omega)
        have hkk0 : 0 < kAt k l j := by show 0 < _; have : kAt k l 0 = k := rfl; omega
        have hkk1 : kAt k l j ≤ 10000000000000000 := by have := HK.out; omega
        clear hle1 hle2
        have hlen : (l.getD j dIt).attrs.length = N j := (HLEFT.out j (Nat.le_refl _) hlt).2.ats.len
        have hNj : N j ≤ 1048576 := by have := HA.out j hlt; omega
        have HLEN := Lib.hid hlen
        clear hlen
        obtain ⟨kk, hkk⟩ : ∃ kk, kAt k l j = kk := ⟨_, rfl⟩
        rw [hkk] at hkk0 hkk1
        have HKK := Lib.hid hkk
        rw [hkk]
        clear hkk
        have K1 := Lib.hid (markText_at kk 1 (by omega) (by omega))
        have K2 := Lib.hid (markText_at kk 2 (by omega) (by omega))
        have K3 := Lib.hid (markText_at kk 3 (by omega) (by omega))
        have q4 : kk ≤ 10000000000000000 := hkk1
        obtain ⟨⟨v0, p0⟩, f0⟩ := HROOM.out.2 (j * 5) (by omega)
        go_wp2_with fail
        refine (K1.out _).mono ?_
        rintro e w1 ⟨rfl, hb1⟩
        have HR1 := Lib.hid ((HROOM.out.set ⟨b, j * 5, none⟩ (.int .i64 kk)).below hb1)
        have HB1 := Lib.hid hb1
        clear hb1 p0 f0
        obtain ⟨⟨v1, p1⟩, f1⟩ := HR1.out.2 (j * 5 + 1) (by omega)
        go_wp2_with fail
        refine (K2.out _).mono ?_
        rintro e w2 ⟨rfl, hb2⟩
        have HR2 := Lib.hid ((HR1.out.set ⟨b, j * 5 + 1, none⟩ (.string (markT (kk + 1)))).below hb2)
        have HB2 := Lib.hid hb2
        clear hb2 p1 f1
        obtain ⟨⟨v2, p2⟩, f2⟩ := HR2.out.2 (j * 5 + 2) (by omega)
        go_wp2_with fail
        refine (K3.out _).mono ?_
        rintro e w3 ⟨rfl, hb3⟩
        have HR3 := Lib.hid ((HR2.out.set ⟨b, j * 5 + 2, none⟩ (.string (markT (kk + 2)))).below hb3)
        have HB3 := Lib.hid hb3
        clear hb3 p2 f2
        obtain ⟨⟨v3, p3⟩, f3⟩ := HR3.out.2 (j * 5 + 3) (by omega)
        -- what has become of the rows by now
        have hb0 := HROOM.out.1
        have hs0 : b < (wr.setCell ⟨b, j * 5, none⟩ (.int .i64 kk)).heap.size := by simpa using hb0
        have hs1 : b < (w1.setCell ⟨b, j * 5 + 1, none⟩ (.string (markT (kk + 1)))).heap.size := by simpa using HR1.out.1
        have hs2 : b < (w2.setCell ⟨b, j * 5 + 2, none⟩ (.string (markT (kk + 2)))).heap.size := by simpa using HR2.out.1
        have HON : Hid (Only (fun i => i = b) wr w3) := Lib.hid
          (((Only.set (P := fun i => i = b) wr ⟨b, j * 5, none⟩ _ rfl).trans (Only.below HB1.out)).trans (((Only.set (P := fun i => i = b) w1 ⟨b, j * 5 + 1, none⟩ _ rfl).trans (Only.below HB2.out)).trans ((Only.set (P := fun i => i = b) w2 ⟨b, j * 5 + 2, none⟩ _ rfl).trans (Only.below HB3.out))))
        have HC5 : Hid (∀ i x a n c, i ≠ j → Cells5 wr b i x a n c → Cells5 w3 b i x a n c) := Lib.hid fun i x a n c hij hc =>
          ((((((hc.set (by omega)).below hs0 HB1.out).set (by omega)).below hs1 HB2.out).set (by omega)).below hs2 HB3.out)
        have d4 : w3.cell? ⟨b, j * 5 + 4, none⟩ = some (.slice (A j) (N j) (C j)) := by
          rw [HB3.out.cell (by exact hs2), set_off (by omega), HB2.out.cell (by exact hs1), set_off (by omega), HB1.out.cell (by exact hs0), set_off (by omega)]
          exact (HLEFT.out j (Nat.le_refl _) hlt).1.c4
        have HD4 := Lib.hid d4
        have HD0 : Hid (w3.cell? ⟨b, j * 5, none⟩ = some (.int .i64 kk)) := Lib.hid (by
          rw [HB3.out.cell (by exact hs2), set_off (by omega), HB2.out.cell (by exact hs1), set_off (by omega), HB1.out.cell (by exact hs0)]
          exact HROOM.out.put (by omega) _)
        have HD1 : Hid (w3.cell? ⟨b, j * 5 + 1, none⟩ = some (.string (markT (kk + 1)))) := Lib.hid (by
          rw [HB3.out.cell (by exact hs2), set_off (by omega), HB2.out.cell (by exact hs1)]
          exact HR1.out.put (by omega) _)
        have HD2 : Hid (w3.cell? ⟨b, j * 5 + 2, none⟩ = some (.string (markT (kk + 2)))) := Lib.hid (by
          rw [HB3.out.cell (by exact hs2)]
          exact HR2.out.put (by omega) _)
        have HOA : Hid (OwnAts (w3.setCell ⟨b, j * 5 + 3, none⟩ (.string (markT (kk + 3)))) lo hi (A j) (N j) (C j) (l.getD j dIt).attrs) := Lib.hid
          ((HLEFT.out j (Nat.le_refl _) hlt).2.only (HON.out.trans (Only.set (P := fun i => i = b) w3 ⟨b, j * 5 + 3, none⟩ _ rfl)) (fun x hx hne => HAB.out j hlt x hx hne))
        have K4 := Lib.hid (markAttrS_any lo hi (A j) (N j) (C j) (kk + 4) (l.getD j dIt).attrs _ (by omega) hNj (by omega) HOA.out)
        clear hs0 hs1 hs2 hb0
        go_wp2_with fail
        refine K4.out.mono ?_
        rintro e w4 ⟨rfl, hown4, ho4⟩
        have HOWN4 := Lib.hid hown4
        have HO4 := Lib.hid ho4
        have HNB : Hid (¬ BlockOf (A j) (N j) b) := Lib.hid fun ⟨x, hx, hb, hne⟩ => HAB.out j hlt x hx hne hb
        clear hown4 ho4 d4 p3 f3
        go_wp2
        go_roundw
        case rel =>
          have hr3 := HR3.out.set ⟨b, j * 5 + 3, none⟩ (.string (markT (kk + 3)))
          have keep : ∀ i x, i < n → i ≠ j → OwnAt wr lo hi b i x (A i) (N i) (C i) → OwnAt w4 lo hi b i x (A i) (N i) (C i) := fun i x hi hij hx =>
            ⟨((HC5.out i x _ _ _ hij hx.1).set (by omega)).only hr3.1 HO4.out HNB.out,
              (hx.2.only (HON.out.trans (Only.set (P := fun i => i = b) w3 ⟨b, j * 5 + 3, none⟩ _ rfl)) (fun y hy hne => HAB.out i hi y hy hne)).only HO4.out
                (fun y hy hne ⟨z, hz, hzb, hzn⟩ => HAA.out i j hi hlt hij y z hy hz hne hzn hzb.symm)⟩
          refine ⟨j + 1, by omega, by go_num, ?_, hr3.only HO4.out HNB.out, fun i hi => ?_, fun i h1 h2 => keep i _ h2 (by omega) (HLEFT.out i (by omega) h2), ?_⟩
          · rw [HKJ.out, HKK.out, HLEN.out]
            congr 1
          · rcases Nat.lt_or_ge i j with h | h
            · exact keep i _ (by omega) (by omega) (HDONE.out i h)
            · obtain rfl : i = j := by omega
              rw [HKK.out]
              refine ⟨⟨?_, ?_, ?_, ?_, ?_, (HLEFT.out i (Nat.le_refl _) hlt).1.nil⟩, ?_⟩
              · rw [HO4.out.cell (by exact hr3.1) HNB.out, set_off (by omega)]; exact HD0.out
              · rw [HO4.out.cell (by exact hr3.1) HNB.out, set_off (by omega)]; exact HD1.out
              · rw [HO4.out.cell (by exact hr3.1) HNB.out, set_off (by omega)]; exact HD2.out
              · rw [HO4.out.cell (by exact hr3.1) HNB.out]; exact HR3.out.put (by omega) _
              · rw [HO4.out.cell (by exact hr3.1) HNB.out, set_off (by omega)]; exact HD4.out
              · have := HOWN4.out
                unfold markIt
                rw [HLEN.out]
                exact this
          · have hbi : ∀ i, i = b → lo ≤ i ∧ i < hi := fun i e => by omega
            refine HO.out.trans ((HON.out.mono hbi).trans ((Only.set w3 ⟨b, j * 5 + 3, none⟩ _ ⟨hlo, hhi⟩).trans (HO4.out.mono fun i hi => ?_)))
            obtain ⟨x, hx, hxb, hne⟩ := hi
            obtain ⟨b2, hb2, h1, h2, _⟩ := (HLEFT.out j (Nat.le_refl _) hlt).2.own.resolve_left hne
            rw [hx] at hb2
            cases hb2
            exact ⟨by rw [← hxb]; exact h1, by rw [← hxb]; exact h2⟩
        case measure => simp [intOf]; omega
      · obtain rfl : j = n := by omega
        go_wp2
        go_ret
        refine ⟨rfl, ⟨by rw [markIts_length]; exact HL.out, hm, fun i hi => ?_, .inr ⟨b, A, N, C, rfl, hlo, hhi, HROOM.out, fun i hi => by rw [markIts_get k l i (by have := HL.out; omega)]; exact HDONE.out i hi, HAB.out, HAA.out⟩⟩, HO.out⟩
        rw [markIts_get k l i (by have := HL.out; omega)]
        have hki := kAt_le k l (i := i) (j := j) (by omega)
        have hkb := HK.out
        refine ⟨⟨by show (-9223372036854775808 : Int) ≤ ((kAt k l i : Nat) : Int); omega, by show ((kAt k l i : Nat) : Int) ≤ 9223372036854775807; omega⟩, markT_size _ (by omega), markT_size _ (by omega), markT_size _ (by omega)⟩
end Go.Proofs.YtppgdbejbhhjlaaGreatDoor
