/- Items of one's own. -/
import Derived.Test.YticpebpicdboaaaGreatDoorGQ5
import Derived.Maps.AppendAt
import Derived.Test.YticpebpicdboaaaGreatDoorGQ3
namespace Go.Proofs.YticpebpicdboaaaGreatDoor
open Go.ChangeShapes Go.WideShapes Go.ChangeAt Go.RowKit
set_option linter.unusedVariables false

/-- the five cells of item i in block b -/
structure Cells5 (w : World) (b i : Nat) (x : It) (a : Option Addr) (n c : Nat) : Prop where
  c0 : w.cell? ⟨b, i * 5, none⟩ = some (.int .i64 x.depth)
  c1 : w.cell? ⟨b, i * 5 + 1, none⟩ = some (.string x.text)
  c2 : w.cell? ⟨b, i * 5 + 2, none⟩ = some (.string x.space)
  c3 : w.cell? ⟨b, i * 5 + 3, none⟩ = some (.string x.name)
  c4 : w.cell? ⟨b, i * 5 + 4, none⟩ = some (.slice a n c)
  nil : a = none → c = 0
theorem Cells5.set {w : World} {b i m : Nat} {x : It} {a : Option Addr} {n c : Nat} {v : Value} (h : Cells5 w b i x a n c) (hm : m < i * 5 ∨ i * 5 + 5 ≤ m) : Cells5 (w.setCell ⟨b, m, none⟩ v) b i x a n c :=
  ⟨by rw [set_off (by omega)]; exact h.c0, by rw [set_off (by omega)]; exact h.c1, by rw [set_off (by omega)]; exact h.c2, by rw [set_off (by omega)]; exact h.c3, by rw [set_off (by omega)]; exact h.c4, h.nil⟩
theorem Cells5.below {w w' : World} {b i : Nat} {x : It} {a : Option Addr} {n c : Nat} (h : Cells5 w b i x a n c) (hlt : b < w.heap.size) (hb : Below w.heap.size w w') : Cells5 w' b i x a n c :=
  ⟨(hb.cell (by exact hlt)).trans h.c0, (hb.cell (by exact hlt)).trans h.c1, (hb.cell (by exact hlt)).trans h.c2, (hb.cell (by exact hlt)).trans h.c3, (hb.cell (by exact hlt)).trans h.c4, h.nil⟩
theorem Cells5.only {P : Nat → Prop} {w w' : World} {b i : Nat} {x : It} {a : Option Addr} {n c : Nat} (h : Cells5 w b i x a n c) (hlt : b < w.heap.size) (ho : Only P w w') (hn : ¬ P b) : Cells5 w' b i x a n c :=
  ⟨(ho.cell (p := ⟨b, i * 5, none⟩) hlt hn).trans h.c0, (ho.cell (p := ⟨b, i * 5 + 1, none⟩) hlt hn).trans h.c1, (ho.cell (p := ⟨b, i * 5 + 2, none⟩) hlt hn).trans h.c2, (ho.cell (p := ⟨b, i * 5 + 3, none⟩) hlt hn).trans h.c3, (ho.cell (p := ⟨b, i * 5 + 4, none⟩) hlt hn).trans h.c4, h.nil⟩

/-- item i of a row of one's own: its cells, its attributes -/
def OwnAt (w : World) (lo hi b i : Nat) (x : It) (a : Option Addr) (n c : Nat) : Prop := Cells5 w b i x a n c ∧ OwnAts w lo hi a n c x.attrs
/-- a row of items of one's own, in blocks of lo to hi -/
structure OwnIts (w : World) (lo hi : Nat) (a : Option Addr) (n c : Nat) (l : List It) : Prop where
  len : l.length = n
  max : n ≤ 1048576
  it : ∀ i, i < n → (-9223372036854775808 ≤ (l.getD i dIt).depth ∧ (l.getD i dIt).depth ≤ 9223372036854775807) ∧ ((l.getD i dIt).text.size ≤ 9223372036854775807 ∧ (l.getD i dIt).space.size ≤ 9223372036854775807 ∧ (l.getD i dIt).name.size ≤ 9223372036854775807)
  row : n = 0 ∨ ∃ (b : Nat) (A : Nat → Option Addr) (N C : Nat → Nat), a = some ⟨b, 0, none⟩ ∧ lo ≤ b ∧ b < hi ∧ Room w b (n * 5) ∧ (∀ i, i < n → OwnAt w lo hi b i (l.getD i dIt) (A i) (N i) (C i)) ∧
    (∀ i, i < n → ∀ x, A i = some x → N i ≠ 0 → x.block ≠ b) ∧ (∀ i j, i < n → j < n → i ≠ j → ∀ x y, A i = some x → A j = some y → N i ≠ 0 → N j ≠ 0 → x.block ≠ y.block)
theorem OwnIts.its {w : World} {lo hi : Nat} {a : Option Addr} {n c : Nat} {l : List It} (h : OwnIts w lo hi a n c l) : ItsAt w a n c l := by
  refine ⟨h.len, by have := h.max; omega, ?_⟩
  rcases h.row with e | ⟨b, A, N, C, ha, h1, h2, hr, hc, _, _⟩
  · exact .inl e
  · refine .inr ⟨b, 0, ha, fun i hi => ?_⟩
    have hi5 := hc i hi
    rw [Nat.zero_add]
    exact ⟨hr.1, (h.it i hi).1, (h.it i hi).2, hi5.1.c0, hi5.1.c1, hi5.1.c2, hi5.1.c3, _, _, _, hi5.1.c4, hi5.2.ats⟩

theorem OwnIts.below {w w' : World} {lo hi : Nat} {a : Option Addr} {n c : Nat} {l : List It} (h : OwnIts w lo hi a n c l) (hb : Below w.heap.size w w') : OwnIts w' lo hi a n c l := by
  refine ⟨h.len, h.max, h.it, h.row.imp id ?_⟩
  rintro ⟨b, A, N, C, ha, h1, h2, hr, hc, hab, haa⟩
  exact ⟨b, A, N, C, ha, h1, h2, hr.below hb, fun i hi => ⟨(hc i hi).1.below hr.1 hb, (hc i hi).2.only (Only.below (P := fun _ => False) hb) fun _ _ _ h => h⟩, hab, haa⟩
/-- what is written in other blocks leaves the row as it is -/
theorem OwnIts.only {P : Nat → Prop} {w w' : World} {lo hi : Nat} {a : Option Addr} {n c : Nat} {l : List It} (h : OwnIts w lo hi a n c l) (ho : Only P w w') (hP : ∀ i, lo ≤ i → i < hi → ¬ P i) : OwnIts w' lo hi a n c l := by
  refine ⟨h.len, h.max, h.it, h.row.imp id ?_⟩
  rintro ⟨b, A, N, C, ha, h1, h2, hr, hc, hab, haa⟩
  refine ⟨b, A, N, C, ha, h1, h2, hr.only ho (hP b h1 h2), fun i hi => ⟨(hc i hi).1.only hr.1 ho (hP b h1 h2), (hc i hi).2.only ho fun x hx hne => ?_⟩, hab, haa⟩
  obtain ⟨b5, e5, g1, g2, _⟩ := (hc i hi).2.own.resolve_left hne
  rw [hx] at e5
  cases e5
  exact hP b5 g1 g2
theorem OwnIts.mono {w : World} {lo hi lo' hi' : Nat} {a : Option Addr} {n c : Nat} {l : List It} (h : OwnIts w lo hi a n c l) (h1 : lo' ≤ lo) (h2 : hi ≤ hi') : OwnIts w lo' hi' a n c l := by
  refine ⟨h.len, h.max, h.it, h.row.imp id ?_⟩
  rintro ⟨b, A, N, C, ha, g1, g2, hr, hc, hab, haa⟩
  refine ⟨b, A, N, C, ha, by omega, by omega, hr, fun i hi => ⟨(hc i hi).1, (hc i hi).2.ats, (hc i hi).2.own.imp id ?_⟩, hab, haa⟩
  rintro ⟨b5, e5, k1, k2, k3⟩
  exact ⟨b5, e5, by omega, by omega, k3⟩

end Go.Proofs.YticpebpicdboaaaGreatDoor

/- markItemS. -/
namespace Go.Proofs.YticpebpicdboaaaGreatDoor
open Go.ChangeShapes Go.WideShapes Go.ChangeAt Go.RowKit
set_option linter.unusedVariables false

def kAt (k : Nat) (l : List It) : Nat → Nat
  | 0 => k
  | i + 1 => kAt k l i + 4 + 2 * (l.getD i dIt).attrs.length
theorem kAt_le (k : Nat) (l : List It) {i j : Nat} (h : i ≤ j) : kAt k l i ≤ kAt k l j := by
  induction j with
  | zero => obtain rfl : i = 0 := by omega
            exact Nat.le_refl _
  | succ j ih =>
    rcases Nat.lt_or_ge i (j + 1) with h1 | h1
    · have := ih (by omega)
      show _ ≤ kAt k l j + 4 + _
      omega
    · obtain rfl : i = j + 1 := by omega
      exact Nat.le_refl _
def markIt (k : Nat) (x : It) : It := ⟨(k : Int), markT (k + 1), markT (k + 2), markT (k + 3), markAts (k + 4) x.attrs.length⟩
def markIts (k : Nat) (l : List It) : List It := (List.range l.length).map fun i => markIt (kAt k l i) (l.getD i dIt)
theorem markIts_length (k : Nat) (l : List It) : (markIts k l).length = l.length := by simp [markIts]
theorem markIts_get (k : Nat) (l : List It) (i : Nat) (h : i < l.length) : (markIts k l).getD i dIt = markIt (kAt k l i) (l.getD i dIt) := by
  unfold markIts
  rw [List.getD_eq_getElem?_getD, List.getElem?_map, List.getElem?_range h]; rfl

/-- the marks are written, and only there -/
def MarkIts (w : World) (lo hi : Nat) (a : Option Addr) (n c k : Nat) (l : List It) (e : Ending) (w' : World) : Prop :=
  e = .returned (.int .i64 ((kAt k l n : Nat) : Int)) ∧ OwnIts w' lo hi a n c (markIts k l) ∧ Only (fun i => lo ≤ i ∧ i < hi) w w'

set_option maxRecDepth 100000 in
set_option maxHeartbeats 3200000 in
theorem markItemS_any (lo hi : Nat) (a : Option Addr) (n c k : Nat) (l : List It) (w : World) (h0 : 0 < k) (hK : kAt k l n ≤ 10000000000000000) (hA : ∀ i, i < n → (l.getD i dIt).attrs.length ≤ 1048576) (h : OwnIts w lo hi a n c l) :
    Calls Tryz.prog 62 #[.slice a n c, .int .i64 k] w (MarkIts w lo hi a n c k l) := by
  have hm := h.max
  have HL := Lib.hid h.len
  by_cases hz : n = 0
  · subst hz
    have HE : l = [] := List.length_eq_zero_iff.1 h.len
    subst HE
    clear h hK hA
    go_enter Tryz.func62, Tryz.ntmps62
    go_wp2
    go_loop [1, 5] (fun v i => i = .int .i64 0 ∧ v = .int .i64 k) (fun _ _ => 0)
    case atStart => exact ⟨rfl, rfl⟩
    case round =>
      obtain ⟨rfl, rfl⟩ := hrel
      go_wp2
      go_ret
      exact ⟨rfl, ⟨rfl, by omega, fun i hi => by omega, .inl rfl⟩, Only.refl _⟩
  · obtain ⟨b, A, N, C, rfl, hlo, hhi, hroom, hcs, hab, haa⟩ := h.row.resolve_left hz
    have HRoom := Lib.hid hroom
    have HCS := Lib.hid hcs
    have HAB := Lib.hid hab
    have HAA := Lib.hid haa
    have HK := Lib.hid hK
    have HA := Lib.hid hA
    clear h hroom hcs hab haa hK hA
    go_enter Tryz.func62, Tryz.ntmps62
    go_wp2
    go_loopw [1, 5] (fun v i wr => ∃ j : Nat, j ≤ n ∧ i = .int .i64 j ∧ v = .int .i64 ((kAt k l j : Nat) : Int) ∧ Room wr b (n * 5) ∧ (∀ i, i < j → OwnAt wr lo hi b i (markIt (kAt k l i) (l.getD i dIt)) (A i) (N i) (C i)) ∧ (∀ i, j ≤ i → i < n → OwnAt wr lo hi b i (l.getD i dIt) (A i) (N i) (C i)) ∧ Only (fun i => lo ≤ i ∧ i < hi) w wr) (fun _ i _ => n - (intOf i).toNat)
    case atStart => exact ⟨0, Nat.zero_le _, rfl, rfl, HRoom.out, fun i hi => by omega, fun i _ hi => HCS.out i hi, Only.refl _⟩
    case round =>
      obtain ⟨j, hj, rfl, rfl, hroom, hdone, hleft, ho⟩ := hrel
      have HROOM := Lib.hid hroom
      have HDONE := Lib.hid hdone
      have HLEFT := Lib.hid hleft
      have HO := Lib.hid ho
      clear hroom hdone hleft ho
      by_cases hlt : j < n
      · have HKJ : Hid (kAt k l (j + 1) = kAt k l j + 4 + 2 * (l.getD j dIt).attrs.length) := Lib.hid rfl
        have hle1 := kAt_le k l (i := 0) (j := j) (by omega)
        have hle2 := kAt_le k l (i := j) (j := n) (by omega)
        have hkk0 : 0 < kAt k l j := by show 0 < _; have : kAt k l 0 = k := rfl; omega
        have hkk1 : kAt k l j ≤ 10000000000000000 := by have := HK.out; omega
        clear hle1 hle2
        have hlen : (l.getD j dIt).attrs.length = N j := (HLEFT.out j (Nat.le_refl _) hlt).2.ats.len
        have hNj : N j ≤ 1048576 := by have := HA.out j hlt; omega
        have HLEN := Lib.hid hlen
        clear hlen
        obtain ⟨kk, hkk⟩ : ∃ kk, kAt k l j = kk := ⟨_, rfl⟩
        rw [hkk] at hkk0 hkk1
        have HKK := Lib.hid hkk
        rw [hkk]
        clear hkk
        have K1 := Lib.hid (markText_at kk 1 (by omega) (by omega))
        have K2 := Lib.hid (markText_at kk 2 (by omega) (by omega))
        have K3 := Lib.hid (markText_at kk 3 (by omega) (by omega))
        have q4 : kk ≤ 10000000000000000 := hkk1
        obtain ⟨⟨v0, p0⟩, f0⟩ := HROOM.out.2 (j * 5) (by omega)
        go_wp2_with fail
        refine (K1.out _).mono ?_
        rintro e w1 ⟨rfl, hb1⟩
        have HR1 := Lib.hid ((HROOM.out.set ⟨b, j * 5, none⟩ (.int .i64 kk)).below hb1)
        have HB1 := Lib.hid hb1
        clear hb1 p0 f0
        obtain ⟨⟨v1, p1⟩, f1⟩ := HR1.out.2 (j * 5 + 1) (by omega)
        go_wp2_with fail
        refine (K2.out _).mono ?_
        rintro e w2 ⟨rfl, hb2⟩
        have HR2 := Lib.hid ((HR1.out.set ⟨b, j * 5 + 1, none⟩ (.string (markT (kk + 1)))).below hb2)
        have HB2 := Lib.hid hb2
        clear hb2 p1 f1
        obtain ⟨⟨v2, p2⟩, f2⟩ := HR2.out.2 (j * 5 + 2) (by omega)
        go_wp2_with fail
        refine (K3.out _).mono ?_
        rintro e w3 ⟨rfl, hb3⟩
        have HR3 := Lib.hid ((HR2.out.set ⟨b, j * 5 + 2, none⟩ (.string (markT (kk + 2)))).below hb3)
        have HB3 := Lib.hid hb3
        clear hb3 p2 f2
        obtain ⟨⟨v3, p3⟩, f3⟩ := HR3.out.2 (j * 5 + 3) (by omega)
        -- what has become of the rows by now
        have hb0 := HROOM.out.1
        have hs0 : b < (wr.setCell ⟨b, j * 5, none⟩ (.int .i64 kk)).heap.size := by simpa using hb0
        have hs1 : b < (w1.setCell ⟨b, j * 5 + 1, none⟩ (.string (markT (kk + 1)))).heap.size := by simpa using HR1.out.1
        have hs2 : b < (w2.setCell ⟨b, j * 5 + 2, none⟩ (.string (markT (kk + 2)))).heap.size := by simpa using HR2.out.1
        have HON : Hid (Only (fun i => i = b) wr w3) := Lib.hid
          (((Only.set (P := fun i => i = b) wr ⟨b, j * 5, none⟩ _ rfl).trans (Only.below HB1.out)).trans (((Only.set (P := fun i => i = b) w1 ⟨b, j * 5 + 1, none⟩ _ rfl).trans (Only.below HB2.out)).trans ((Only.set (P := fun i => i = b) w2 ⟨b, j * 5 + 2, none⟩ _ rfl).trans (Only.below HB3.out))))
        have HC5 : Hid (∀ i x a n c, i ≠ j → Cells5 wr b i x a n c → Cells5 w3 b i x a n c) := Lib.hid fun i x a n c hij hc =>
          ((((((hc.set (by omega)).below hs0 HB1.out).set (by omega)).below hs1 HB2.out).set (by omega)).below hs2 HB3.out)
        have d4 : w3.cell? ⟨b, j * 5 + 4, none⟩ = some (.slice (A j) (N j) (C j)) := by
          rw [HB3.out.cell (by exact hs2), set_off (by omega), HB2.out.cell (by exact hs1), set_off (by omega), HB1.out.cell (by exact hs0), set_off (by omega)]
          exact (HLEFT.out j (Nat.le_refl _) hlt).1.c4
        have HD4 := Lib.hid d4
        have HD0 : Hid (w3.cell? ⟨b, j * 5, none⟩ = some (.int .i64 kk)) := Lib.hid (by
          rw [HB3.out.cell (by exact hs2), set_off (by omega), HB2.out.cell (by exact hs1), set_off (by omega), HB1.out.cell (by exact hs0)]
          exact HROOM.out.put (by omega) _)
        have HD1 : Hid (w3.cell? ⟨b, j * 5 + 1, none⟩ = some (.string (markT (kk + 1)))) := Lib.hid (by
          rw [HB3.out.cell (by exact hs2), set_off (by omega), HB2.out.cell (by exact hs1)]
          exact HR1.out.put (by omega) _)
        have HD2 : Hid (w3.cell? ⟨b, j * 5 + 2, none⟩ = some (.string (markT (kk + 2)))) := Lib.hid (by
          rw [HB3.out.cell (by exact hs2)]
          exact HR2.out.put (by omega) _)
        have HOA : Hid (OwnAts (w3.setCell ⟨b, j * 5 + 3, none⟩ (.string (markT (kk + 3)))) lo hi (A j) (N j) (C j) (l.getD j dIt).attrs) := Lib.hid
          ((HLEFT.out j (Nat.le_refl _) hlt).2.only (HON.out.trans (Only.set (P := fun i => i = b) w3 ⟨b, j * 5 + 3, none⟩ _ rfl)) (fun x hx hne => HAB.out j hlt x hx hne))
        have K4 := Lib.hid (markAttrS_any lo hi (A j) (N j) (C j) (kk + 4) (l.getD j dIt).attrs _ (by omega) hNj (by omega) HOA.out)
        clear hs0 hs1 hs2 hb0
        go_wp2_with fail
        refine K4.out.mono ?_
        rintro e w4 ⟨rfl, hown4, ho4⟩
        have HOWN4 := Lib.hid hown4
        have HO4 := Lib.hid ho4
        have HNB : Hid (¬ BlockOf (A j) (N j) b) := Lib.hid fun ⟨x, hx, hb, hne⟩ => HAB.out j hlt x hx hne hb
        clear hown4 ho4 d4 p3 f3
        go_wp2
        go_roundw
        case rel =>
          have hr3 := HR3.out.set ⟨b, j * 5 + 3, none⟩ (.string (markT (kk + 3)))
          have keep : ∀ i x, i < n → i ≠ j → OwnAt wr lo hi b i x (A i) (N i) (C i) → OwnAt w4 lo hi b i x (A i) (N i) (C i) := fun i x hi hij hx =>
            ⟨((HC5.out i x _ _ _ hij hx.1).set (by omega)).only hr3.1 HO4.out HNB.out,
              (hx.2.only (HON.out.trans (Only.set (P := fun i => i = b) w3 ⟨b, j * 5 + 3, none⟩ _ rfl)) (fun y hy hne => HAB.out i hi y hy hne)).only HO4.out
                (fun y hy hne ⟨z, hz, hzb, hzn⟩ => HAA.out i j hi hlt hij y z hy hz hne hzn hzb.symm)⟩
          refine ⟨j + 1, by omega, by go_num, ?_, hr3.only HO4.out HNB.out, fun i hi => ?_, fun i h1 h2 => keep i _ h2 (by omega) (HLEFT.out i (by omega) h2), ?_⟩
          · rw [HKJ.out, HKK.out, HLEN.out]
            congr 1
          · rcases Nat.lt_or_ge i j with h | h
            · exact keep i _ (by omega) (by omega) (HDONE.out i h)
            · obtain rfl : i = j := by omega
              rw [HKK.out]
              refine ⟨⟨?_, ?_, ?_, ?_, ?_, (HLEFT.out i (Nat.le_refl _) hlt).1.nil⟩, ?_⟩
              · rw [HO4.out.cell (by exact hr3.1) HNB.out, set_off (by omega)]; exact HD0.out
              · rw [HO4.out.cell (by exact hr3.1) HNB.out, set_off (by omega)]; exact HD1.out
              · rw [HO4.out.cell (by exact hr3.1) HNB.out, set_off (by omega)]; exact HD2.out
              · rw [HO4.out.cell (by exact hr3.1) HNB.out]; exact HR3.out.put (by omega) _
              · rw [HO4.out.cell (by exact hr3.1) HNB.out, set_off (by omega)]; exact HD4.out
              · have := HOWN4.out
                unfold markIt
                rw [HLEN.out]
                exact this
          · have hbi : ∀ i, i = b → lo ≤ i ∧ i < hi := fun i e => by omega
            refine HO.out.trans ((HON.out.mono hbi).trans ((Only.set w3 ⟨b, j * 5 + 3, none⟩ _ ⟨hlo, hhi⟩).trans (HO4.out.mono fun i hi => ?_)))
            obtain ⟨x, hx, hxb, hne⟩ := hi
            obtain ⟨b2, hb2, h1, h2, _⟩ := (HLEFT.out j (Nat.le_refl _) hlt).2.own.resolve_left hne
            rw [hx] at hb2
            cases hb2
            exact ⟨by rw [← hxb]; exact h1, by rw [← hxb]; exact h2⟩
        case measure => simp [intOf]; omega
      · obtain rfl : j = n := by omega
        go_wp2
        go_ret
        refine ⟨rfl, ⟨by rw [markIts_length]; exact HL.out, hm, fun i hi => ?_, .inr ⟨b, A, N, C, rfl, hlo, hhi, HROOM.out, fun i hi => by rw [markIts_get k l i (by have := HL.out; omega)]; exact HDONE.out i hi, HAB.out, HAA.out⟩⟩, HO.out⟩
        rw [markIts_get k l i (by have := HL.out; omega)]
        have hki := kAt_le k l (i := i) (j := j) (by omega)
        have hkb := HK.out
        refine ⟨⟨by show (-9223372036854775808 : Int) ≤ ((kAt k l i : Nat) : Int); omega, by show ((kAt k l i : Nat) : Int) ≤ 9223372036854775807; omega⟩, markT_size _ (by omega), markT_size _ (by omega), markT_size _ (by omega)⟩
end Go.Proofs.YticpebpicdboaaaGreatDoor

/- Rows of items that grow. -/
namespace Go.Proofs.YticpebpicdboaaaGreatDoor
open Go.ChangeShapes Go.WideShapes Go.ChangeAt Go.RowKit
set_option linter.unusedVariables false

/-- the cells of attributes in a row -/
def flatA (l : List At) : List Value := (List.range (l.length * 2)).map fun j => if j % 2 = 0 then .string (l.getD (j / 2) dAt).name else .string (l.getD (j / 2) dAt).value
theorem flatA_length (l : List At) : (flatA l).length = l.length * 2 := by simp [flatA]
theorem flatA_get (l : List At) (j : Nat) (h : j < l.length * 2) : (flatA l)[j]? = some (if j % 2 = 0 then .string (l.getD (j / 2) dAt).name else .string (l.getD (j / 2) dAt).value) := by
  unfold flatA
  rw [List.getElem?_map, List.getElem?_range h]; rfl
theorem flatA_name (l : List At) (i : Nat) (h : i < l.length) : (flatA l)[i * 2]? = some (.string (l.getD i dAt).name) := by
  rw [flatA_get l _ (by omega), if_pos (by omega), show i * 2 / 2 = i by omega]
theorem flatA_value (l : List At) (i : Nat) (h : i < l.length) : (flatA l)[i * 2 + 1]? = some (.string (l.getD i dAt).value) := by
  rw [flatA_get l _ (by omega), if_neg (by omega), show (i * 2 + 1) / 2 = i by omega]
theorem flatA_one (l : List At) : ∀ u ∈ flatA l, u.oneCell' = true := by
  intro u hu
  unfold flatA at hu
  rw [List.mem_map] at hu
  obtain ⟨j, _, rfl⟩ := hu
  split <;> rfl
theorem AtsAt.flat {w : World} {x : Addr} {n c : Nat} {l : List At} (h : AtsAt w (some x) n c l) : ∀ j u, (flatA l)[j]? = some u → w.cell? (x.add j) = some u := by
  intro j u hj
  have hlt : j < l.length * 2 := by
    rcases Nat.lt_or_ge j (l.length * 2) with h1 | h1
    · exact h1
    · rw [List.getElem?_eq_none (by rw [flatA_length]; exact h1)] at hj; cases hj
  rcases h.row with e | ⟨b, o, ha, _, hc⟩
  · have := h.len; omega
  · simp only [Option.some.injEq] at ha
    subst ha
    rw [Addr.add_lit]
    rw [flatA_get l j hlt] at hj
    simp only [Option.some.injEq] at hj
    have hi := hc (j / 2) (by have := h.len; omega)
    by_cases h2 : j % 2 = 0
    · rw [if_pos h2] at hj
      rw [← hj, ← hi.1, show o + j / 2 * 2 = o + j by omega]
    · rw [if_neg h2] at hj
      rw [← hj, ← hi.2, show o + j / 2 * 2 + 1 = o + j by omega]
/-- a row of one's own that holds these cells reads as these attributes -/
theorem ownAts_of {w : World} {B : Nat} {T : TypeId} {a : Option Addr} {n c : Nat} {l : List At} (h : w.ownsRow B T 2 (.slice a n c) n (flatA l)) (hn : n ≤ 9223372036854775807)
    (hs : ∀ i, (l.getD i dAt).name.size ≤ 9223372036854775807 ∧ (l.getD i dAt).value.size ≤ 9223372036854775807) : OwnAts w B w.heap.size a n c l := by
  have hl : l.length = n := by have := h.1; rw [flatA_length] at this; omega
  rcases h.2 with ⟨hv, h0⟩ | ⟨g, cap, cur, hv, hg, hb, _⟩
  · exact ⟨⟨hl, hn, hs, .inl h0⟩, .inl h0⟩
  · simp only [Value.slice.injEq] at hv
    obtain ⟨rfl, _, rfl⟩ := hv
    have hr := room_made h
    refine ⟨⟨hl, hn, hs, .inr ⟨g, 0, rfl, hr.1, fun i hi => ?_⟩⟩, .inr ⟨g, rfl, hg, hr.1, hr⟩⟩
    rw [Nat.zero_add, h.cellAt _ (by omega), h.cellAt _ (by omega)]
    exact ⟨flatA_name l i (by omega), flatA_value l i (by omega)⟩

theorem lit_behind2 (w : World) (o1 o2 : Obj) : (((w.alloc o1).alloc o2).alloc (.cells #[] 75)).ownsRow w.heap.size 75 2 (.slice (some ⟨w.heap.size + 1 + 1, 0, none⟩) 0 0) 0 [] := by
  have := World.ownsRow_lit (base := w.heap.size) (e := 75) (size := 2) ((w.alloc o1).alloc o2) #[] 0 (by simp; omega) (by unfold maxLen; omega) rfl
  simpa using this
theorem Only.grown {w w' : World} {r : Option Nat} (h : w.grownBy w' r) : Only (fun i => some i = r) w w' := ⟨h.os, h.tape, h.output, h.size, fun i hi hn => h.block i hi hn⟩

/-- the cells of items in a row -/
def cellI (l : List It) (A : Nat → Option Addr) (N C : Nat → Nat) (j : Nat) : Value :=
  if j % 5 = 0 then .int .i64 (l.getD (j / 5) dIt).depth else if j % 5 = 1 then .string (l.getD (j / 5) dIt).text else if j % 5 = 2 then .string (l.getD (j / 5) dIt).space else if j % 5 = 3 then .string (l.getD (j / 5) dIt).name else .slice (A (j / 5)) (N (j / 5)) (C (j / 5))
def flatI (l : List It) (A : Nat → Option Addr) (N C : Nat → Nat) : List Value := (List.range (l.length * 5)).map (cellI l A N C)
theorem flatI_length (l : List It) (A : Nat → Option Addr) (N C : Nat → Nat) : (flatI l A N C).length = l.length * 5 := by simp [flatI]
theorem flatI_get (l : List It) (A : Nat → Option Addr) (N C : Nat → Nat) (j : Nat) (h : j < l.length * 5) : (flatI l A N C)[j]? = some (cellI l A N C j) := by
  unfold flatI
  rw [List.getElem?_map, List.getElem?_range h]; rfl
def putA {α : Type} (n : Nat) (a : α) (A : Nat → α) (i : Nat) : α := if i = n then a else A i
theorem flatI_snoc (l : List It) (A : Nat → Option Addr) (N C : Nat → Nat) (x : It) (a : Option Addr) (n c : Nat) :
    flatI (l ++ [x]) (putA l.length a A) (putA l.length n N) (putA l.length c C) = flatI l A N C ++ [.int .i64 x.depth, .string x.text, .string x.space, .string x.name, .slice a n c] := by
  apply List.ext_getElem?
  intro j
  have hx : (l ++ [x]).getD l.length dIt = x := by simp [List.getD_eq_getElem?_getD]
  have hl : ∀ i, i < l.length → (l ++ [x]).getD i dIt = l.getD i dIt := fun i hi => by simp [List.getD_eq_getElem?_getD, List.getElem?_append_left hi]
  by_cases h1 : j < l.length * 5
  · have h2 : j / 5 < l.length := by omega
    rw [flatI_get _ _ _ _ _ (by simp; omega), List.getElem?_append_left (by rw [flatI_length]; exact h1), flatI_get _ _ _ _ _ h1]
    have g : ∀ {α : Type} (u : α) (F : Nat → α), putA l.length u F (j / 5) = F (j / 5) := fun u F => by unfold putA; rw [if_neg (by omega)]
    unfold cellI
    rw [hl _ h2, g, g, g]
  · by_cases h3 : j < (l.length + 1) * 5
    · rw [flatI_get _ _ _ _ _ (by simp; omega), List.getElem?_append_right (by rw [flatI_length]; omega), flatI_length]
      have h4 : j / 5 = l.length := by omega
      unfold cellI putA
      rw [h4, hx, if_pos rfl, if_pos rfl, if_pos rfl]
      obtain ⟨q, rfl⟩ : ∃ q, j = l.length * 5 + q := ⟨j - l.length * 5, by omega⟩
      have hq : q < 5 := by omega
      rw [show (l.length * 5 + q) % 5 = q by omega, Nat.add_sub_cancel_left]
      match q, hq with
      | 0, _ => rfl
      | 1, _ => rfl
      | 2, _ => rfl
      | 3, _ => rfl
      | 4, _ => rfl
    · rw [List.getElem?_eq_none (by rw [flatI_length]; simp; omega), List.getElem?_eq_none (by rw [List.length_append, flatI_length]; simp; omega)]

/-- a row of items that grows -/
structure GrowIts (w : World) (B : Nat) (v : Value) (n : Nat) (l : List It) (A : Nat → Option Addr) (N C : Nat → Nat) : Prop where
  row : w.ownsRow B 77 5 v n (flatI l A N C)
  ats : ∀ i, i < l.length → OwnAts w B w.heap.size (A i) (N i) (C i) (l.getD i dIt).attrs ∧ (A i = none → C i = 0)
  apart : ∀ i, i < l.length → ∀ x, A i = some x → N i ≠ 0 → v.ownBlock ≠ some x.block
  each : ∀ i j, i < l.length → j < l.length → i ≠ j → ∀ x y, A i = some x → A j = some y → N i ≠ 0 → N j ≠ 0 → x.block ≠ y.block
theorem GrowIts.len {w : World} {B : Nat} {v : Value} {n : Nat} {l : List It} {A : Nat → Option Addr} {N C : Nat → Nat} (h : GrowIts w B v n l A N C) : l.length = n := by
  have := h.row.1
  rw [flatI_length] at this
  omega
theorem OwnAts.in {w : World} {lo hi : Nat} {a : Option Addr} {n c : Nat} {l : List At} (h : OwnAts w lo hi a n c l) {x : Addr} (hx : a = some x) (hn : n ≠ 0) : lo ≤ x.block ∧ x.block < hi := by
  obtain ⟨b, hb, h1, h2, _⟩ := h.own.resolve_left hn
  rw [hx] at hb
  cases hb
  exact ⟨h1, h2⟩
theorem GrowIts.below {w w' : World} {B : Nat} {v : Value} {n : Nat} {l : List It} {A : Nat → Option Addr} {N C : Nat → Nat} (h : GrowIts w B v n l A N C) (hb : Below w.heap.size w w') : GrowIts w' B v n l A N C := by
  refine ⟨owns_below h.row hb, fun i hi => ⟨?_, (h.ats i hi).2⟩, h.apart, h.each⟩
  have h1 := (h.ats i hi).1.only (Only.below (P := fun _ => False) hb) fun _ _ _ h => h
  exact ⟨h1.ats, h1.own.imp id fun ⟨b, g1, g2, g3, g4⟩ => ⟨b, g1, g2, by have := hb.size; omega, g4⟩⟩
/-- behind an append of one item -/
theorem GrowIts.snoc {w w0 w1 : World} {B : Nat} {v v' : Value} {n : Nat} {l : List It} {A : Nat → Option Addr} {N C : Nat → Nat} {x : It} {a : Option Addr} {m c : Nat}
    (h : GrowIts w B v n l A N C) (hw : Below w.heap.size w w0) (ha : OwnAts w0 w.heap.size w0.heap.size a m c x.attrs) (hnil : a = none → c = 0) (hB : B ≤ w.heap.size)
    (hr : w1.ownsRow B 77 5 v' (n + 1) (flatI l A N C ++ [.int .i64 x.depth, .string x.text, .string x.space, .string x.name, .slice a m c])) (hg : w0.grownBy w1 v.ownBlock)
    (hv : v'.ownBlock = v.ownBlock ∨ ∃ g, v'.ownBlock = some g ∧ w0.heap.size ≤ g) :
    GrowIts w1 B v' (n + 1) (l ++ [x]) (putA l.length a A) (putA l.length m N) (putA l.length c C) := by
  have hon := Only.grown hg
  have hs0 := hw.size
  have hs1 := hg.size
  have hvlt : ∀ g, v.ownBlock = some g → g < w.heap.size := fun g hgb => (h.row.lt g hgb).2
  have hx : (l ++ [x]).getD l.length dIt = x := by simp [List.getD_eq_getElem?_getD]
  have hl : ∀ i, i < l.length → (l ++ [x]).getD i dIt = l.getD i dIt := fun i hi => by simp [List.getD_eq_getElem?_getD, List.getElem?_append_left hi]
  have hold : ∀ i, i < l.length → ∀ y, A i = some y → N i ≠ 0 → B ≤ y.block ∧ y.block < w.heap.size := fun i hi y hy hne => (h.ats i hi).1.in hy hne
  refine ⟨by rw [flatI_snoc]; exact hr, fun i hi => ?_, fun i hi y hy hne => ?_, fun i j hi hj hij y z hy hz hny hnz => ?_⟩
  · rw [List.length_append] at hi
    simp only [List.length_cons, List.length_nil] at hi
    by_cases e : i = l.length
    · subst e
      unfold putA
      rw [if_pos rfl, if_pos rfl, if_pos rfl, hx]
      have h1 := ha.only hon fun y hy hne hq => by
        have g1 := (ha.in hy hne).1
        have g2 := hvlt y.block hq.symm
        omega
      exact ⟨⟨h1.ats, h1.own.imp id fun ⟨b, g1, g2, g3, g4⟩ => ⟨b, g1, by omega, by omega, g4⟩⟩, hnil⟩
    · have hi2 : i < l.length := by omega
      unfold putA
      rw [if_neg e, if_neg e, if_neg e, hl i hi2]
      have h0 := (h.ats i hi2).1.only (Only.below (P := fun _ => False) hw) fun _ _ _ h => h
      have h1 := h0.only hon fun y hy hne hq => h.apart i hi2 y hy hne hq.symm
      exact ⟨⟨h1.ats, h1.own.imp id fun ⟨b, g1, g2, g3, g4⟩ => ⟨b, g1, g2, by omega, g4⟩⟩, (h.ats i hi2).2⟩
  · rw [List.length_append] at hi
    simp only [List.length_cons, List.length_nil] at hi
    unfold putA at hy hne
    by_cases e : i = l.length
    · rw [if_pos e] at hy hne
      have g1 := ha.in hy hne
      rcases hv with hv | ⟨g, hv, hg2⟩
      · rw [hv]
        intro hq
        have g2 := hvlt _ hq
        omega
      · rw [hv]
        intro hq
        simp only [Option.some.injEq] at hq
        omega
    · rw [if_neg e] at hy hne
      have g1 := hold i (by omega) y hy hne
      rcases hv with hv | ⟨g, hv, hg2⟩
      · rw [hv]
        exact h.apart i (by omega) y hy hne
      · rw [hv]
        intro hq
        simp only [Option.some.injEq] at hq
        omega
  · rw [List.length_append] at hi hj
    simp only [List.length_cons, List.length_nil] at hi hj
    unfold putA at hy hz hny hnz
    by_cases e : i = l.length
    · rw [if_pos e] at hy hny
      rw [if_neg (by omega)] at hz hnz
      have g1 := ha.in hy hny
      have g2 := hold j (by omega) z hz hnz
      omega
    · rw [if_neg e] at hy hny
      have g2 := hold i (by omega) y hy hny
      by_cases e2 : j = l.length
      · rw [if_pos e2] at hz hnz
        have g1 := ha.in hz hnz
        omega
      · rw [if_neg e2] at hz hnz
        exact h.each i j (by omega) (by omega) hij y z hy hz hny hnz
/-- behind an append of one item, where one block below was written -/
theorem GrowIts.snocO {w w0 w1 : World} {B : Nat} {P : Nat → Prop} {v v' : Value} {n : Nat} {l : List It} {A : Nat → Option Addr} {N C : Nat → Nat} {x : It} {a : Option Addr} {m c : Nat}
    (h : GrowIts w B v n l A N C) (hw : Only P w w0) (hP : ∀ i, B ≤ i → ¬ P i) (ha : OwnAts w0 w.heap.size w0.heap.size a m c x.attrs) (hnil : a = none → c = 0) (hB : B ≤ w.heap.size)
    (hr : w1.ownsRow B 77 5 v' (n + 1) (flatI l A N C ++ [.int .i64 x.depth, .string x.text, .string x.space, .string x.name, .slice a m c])) (hg : w0.grownBy w1 v.ownBlock)
    (hv : v'.ownBlock = v.ownBlock ∨ ∃ g, v'.ownBlock = some g ∧ w0.heap.size ≤ g) :
    GrowIts w1 B v' (n + 1) (l ++ [x]) (putA l.length a A) (putA l.length m N) (putA l.length c C) := by
  have hon := Only.grown hg
  have hs0 := hw.size
  have hs1 := hg.size
  have hvlt : ∀ g, v.ownBlock = some g → g < w.heap.size := fun g hgb => (h.row.lt g hgb).2
  have hx : (l ++ [x]).getD l.length dIt = x := by simp [List.getD_eq_getElem?_getD]
  have hl : ∀ i, i < l.length → (l ++ [x]).getD i dIt = l.getD i dIt := fun i hi => by simp [List.getD_eq_getElem?_getD, List.getElem?_append_left hi]
  have hold : ∀ i, i < l.length → ∀ y, A i = some y → N i ≠ 0 → B ≤ y.block ∧ y.block < w.heap.size := fun i hi y hy hne => (h.ats i hi).1.in hy hne
  refine ⟨by rw [flatI_snoc]; exact hr, fun i hi => ?_, fun i hi y hy hne => ?_, fun i j hi hj hij y z hy hz hny hnz => ?_⟩
  · rw [List.length_append] at hi
    simp only [List.length_cons, List.length_nil] at hi
    by_cases e : i = l.length
    · subst e
      unfold putA
      rw [if_pos rfl, if_pos rfl, if_pos rfl, hx]
      have h1 := ha.only hon fun y hy hne hq => by
        have g1 := (ha.in hy hne).1
        have g2 := hvlt y.block hq.symm
        omega
      exact ⟨⟨h1.ats, h1.own.imp id fun ⟨b, g1, g2, g3, g4⟩ => ⟨b, g1, by omega, by omega, g4⟩⟩, hnil⟩
    · have hi2 : i < l.length := by omega
      unfold putA
      rw [if_neg e, if_neg e, if_neg e, hl i hi2]
      have h0 := (h.ats i hi2).1.only hw fun y hy hne => hP _ ((h.ats i hi2).1.in hy hne).1
      have h1 := h0.only hon fun y hy hne hq => h.apart i hi2 y hy hne hq.symm
      exact ⟨⟨h1.ats, h1.own.imp id fun ⟨b, g1, g2, g3, g4⟩ => ⟨b, g1, g2, by omega, g4⟩⟩, (h.ats i hi2).2⟩
  · rw [List.length_append] at hi
    simp only [List.length_cons, List.length_nil] at hi
    unfold putA at hy hne
    by_cases e : i = l.length
    · rw [if_pos e] at hy hne
      have g1 := ha.in hy hne
      rcases hv with hv | ⟨g, hv, hg2⟩
      · rw [hv]
        intro hq
        have g2 := hvlt _ hq
        omega
      · rw [hv]
        intro hq
        simp only [Option.some.injEq] at hq
        omega
    · rw [if_neg e] at hy hne
      have g1 := hold i (by omega) y hy hne
      rcases hv with hv | ⟨g, hv, hg2⟩
      · rw [hv]
        exact h.apart i (by omega) y hy hne
      · rw [hv]
        intro hq
        simp only [Option.some.injEq] at hq
        omega
  · rw [List.length_append] at hi hj
    simp only [List.length_cons, List.length_nil] at hi hj
    unfold putA at hy hz hny hnz
    by_cases e : i = l.length
    · rw [if_pos e] at hy hny
      rw [if_neg (by omega)] at hz hnz
      have g1 := ha.in hy hny
      have g2 := hold j (by omega) z hz hnz
      omega
    · rw [if_neg e] at hy hny
      have g2 := hold i (by omega) y hy hny
      by_cases e2 : j = l.length
      · rw [if_pos e2] at hz hnz
        have g1 := ha.in hz hnz
        omega
      · rw [if_neg e2] at hz hnz
        exact h.each i j (by omega) (by omega) hij y z hy hz hny hnz
/-- the row that has grown is of one's own, item by item -/
theorem GrowIts.own {w : World} {B : Nat} {a : Option Addr} {n c : Nat} {l : List It} {A : Nat → Option Addr} {N C : Nat → Nat} (h : GrowIts w B (.slice a n c) n l A N C) (hn : n ≤ 1048576)
    (hit : ∀ i, i < n → (-9223372036854775808 ≤ (l.getD i dIt).depth ∧ (l.getD i dIt).depth ≤ 9223372036854775807) ∧ ((l.getD i dIt).text.size ≤ 9223372036854775807 ∧ (l.getD i dIt).space.size ≤ 9223372036854775807 ∧ (l.getD i dIt).name.size ≤ 9223372036854775807)) :
    OwnIts w B w.heap.size a n c l := by
  refine ⟨h.len, hn, hit, ?_⟩
  have hlen := h.len
  rcases h.row.2 with ⟨hv, h0⟩ | ⟨g, cap, cur, hv, hg, hb, _⟩
  · exact .inl h0
  · simp only [Value.slice.injEq] at hv
    obtain ⟨rfl, _, rfl⟩ := hv
    have hr := room_made h.row
    refine .inr ⟨g, A, N, C, rfl, hg, hr.1, hr, fun i hi => ⟨?_, (h.ats i (by omega)).1⟩, fun i hi x hx hne hq => h.apart i (by omega) x hx hne (by simp [Value.ownBlock, hq]), fun i j hi hj => h.each i j (by omega) (by omega)⟩
    have hc : ∀ q, q < 5 → w.cell? ⟨g, i * 5 + q, none⟩ = some (cellI l A N C (i * 5 + q)) := fun q hq => by
      rw [h.row.cellAt _ (by omega), flatI_get _ _ _ _ _ (by omega)]
    refine ⟨?_, ?_, ?_, ?_, ?_, (h.ats i (by omega)).2⟩
    · have := hc 0 (by omega); unfold cellI at this; rwa [show (i * 5 + 0) % 5 = 0 by omega, if_pos rfl, show (i * 5 + 0) / 5 = i by omega] at this
    · have := hc 1 (by omega); unfold cellI at this; rwa [show (i * 5 + 1) % 5 = 1 by omega, if_neg (by omega), if_pos rfl, show (i * 5 + 1) / 5 = i by omega] at this
    · have := hc 2 (by omega); unfold cellI at this; rwa [show (i * 5 + 2) % 5 = 2 by omega, if_neg (by omega), if_neg (by omega), if_pos rfl, show (i * 5 + 2) / 5 = i by omega] at this
    · have := hc 3 (by omega); unfold cellI at this; rwa [show (i * 5 + 3) % 5 = 3 by omega, if_neg (by omega), if_neg (by omega), if_neg (by omega), if_pos rfl, show (i * 5 + 3) / 5 = i by omega] at this
    · have := hc 4 (by omega); unfold cellI at this; rwa [show (i * 5 + 4) % 5 = 4 by omega, if_neg (by omega), if_neg (by omega), if_neg (by omega), if_neg (by omega), show (i * 5 + 4) / 5 = i by omega] at this

theorem lit_item (w : World) : (w.alloc (.cells #[] 77)).ownsRow w.heap.size 77 5 (.slice (some ⟨w.heap.size, 0, none⟩) 0 0) 0 [] := by
  have := World.ownsRow_lit (base := w.heap.size) (e := 77) (size := 5) w #[] 0 (Nat.le_refl _) (by unfold maxLen; omega) rfl
  simpa using this
/-- items from a place up to another one, deeper by so much -/
def movedTo (l : List It) (f k : Nat) (by_ : Int) : List It := (List.range (k - f)).map fun i => ⟨(l.getD (f + i) dIt).depth + by_, (l.getD (f + i) dIt).text, (l.getD (f + i) dIt).space, (l.getD (f + i) dIt).name, (l.getD (f + i) dIt).attrs⟩
theorem movedTo_length (l : List It) (f k : Nat) (by_ : Int) : (movedTo l f k by_).length = k - f := by simp [movedTo]
theorem movedTo_step (l : List It) {f k : Nat} (h : f ≤ k) (by_ : Int) : movedTo l f (k + 1) by_ = movedTo l f k by_ ++ [⟨(l.getD k dIt).depth + by_, (l.getD k dIt).text, (l.getD k dIt).space, (l.getD k dIt).name, (l.getD k dIt).attrs⟩] := by
  unfold movedTo
  rw [show k + 1 - f = (k - f) + 1 by omega, List.range_succ, List.map_append, List.map_cons, List.map_nil, show f + (k - f) = k by omega]
theorem movedTo_get (l : List It) (f k : Nat) (by_ : Int) (i : Nat) (h : i < k - f) : (movedTo l f k by_).getD i dIt = ⟨(l.getD (f + i) dIt).depth + by_, (l.getD (f + i) dIt).text, (l.getD (f + i) dIt).space, (l.getD (f + i) dIt).name, (l.getD (f + i) dIt).attrs⟩ := by
  unfold movedTo
  rw [List.getD_eq_getElem?_getD, List.getElem?_map, List.getElem?_range h]; rfl

end Go.Proofs.YticpebpicdboaaaGreatDoor

/- The program's nodes: how they lie in memory. -/
namespace Go.Proofs.YticpebpicdboaaaGreatDoor
open Go.ChangeShapes Go.WideShapes Go.ChangeAt Go.RowKit
set_option linter.unusedVariables false

def ptrN (k : Nat) : Value := .pointer (some ⟨k, 0, none⟩)
def ptrO (nb : Nat → Nat) (o : Option Nat) : Value := .pointer (o.map fun j => ⟨nb j, 0, none⟩)
/-- what a node's part is -/
def partV (bi oi : Nat) (x : It) (j : Nat) : Value := .iface (if x.name.toList.isEmpty then 151 else 152) (.agg #[.pointer (some ⟨bi, oi + j * 5, none⟩)])
def rowN (nb : Nat → Nat) (ks : List Nat) : List Value := ks.map fun k => ptrN (nb k)
/-- m nodes behind B, of the items at bi, oi; K tells who is in whom -/
structure Nodes (w : World) (B bi oi : Nat) (l : List It) (m : Nat) (nb : Nat → Nat) (KA : Nat → Option Addr) (KN KC : Nat → Nat) (K : Nat → List Nat) : Prop where
  lt : ∀ j, j < m → B ≤ nb j ∧ nb j < w.heap.size
  c0 : ∀ j, j < m → w.cell? ⟨nb j, 0, none⟩ = some (partV bi oi (l.getD j dIt) j)
  c1 : ∀ j, j < m → w.cell? ⟨nb j, 1, none⟩ = some (.int .i64 (j : Int))
  c2 : ∀ j, j < m → w.cell? ⟨nb j, 2, none⟩ = some (.slice (KA j) (KN j) (KC j))
  f2 : ∀ j, j < m → w.frozen? ⟨nb j, 2, none⟩ = false
  row : ∀ j, j < m → w.ownsRow B 163 1 (.slice (KA j) (KN j) (KC j)) (KN j) (rowN nb (K j))
  kid : ∀ j, j < m → ∀ k ∈ K j, k < m
  one : ∀ i j, i < m → j < m → i ≠ j → nb i ≠ nb j
  off : ∀ i j, i < m → j < m → (Value.slice (KA i) (KN i) (KC i)).ownBlock ≠ some (nb j)
  each : ∀ i j, i < m → j < m → i ≠ j → ∀ g, (Value.slice (KA i) (KN i) (KC i)).ownBlock = some g → (Value.slice (KA j) (KN j) (KC j)).ownBlock ≠ some g
theorem rowN_len (nb : Nat → Nat) (ks : List Nat) : (rowN nb ks).length = ks.length := by simp [rowN]
theorem rowN_congr {nb nb' : Nat → Nat} {ks : List Nat} (h : ∀ k ∈ ks, nb k = nb' k) : rowN nb ks = rowN nb' ks := by
  unfold rowN
  exact List.map_congr_left fun k hk => by rw [h k hk]
section
variable {w w' : World} {B bi oi : Nat} {l : List It} {m : Nat} {nb : Nat → Nat} {KA : Nat → Option Addr} {KN KC : Nat → Nat} {K : Nat → List Nat}
theorem Nodes.below (h : Nodes w B bi oi l m nb KA KN KC K) (hb : Below w.heap.size w w') : Nodes w' B bi oi l m nb KA KN KC K :=
  ⟨fun j hj => ⟨(h.lt j hj).1, Nat.lt_of_lt_of_le (h.lt j hj).2 hb.size⟩, fun j hj => (hb.cell (by exact (h.lt j hj).2)).trans (h.c0 j hj), fun j hj => (hb.cell (by exact (h.lt j hj).2)).trans (h.c1 j hj), fun j hj => (hb.cell (by exact (h.lt j hj).2)).trans (h.c2 j hj), fun j hj => (hb.frozen (by exact (h.lt j hj).2)).trans (h.f2 j hj), fun j hj => owns_below (h.row j hj) hb, h.kid, h.one, h.off, h.each⟩
/-- an own row is kept over what is written elsewhere -/
theorem owns_only {P : Nat → Prop} {base : Nat} {e : TypeId} {size : Nat} {v : Value} {n : Nat} {xs : List Value} (h : w.ownsRow base e size v n xs) (ho : Only P w w') (hn : ∀ g, v.ownBlock = some g → ¬ P g) : w'.ownsRow base e size v n xs := by
  refine ⟨h.1, ?_⟩
  rcases h.2 with h2 | ⟨g, cap, cur, hv, hg, hh, r⟩
  · exact .inl h2
  · have hlt : g < w.heap.size := (h.lt g (by rw [hv]; rfl)).2
    exact .inr ⟨g, cap, cur, hv, hg, by rw [ho.block g hlt (hn g (by rw [hv]; rfl))]; exact hh, r⟩
theorem Nodes.only {P : Nat → Prop} (h : Nodes w B bi oi l m nb KA KN KC K) (ho : Only P w w') (hP : ∀ i, B ≤ i → ¬ P i) : Nodes w' B bi oi l m nb KA KN KC K :=
  ⟨fun j hj => ⟨(h.lt j hj).1, Nat.lt_of_lt_of_le (h.lt j hj).2 ho.size⟩, fun j hj => (ho.cell (p := ⟨nb j, 0, none⟩) (h.lt j hj).2 (hP _ (h.lt j hj).1)).trans (h.c0 j hj), fun j hj => (ho.cell (p := ⟨nb j, 1, none⟩) (h.lt j hj).2 (hP _ (h.lt j hj).1)).trans (h.c1 j hj), fun j hj => (ho.cell (p := ⟨nb j, 2, none⟩) (h.lt j hj).2 (hP _ (h.lt j hj).1)).trans (h.c2 j hj), fun j hj => (ho.frozen (p := ⟨nb j, 2, none⟩) (h.lt j hj).2 (hP _ (h.lt j hj).1)).trans (h.f2 j hj), fun j hj => owns_only (h.row j hj) ho fun g hg => hP g ((h.row j hj).lt g hg).1, h.kid, h.one, h.off, h.each⟩
theorem Nodes.congr {K' : Nat → List Nat} (h : Nodes w B bi oi l m nb KA KN KC K) (hk : ∀ j, j < m → K j = K' j) : Nodes w B bi oi l m nb KA KN KC K' :=
  ⟨h.lt, h.c0, h.c1, h.c2, h.f2, fun j hj => by rw [← hk j hj]; exact h.row j hj, fun j hj => by rw [← hk j hj]; exact h.kid j hj, h.one, h.off, h.each⟩
theorem putA_at {α : Type} (n : Nat) (a : α) (A : Nat → α) : putA n a A n = a := by unfold putA; rw [if_pos rfl]
theorem putA_ne {α : Type} {n i : Nat} (a : α) (A : Nat → α) (h : i ≠ n) : putA n a A i = A i := by unfold putA; rw [if_neg h]
/-- one node more, in which there is none -/
theorem Nodes.add (h : Nodes w B bi oi l m nb KA KN KC K) (hB : B ≤ w.heap.size) (t : TypeId) :
    Nodes (w.alloc (.cells #[partV bi oi (l.getD m dIt) m, .int .i64 (m : Int), .slice none 0 0] t)) B bi oi l (m + 1) (putA m w.heap.size nb) (putA m none KA) (putA m 0 KN) (putA m 0 KC) (putA m [] K) := by
  have h1 := h.below (below1 w (.cells #[partV bi oi (l.getD m dIt) m, .int .i64 (m : Int), .slice none 0 0] t))
  have hc : ∀ j, j < m + 1 → j = m ∨ (j ≠ m ∧ j < m) := fun j hj => by omega
  have hlt : ∀ j, j < m → nb j < w.heap.size := fun j hj => (h.lt j hj).2
  refine ⟨fun j hj => ?_, fun j hj => ?_, fun j hj => ?_, fun j hj => ?_, fun j hj => ?_, fun j hj => ?_, fun j hj => ?_, fun i j hi hj hij => ?_, fun i j hi hj => ?_, fun i j hi hj hij => ?_⟩
  · rcases hc j hj with rfl | ⟨e, hj⟩
    · rw [putA_at]; simp; omega
    · rw [putA_ne _ _ e]; exact h1.lt j hj
  · rcases hc j hj with rfl | ⟨e, hj⟩
    · rw [putA_at]; simp
    · rw [putA_ne _ _ e]; exact h1.c0 j hj
  · rcases hc j hj with rfl | ⟨e, hj⟩
    · rw [putA_at]; simp
    · rw [putA_ne _ _ e]; exact h1.c1 j hj
  · rcases hc j hj with rfl | ⟨e, hj⟩
    · rw [putA_at, putA_at, putA_at, putA_at]; simp
    · rw [putA_ne _ _ e, putA_ne _ _ e, putA_ne _ _ e, putA_ne _ _ e]; exact h1.c2 j hj
  · rcases hc j hj with rfl | ⟨e, hj⟩
    · rw [putA_at]; go_simp
    · rw [putA_ne _ _ e]; exact h1.f2 j hj
  · rcases hc j hj with rfl | ⟨e, hj⟩
    · rw [putA_at, putA_at, putA_at, putA_at]
      exact World.ownsRow_nil _ _ _ _
    · rw [putA_ne _ _ e, putA_ne _ _ e, putA_ne _ _ e, putA_ne _ _ e, rowN_congr (nb' := nb) fun k hk => putA_ne _ _ (by have := h.kid j hj k hk; omega)]
      exact h1.row j hj
  · rcases hc j hj with rfl | ⟨e, hj⟩
    · rw [putA_at]; intro k hk; cases hk
    · rw [putA_ne _ _ e]
      intro k hk
      have := h.kid j hj k hk
      omega
  · rcases hc i hi with rfl | ⟨e, hi⟩ <;> rcases hc j hj with rfl | ⟨e2, hj⟩
    · exact absurd rfl hij
    · rw [putA_at, putA_ne _ _ e2]
      have := hlt j hj
      omega
    · rw [putA_at, putA_ne _ _ e]
      have := hlt i hi
      omega
    · rw [putA_ne _ _ e, putA_ne _ _ e2]
      exact h.one i j hi hj hij
  · rcases hc i hi with rfl | ⟨e, hi⟩
    · rw [putA_at, putA_at, putA_at]
      intro q
      cases q
    · rw [putA_ne _ _ e, putA_ne _ _ e, putA_ne _ _ e]
      rcases hc j hj with rfl | ⟨e2, hj⟩
      · rw [putA_at]
        intro q
        have := ((h.row i hi).lt _ q).2
        omega
      · rw [putA_ne _ _ e2]
        exact h.off i j hi hj
  · rcases hc i hi with rfl | ⟨e, hi⟩
    · rw [putA_at, putA_at, putA_at]
      intro g q
      cases q
    · rw [putA_ne _ _ e, putA_ne _ _ e, putA_ne _ _ e]
      rcases hc j hj with rfl | ⟨e2, hj⟩
      · rw [putA_at, putA_at, putA_at]
        intro g _ q
        cases q
      · rw [putA_ne _ _ e2, putA_ne _ _ e2, putA_ne _ _ e2]
        exact h.each i j hi hj hij
/-- k is put into p -/
theorem Nodes.put {w0 w3 : World} {p k : Nat} {a' : Option Addr} {n' c' : Nat} (h : Nodes w B bi oi l m nb KA KN KC K) (hp : p < m) (hk : k < m) (hw : Below w.heap.size w w0)
    (hown : w3.ownsRow B 163 1 (.slice a' n' c') n' (rowN nb (K p) ++ [ptrN (nb k)])) (hgr : w0.grownBy w3 (Value.slice (KA p) (KN p) (KC p)).ownBlock)
    (hat : (Value.slice a' n' c').ownBlock = (Value.slice (KA p) (KN p) (KC p)).ownBlock ∨ ∃ g, (Value.slice a' n' c').ownBlock = some g ∧ w0.heap.size ≤ g) :
    Nodes (w3.setCell ⟨nb p, 2, none⟩ (.slice a' n' c')) B bi oi l m nb (putA p a' KA) (putA p n' KN) (putA p c' KC) (putA p (K p ++ [k]) K) := by
  have h0 := h.below hw
  have ho := Only.grown hgr
  have hnr : ∀ j, j < m → ¬ (some (nb j) = (Value.slice (KA p) (KN p) (KC p)).ownBlock) := fun j hj e => h.off p j hp hj e.symm
  have hsz : w3.heap.size = (w3.setCell ⟨nb p, 2, none⟩ (.slice a' n' c')).heap.size := by simp
  have hl3 : ∀ j, j < m → nb j < w3.heap.size := fun j hj => Nat.lt_of_lt_of_le (h0.lt j hj).2 ho.size
  have k0 : ∀ j, j < m → ∀ i, w3.cell? ⟨nb j, i, none⟩ = w0.cell? ⟨nb j, i, none⟩ := fun j hj i => ho.cell (p := ⟨nb j, i, none⟩) (h0.lt j hj).2 (hnr j hj)
  have kf : ∀ j, j < m → ∀ i, w3.frozen? ⟨nb j, i, none⟩ = w0.frozen? ⟨nb j, i, none⟩ := fun j hj i => ho.frozen (p := ⟨nb j, i, none⟩) (h0.lt j hj).2 (hnr j hj)
  have hnew : ∀ j, j < m → (Value.slice a' n' c').ownBlock ≠ some (nb j) := fun j hj e => by
    rcases hat with q | ⟨g, q, hg⟩
    · exact h.off p j hp hj (q.symm.trans e)
    · rw [q] at e
      simp only [Option.some.injEq] at e
      have := (h0.lt j hj).2
      omega
  have hc : ∀ j, j = p ∨ j ≠ p := fun j => by omega
  refine ⟨fun j hj => ⟨(h.lt j hj).1, by rw [← hsz]; exact hl3 j hj⟩, fun j hj => ?_, fun j hj => ?_, fun j hj => ?_, fun j hj => ?_, fun j hj => ?_, fun j hj => ?_, h.one, fun i j hi hj => ?_, fun i j hi hj hij => ?_⟩
  · rw [World.cell?_setCell_other _ _ _ _ (fun e => absurd (congrArg Addr.off e) (show (2 : Nat) ≠ 0 by decide)), k0 j hj]
    exact h0.c0 j hj
  · rw [World.cell?_setCell_other _ _ _ _ (fun e => absurd (congrArg Addr.off e) (show (2 : Nat) ≠ 1 by decide)), k0 j hj]
    exact h0.c1 j hj
  · rcases hc j with rfl | e
    · rw [putA_at, putA_at, putA_at]
      exact World.cell?_setCell_same _ _ _ ((k0 j hj 2).trans (h0.c2 j hj))
    · rw [putA_ne _ _ e, putA_ne _ _ e, putA_ne _ _ e, World.cell?_setCell_other _ _ _ _ (fun q => h.one p j hp hj (fun r => e r.symm) (congrArg Addr.block q)), k0 j hj]
      exact h0.c2 j hj
  · rw [World.frozen?_setCell, kf j hj]
    exact h0.f2 j hj
  · rcases hc j with rfl | e
    · rw [putA_at, putA_at, putA_at, putA_at]
      have er : rowN nb (K j ++ [k]) = rowN nb (K j) ++ [ptrN (nb k)] := by simp [rowN]
      rw [er]
      exact owns_only hown (Only.set (P := fun i => i = nb j) w3 ⟨nb j, 2, none⟩ _ rfl) fun g hg q => hnew j hj (by rw [hg, q])
    · rw [putA_ne _ _ e, putA_ne _ _ e, putA_ne _ _ e, putA_ne _ _ e]
      have r3 := owns_only (h0.row j hj) ho fun g hg q => h.each p j hp hj (fun r => e r.symm) g q.symm hg
      exact owns_only r3 (Only.set (P := fun i => i = nb p) w3 ⟨nb p, 2, none⟩ _ rfl) fun g hg q => h.off j p hj hp (by rw [hg, q])
  · rcases hc j with rfl | e
    · rw [putA_at]
      intro q hq
      rw [List.mem_append, List.mem_singleton] at hq
      rcases hq with hq | rfl
      · exact h.kid j hj q hq
      · exact hk
    · rw [putA_ne _ _ e]
      exact h.kid j hj
  · rcases hc i with rfl | e
    · rw [putA_at, putA_at, putA_at]
      exact hnew j hj
    · rw [putA_ne _ _ e, putA_ne _ _ e, putA_ne _ _ e]
      exact h.off i j hi hj
  · have hne : ∀ j, j < m → j ≠ p → ∀ g, (Value.slice a' n' c').ownBlock = some g → (Value.slice (KA j) (KN j) (KC j)).ownBlock ≠ some g := fun j hj e g hg q => by
      rcases hat with r | ⟨g', r, hg'⟩
      · exact h.each p j hp hj (fun r => e r.symm) g (r.symm.trans hg) q
      · rw [r] at hg
        simp only [Option.some.injEq] at hg
        have := ((h0.row j hj).lt g q).2
        omega
    rcases hc i with rfl | e
    · rcases hc j with rfl | e2
      · exact absurd rfl hij
      · rw [putA_at, putA_at, putA_at, putA_ne _ _ e2, putA_ne _ _ e2, putA_ne _ _ e2]
        exact hne j hj e2
    · rcases hc j with rfl | e2
      · rw [putA_ne _ _ e, putA_ne _ _ e, putA_ne _ _ e, putA_at, putA_at, putA_at]
        intro g hg q
        exact hne i hi e g q hg
      · rw [putA_ne _ _ e, putA_ne _ _ e, putA_ne _ _ e, putA_ne _ _ e2, putA_ne _ _ e2, putA_ne _ _ e2]
        exact h.each i j hi hj hij
end
end Go.Proofs.YticpebpicdboaaaGreatDoor
