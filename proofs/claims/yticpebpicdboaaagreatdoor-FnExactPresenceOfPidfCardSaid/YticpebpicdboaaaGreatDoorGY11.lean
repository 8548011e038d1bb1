/- markItemS. -/
import Derived.Test.YticpebpicdboaaaGreatDoorGY10
import Derived.Maps.AppendAt
import Derived.IntWalk
namespace Go.Proofs.YticpebpicdboaaaGreatDoor
open Go.ChangeShapes Go.WideShapes Go.ChangeAt Go.RowKit
set_option linter.unusedVariables false

def kAt (k : Nat) (l : List It) : Nat → Nat
  | 0 => k
  | i + 1 => kAt k l i + 4 + 2 * (l.getD i dIt).attrs.length
theorem kAt_le (k : Nat) (l : List It) {i j : Nat} (h : i ≤ j) : kAt k l i ≤ kAt k l j := by
  induction j with
  | zero => obtain rfl : i = 0 := by omega
            exact Nat.le_refl _
  | succ j ih =>
    rcases Nat.lt_or_ge i (j + 1) with h1 | h1
    · have := ih (by omega)
      show _ ≤ kAt k l j + 4 + _
      omega
    · obtain rfl : i = j + 1 := by omega
      exact Nat.le_refl _
def markIt (k : Nat) (x : It) : It := ⟨(k : Int), markT (k + 1), markT (k + 2), markT (k + 3), markAts (k + 4) x.attrs.length⟩
def markIts (k : Nat) (l : List It) : List It := (List.range l.length).map fun i => markIt (kAt k l i) (l.getD i dIt)
theorem markIts_length (k : Nat) (l : List It) : (markIts k l).length = l.length := by simp [markIts]
theorem markIts_get (k : Nat) (l : List It) (i : Nat) (h : i < l.length) : (markIts k l).getD i dIt = markIt (kAt k l i) (l.getD i dIt) := by
  unfold markIts
  rw [List.getD_eq_getElem?_getD, List.getElem?_map, List.getElem?_range h]; rfl

/-- the marks are written, and only there -/
def MarkIts (w : World) (lo hi : Nat) (a : Option Addr) (n c k : Nat) (l : List It) (e : Ending) (w' : World) : Prop :=
  e = .returned (.int .i64 ((kAt k l n : Nat) : Int)) ∧ OwnIts w' lo hi a n c (markIts k l) ∧ Only (fun i => lo ≤ i ∧ i < hi) w w'

set_option maxRecDepth 100000 in
set_option maxHeartbeats 3200000 in
theorem markItemS_any (lo hi : Nat) (a : Option Addr) (n c k : Nat) (l : List It) (w : World) (h0 : 0 < k) (hK : kAt k l n ≤ 10000000000000000) (hA : ∀ i, i < n → (l.getD i dIt).attrs.length ≤ 1048576) (h : OwnIts w lo hi a n c l) :
    Calls Tryz.prog 62 #[.slice a n c, .int .i64 k] w (MarkIts w lo hi a n c k l) := by
  have hm := h.max
  have HL := Lib.hid h.len
  by_cases hz : n = 0
  · subst hz
    have HE : l = [] := List.length_eq_zero_iff.1 h.len
    subst HE
    clear h hK hA
    go_enter Tryz.func62, Tryz.ntmps62
    go_wp2
    go_loop [1, 5] (fun v i => i = .int .i64 0 ∧ v = .int .i64 k) (fun _ _ => 0)
    case atStart => exact ⟨rfl, rfl⟩
    case round =>
      obtain ⟨rfl, rfl⟩ := hrel
      go_wp2
      go_ret
      exact ⟨rfl, ⟨rfl, by omega, fun i hi => by omega, .inl rfl⟩, Only.refl _⟩
  · obtain ⟨b, A, N, C, rfl, hlo, hhi, hroom, hcs, hab, haa⟩ := h.row.resolve_left hz
    have HRoom := Lib.hid hroom
    have HCS := Lib.hid hcs
    have HAB := Lib.hid hab
    have HAA := Lib.hid haa
    have HK := Lib.hid hK
    have HA := Lib.hid hA
    clear h hroom hcs hab haa hK hA
    go_enter Tryz.func62, Tryz.ntmps62
    go_wp2
    go_loopw [1, 5] (fun v i wr => ∃ j : Nat, j ≤ n ∧ i = .int .i64 j ∧ v = .int .i64 ((kAt k l j : Nat) : Int) ∧ Room wr b (n * 5) ∧ (∀ i, i < j → OwnAt wr lo hi b i (markIt (kAt k l i) (l.getD i dIt)) (A i) (N i) (C i)) ∧ (∀ i, j ≤ i → i < n → OwnAt wr lo hi b i (l.getD i dIt) (A i) (N i) (C i)) ∧ Only (fun i => lo ≤ i ∧ i < hi) w wr) (fun _ i _ => n - (intOf i).toNat)
    case atStart => exact ⟨0, Nat.zero_le _, rfl, rfl, HRoom.out, fun i hi => by omega, fun i _ hi => HCS.out i hi, Only.refl _⟩
    case round =>
      obtain ⟨j, hj, rfl, rfl, hroom, hdone, hleft, ho⟩ := hrel
      have HROOM := Lib.hid hroom
      have HDONE := Lib.hid hdone
      have HLEFT := Lib.hid hleft
      have HO := Lib.hid ho
      clear hroom hdone hleft ho
      by_cases hlt : j < n
      · have HKJ : Hid (kAt k l (j + 1) = kAt k l j + 4 + 2 * (l.getD j dIt).attrs.length) := Lib.hid rfl
        have hle1 := kAt_le k l (i := 0) (j := j) (by omega)
        have hle2 := kAt_le k l (i := j) (j := n) (by omega)
        have hkk0 : 0 < kAt k l j := by show 0 < _; have : kAt k l 0 = k := rfl; omega
        have hkk1 : kAt k l j ≤ 10000000000000000 := by have := HK.out; omega
        clear hle1 hle2
        have hlen : (l.getD j dIt).attrs.length = N j := (HLEFT.out j (Nat.le_refl _) hlt).2.ats.len
        have hNj : N j ≤ 1048576 := by have := HA.out j hlt; omega
        have HLEN := Lib.hid hlen
        clear hlen
        obtain ⟨kk, hkk⟩ : ∃ kk, kAt k l j = kk := ⟨_, rfl⟩
        rw [hkk] at hkk0 hkk1
        have HKK := Lib.hid hkk
        rw [hkk]
        clear hkk
        have K1 := Lib.hid (markText_at kk 1 (by omega) (by omega))
        have K2 := Lib.hid (markText_at kk 2 (by omega) (by omega))
        have K3 := Lib.hid (markText_at kk 3 (by omega) (by omega))
        have q4 : kk ≤ 10000000000000000 := hkk1
        obtain ⟨⟨v0, p0⟩, f0⟩ := HROOM.out.2 (j * 5) (by omega)
        go_wp2_with fail
        refine (K1.out _).mono ?_
        rintro e w1 ⟨rfl, hb1⟩
        have HR1 := Lib.hid ((HROOM.out.set ⟨b, j * 5, none⟩ (.int .i64 kk)).below hb1)
        have HB1 := Lib.hid hb1
        clear hb1 p0 f0
        obtain ⟨⟨v1, p1⟩, f1⟩ := HR1.out.2 (j * 5 + 1) (by omega)
        go_wp2_with fail
        refine (K2.out _).mono ?_
        rintro e w2 ⟨rfl, hb2⟩
        have HR2 := Lib.hid ((HR1.out.set ⟨b, j * 5 + 1, none⟩ (.string (markT (kk + 1)))).below hb2)
        have HB2 := Lib.hid hb2
        clear hb2 p1 f1
        obtain ⟨⟨v2, p2⟩, f2⟩ := HR2.out.2 (j * 5 + 2) (by omega)
        go_wp2_with fail
        refine (K3.out _).mono ?_
        rintro e w3 ⟨rfl, hb3⟩
        have HR3 := Lib.hid ((HR2.out.set ⟨b, j * 5 + 2, none⟩ (.string (markT (kk + 2)))).below hb3)
        have HB3 := Lib.hid hb3
        clear hb3 p2 f2
        obtain ⟨⟨v3, p3⟩, f3⟩ := HR3.out.2 (j * 5 + 3) (by omega)
        -- what has become of the rows by now
        have hb0 := HROOM.out.1
        have hs0 : b < (wr.setCell ⟨b, j * 5, none⟩ (.int .i64 kk)).heap.size := by simpa using hb0
        have hs1 : b < (w1.setCell ⟨b, j * 5 + 1, none⟩ (.string (markT (kk + 1)))).heap.size := by simpa using HR1.out.1
        have hs2 : b < (w2.setCell ⟨b, j * 5 + 2, none⟩ (.string (markT (kk + 2)))).heap.size := by simpa using HR2.out.1
        have HON : Hid (Only (fun i => i = b) wr w3) := Lib.hid
          (((Only.set (P := fun i => i = b) wr ⟨b, j * 5, none⟩ _ rfl).trans (Only.below HB1.out)).trans (((Only.set (P := fun i => i = b) w1 ⟨b, j * 5 + 1, none⟩ _ rfl).trans (Only.below HB2.out)).trans ((Only.set (P := fun i => i = b) w2 ⟨b, j * 5 + 2, none⟩ _ rfl).trans (Only.below HB3.out))))
        have HC5 : Hid (∀ i x a n c, i ≠ j → Cells5 wr b i x a n c → Cells5 w3 b i x a n c) := Lib.hid fun i x a n c hij hc =>
          ((((((hc.set (by omega)).below hs0 HB1.out).set (by omega)).below hs1 HB2.out).set (by omega)).below hs2 HB3.out)
        have d4 : w3.cell? ⟨b, j * 5 + 4, none⟩ = some (.slice (A j) (N j) (C j)) := by
          rw [HB3.out.cell (by exact hs2), set_off (by omega), HB2.out.cell (by exact hs1), set_off (by omega), HB1.out.cell (by exact hs0), set_off (by omega)]
          exact (HLEFT.out j (Nat.le_refl _) hlt).1.c4
        have HD4 := Lib.hid d4
        have HD0 : Hid (w3.cell? ⟨b, j * 5, none⟩ = some (.int .i64 kk)) := Lib.hid (by
          rw [HB3.out.cell (by exact hs2), set_off (by omega), HB2.out.cell (by exact hs1), set_off (by omega), HB1.out.cell (by exact hs0)]
          exact HROOM.out.put (by omega) _)
        have HD1 : Hid (w3.cell? ⟨b, j * 5 + 1, none⟩ = some (.string (markT (kk + 1)))) := Lib.hid (by
          rw [HB3.out.cell (by exact hs2), set_off (by omega), HB2.out.cell (by exact hs1)]
          exact HR1.out.put (by omega) _)
        have HD2 : Hid (w3.cell? ⟨b, j * 5 + 2, none⟩ = some (.string (markT (kk + 2)))) := Lib.hid (by
          rw [HB3.out.cell (by exact hs2)]
          exact HR2.out.put (by omega) _)
        have HOA : Hid (OwnAts (w3.setCell ⟨b, j * 5 + 3, none⟩ (.string (markT (kk + 3)))) lo hi (A j) (N j) (C j) (l.getD j dIt).attrs) := Lib.hid
          ((HLEFT.out j (Nat.le_refl _) hlt).2.only (HON.out.trans (Only.set (P := fun i => i = b) w3 ⟨b, j * 5 + 3, none⟩ _ rfl)) (fun x hx hne => HAB.out j hlt x hx hne))
        have K4 := Lib.hid (markAttrS_any lo hi (A j) (N j) (C j) (kk + 4) (l.getD j dIt).attrs _ (by omega) hNj (by omega) HOA.out)
        clear hs0 hs1 hs2 hb0
        go_wp2_with fail
        refine K4.out.mono ?_
        rintro e w4 ⟨rfl, hown4, ho4⟩
        have HOWN4 := Lib.hid hown4
        have HO4 := Lib.hid ho4
        have HNB : Hid (¬ BlockOf (A j) (N j) b) := Lib.hid fun ⟨x, hx, hb, hne⟩ => HAB.out j hlt x hx hne hb
        clear hown4 ho4 d4 p3 f3
        go_wp2
        go_roundw
        case rel =>
          have hr3 := HR3.out.set ⟨b, j * 5 + 3, none⟩ (.string (markT (kk + 3)))
          have keep : ∀ i x, i < n → i ≠ j → OwnAt wr lo hi b i x (A i) (N i) (C i) → OwnAt w4 lo hi b i x (A i) (N i) (C i) := fun i x hi hij hx =>
            ⟨((HC5.out i x _ _ _ hij hx.1).set (by omega)).only hr3.1 HO4.out HNB.out,
              (hx.2.only (HON.out.trans (Only.set (P := fun i => i = b) w3 ⟨b, j * 5 + 3, none⟩ _ rfl)) (fun y hy hne => HAB.out i hi y hy hne)).only HO4.out
                (fun y hy hne ⟨z, hz, hzb, hzn⟩ => HAA.out i j hi hlt hij y z hy hz hne hzn hzb.symm)⟩
          refine ⟨j + 1, by omega, by go_num, ?_, hr3.only HO4.out HNB.out, fun i hi => ?_, fun i h1 h2 => keep i _ h2 (by omega) (HLEFT.out i (by omega) h2), ?_⟩
          · rw [HKJ.out, HKK.out, HLEN.out]
            congr 1
          · rcases Nat.lt_or_ge i j with h | h
            · exact keep i _ (by omega) (by omega) (HDONE.out i h)
            · obtain rfl : i = j := by omega
              rw [HKK.out]
              refine ⟨⟨?_, ?_, ?_, ?_, ?_, (HLEFT.out i (Nat.le_refl _) hlt).1.nil⟩, ?_⟩
              · rw [HO4.out.cell (by exact hr3.1) HNB.out, set_off (by omega)]; exact HD0.out
              · rw [HO4.out.cell (by exact hr3.1) HNB.out, set_off (by omega)]; exact HD1.out
              · rw [HO4.out.cell (by exact hr3.1) HNB.out, set_off (by omega)]; exact HD2.out
              · rw [HO4.out.cell (by exact hr3.1) HNB.out]; exact HR3.out.put (by omega) _
              · rw [HO4.out.cell (by exact hr3.1) HNB.out, set_off (by omega)]; exact HD4.out
              · have := HOWN4.out
                unfold markIt
                rw [HLEN.out]
                exact this
          · have hbi : ∀ i, i = b → lo ≤ i ∧ i < hi := fun i e => by omega
            refine HO.out.trans ((HON.out.mono hbi).trans ((Only.set w3 ⟨b, j * 5 + 3, none⟩ _ ⟨hlo, hhi⟩).trans (HO4.out.mono fun i hi => ?_)))
            obtain ⟨x, hx, hxb, hne⟩ := hi
            obtain ⟨b2, hb2, h1, h2, _⟩ := (HLEFT.out j (Nat.le_refl _) hlt).2.own.resolve_left hne
            rw [hx] at hb2
            cases hb2
            exact ⟨by rw [← hxb]; exact h1, by rw [← hxb]; exact h2⟩
        case measure => simp [intOf]; omega
      · obtain rfl : j = n := by omega
        go_wp2
        go_ret
        refine ⟨rfl, ⟨by rw [markIts_length]; exact HL.out, hm, fun i hi => ?_, .inr ⟨b, A, N, C, rfl, hlo, hhi, HROOM.out, fun i hi => by rw [markIts_get k l i (by have := HL.out; omega)]; exact HDONE.out i hi, HAB.out, HAA.out⟩⟩, HO.out⟩
        rw [markIts_get k l i (by have := HL.out; omega)]
        have hki := kAt_le k l (i := i) (j := j) (by omega)
        have hkb := HK.out
        refine ⟨⟨by show (-9223372036854775808 : Int) ≤ ((kAt k l i : Nat) : Int); omega, by show ((kAt k l i : Nat) : Int) ≤ 9223372036854775807; omega⟩, markT_size _ (by omega), markT_size _ (by omega), markT_size _ (by omega)⟩
end Go.Proofs.YticpebpicdboaaaGreatDoor

/- Rows of items that grow. -/
namespace Go.Proofs.YticpebpicdboaaaGreatDoor
open Go.ChangeShapes Go.WideShapes Go.ChangeAt Go.RowKit
set_option linter.unusedVariables false

/-- the cells of attributes in a row -/
def flatA (l : List At) : List Value := (List.range (l.length * 2)).map fun j => if j % 2 = 0 then .string (l.getD (j / 2) dAt).name else .string (l.getD (j / 2) dAt).value
theorem flatA_length (l : List At) : (flatA l).length = l.length * 2 := by simp [flatA]
theorem flatA_get (l : List At) (j : Nat) (h : j < l.length * 2) : (flatA l)[j]? = some (if j % 2 = 0 then .string (l.getD (j / 2) dAt).name else .string (l.getD (j / 2) dAt).value) := by
  unfold flatA
  rw [List.getElem?_map, List.getElem?_range h]; rfl
theorem flatA_name (l : List At) (i : Nat) (h : i < l.length) : (flatA l)[i * 2]? = some (.string (l.getD i dAt).name) := by
  rw [flatA_get l _ (by omega), if_pos (by omega), show i * 2 / 2 = i by omega]
theorem flatA_value (l : List At) (i : Nat) (h : i < l.length) : (flatA l)[i * 2 + 1]? = some (.string (l.getD i dAt).value) := by
  rw [flatA_get l _ (by omega), if_neg (by omega), show (i * 2 + 1) / 2 = i by omega]
theorem flatA_one (l : List At) : ∀ u ∈ flatA l, u.oneCell' = true := by
  intro u hu
  unfold flatA at hu
  rw [List.mem_map] at hu
  obtain ⟨j, _, rfl⟩ := hu
  split <;> rfl
theorem AtsAt.flat {w : World} {x : Addr} {n c : Nat} {l : List At} (h : AtsAt w (some x) n c l) : ∀ j u, (flatA l)[j]? = some u → w.cell? (x.add j) = some u := by
  intro j u hj
  have hlt : j < l.length * 2 := by
    rcases Nat.lt_or_ge j (l.length * 2) with h1 | h1
    · exact h1
    · rw [List.getElem?_eq_none (by rw [flatA_length]; exact h1)] at hj; cases hj
  rcases h.row with e | ⟨b, o, ha, _, hc⟩
  · have := h.len; omega
  · simp only [Option.some.injEq] at ha
    subst ha
    rw [Addr.add_lit]
    rw [flatA_get l j hlt] at hj
    simp only [Option.some.injEq] at hj
    have hi := hc (j / 2) (by have := h.len; omega)
    by_cases h2 : j % 2 = 0
    · rw [if_pos h2] at hj
      rw [← hj, ← hi.1, show o + j / 2 * 2 = o + j by omega]
    · rw [if_neg h2] at hj
      rw [← hj, ← hi.2, show o + j / 2 * 2 + 1 = o + j by omega]
/-- a row of one's own that holds these cells reads as these attributes -/
theorem ownAts_of {w : World} {B : Nat} {T : TypeId} {a : Option Addr} {n c : Nat} {l : List At} (h : w.ownsRow B T 2 (.slice a n c) n (flatA l)) (hn : n ≤ 9223372036854775807)
    (hs : ∀ i, (l.getD i dAt).name.size ≤ 9223372036854775807 ∧ (l.getD i dAt).value.size ≤ 9223372036854775807) : OwnAts w B w.heap.size a n c l := by
  have hl : l.length = n := by have := h.1; rw [flatA_length] at this; omega
  rcases h.2 with ⟨hv, h0⟩ | ⟨g, cap, cur, hv, hg, hb, _⟩
  · exact ⟨⟨hl, hn, hs, .inl h0⟩, .inl h0⟩
  · simp only [Value.slice.injEq] at hv
    obtain ⟨rfl, _, rfl⟩ := hv
    have hr := room_made h
    refine ⟨⟨hl, hn, hs, .inr ⟨g, 0, rfl, hr.1, fun i hi => ?_⟩⟩, .inr ⟨g, rfl, hg, hr.1, hr⟩⟩
    rw [Nat.zero_add, h.cellAt _ (by omega), h.cellAt _ (by omega)]
    exact ⟨flatA_name l i (by omega), flatA_value l i (by omega)⟩

theorem lit_behind2 (w : World) (o1 o2 : Obj) : (((w.alloc o1).alloc o2).alloc (.cells #[] 75)).ownsRow w.heap.size 75 2 (.slice (some ⟨w.heap.size + 1 + 1, 0, none⟩) 0 0) 0 [] := by
  have := World.ownsRow_lit (base := w.heap.size) (e := 75) (size := 2) ((w.alloc o1).alloc o2) #[] 0 (by simp; omega) (by unfold maxLen; omega) rfl
  simpa using this
theorem Only.grown {w w' : World} {r : Option Nat} (h : w.grownBy w' r) : Only (fun i => some i = r) w w' := ⟨h.os, h.tape, h.output, h.size, fun i hi hn => h.block i hi hn⟩

/-- the cells of items in a row -/
def cellI (l : List It) (A : Nat → Option Addr) (N C : Nat → Nat) (j : Nat) : Value :=
  if j % 5 = 0 then .int .i64 (l.getD (j / 5) dIt).depth else if j % 5 = 1 then .string (l.getD (j / 5) dIt).text else if j % 5 = 2 then .string (l.getD (j / 5) dIt).space else if j % 5 = 3 then .string (l.getD (j / 5) dIt).name else .slice (A (j / 5)) (N (j / 5)) (C (j / 5))
def flatI (l : List It) (A : Nat → Option Addr) (N C : Nat → Nat) : List Value := (List.range (l.length * 5)).map (cellI l A N C)
theorem flatI_length (l : List It) (A : Nat → Option Addr) (N C : Nat → Nat) : (flatI l A N C).length = l.length * 5 := by simp [flatI]
theorem flatI_get (l : List It) (A : Nat → Option Addr) (N C : Nat → Nat) (j : Nat) (h : j < l.length * 5) : (flatI l A N C)[j]? = some (cellI l A N C j) := by
  unfold flatI
  rw [List.getElem?_map, List.getElem?_range h]; rfl
def putA {α : Type} (n : Nat) (a : α) (A : Nat → α) (i : Nat) : α := if i = n then a else A i
theorem flatI_snoc (l : List It) (A : Nat → Option Addr) (N C : Nat → Nat) (x : It) (a : Option Addr) (n c : Nat) :
    flatI (l ++ [x]) (putA l.length a A) (putA l.length n N) (putA l.length c C) = flatI l A N C ++ [.int .i64 x.depth, .string x.text, .string x.space, .string x.name, .slice a n c] := by
  apply List.ext_getElem?
  intro j
  have hx : (l ++ [x]).getD l.length dIt = x := by simp [List.getD_eq_getElem?_getD]
  have hl : ∀ i, i < l.length → (l ++ [x]).getD i dIt = l.getD i dIt := fun i hi => by simp [List.getD_eq_getElem?_getD, List.getElem?_append_left hi]
  by_cases h1 : j < l.length * 5
  · have h2 : j / 5 < l.length := by omega
    rw [flatI_get _ _ _ _ _ (by simp; omega), List.getElem?_append_left (by rw [flatI_length]; exact h1), flatI_get _ _ _ _ _ h1]
    have g : ∀ {α : Type} (u : α) (F : Nat → α), putA l.length u F (j / 5) = F (j / 5) := fun u F => by unfold putA; rw [if_neg (by omega)]
    unfold cellI
    rw [hl _ h2, g, g, g]
  · by_cases h3 : j < (l.length + 1) * 5
    · rw [flatI_get _ _ _ _ _ (by simp; omega), List.getElem?_append_right (by rw [flatI_length]; omega), flatI_length]
      have h4 : j / 5 = l.length := by omega
      unfold cellI putA
      rw [h4, hx, if_pos rfl, if_pos rfl, if_pos rfl]
      obtain ⟨q, rfl⟩ : ∃ q, j = l.length * 5 + q := ⟨j - l.length * 5, by omega⟩
      have hq : q < 5 := by omega
      rw [show (l.length * 5 + q) % 5 = q by omega, Nat.add_sub_cancel_left]
      match q, hq with
      | 0, _ => rfl
      | 1, _ => rfl
      | 2, _ => rfl
      | 3, _ => rfl
      | 4, _ => rfl
    · rw [List.getElem?_eq_none (by rw [flatI_length]; simp; omega), List.getElem?_eq_none (by rw [List.length_append, flatI_length]; simp; omega)]

/-- a row of items that grows -/
structure GrowIts (w : World) (B : Nat) (v : Value) (n : Nat) (l : List It) (A : Nat → Option Addr) (N C : Nat → Nat) : Prop where
  row : w.ownsRow B 77 5 v n (flatI l A N C)
  ats : ∀ i, i < l.length → OwnAts w B w.heap.size (A i) (N i) (C i) (l.getD i dIt).attrs ∧ (A i = none → C i = 0)
  apart : ∀ i, i < l.length → ∀ x, A i = some x → N i ≠ 0 → v.ownBlock ≠ some x.block
  each : ∀ i j, i < l.length → j < l.length → i ≠ j → ∀ x y, A i = some x → A j = some y → N i ≠ 0 → N j ≠ 0 → x.block ≠ y.block
theorem GrowIts.len {w : World} {B : Nat} {v : Value} {n : Nat} {l : List It} {A : Nat → Option Addr} {N C : Nat → Nat} (h : GrowIts w B v n l A N C) : l.length = n := by
  have := h.row.1
  rw [flatI_length] at this
  omega
theorem OwnAts.in {w : World} {lo hi : Nat} {a : Option Addr} {n c : Nat} {l : List At} (h : OwnAts w lo hi a n c l) {x : Addr} (hx : a = some x) (hn : n ≠ 0) : lo ≤ x.block ∧ x.block < hi := by
  obtain ⟨b, hb, h1, h2, _⟩ := h.own.resolve_left hn
  rw [hx] at hb
  cases hb
  exact ⟨h1, h2⟩
theorem GrowIts.below {w w' : World} {B : Nat} {v : Value} {n : Nat} {l : List It} {A : Nat → Option Addr} {N C : Nat → Nat} (h : GrowIts w B v n l A N C) (hb : Below w.heap.size w w') : GrowIts w' B v n l A N C := by
  refine ⟨owns_below h.row hb, fun i hi => ⟨?_, (h.ats i hi).2⟩, h.apart, h.each⟩
  have h1 := (h.ats i hi).1.only (Only.below (P := fun _ => False) hb) fun _ _ _ h => h
  exact ⟨h1.ats, h1.own.imp id fun ⟨b, g1, g2, g3, g4⟩ => ⟨b, g1, g2, by have := hb.size; omega, g4⟩⟩
/-- behind an append of one item -/
theorem GrowIts.snoc {w w0 w1 : World} {B : Nat} {v v' : Value} {n : Nat} {l : List It} {A : Nat → Option Addr} {N C : Nat → Nat} {x : It} {a : Option Addr} {m c : Nat}
    (h : GrowIts w B v n l A N C) (hw : Below w.heap.size w w0) (ha : OwnAts w0 w.heap.size w0.heap.size a m c x.attrs) (hnil : a = none → c = 0) (hB : B ≤ w.heap.size)
    (hr : w1.ownsRow B 77 5 v' (n + 1) (flatI l A N C ++ [.int .i64 x.depth, .string x.text, .string x.space, .string x.name, .slice a m c])) (hg : w0.grownBy w1 v.ownBlock)
    (hv : v'.ownBlock = v.ownBlock ∨ ∃ g, v'.ownBlock = some g ∧ w0.heap.size ≤ g) :
    GrowIts w1 B v' (n + 1) (l ++ [x]) (putA l.length a A) (putA l.length m N) (putA l.length c C) := by
  have hon := Only.grown hg
  have hs0 := hw.size
  have hs1 := hg.size
  have hvlt : ∀ g, v.ownBlock = some g → g < w.heap.size := fun g hgb => (h.row.lt g hgb).2
  have hx : (l ++ [x]).getD l.length dIt = x := by simp [List.getD_eq_getElem?_getD]
  have hl : ∀ i, i < l.length → (l ++ [x]).getD i dIt = l.getD i dIt := fun i hi => by simp [List.getD_eq_getElem?_getD, List.getElem?_append_left hi]
  have hold : ∀ i, i < l.length → ∀ y, A i = some y → N i ≠ 0 → B ≤ y.block ∧ y.block < w.heap.size := fun i hi y hy hne => (h.ats i hi).1.in hy hne
  refine ⟨by rw [flatI_snoc]; exact hr, fun i hi => ?_, fun i hi y hy hne => ?_, fun i j hi hj hij y z hy hz hny hnz => ?_⟩
  · rw [List.length_append] at hi
    simp only [List.length_cons, List.length_nil] at hi
    by_cases e : i = l.length
    · subst e
      unfold putA
      rw [if_pos rfl, if_pos rfl, if_pos rfl, hx]
      have h1 := ha.only hon fun y hy hne hq => by
        have g1 := (ha.in hy hne).1
        have g2 := hvlt y.block hq.symm
        omega
      exact ⟨⟨h1.ats, h1.own.imp id fun ⟨b, g1, g2, g3, g4⟩ => ⟨b, g1, by omega, by omega, g4⟩⟩, hnil⟩
    · have hi2 : i < l.length := by omega
      unfold putA
      rw [if_neg e, if_neg e, if_neg e, hl i hi2]
      have h0 := (h.ats i hi2).1.only (Only.below (P := fun _ => False) hw) fun _ _ _ h => h
      have h1 := h0.only hon fun y hy hne hq => h.apart i hi2 y hy hne hq.symm
      exact ⟨⟨h1.ats, h1.own.imp id fun ⟨b, g1, g2, g3, g4⟩ => ⟨b, g1, g2, by omega, g4⟩⟩, (h.ats i hi2).2⟩
  · rw [List.length_append] at hi
    simp only [List.length_cons, List.length_nil] at hi
    unfold putA at hy hne
    by_cases e : i = l.length
    · rw [if_pos e] at hy hne
      have g1 := ha.in hy hne
      rcases hv with hv | ⟨g, hv, hg2⟩
      · rw [hv]
        intro hq
        have g2 := hvlt _ hq
        omega
      · rw [hv]
        intro hq
        simp only [Option.some.injEq] at hq
        omega
    · rw [if_neg e] at hy hne
      have g1 := hold i (by omega) y hy hne
      rcases hv with hv | ⟨g, hv, hg2⟩
      · rw [hv]
        exact h.apart i (by omega) y hy hne
      · rw [hv]
        intro hq
        simp only [Option.some.injEq] at hq
        omega
  · rw [List.length_append] at hi hj
    simp only [List.length_cons, List.length_nil] at hi hj
    unfold putA at hy hz hny hnz
    by_cases e : i = l.length
    · rw [if_pos e] at hy hny
      rw [if_neg (by omega)] at hz hnz
      have g1 := ha.in hy hny
      have g2 := hold j (by omega) z hz hnz
      omega
    · rw [if_neg e] at hy hny
      have g2 := hold i (by omega) y hy hny
      by_cases e2 : j = l.length
      · rw [if_pos e2] at hz hnz
        have g1 := ha.in hz hnz
        omega
      · rw [if_neg e2] at hz hnz
        exact h.each i j (by omega) (by omega) hij y z hy hz hny hnz
/-- behind an append of one item, where one block below was written -/
theorem GrowIts.snocO {w w0 w1 : World} {B : Nat} {P : Nat → Prop} {v v' : Value} {n : Nat} {l : List It} {A : Nat → Option Addr} {N C : Nat → Nat} {x : It} {a : Option Addr} {m c : Nat}
    (h : GrowIts w B v n l A N C) (hw : Only P w w0) (hP : ∀ i, B ≤ i → ¬ P i) (ha : OwnAts w0 w.heap.size w0.heap.size a m c x.attrs) (hnil : a = none → c = 0) (hB : B ≤ w.heap.size)
    (hr : w1.ownsRow B 77 5 v' (n + 1) (flatI l A N C ++ [.int .i64 x.depth, .string x.text, .string x.space, .string x.name, .slice a m c])) (hg : w0.grownBy w1 v.ownBlock)
    (hv : v'.ownBlock = v.ownBlock ∨ ∃ g, v'.ownBlock = some g ∧ w0.heap.size ≤ g) :
    GrowIts w1 B v' (n + 1) (l ++ [x]) (putA l.length a A) (putA l.length m N) (putA l.length c C) := by
  have hon := Only.grown hg
  have hs0 := hw.size
  have hs1 := hg.size
  have hvlt : ∀ g, v.ownBlock = some g → g < w.heap.size := fun g hgb => (h.row.lt g hgb).2
  have hx : (l ++ [x]).getD l.length dIt = x := by simp [List.getD_eq_getElem?_getD]
  have hl : ∀ i, i < l.length → (l ++ [x]).getD i dIt = l.getD i dIt := fun i hi => by simp [List.getD_eq_getElem?_getD, List.getElem?_append_left hi]
  have hold : ∀ i, i < l.length → ∀ y, A i = some y → N i ≠ 0 → B ≤ y.block ∧ y.block < w.heap.size := fun i hi y hy hne => (h.ats i hi).1.in hy hne
  refine ⟨by rw [flatI_snoc]; exact hr, fun i hi => ?_, fun i hi y hy hne => ?_, fun i j hi hj hij y z hy hz hny hnz => ?_⟩
  · rw [List.length_append] at hi
    simp only [List.length_cons, List.length_nil] at hi
    by_cases e : i = l.length
    · subst e
      unfold putA
      rw [if_pos rfl, if_pos rfl, if_pos rfl, hx]
      have h1 := ha.only hon fun y hy hne hq => by
        have g1 := (ha.in hy hne).1
        have g2 := hvlt y.block hq.symm
        omega
      exact ⟨⟨h1.ats, h1.own.imp id fun ⟨b, g1, g2, g3, g4⟩ => ⟨b, g1, by omega, by omega, g4⟩⟩, hnil⟩
    · have hi2 : i < l.length := by omega
      unfold putA
      rw [if_neg e, if_neg e, if_neg e, hl i hi2]
      have h0 := (h.ats i hi2).1.only hw fun y hy hne => hP _ ((h.ats i hi2).1.in hy hne).1
      have h1 := h0.only hon fun y hy hne hq => h.apart i hi2 y hy hne hq.symm
      exact ⟨⟨h1.ats, h1.own.imp id fun ⟨b, g1, g2, g3, g4⟩ => ⟨b, g1, g2, by omega, g4⟩⟩, (h.ats i hi2).2⟩
  · rw [List.length_append] at hi
    simp only [List.length_cons, List.length_nil] at hi
    unfold putA at hy hne
    by_cases e : i = l.length
    · rw [if_pos e] at hy hne
      have g1 := ha.in hy hne
      rcases hv with hv | ⟨g, hv, hg2⟩
      · rw [hv]
        intro hq
        have g2 := hvlt _ hq
        omega
      · rw [hv]
        intro hq
        simp only [Option.some.injEq] at hq
        omega
    · rw [if_neg e] at hy hne
      have g1 := hold i (by omega) y hy hne
      rcases hv with hv | ⟨g, hv, hg2⟩
      · rw [hv]
        exact h.apart i (by omega) y hy hne
      · rw [hv]
        intro hq
        simp only [Option.some.injEq] at hq
        omega
  · rw [List.length_append] at hi hj
    simp only [List.length_cons, List.length_nil] at hi hj
    unfold putA at hy hz hny hnz
    by_cases e : i = l.length
    · rw [if_pos e] at hy hny
      rw [if_neg (by omega)] at hz hnz
      have g1 := ha.in hy hny
      have g2 := hold j (by omega) z hz hnz
      omega
    · rw [if_neg e] at hy hny
      have g2 := hold i (by omega) y hy hny
      by_cases e2 : j = l.length
      · rw [if_pos e2] at hz hnz
        have g1 := ha.in hz hnz
        omega
      · rw [if_neg e2] at hz hnz
        exact h.each i j (by omega) (by omega) hij y z hy hz hny hnz
/-- the row that has grown is of one's own, item by item -/
theorem GrowIts.own {w : World} {B : Nat} {a : Option Addr} {n c : Nat} {l : List It} {A : Nat → Option Addr} {N C : Nat → Nat} (h : GrowIts w B (.slice a n c) n l A N C) (hn : n ≤ 1048576)
    (hit : ∀ i, i < n → (-9223372036854775808 ≤ (l.getD i dIt).depth ∧ (l.getD i dIt).depth ≤ 9223372036854775807) ∧ ((l.getD i dIt).text.size ≤ 9223372036854775807 ∧ (l.getD i dIt).space.size ≤ 9223372036854775807 ∧ (l.getD i dIt).name.size ≤ 9223372036854775807)) :
    OwnIts w B w.heap.size a n c l := by
  refine ⟨h.len, hn, hit, ?_⟩
  have hlen := h.len
  rcases h.row.2 with ⟨hv, h0⟩ | ⟨g, cap, cur, hv, hg, hb, _⟩
  · exact .inl h0
  · simp only [Value.slice.injEq] at hv
    obtain ⟨rfl, _, rfl⟩ := hv
    have hr := room_made h.row
    refine .inr ⟨g, A, N, C, rfl, hg, hr.1, hr, fun i hi => ⟨?_, (h.ats i (by omega)).1⟩, fun i hi x hx hne hq => h.apart i (by omega) x hx hne (by simp [Value.ownBlock, hq]), fun i j hi hj => h.each i j (by omega) (by omega)⟩
    have hc : ∀ q, q < 5 → w.cell? ⟨g, i * 5 + q, none⟩ = some (cellI l A N C (i * 5 + q)) := fun q hq => by
      rw [h.row.cellAt _ (by omega), flatI_get _ _ _ _ _ (by omega)]
    refine ⟨?_, ?_, ?_, ?_, ?_, (h.ats i (by omega)).2⟩
    · have := hc 0 (by omega); unfold cellI at this; rwa [show (i * 5 + 0) % 5 = 0 by omega, if_pos rfl, show (i * 5 + 0) / 5 = i by omega] at this
    · have := hc 1 (by omega); unfold cellI at this; rwa [show (i * 5 + 1) % 5 = 1 by omega, if_neg (by omega), if_pos rfl, show (i * 5 + 1) / 5 = i by omega] at this
    · have := hc 2 (by omega); unfold cellI at this; rwa [show (i * 5 + 2) % 5 = 2 by omega, if_neg (by omega), if_neg (by omega), if_pos rfl, show (i * 5 + 2) / 5 = i by omega] at this
    · have := hc 3 (by omega); unfold cellI at this; rwa [show (i * 5 + 3) % 5 = 3 by omega, if_neg (by omega), if_neg (by omega), if_neg (by omega), if_pos rfl, show (i * 5 + 3) / 5 = i by omega] at this
    · have := hc 4 (by omega); unfold cellI at this; rwa [show (i * 5 + 4) % 5 = 4 by omega, if_neg (by omega), if_neg (by omega), if_neg (by omega), if_neg (by omega), show (i * 5 + 4) / 5 = i by omega] at this

theorem lit_item (w : World) : (w.alloc (.cells #[] 77)).ownsRow w.heap.size 77 5 (.slice (some ⟨w.heap.size, 0, none⟩) 0 0) 0 [] := by
  have := World.ownsRow_lit (base := w.heap.size) (e := 77) (size := 5) w #[] 0 (Nat.le_refl _) (by unfold maxLen; omega) rfl
  simpa using this
/-- items from a place up to another one, deeper by so much -/
def movedTo (l : List It) (f k : Nat) (by_ : Int) : List It := (List.range (k - f)).map fun i => ⟨(l.getD (f + i) dIt).depth + by_, (l.getD (f + i) dIt).text, (l.getD (f + i) dIt).space, (l.getD (f + i) dIt).name, (l.getD (f + i) dIt).attrs⟩
theorem movedTo_length (l : List It) (f k : Nat) (by_ : Int) : (movedTo l f k by_).length = k - f := by simp [movedTo]
theorem movedTo_step (l : List It) {f k : Nat} (h : f ≤ k) (by_ : Int) : movedTo l f (k + 1) by_ = movedTo l f k by_ ++ [⟨(l.getD k dIt).depth + by_, (l.getD k dIt).text, (l.getD k dIt).space, (l.getD k dIt).name, (l.getD k dIt).attrs⟩] := by
  unfold movedTo
  rw [show k + 1 - f = (k - f) + 1 by omega, List.range_succ, List.map_append, List.map_cons, List.map_nil, show f + (k - f) = k by omega]
theorem movedTo_get (l : List It) (f k : Nat) (by_ : Int) (i : Nat) (h : i < k - f) : (movedTo l f k by_).getD i dIt = ⟨(l.getD (f + i) dIt).depth + by_, (l.getD (f + i) dIt).text, (l.getD (f + i) dIt).space, (l.getD (f + i) dIt).name, (l.getD (f + i) dIt).attrs⟩ := by
  unfold movedTo
  rw [List.getD_eq_getElem?_getD, List.getElem?_map, List.getElem?_range h]; rfl

end Go.Proofs.YticpebpicdboaaaGreatDoor

/- spec.l7Attr, spec.l7Leaf: rows of attributes and of items that grow. -/
namespace Go.Proofs.YticpebpicdboaaaGreatDoor
open Go.ChangeShapes Go.WideShapes Go.ChangeAt Go.RowKit
set_option linter.unusedVariables false

/-- an attribute more, if it says anything -/
def addAt (es : List At) (nm s : ByteArray) : List At := if s.toList.isEmpty then es else es ++ [⟨nm, s⟩]
theorem flatA_more (es : List At) (nm s : ByteArray) : flatA (es ++ [⟨nm, s⟩]) = flatA es ++ [.string nm, .string s] := by
  apply List.ext_getElem?
  intro j
  by_cases h1 : j < es.length * 2
  · rw [flatA_get _ _ (by simp; omega), List.getElem?_append_left (by rw [flatA_length]; exact h1), flatA_get _ _ h1]
    have e : (es ++ [(⟨nm, s⟩ : At)]).getD (j / 2) dAt = es.getD (j / 2) dAt := by rw [List.getD_eq_getElem?_getD, List.getElem?_append_left (by omega), ← List.getD_eq_getElem?_getD]
    rw [e]
  · by_cases h2 : j < (es.length + 1) * 2
    · rw [flatA_get _ _ (by simp; omega), List.getElem?_append_right (by rw [flatA_length]; omega), flatA_length]
      have e : (es ++ [(⟨nm, s⟩ : At)]).getD (j / 2) dAt = ⟨nm, s⟩ := by
        rw [List.getD_eq_getElem?_getD, List.getElem?_append_right (by omega), show j / 2 - es.length = 0 by omega]; rfl
      rw [e]
      rcases Nat.lt_or_ge j (es.length * 2 + 1) with h3 | h3
      · rw [show j - es.length * 2 = 0 by omega, if_pos (by omega)]; rfl
      · rw [show j - es.length * 2 = 1 by omega, if_neg (by omega)]; rfl
    · rw [List.getElem?_eq_none (by rw [flatA_length]; simp; omega), List.getElem?_eq_none (by rw [List.length_append, flatA_length]; simp; omega)]
theorem atCells (W : World) (x y : ByteArray) (j : Nat) (u : Value) (hj : [Value.string x, Value.string y][j]? = some u) : ((W.alloc (.cells #[.string x, .string y] 75))).cell? (Addr.add ⟨W.heap.size, 0, none⟩ j) = some u := by
  match j, hj with
  | 0, hj => simp at hj; subst hj; simp [Addr.add]
  | 1, hj => simp at hj; subst hj; simp [Addr.add]
theorem itemCells (W : World) (v0 v1 v2 v3 v4 : Value) (j : Nat) (u : Value) (hj : [v0, v1, v2, v3, v4][j]? = some u) : ((W.alloc (.cells #[v0, v1, v2, v3, v4] 77))).cell? (Addr.add ⟨W.heap.size, 0, none⟩ j) = some u := by
  match j, hj with
  | 0, hj => simp at hj; subst hj; simp [Addr.add]
  | 1, hj => simp at hj; subst hj; simp [Addr.add]
  | 2, hj => simp at hj; subst hj; simp [Addr.add]
  | 3, hj => simp at hj; subst hj; simp [Addr.add]
  | 4, hj => simp at hj; subst hj; simp [Addr.add]
/-- a row of attributes with one more, if it says anything -/
def AttrRes (w : World) (B : Nat) (v : Value) (es : List At) (en : Ending) (w' : World) : Prop :=
  ∃ (a : Option Addr) (n c : Nat), en = .returned (.slice a n c) ∧ w'.ownsRow B 75 2 (.slice a n c) n (flatA es) ∧ w.grownBy w' v.ownBlock ∧ ((Value.slice a n c).ownBlock = v.ownBlock ∨ ∃ g, (Value.slice a n c).ownBlock = some g ∧ w.heap.size ≤ g)
set_option maxHeartbeats 1600000 in
theorem l7Attr_any (B : Nat) (a : Option Addr) (n c : Nat) (es : List At) (nm s : ByteArray) (w : World) (hB : B ≤ w.heap.size) (hn : n ≤ 1000) (h : w.ownsRow B 75 2 (.slice a n c) n (flatA es)) :
    Calls Tryz.prog 140 #[.slice a n c, .string nm, .string s] w (AttrRes w B (.slice a n c) (addAt es nm s)) := by
  obtain ⟨i0, hi, hz0, hi1, hz2⟩ := info_parts attrInfo
  have H := Lib.hid h
  unfold AttrRes addAt
  clear h
  cases he : s.toList.isEmpty
  · rw [if_neg (by simp)]
    go_enter Tryz.func140, Tryz.ntmps140
    go_wp2_with (at_builtin; refine wpList_append_own_at _ rfl _ _ 72 rfl B 75 i0 (.agg #[.string ByteArray.empty, .string ByteArray.empty]) 2 32 Tryz.underlying72 hi hz0 hi1 hz2 rfl (by decide) _ n _ rfl (owns_below H.out (below1 _ _)) ⟨w.heap.size, 0, none⟩ 1 1 [.string nm, .string s] rfl rfl ?c1 ?c2 ?c3 ?c4 ?c5 ?_)
    case c1 => exact atCells w nm s
    case c2 => intro v hv; simp at hv; rcases hv with rfl | rfl <;> rfl
    case c3 => unfold maxLen; omega
    case c4 => omega
    case c5 => simp; omega
    intro v' w1 hown hgr _ hat
    obtain ⟨a8, c8, rfl⟩ := owns_slice hown
    have R : Hid (w1.ownsRow B 75 2 (.slice a8 (n + 1) c8) (n + 1) (flatA (es ++ [⟨nm, s⟩]))) := Lib.hid (by rw [flatA_more]; exact hown)
    have G := Lib.hid (show w.grownBy w1 (Value.slice a n c).ownBlock from grown_trans_row ((fun h => (⟨h.os, h.tape, h.output, h.size, fun i hi _ => h.block i hi⟩ : w.grownBy _ (Value.slice a n c).ownBlock)) (below1 w (.cells #[.string nm, .string s] 75))) hgr)
    have AT := Lib.hid (hat.imp id fun e => (⟨w.heap.size + 1, by simpa using e, by omega⟩ : ∃ g, (Value.slice a8 (n + 1) c8).ownBlock = some g ∧ w.heap.size ≤ g))
    clear hown hgr hat
    go_wp2
    go_ret
    exact ⟨_, _, _, rfl, R.out, G.out, AT.out⟩
  · rw [if_pos rfl]
    go_enter Tryz.func140, Tryz.ntmps140
    go_wp2
    go_ret
    exact ⟨a, n, c, rfl, H.out, World.grownBy.refl _ _, .inl rfl⟩

/-- an element with a text in it -/
def leafL (d : Int) (sp nm t : ByteArray) : List It := ⟨d, ByteArray.empty, sp, nm, []⟩ :: (if t.toList.isEmpty then [] else [⟨d + 1, t, ByteArray.empty, ByteArray.empty, []⟩])
/-- a row of items that has grown -/
def GrownRes (w : World) (B : Nat) (v : Value) (l : List It) (en : Ending) (w' : World) : Prop :=
  ∃ (a : Option Addr) (n c : Nat) (A : Nat → Option Addr) (N C : Nat → Nat), en = .returned (.slice a n c) ∧ GrowIts w' B (.slice a n c) n l A N C ∧ w.grownBy w' v.ownBlock ∧ ((Value.slice a n c).ownBlock = v.ownBlock ∨ ∃ g, (Value.slice a n c).ownBlock = some g ∧ w.heap.size ≤ g)
theorem bareAts (w : World) (lo hi : Nat) : OwnAts w lo hi none 0 0 [] := ⟨⟨rfl, by omega, fun i => by simp [dAt], .inl rfl⟩, .inl rfl⟩
end Go.Proofs.YticpebpicdboaaaGreatDoor

/- spec.l7Leaf. -/
namespace Go.Proofs.YticpebpicdboaaaGreatDoor
open Go.ChangeShapes Go.WideShapes Go.ChangeAt Go.RowKit
set_option linter.unusedVariables false

theorem grown_made {w : World} (o : Obj) (r : Option Nat) : w.grownBy (w.alloc o) r := (fun h => ⟨h.os, h.tape, h.output, h.size, fun i hi _ => h.block i hi⟩ : Below w.heap.size w (w.alloc o) → _) (below1 w o)
theorem grown_in {a b c : World} {x : Option Nat} {g : Nat} (h : a.grownBy b x) (hg : b.grownBy c (some g)) (hr : a.heap.size ≤ g) : a.grownBy c x :=
  ⟨hg.os.trans h.os, hg.tape.trans h.tape, hg.output.trans h.output, Nat.le_trans h.size hg.size, fun i hi hne => (hg.block i (Nat.lt_of_lt_of_le hi h.size) (fun e => by cases e; omega)).trans (h.block i hi hne)⟩
set_option maxRecDepth 100000 in
set_option maxHeartbeats 3200000 in
theorem l7Leaf_any (B : Nat) (a : Option Addr) (n c : Nat) (l : List It) (A : Nat → Option Addr) (N C : Nat → Nat) (d : Int) (sp nm t : ByteArray) (w : World) (hB : B ≤ w.heap.size) (hn : n ≤ 1000) (hd : -1000 ≤ d ∧ d ≤ 1000) (h : GrowIts w B (.slice a n c) n l A N C) :
    Calls Tryz.prog 75 #[.slice a n c, .int .i64 d, .string sp, .string nm, .string t] w (GrownRes w B (.slice a n c) (l ++ leafL d sp nm t)) := by
  obtain ⟨i0, hi, hz0, hi1, hz2⟩ := info_parts itemInfo
  have hw1 : IntKind.i64.wrap (d + 1) = d + 1 := IntWalk.i64_in _ (by omega)
  have hw2 : wrap64 (d + 1) = d + 1 := IntWalk.wrap64_in _ (by omega)
  have H := Lib.hid h
  unfold GrownRes leafL
  obtain ⟨tl, ht⟩ : ∃ tl, (if t.toList.isEmpty then [] else [(⟨d + 1, t, ByteArray.empty, ByteArray.empty, []⟩ : It)]) = tl := ⟨_, rfl⟩
  rw [ht]
  have HTL := Lib.hid ht
  clear h ht
  go_enter Tryz.func75, Tryz.ntmps75
  go_wp2_with (at_builtin; refine wpList_append_own_at _ rfl _ _ 24 rfl B 77 i0 (.agg #[.int .i64 0, .string ByteArray.empty, .string ByteArray.empty, .string ByteArray.empty, .slice none 0 0]) 5 80 Tryz.underlying24 hi hz0 hi1 hz2 rfl (by decide) _ n _ rfl (H.out.row.alloc _) ⟨w.heap.size, 0, none⟩ 1 1 [.int .i64 d, .string ⟨#[]⟩, .string sp, .string nm, .slice none 0 0] rfl rfl ?c1 ?c2 ?c3 ?c4 ?c5 ?_)
  case c1 => exact fun j u hj => itemCells w _ _ _ _ _ j u hj
  case c2 => intro v hv; simp at hv; rcases hv with rfl | rfl | rfl | rfl | rfl <;> rfl
  case c3 => unfold maxLen; omega
  case c4 => omega
  case c5 => simp; omega
  intro v' w1 hown hgr _ hat
  obtain ⟨a1, c1, rfl⟩ := owns_slice hown
  have G1 := Lib.hid (H.out.snoc (x := ⟨d, ⟨#[]⟩, sp, nm, []⟩) (below1 w (.cells #[.int .i64 d, .string ⟨#[]⟩, .string sp, .string nm, .slice none 0 0] 77)) (bareAts _ _ _) (fun _ => rfl) hB hown hgr (hat.imp id fun e => ⟨w.heap.size + 1, by simpa using e, by simp⟩))
  have E1 := Lib.hid (grown_trans_row (grown_made (w := w) (.cells #[.int .i64 d, .string ⟨#[]⟩, .string sp, .string nm, .slice none 0 0] 77) (Value.slice a n c).ownBlock) hgr)
  have T1 := Lib.hid (hat.imp id fun e => (⟨w.heap.size + 1, by simpa using e, by omega⟩ : ∃ g, (Value.slice a1 (n + 1) c1).ownBlock = some g ∧ w.heap.size ≤ g))
  have hz1 : w.heap.size + 1 ≤ w1.heap.size := by have := hgr.size; simpa using this
  clear hown hgr hat
  cases he : t.toList.isEmpty
  · go_wp2_with (at_builtin; refine wpList_append_own_at _ rfl _ _ 24 rfl B 77 i0 (.agg #[.int .i64 0, .string ByteArray.empty, .string ByteArray.empty, .string ByteArray.empty, .slice none 0 0]) 5 80 Tryz.underlying24 hi hz0 hi1 hz2 rfl (by decide) _ (n + 1) _ rfl (G1.out.row.alloc _) ⟨w1.heap.size, 0, none⟩ 1 1 [.int .i64 (d + 1), .string t, .string ⟨#[]⟩, .string ⟨#[]⟩, .slice none 0 0] rfl rfl ?c1 ?c2 ?c3 ?c4 ?c5 ?_)
    case c1 => exact fun j u hj => itemCells w1 _ _ _ _ _ j u hj
    case c2 => intro v hv; simp at hv; rcases hv with rfl | rfl | rfl | rfl | rfl <;> rfl
    case c3 => unfold maxLen; omega
    case c4 => omega
    case c5 => simp; omega
    intro v' w2 hown hgr _ hat
    obtain ⟨a2, c2, rfl⟩ := owns_slice hown
    have G2 := Lib.hid (G1.out.snoc (x := ⟨d + 1, t, ⟨#[]⟩, ⟨#[]⟩, []⟩) (below1 w1 (.cells #[.int .i64 (d + 1), .string t, .string ⟨#[]⟩, .string ⟨#[]⟩, .slice none 0 0] 77)) (bareAts _ _ _) (fun _ => rfl) (by omega) hown hgr (hat.imp id fun e => ⟨w1.heap.size + 1, by simpa using e, by simp⟩))
    have E2 : Hid (w.grownBy w2 (Value.slice a n c).ownBlock) := Lib.hid (by
      have hg2 := grown_trans_row (grown_made (w := w1) (.cells #[.int .i64 (d + 1), .string t, .string ⟨#[]⟩, .string ⟨#[]⟩, .slice none 0 0] 77) (Value.slice a1 (n + 1) c1).ownBlock) hgr
      rcases T1.out with e | ⟨g, e, hg⟩
      · rw [e] at hg2
        exact grown_trans_row E1.out hg2
      · rw [e] at hg2
        exact grown_in E1.out hg2 hg)
    have T2 : Hid ((Value.slice a2 (n + 1 + 1) c2).ownBlock = (Value.slice a n c).ownBlock ∨ ∃ g, (Value.slice a2 (n + 1 + 1) c2).ownBlock = some g ∧ w.heap.size ≤ g) := Lib.hid (by
      rcases hat with e | e
      · rw [e]; exact T1.out
      · exact .inr ⟨w1.heap.size + 1, by simpa using e, by omega⟩)
    clear hown hgr hat
    go_wp2
    go_ret
    have G3 := G2.out
    have htl := HTL.out
    rw [if_neg (by rw [he]; simp)] at htl
    rw [← htl]
    rw [List.append_assoc] at G3
    exact ⟨_, _, _, _, _, _, rfl, G3, E2.out, T2.out⟩
  · go_wp2
    go_ret
    have htl := HTL.out
    rw [if_pos he] at htl
    rw [← htl]
    exact ⟨_, _, _, _, _, _, rfl, G1.out, E1.out, T1.out⟩
end Go.Proofs.YticpebpicdboaaaGreatDoor
