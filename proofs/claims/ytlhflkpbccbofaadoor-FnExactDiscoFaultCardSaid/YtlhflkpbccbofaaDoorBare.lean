/- The program's withoutNames. -/
import Derived.Test.YtlhflkpbccbofaaDoorCloneI
namespace Go.Proofs.YtlhflkpbccbofaaDoor
open Go.ChangeShapes Go.WideShapes Go.ChangeAt Go.RowKit
set_option linter.unusedVariables false

def bare (x : Ident) : Ident := ⟨x.cat, x.kind, x.lang, ByteArray.empty⟩
def bareTo (l : List Ident) (k : Nat) : List Ident := (l.take k).map bare ++ l.drop k
theorem idFlat_cons (x : Ident) (l : List Ident) : idFlat (x :: l) = idCells x ++ idFlat l := by simp [idFlat]
theorem idFlat_set : ∀ (l : List Ident) (k : Nat), k < l.length → (idFlat l).set (k * 4 + 3) (.string ByteArray.empty) = idFlat (l.set k (bare (l.getD k dId)))
  | [], k, h => by cases h
  | x :: l, 0, h => by
    rw [idFlat_cons, List.set_cons_zero, idFlat_cons]
    rfl
  | x :: l, k + 1, h => by
    have hl : (idCells x).length = 4 := rfl
    rw [idFlat_cons, List.set_cons_succ, idFlat_cons, List.set_append_right _ _ (by omega), hl, show (k + 1) * 4 + 3 - 4 = k * 4 + 3 by omega, idFlat_set l k (by simpa using h)]
    rfl
theorem bareTo_length (l : List Ident) (k : Nat) (h : k ≤ l.length) : (bareTo l k).length = l.length := by simp [bareTo]; omega
theorem bareTo_succ (l : List Ident) (k : Nat) (h : k < l.length) : (bareTo l k).set k (bare ((bareTo l k).getD k dId)) = bareTo l (k + 1) := by
  have h1 : ((l.take k).map bare).length = k := by simp; omega
  have h2 : (bareTo l k).getD k dId = l[k] := by
    unfold bareTo
    rw [List.getD_eq_getElem?_getD, List.getElem?_append_right (by omega), h1, Nat.sub_self, List.drop_eq_getElem_cons h]
    rfl
  rw [h2]
  unfold bareTo
  rw [List.set_append_right _ _ (by omega), h1, Nat.sub_self, List.drop_eq_getElem_cons h, List.set_cons_zero, List.take_succ_eq_append_getElem h, List.map_append]
  simp
theorem bareTo_all (l : List Ident) : bareTo l l.length = l.map bare := by simp [bareTo]
theorem bareTo_zero (l : List Ident) : bareTo l 0 = l := by simp [bareTo]

set_option maxRecDepth 100000 in
set_option maxHeartbeats 1600000 in
theorem withoutNames_any (a : Option Addr) (n c : Nat) (l : List Ident) (w : World) (hn : n ≤ 1048576) (hnil : a = none → c = 0) (h : IdsAt w a n c l) :
    Calls Tryd.prog 28 #[.slice a n c] w (OwnsIds w (l.map bare)) := by
  have K := Lib.hid (cloneI_any a n c l w hn hnil h)
  have HL := Lib.hid h.len
  unfold OwnsIds at K ⊢
  clear hnil h
  go_enter Tryd.func28, Tryd.ntmps28
  go_wp2_with fail
  refine K.out.mono ?_
  rintro e w1 ⟨a1, n1, c1, rfl, ho1, hb1⟩
  have hn1 : n1 = n := by
    have h1 : (idFlat l).length = n1 * 4 := ho1.1
    rw [idFlat_length, HL.out] at h1
    omega
  subst hn1
  have HO1 := Lib.hid ho1
  have HB1 := Lib.hid hb1
  clear ho1 hb1 K
  go_wp2
  go_loopw [9] (fun i wr => ∃ k : Nat, k ≤ n1 ∧ i = .int .i64 k ∧ wr.ownsRow w.heap.size 40 4 (.slice a1 n1 c1) n1 (idFlat (bareTo l k)) ∧ Below w.heap.size w wr) (fun i _ => n1 - (intOf i).toNat)
  case atStart => exact ⟨0, Nat.zero_le _, rfl, by rw [bareTo_zero]; exact HO1.out, HB1.out⟩
  case round =>
    clear HO1 HB1
    obtain ⟨k, hk, rfl, ho, hb⟩ := hrel
    have HB := Lib.hid hb
    by_cases hlt : k < n1
    · obtain ⟨g, rfl⟩ : ∃ g, a1 = some ⟨g, 0, none⟩ := by
        rcases ho.2 with ⟨hv, h0⟩ | ⟨g, cap, cur, hv, _⟩
        · omega
        · simp only [Value.slice.injEq] at hv
          exact ⟨g, hv.1⟩
      have hlb := bareTo_length l k (by have := HL.out; omega)
      have c0 := ho.cellAt (k * 4 + 3) (by omega)
      rw [idFlat_get _ k 3 (by decide), List.getElem?_eq_getElem (by have := HL.out; omega)] at c0
      simp only [Option.bind_some, idCells] at c0
      have c1 : wr.cell? ⟨g, k * 4 + 3, none⟩ = some (.string ((bareTo l k)[k]'(by have := HL.out; omega)).name) := c0
      have c3 := ho.frozenAt (k * 4 + 3)
      have hst := ho.stored (k * 4 + 3) (.string ByteArray.empty)
      rw [idFlat_set _ k (by have := HL.out; omega), bareTo_succ l k (by have := HL.out; omega)] at hst
      have HST := Lib.hid hst.1
      have hgb := (ho.lt g rfl).1
      clear ho hb hst c0
      generalize ((bareTo l k)[k]'(by have := HL.out; omega)).name = nm at c1
      have q1 : (k : Int) < (n1 : Int) := by omega
      go_wp2
      go_roundw
      case rel => exact ⟨k + 1, by omega, by go_num, HST.out, HB.out.setCell hgb _⟩
      case measure => simp [intOf]; omega
    · obtain rfl : k = n1 := by omega
      have HO := Lib.hid ho
      clear ho hb
      go_wp2
      go_ret
      exact ⟨_, _, _, rfl, by have := HO.out; rw [← HL.out, bareTo_all, HL.out] at this; exact this, HB.out⟩
end Go.Proofs.YtlhflkpbccbofaaDoor
