/- What has no fault is short: the name of what somebody can do, in plain words. -/
import Derived.Test.YtmmicoiiklcakaaDoorGK3
import Derived.Test.YtmmicoiiklcakaaDoorGK22
import Derived.Test.YtmmicoiiklcakaaDoorGK0
namespace Go.Proofs.YtmmicoiiklcakaaDoor
set_option linter.unusedVariables false

theorem textFault_len {l : List UInt8} (h : textFault l = 0) : l.length ≤ 60 := by
  unfold textFault at h
  by_cases h6 : 60 < l.length
  · rw [if_pos h6] at h; cases h
  · omega
theorem fieldB_len {s : ByteArray} {e sl : Bool} (h : fieldB s e sl = true) : s.size ≤ 60 := by
  unfold fieldB fldB at h
  simp only [Bool.and_eq_true, beq_iff_eq] at h
  have := textFault_len h.1.1.1
  simpa using this
theorem identT_len {x : Ident} (h : identB x = true) : (identT x).size ≤ 243 := by
  unfold identB at h
  simp only [Bool.and_eq_true] at h
  have h1 := fieldB_len h.1.1.1
  have h2 := fieldB_len h.1.1.2
  have h3 := fieldB_len h.1.2
  have h4 := fieldB_len h.2
  unfold identT
  simp only [ByteArray.size_append]
  have : slash.size = 1 := rfl
  omega
theorem linesT_few : ∀ (l : List ByteArray) (m : Nat), (∀ x ∈ l, x.size ≤ m) → (linesT l).length ≤ (m + 1) * l.length
  | [], m, _ => by simp [linesT]
  | x :: l, m, h => by
    have h1 := h x (List.mem_cons_self ..)
    have h2 := linesT_few l m (fun y hy => h y (List.mem_cons_of_mem _ hy))
    have e1 : x.data.toList.length = x.size := rfl
    have e2 : linesT (x :: l) = (x.data.toList ++ [60]) ++ linesT l := by simp [linesT]
    rw [e2]
    simp only [List.length_append, e1, List.length_cons, List.length_nil, Nat.mul_add]
    omega
theorem dis_right {d : Dis} (h : disCode d = 0) : d.ids.length ≤ 6 ∧ d.feats.length ≤ 10 ∧ (∀ i, i < d.ids.length → identB (d.ids.getD i dId) = true) ∧ (∀ i, i < d.feats.length → fieldB (d.feats.getD i ByteArray.empty) false true = true) := by
  unfold disCode at h
  by_cases hm : manyD d = true
  · rw [if_pos hm] at h; cases h
  rw [if_neg hm] at h
  by_cases hw : wrongD d = true
  · rw [if_pos hw] at h; cases h
  unfold manyD at hm
  simp at hm
  unfold wrongD at hw
  rw [Bool.not_eq_true, Bool.or_eq_false_iff, Bool.not_eq_false', Bool.not_eq_false', List.all_eq_true, List.all_eq_true] at hw
  exact ⟨hm.1, hm.2, fun i hi => hw.1 i (List.mem_range.2 hi), fun i hi => hw.2 i (List.mem_range.2 hi)⟩
theorem caps_len {d : Dis} (h : disCode d = 0) : (capsL d).length ≤ 3000 := by
  obtain ⟨h1, h2, h3, h4⟩ := dis_right h
  unfold capsL
  rw [List.length_append]
  have a1 := linesT_few (sortT (d.ids.map identT)) 243 (fun x hx => by
    obtain ⟨y, hy, rfl⟩ := List.mem_map.1 ((sortT_perm _).mem_iff.1 hx)
    obtain ⟨i, hi, rfl⟩ := List.getElem_of_mem hy
    have := h3 i hi
    rw [List.getD_eq_getElem?_getD, List.getElem?_eq_getElem hi] at this
    exact identT_len this)
  have a2 := linesT_few (sortT d.feats) 60 (fun x hx => by
    obtain ⟨i, hi, rfl⟩ := List.getElem_of_mem ((sortT_perm _).mem_iff.1 hx)
    have := h4 i hi
    rw [List.getD_eq_getElem?_getD, List.getElem?_eq_getElem hi] at this
    exact fieldB_len this)
  rw [(sortT_perm _).length_eq] at a1 a2
  rw [List.length_map] at a1
  omega
/-- the name -/
def capsNums (d : Dis) : List Int := (capsL d).map fun u => (u.toNat : Int)
def capsName (d : Dis) : ByteArray := if disCode d = 0 then ⟨(b64L (shaL (capsNums d))).toArray⟩ else ByteArray.empty
theorem capsNums_len (d : Dis) : (capsNums d).length = (capsL d).length := by simp [capsNums]
theorem capsNums_byte (d : Dis) (i : Nat) : 0 ≤ (capsNums d).getD i 0 ∧ (capsNums d).getD i 0 ≤ 255 := by
  unfold capsNums
  rw [List.getD_eq_getElem?_getD, List.getElem?_map]
  cases (capsL d)[i]? with
  | none => simp
  | some u =>
    have := u.toNat_lt
    simp
    omega
end Go.Proofs.YtmmicoiiklcakaaDoor

/- The fields of a code and a text. -/
namespace Go.Proofs.YtmmicoiiklcakaaDoor
open Go.ChangeShapes Go.WideShapes Go.ChangeAt Go.RowKit
set_option linter.unusedVariables false
theorem field_code (c : Int) (t : ByteArray) (W : World) : (Instr.field 28 (.agg #[.int .i64 c, .string t]) 0).run Tryd.prog W = .ok (.int .i64 c) W := by kernel_rfl
theorem field_text (c : Int) (t : ByteArray) (W : World) : (Instr.field 28 (.agg #[.int .i64 c, .string t]) 1).run Tryd.prog W = .ok (.string t) W := by kernel_rfl
end Go.Proofs.YtmmicoiiklcakaaDoor
