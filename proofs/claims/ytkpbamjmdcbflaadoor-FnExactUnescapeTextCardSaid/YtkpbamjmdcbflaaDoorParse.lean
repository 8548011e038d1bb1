/- Contracts of strconv.ParseUint at a base of 10 or 16 and at most seven bytes. -/
import Derived.Test.YtkpbamjmdcbflaaDoorEsc2
import Derived.Test.YtkpbamjmdcbflaaDoorBase
import Derived.Test.YtkpbamjmdcbflaaDoorShelf
import Derived.Lib.AtoiErrMem
import Derived.Laws.Closers25b
namespace Go.Proofs.YtkpbamjmdcbflaaDoor
open Go.ChangeShapes Go.WideShapes Go.ChangeAt Go.RowKit Go.Shelf
set_option linter.unusedVariables false

theorem numF_snoc (base : Int) : ∀ (l : List UInt8) (n : Int) (c : UInt8), (l ++ [c]).all (digB base) = true → numF base n (l ++ [c]) = numF base n l * base + hexV c
  | [], n, c, h => by
    simp at h
    simp [numF, h]
  | d :: t, n, c, h => by
    rw [List.cons_append, List.all_cons, Bool.and_eq_true] at h
    have ih := numF_snoc base t (n * base + hexV d) c h.2
    simp only [List.cons_append, numF, h.1, if_true]
    exact ih
theorem take_snoc (s : ByteArray) (k : Nat) (h : k < s.size) : s.data.toList.take (k + 1) = s.data.toList.take k ++ [s[k]] := by
  rw [List.take_succ_eq_append_getElem (by simpa using h)]
  rfl
theorem or32 : ∀ c : Fin 256, bits .or .u8 (c.val : Int) 32 = if (65 ≤ c.val ∧ c.val ≤ 90) then (c.val : Int) + 32 else if 97 ≤ c.val ∧ c.val ≤ 122 then (c.val : Int) else bits .or .u8 (c.val : Int) 32 := by decide +kernel
theorem or32_small : ∀ c : Fin 256, (97 ≤ bits .or .u8 (c.val : Int) 32 ∧ bits .or .u8 (c.val : Int) 32 ≤ 122) → (65 ≤ c.val ∧ c.val ≤ 90) ∨ (97 ≤ c.val ∧ c.val ≤ 122) := by decide +kernel
/-- a letter's lower form -/
theorem or_letter (c : UInt8) (base : Int) (h : digB base c = true) (hc : ¬ (48 ≤ c.toNat ∧ c.toNat ≤ 57)) : ∃ v : Int, bits .or .u8 (c.toNat : Int) 32 = v ∧ 97 ≤ v ∧ v ≤ 102 ∧ hexV c = v - 97 + 10 ∧ hexV c < base := by
  unfold digB at h
  simp only [Bool.and_eq_true, decide_eq_true_eq] at h
  have e := or32 ⟨c.toNat, c.toNat_lt⟩
  simp only at e
  have h0 := h.1
  have hx : (97 ≤ c.toNat ∧ c.toNat ≤ 102) ∨ (65 ≤ c.toNat ∧ c.toNat ≤ 70) := by
    unfold hexV at h0
    rw [if_neg hc] at h0
    split at h0
    · exact .inl (by assumption)
    · split at h0
      · exact .inr (by assumption)
      · omega
  have hv : hexV c = (if 97 ≤ c.toNat ∧ c.toNat ≤ 102 then (c.toNat : Int) - 97 + 10 else (c.toNat : Int) - 65 + 10) := by
    unfold hexV
    rw [if_neg hc]
    split
    · rfl
    · rw [if_pos (by omega)]
  rcases hx with h1 | h1
  · rw [if_neg (by omega), if_pos (by omega)] at e
    rw [if_pos h1] at hv
    exact ⟨_, e, by omega, by omega, hv, h.2⟩
  · rw [if_pos (by omega)] at e
    rw [if_neg (by omega)] at hv
    exact ⟨_, e, by omega, by omega, by rw [hv]; omega, h.2⟩
theorem digit_val (c : UInt8) (base : Int) (hc : 48 ≤ c.toNat ∧ c.toNat ≤ 57) : hexV c = (c.toNat : Int) - 48 := by
  unfold hexV
  rw [if_pos hc]
/-- no digit: its lower form is no letter below g -/
theorem or_none (c : UInt8) (base : Int) (hb : base = 10 ∨ base = 16) (h : digB base c = false) : ∃ v : Int, bits .or .u8 (c.toNat : Int) 32 = v ∧ 0 ≤ v ∧ v ≤ 255 ∧ (v < 97 ∨ 122 < v ∨ base ≤ v - 97 + 10) ∧ ((c.toNat : Int) < 48 ∨ 57 < (c.toNat : Int)) := by
  have hnd : ¬ (48 ≤ c.toNat ∧ c.toNat ≤ 57) := by
    intro hd
    unfold digB at h
    rw [digit_val c base hd] at h
    simp at h
    omega
  refine ⟨_, rfl, bits_lo_u8 .or _ _, bits_hi_u8 .or _ _, ?_, by omega⟩
  have e := or32 ⟨c.toNat, c.toNat_lt⟩
  have hs := or32_small ⟨c.toNat, c.toNat_lt⟩
  simp only at e hs
  refine Decidable.byContradiction fun hn => ?_
  have hr : 97 ≤ bits .or .u8 (c.toNat : Int) 32 ∧ bits .or .u8 (c.toNat : Int) 32 ≤ 122 := by omega
  have hl := hs hr
  have hd : digB base c = true := by
    unfold digB
    simp only [Bool.and_eq_true, decide_eq_true_eq]
    rcases hl with h1 | h1
    · rw [if_pos h1] at e
      unfold hexV
      rw [if_neg hnd, if_neg (by omega), if_pos (by omega)]
      omega
    · rw [if_neg (by omega), if_pos h1] at e
      unfold hexV
      rw [if_neg hnd, if_pos (by omega)]
      omega
  rw [hd] at h
  cases h
/-- what the inner ParseUint answers -/
def parsed (base : Int) (l : List UInt8) : Value := if l.all (digB base) then .tuple #[.int .u64 (numF base 0 l), .nilIface] else .tuple #[.int .u64 0, .iface 92 (.int .i64 2)]
theorem all_take_false {l : List UInt8} {k : Nat} {c : UInt8} {p : UInt8 → Bool} (h : l.take (k + 1) = l.take k ++ [c]) (hc : p c = false) : l.all p = false := by
  rw [← List.take_append_drop (k + 1) l, h, List.all_append, List.all_append]
  simp [hc]
theorem seven {base : Int} {k : Nat} (hb : base = 10 ∨ base = 16) (hk : k ≤ 6) : (1 : Int) * base ^ k ≤ 16777216 := by
  have h1 := pow_small base k 6 (by omega) hk
  rcases hb with rfl | rfl
  · have : (10 : Int) ^ 6 = 1000000 := by decide
    omega
  · have : (16 : Int) ^ 6 = 16777216 := by decide
    omega

theorem lower_any (c v : Int) (h : bits .or .u8 c 32 = v) (w : World) :
    Calls Tryd.prog 53 #[.int .u8 c] w fun e w' => e = .returned (.int .u8 v) ∧ w' = w := by
  have K := Tryd.internal_strconv_lower c w
  rw [h] at K
  exact K

-- WALKS
set_option maxRecDepth 100000 in
set_option maxHeartbeats 8000000 in
theorem parse_in10 (t : ByteArray) (h1 : 1 ≤ t.size) (h7 : t.size ≤ 7) (w : World) :
    Calls Tryd.prog 49 #[.string t, .int .i64 10, .int .i64 32] w fun e w' => e = .returned (parsed 10 t.data.toList) ∧ Below w.heap.size w w' := by
  have hemp : t.toList.isEmpty = false := by
    rw [← decide_eq_emptyBytes]
    exact decide_eq_false (fun h => by rw [h] at h1; exact absurd h1 (by decide))
  have hcv := Lib.run_convert_string_bytes (P := Tryd.prog) w 9 34 5 t (u := .string) Tryd.underlying9 Tryd.underlying34 Tryd.underlying5
  have HB := Lib.hid (fun j (hj : j < t.size) => Lib.bytesWorld_cell w 5 t j hj)
  have HL := Lib.hid (Lib.bytesWorld_below w 5 t)
  generalize Lib.bytesWorld w 5 t = W1 at hcv HB HL
  have hmv : IntKind.u64.wrap (IntKind.u64.wrap 4294967296 - 1) = 4294967295 := by
    rw [IntKind.wrap_u64, IntKind.wrap_u64]
    decide
  clear h1
  go_enter Tryd.func49, Tryd.ntmps49
  go_wp2
  go_loop [12, 13, 101] (fun vu vn vi => ∃ (k : Nat) (a : Int), vu = .bool false ∧ vn = .int .u64 a ∧ vi = .int .i64 k ∧ k ≤ t.size ∧ Hid ((t.data.toList.take k).all (digB 10) = true ∧ a = numF 10 0 (t.data.toList.take k)))
    (fun _ _ vi => t.size - (intOf vi).toNat)
  case atStart => exact ⟨0, 0, rfl, rfl, rfl, by omega, by simp, rfl⟩
  case round =>
    obtain ⟨k, a, rfl, rfl, rfl, hk, hh⟩ := hrel
    by_cases hkn : k < t.size
    · have hbd := numF_bd 10 (by omega) _ 0 hh.out.1 (by omega)
      rw [← hh.out.2, List.length_take, show t.data.toList.length = t.size by simp, Nat.min_eq_left hk] at hbd
      have hsv := seven (base := 10) (k := k) (by omega) (by omega)
      obtain ⟨a0, a1⟩ := hbd
      have a2 : a < 16777216 := by omega
      have HS := Lib.hid (take_snoc t k hkn)
      have hc := HB.out k hkn
      rw [show t.data.toList.getD k 0 = t[k] by rw [List.getD_eq_getElem?_getD, List.getElem?_eq_getElem (by simpa using hkn)]; rfl] at hc
      have hc256 : t[k].toNat < 256 := t[k].toNat_lt
      generalize t[k] = c at hc HS hc256
      clear hsv a1
      cases hdg : digB 10 c
      · obtain ⟨v, v0, v1, v2, v3, v4⟩ := or_none c 10 (by omega) hdg
        have HP : Hid (parsed 10 t.data.toList = .tuple #[.int .u64 0, .iface 92 (.int .i64 2)]) := Lib.hid (by unfold parsed; rw [all_take_false HS.out hdg]; rfl)
        have KL := Lib.hid (fun W => lower_any (c.toNat : Int) v v0 W)
        clear v0 hdg
        clear hh
        generalize (c.toNat : Int) = x at hc KL v4
        by_cases h95 : x = 95
        · subst h95
          clear v4
          go_wp2_with (go_at_call 53; refine (KL.out _).mono ?_; rintro e w' ⟨rfl, rfl⟩)
          all_goals go_ret2
          all_goals exact ⟨congrArg Ending.returned HP.out.symm, HL.out⟩
        · have hu : (x == 95) = false := by rw [beq_eq_false_iff_ne]; exact h95
          clear h95
          go_wp2_with (go_at_call 53; refine (KL.out _).mono ?_; rintro e w' ⟨rfl, rfl⟩)
          all_goals go_ret2
          all_goals exact ⟨congrArg Ending.returned HP.out.symm, HL.out⟩
      · have hall : (t.data.toList.take (k + 1)).all (digB 10) = true := by rw [HS.out, List.all_append, hh.out.1]; simp [hdg]
        have hnum : numF 10 0 (t.data.toList.take (k + 1)) = a * 10 + hexV c := by
          rw [HS.out] at hall ⊢
          rw [numF_snoc _ _ _ _ hall, ← hh.out.2]
        have HN := Lib.hid (And.intro hall hnum.symm)
        clear hall hnum hh
        by_cases hd : 48 ≤ c.toNat ∧ c.toNat ≤ 57
        · rw [digit_val c 10 hd] at HN
          obtain ⟨d0, d1⟩ := hd
          have i0 : 48 ≤ (c.toNat : Int) := by omega
          have i1 : (c.toNat : Int) ≤ 57 := by omega
          clear hdg d0 d1 hc256
          generalize (c.toNat : Int) = x at hc HN i0 i1
          go_wp2
          go_round
          case rel => exact ⟨k + 1, _, rfl, rfl, by go_num, by omega, HN⟩
          case measure => simp [intOf]; omega
        · obtain ⟨v, v0, v1, v2, v3, v4⟩ := or_letter c 10 hdg hd
          have KL := Lib.hid (fun W => lower_any (c.toNat : Int) v v0 W)
          rw [v3] at HN v4
          have h95 : (c.toNat : Int) ≠ 95 := fun e => by
            have h1 := v0
            rw [e] at h1
            have h2 : bits .or .u8 95 32 = 127 := by decide +kernel
            omega
          have hx : (c.toNat : Int) < 48 ∨ 57 < (c.toNat : Int) := by omega
          clear hdg v0 v3 hd hc256
          have hu : ((c.toNat : Int) == 95) = false := by rw [beq_eq_false_iff_ne]; exact h95
          clear h95
          generalize (c.toNat : Int) = x at hc KL hx hu
          go_wp2_with (go_at_call 53; refine (KL.out _).mono ?_; rintro e w' ⟨rfl, rfl⟩)
          all_goals
            go_round
            case rel => exact ⟨k + 1, _, rfl, rfl, by go_num, by omega, HN⟩
            case measure => simp [intOf]; omega
    · obtain rfl : k = t.size := by omega
      have HP : Hid (parsed 10 t.data.toList = .tuple #[.int .u64 a, .nilIface]) := Lib.hid (by
        have h := hh.out
        rw [take_size] at h
        unfold parsed
        rw [if_pos h.1, h.2])
      clear hh
      go_wp2
      go_ret2
      exact ⟨congrArg Ending.returned HP.out.symm, HL.out⟩

set_option maxRecDepth 100000 in
set_option maxHeartbeats 8000000 in
theorem parse_in16 (t : ByteArray) (h1 : 1 ≤ t.size) (h7 : t.size ≤ 7) (w : World) :
    Calls Tryd.prog 49 #[.string t, .int .i64 16, .int .i64 32] w fun e w' => e = .returned (parsed 16 t.data.toList) ∧ Below w.heap.size w w' := by
  have hemp : t.toList.isEmpty = false := by
    rw [← decide_eq_emptyBytes]
    exact decide_eq_false (fun h => by rw [h] at h1; exact absurd h1 (by decide))
  have hcv := Lib.run_convert_string_bytes (P := Tryd.prog) w 9 34 5 t (u := .string) Tryd.underlying9 Tryd.underlying34 Tryd.underlying5
  have HB := Lib.hid (fun j (hj : j < t.size) => Lib.bytesWorld_cell w 5 t j hj)
  have HL := Lib.hid (Lib.bytesWorld_below w 5 t)
  generalize Lib.bytesWorld w 5 t = W1 at hcv HB HL
  have hmv : IntKind.u64.wrap (IntKind.u64.wrap 4294967296 - 1) = 4294967295 := by
    rw [IntKind.wrap_u64, IntKind.wrap_u64]
    decide
  clear h1
  go_enter Tryd.func49, Tryd.ntmps49
  go_wp2
  go_loop [12, 13, 101] (fun vu vn vi => ∃ (k : Nat) (a : Int), vu = .bool false ∧ vn = .int .u64 a ∧ vi = .int .i64 k ∧ k ≤ t.size ∧ Hid ((t.data.toList.take k).all (digB 16) = true ∧ a = numF 16 0 (t.data.toList.take k)))
    (fun _ _ vi => t.size - (intOf vi).toNat)
  case atStart => exact ⟨0, 0, rfl, rfl, rfl, by omega, by simp, rfl⟩
  case round =>
    obtain ⟨k, a, rfl, rfl, rfl, hk, hh⟩ := hrel
    by_cases hkn : k < t.size
    · have hbd := numF_bd 16 (by omega) _ 0 hh.out.1 (by omega)
      rw [← hh.out.2, List.length_take, show t.data.toList.length = t.size by simp, Nat.min_eq_left hk] at hbd
      have hsv := seven (base := 16) (k := k) (by omega) (by omega)
      obtain ⟨a0, a1⟩ := hbd
      have a2 : a < 16777216 := by omega
      have HS := Lib.hid (take_snoc t k hkn)
      have hc := HB.out k hkn
      rw [show t.data.toList.getD k 0 = t[k] by rw [List.getD_eq_getElem?_getD, List.getElem?_eq_getElem (by simpa using hkn)]; rfl] at hc
      have hc256 : t[k].toNat < 256 := t[k].toNat_lt
      generalize t[k] = c at hc HS hc256
      clear hsv a1
      cases hdg : digB 16 c
      · obtain ⟨v, v0, v1, v2, v3, v4⟩ := or_none c 16 (by omega) hdg
        have HP : Hid (parsed 16 t.data.toList = .tuple #[.int .u64 0, .iface 92 (.int .i64 2)]) := Lib.hid (by unfold parsed; rw [all_take_false HS.out hdg]; rfl)
        have KL := Lib.hid (fun W => lower_any (c.toNat : Int) v v0 W)
        clear v0 hdg
        clear hh
        generalize (c.toNat : Int) = x at hc KL v4
        by_cases h95 : x = 95
        · subst h95
          clear v4
          go_wp2_with (go_at_call 53; refine (KL.out _).mono ?_; rintro e w' ⟨rfl, rfl⟩)
          all_goals go_ret2
          all_goals exact ⟨congrArg Ending.returned HP.out.symm, HL.out⟩
        · have hu : (x == 95) = false := by rw [beq_eq_false_iff_ne]; exact h95
          clear h95
          go_wp2_with (go_at_call 53; refine (KL.out _).mono ?_; rintro e w' ⟨rfl, rfl⟩)
          all_goals go_ret2
          all_goals exact ⟨congrArg Ending.returned HP.out.symm, HL.out⟩
      · have hall : (t.data.toList.take (k + 1)).all (digB 16) = true := by rw [HS.out, List.all_append, hh.out.1]; simp [hdg]
        have hnum : numF 16 0 (t.data.toList.take (k + 1)) = a * 16 + hexV c := by
          rw [HS.out] at hall ⊢
          rw [numF_snoc _ _ _ _ hall, ← hh.out.2]
        have HN := Lib.hid (And.intro hall hnum.symm)
        clear hall hnum hh
        by_cases hd : 48 ≤ c.toNat ∧ c.toNat ≤ 57
        · rw [digit_val c 16 hd] at HN
          obtain ⟨d0, d1⟩ := hd
          have i0 : 48 ≤ (c.toNat : Int) := by omega
          have i1 : (c.toNat : Int) ≤ 57 := by omega
          clear hdg d0 d1 hc256
          generalize (c.toNat : Int) = x at hc HN i0 i1
          go_wp2
          go_round
          case rel => exact ⟨k + 1, _, rfl, rfl, by go_num, by omega, HN⟩
          case measure => simp [intOf]; omega
        · obtain ⟨v, v0, v1, v2, v3, v4⟩ := or_letter c 16 hdg hd
          have KL := Lib.hid (fun W => lower_any (c.toNat : Int) v v0 W)
          rw [v3] at HN v4
          have h95 : (c.toNat : Int) ≠ 95 := fun e => by
            have h1 := v0
            rw [e] at h1
            have h2 : bits .or .u8 95 32 = 127 := by decide +kernel
            omega
          have hx : (c.toNat : Int) < 48 ∨ 57 < (c.toNat : Int) := by omega
          clear hdg v0 v3 hd hc256
          have hu : ((c.toNat : Int) == 95) = false := by rw [beq_eq_false_iff_ne]; exact h95
          clear h95
          generalize (c.toNat : Int) = x at hc KL hx hu
          go_wp2_with (go_at_call 53; refine (KL.out _).mono ?_; rintro e w' ⟨rfl, rfl⟩)
          all_goals
            go_round
            case rel => exact ⟨k + 1, _, rfl, rfl, by go_num, by omega, HN⟩
            case measure => simp [intOf]; omega
    · obtain rfl : k = t.size := by omega
      have HP : Hid (parsed 16 t.data.toList = .tuple #[.int .u64 a, .nilIface]) := Lib.hid (by
        have h := hh.out
        rw [take_size] at h
        unfold parsed
        rw [if_pos h.1, h.2])
      clear hh
      go_wp2
      go_ret2
      exact ⟨congrArg Ending.returned HP.out.symm, HL.out⟩
end Go.Proofs.YtkpbamjmdcbflaaDoor
