/- The model's l1In. -/
import Derived.Test.YticpebpicdboaaaGreatDoorGY0
namespace Go.Proofs.YticpebpicdboaaaGreatDoor
open Go.ChangeShapes Go.WideShapes Go.ChangeAt Go.RowKit
set_option linter.unusedVariables false

def inB (v l h : Int) : Bool := decide (l ≤ v ∧ v ≤ h)

set_option maxHeartbeats 400000 in
theorem l1In_any (v l h : Int) (w : World) :
    Calls Tryz.prog 85 #[.int .i64 v, .int .i64 l, .int .i64 h] w fun e w' => e = .returned (.bool (inB v l h)) ∧ w' = w := by
  by_cases h1 : l ≤ v
  · by_cases h2 : v ≤ h
    · go_enter Tryz.func85, Tryz.ntmps85
      go_wp2
      go_ret
      exact ⟨ret_bool (by simp [inB, h1, h2]), rfl⟩
    · go_enter Tryz.func85, Tryz.ntmps85
      go_wp2
      go_ret
      exact ⟨ret_bool (by simp [inB, h1, h2]), rfl⟩
  · go_enter Tryz.func85, Tryz.ntmps85
    go_wp2
    go_ret
    exact ⟨ret_bool (by simp [inB]; omega), rfl⟩
end Go.Proofs.YticpebpicdboaaaGreatDoor

/- The contract of isIn. -/
namespace Go.Proofs.YticpebpicdboaaaGreatDoor
open Go.ChangeShapes Go.WideShapes Go.ChangeAt Go.RowKit
set_option linter.unusedVariables false

/-- isIn over a row of spans at an address. -/
def spansAt (w : World) (b : Nat) (l : List (Int × Int)) : Prop := ∀ i (h : i < l.length), w.cell? ⟨b, 2 * i, none⟩ = some (.int .i64 (l[i]).1) ∧ w.cell? ⟨b, 2 * i + 1, none⟩ = some (.int .i64 (l[i]).2)

theorem isIn_any' (v : Int) (l : List (Int × Int)) (b : Nat) (w : World) (hl : l.length ≤ 10) (hb : b < w.heap.size) (hs : spansAt w b l) :
    Calls Tryz.prog 242 #[.int .i64 v, .slice (some ⟨b, 0, none⟩) l.length l.length] w fun e w' => e = .returned (.bool (l.any fun p => inB v p.1 p.2)) ∧ Below w.heap.size w w' := by
  go_enter Tryz.func242, Tryz.ntmps242
  go_wp2
  go_loopw [9] (fun i wr => ∃ k : Nat, k ≤ l.length ∧ i = .int .i64 k ∧ (l.take k).any (fun p => inB v p.1 p.2) = false ∧ Below w.heap.size w wr) (fun i _ => l.length - (intOf i).toNat)
  case atStart => exact ⟨0, Nat.zero_le _, rfl, by simp, Below.refl _ _⟩
  case round =>
    obtain ⟨k, hk, rfl, hno, hbl⟩ := hrel
    by_cases hlt : k < l.length
    · obtain ⟨c0, c1⟩ := hs k hlt
      have d0 : wr.cell? ⟨b, k * 2, none⟩ = some (.int .i64 (l[k]).1) := by rw [hbl.cell (by exact hb), Nat.mul_comm]; exact c0
      have d1 : wr.cell? ⟨b, k * 2 + 1, none⟩ = some (.int .i64 (l[k]).2) := by rw [hbl.cell (by exact hb), Nat.mul_comm]; exact c1
      clear c0 c1
      have hsn : (l.take (k + 1)).any (fun p => inB v p.1 p.2) = inB v (l[k]).1 (l[k]).2 := by rw [List.take_succ_eq_append_getElem hlt, List.any_append, hno]; simp only [List.any_cons, List.any_nil, Bool.or_false, Bool.false_or]
      have HS := Lib.hid hsn
      have HNO := Lib.hid hno
      clear hsn hno
      by_cases h1 : (l[k]).1 ≤ v
      · by_cases h2 : v ≤ (l[k]).2
        · go_wp2
          go_ret
          refine ⟨ret_bool (List.any_eq_true.2 ⟨l[k], List.getElem_mem hlt, by simp [inB, h1, h2]⟩).symm, ?_⟩
          exact hbl.trans (((Below.refl _ _).alloc (Nat.le_refl _) _).mono hbl.size)
        · go_wp2
          go_roundw
          case rel => exact ⟨k + 1, by omega, by go_num, by rw [HS.out]; simp [inB]; omega, hbl.trans (((Below.refl _ _).alloc (Nat.le_refl _) _).mono hbl.size)⟩
          case measure => simp [intOf]; omega
      · go_wp2
        go_roundw
        case rel => exact ⟨k + 1, by omega, by go_num, by rw [HS.out]; simp [inB]; omega, hbl.trans (((Below.refl _ _).alloc (Nat.le_refl _) _).mono hbl.size)⟩
        case measure => simp [intOf]; omega
    · obtain rfl : k = l.length := by omega
      have HNO := Lib.hid hno
      clear hno
      go_wp2
      go_ret
      have := HNO.out
      rw [List.take_length] at this
      exact ⟨ret_bool this.symm, hbl⟩
theorem isIn_any (v : Int) (l : List (Int × Int)) (b n : Nat) (w : World) (hn : n = l.length) (hl : n ≤ 10) (hb : b < w.heap.size) (hs : spansAt w b l) :
    Calls Tryz.prog 242 #[.int .i64 v, .slice (some ⟨b, 0, none⟩) n n] w fun e w' => e = .returned (.bool (l.any fun p => inB v p.1 p.2)) ∧ Below w.heap.size w w' := by
  subst hn
  exact isIn_any' v l b w hl hb hs
end Go.Proofs.YticpebpicdboaaaGreatDoor

/- Contracts of the names' classes. -/
namespace Go.Proofs.YticpebpicdboaaaGreatDoor
open Go.ChangeShapes Go.WideShapes Go.ChangeAt Go.RowKit
set_option linter.unusedVariables false

def letterB (c : Int) : Bool := decide (97 ≤ c ∧ c ≤ 122 ∨ 65 ≤ c ∧ c ≤ 90 ∨ c = 95)
def nameB (c : Int) : Bool := letterB c || decide (48 ≤ c ∧ c ≤ 57 ∨ c = 45 ∨ c = 46)

theorem l1Letter_any (c : Int) (w : World) :
    Calls Tryz.prog 236 #[.int .u8 c] w fun e w' => e = .returned (.bool (letterB c)) ∧ w' = w := by
  go_enter Tryz.func236, Tryz.ntmps236
  go_wp2
  all_goals
    go_ret
    exact ⟨ret_bool (by rw [Bool.eq_iff_iff]; simp [letterB] <;> omega), rfl⟩

theorem l1NameByte_any (c : Int) (w : World) :
    Calls Tryz.prog 237 #[.int .u8 c] w fun e w' => e = .returned (.bool (nameB c)) ∧ w' = w := by
  cases hq : letterB c
  all_goals
    go_enter Tryz.func237, Tryz.ntmps237
    go_wp2_with (go_at_call 236; refine (l1Letter_any _ _).mono ?_; rintro e w' ⟨rfl, rfl⟩)
    all_goals
      go_ret
      exact ⟨ret_bool (by rw [Bool.eq_iff_iff]; simp [nameB, hq] <;> omega), rfl⟩

theorem letterB_spans (p : Int) : (inB p 97 122 || (inB p 65 90 || inB p 95 95)) = letterB p := by
  rw [Bool.eq_iff_iff]
  simp [letterB, inB]
  omega

theorem isNameStart_any (c : Int) (h0 : 0 ≤ c) (h1 : c ≤ 255) (w : World) :
    Calls Tryz.prog 330 #[.int .u8 c] w fun e w' => e = .returned (.bool (letterB c)) ∧ Below w.heap.size w w' := by
  go_enter Tryz.func330, Tryz.ntmps330
  go_wp2_with fail
  refine (isIn_any c [(97, 122), (65, 90), (95, 95)] _ _ _ rfl (by decide) (by simp) ?_).mono ?_
  · intro i hi
    match i, hi with
    | 0, _ => simp
    | 1, _ => simp
    | 2, _ => simp
  rintro e w' ⟨rfl, hb⟩
  go_wp2
  go_ret
  exact ⟨ret_bool (letterB_spans c), ((Below.refl _ _).alloc (Nat.le_refl _) _).trans (hb.mono (by simp))⟩

theorem nameB_spans (p : Int) (h : letterB p = false) : (inB p 48 57 || (inB p 45 45 || inB p 46 46)) = nameB p := by
  rw [Bool.eq_iff_iff]
  simp [nameB, inB, h]
  omega

theorem isNamePart_any (c : Int) (h0 : 0 ≤ c) (h1 : c ≤ 255) (w : World) :
    Calls Tryz.prog 328 #[.int .u8 c] w fun e w' => e = .returned (.bool (nameB c)) ∧ Below w.heap.size w w' := by
  cases hq : letterB c
  · go_enter Tryz.func328, Tryz.ntmps328
    go_wp2_with fail
    refine (isNameStart_any c h0 h1 _).mono ?_
    rintro e w1 ⟨rfl, hb⟩
    go_wp2_with fail
    refine (isIn_any c [(48, 57), (45, 45), (46, 46)] _ _ _ rfl (by decide) (by simp) ?_).mono ?_
    · intro i hi
      match i, hi with
      | 0, _ => simp
      | 1, _ => simp
      | 2, _ => simp
    rintro e w2 ⟨rfl, hb2⟩
    go_wp2
    go_ret
    exact ⟨ret_bool (nameB_spans c hq), (hb.alloc hb.size _).trans (hb2.mono (by have := hb.size; simp; omega))⟩
  · go_enter Tryz.func328, Tryz.ntmps328
    go_wp2_with fail
    refine (isNameStart_any c h0 h1 _).mono ?_
    rintro e w1 ⟨rfl, hb⟩
    go_wp2
    go_ret
    exact ⟨ret_bool (by simp [nameB, hq]), hb⟩

/-- what a name is -/
def isNameL (l : List UInt8) : Bool := decide (1 ≤ l.length) && decide (l.length ≤ 20) && letterB ((l[0]?.getD 0).toNat : Int) && (l.all fun c => nameB (c.toNat : Int))
set_option maxHeartbeats 400000 in
theorem specIsName_any (s : ByteArray) (hs : s.size ≤ maxLen) (w : World) :
    Calls Tryz.prog 165 #[.string s] w fun e w' => e = .returned (.bool (isNameL s.data.toList)) ∧ w' = w := by
  unfold maxLen at hs
  have hlen : s.data.toList.length = s.size := by simp
  have HL := Lib.hid hlen
  clear hlen
  by_cases h1 : s.size < 1
  · go_enter Tryz.func165, Tryz.ntmps165
    go_wp2
    go_ret
    exact ⟨ret_bool (by unfold isNameL; rw [HL.out, decide_eq_false (by omega)]; rfl), rfl⟩
  · have h1' : 0 < s.size := by omega
    by_cases h2 : s.size ≤ 20
    · cases hl : letterB (s[0].toNat : Int)
      · have HLL := Lib.hid hl
        go_enter Tryz.func165, Tryz.ntmps165
        go_wp2_with fail
        refine (l1Letter_any _ _).mono ?_
        rintro e w' ⟨rfl, rfl⟩
        go_wp2
        go_ret
        exact ⟨ret_bool (by unfold isNameL; rw [head_byte s h1', HLL.out]; simp), rfl⟩
      · have HLL := Lib.hid hl
        go_enter Tryz.func165, Tryz.ntmps165
        go_wp2_with fail
        refine (l1Letter_any _ _).mono ?_
        rintro e w' ⟨rfl, rfl⟩
        go_wp2
        clear hl
        go_loop [3] (fun i => ∃ k : Nat, k ≤ s.size ∧ i = .int .i64 k ∧ (s.data.toList.take k).all (fun c => nameB (c.toNat : Int)) = true) (fun i => s.size - (intOf i).toNat)
        case atStart => exact ⟨0, Nat.zero_le _, rfl, by simp⟩
        case round =>
          obtain ⟨k, hk, rfl, hall⟩ := hrel
          have HA := Lib.hid hall
          clear hall
          by_cases hlt : k < s.size
          · cases hb : nameB (s[k].toNat : Int)
            · have HB := Lib.hid hb
              go_wp2_with (go_at_call 237; refine (l1NameByte_any _ _).mono ?_; rintro e w' ⟨rfl, rfl⟩)
              go_ret
              refine ⟨ret_bool ?_, rfl⟩
              have hn : (s.data.toList.all fun c => nameB (c.toNat : Int)) = false := by
                rw [Bool.eq_false_iff]
                intro hc
                have := List.all_eq_true.1 hc s[k] (List.getElem_mem (by simpa using hlt))
                rw [HB.out] at this
                cases this
              unfold isNameL
              rw [hn]; simp
            · have HB := Lib.hid hb
              go_wp2_with (go_at_call 237; refine (l1NameByte_any _ _).mono ?_; rintro e w' ⟨rfl, rfl⟩)
              go_round
              case rel => exact ⟨k + 1, by omega, by go_num, by rw [all_take_succ s k hlt, HA.out, HB.out]; rfl⟩
              case measure => simp [intOf]; omega
          · obtain rfl : k = s.size := by omega
            go_wp2
            go_ret
            refine ⟨ret_bool ?_, rfl⟩
            have hall := HA.out
            rw [take_size] at hall
            unfold isNameL
            rw [hall, head_byte s h1', HLL.out, HL.out]
            simp
            omega
    · go_enter Tryz.func165, Tryz.ntmps165
      go_wp2
      go_ret
      exact ⟨ret_bool (by unfold isNameL; rw [HL.out, decide_eq_false h2]; simp), rfl⟩

set_option maxHeartbeats 400000 in
theorem implIsName_any (s : ByteArray) (hs : s.size ≤ maxLen) (w : World) :
    Calls Tryz.prog 329 #[.string s] w fun e w' => e = .returned (.bool (isNameL s.data.toList)) ∧ Below w.heap.size w w' := by
  unfold maxLen at hs
  have hlen : s.data.toList.length = s.size := by simp
  have HL := Lib.hid hlen
  clear hlen
  by_cases h1 : s.size < 1
  · go_enter Tryz.func329, Tryz.ntmps329
    go_wp2
    go_ret
    exact ⟨ret_bool (by unfold isNameL; rw [HL.out, decide_eq_false (by omega)]; rfl), Below.refl _ _⟩
  · have h1' : 0 < s.size := by omega
    by_cases h2 : s.size ≤ 20
    · have q0 : (0 : Int) ≤ (s[0].toNat : Int) := by omega
      have q1 : (s[0].toNat : Int) ≤ 255 := by have := s[0].toNat_lt; omega
      cases hl : letterB (s[0].toNat : Int)
      · have HLL := Lib.hid hl
        go_enter Tryz.func329, Tryz.ntmps329
        go_wp2_with fail
        refine (isNameStart_any _ q0 q1 _).mono ?_
        rintro e w1 ⟨rfl, hb⟩
        go_wp2
        go_ret
        exact ⟨ret_bool (by unfold isNameL; rw [head_byte s h1', HLL.out]; simp), hb⟩
      · have HLL := Lib.hid hl
        go_enter Tryz.func329, Tryz.ntmps329
        go_wp2_with fail
        refine (isNameStart_any _ q0 q1 _).mono ?_
        rintro e w1 ⟨rfl, hb⟩
        go_wp2
        clear hl
        go_loopw [3] (fun i wr => ∃ k : Nat, 1 ≤ k ∧ k ≤ s.size ∧ i = .int .i64 k ∧ (s.data.toList.take k).all (fun c => nameB (c.toNat : Int)) = true ∧ Below w.heap.size w wr) (fun i _ => s.size - (intOf i).toNat)
        case atStart =>
          refine ⟨1, Nat.le_refl _, by omega, rfl, ?_, hb⟩
          rw [all_take_succ s 0 h1']
          simp [nameB, HLL.out]
        case round =>
          obtain ⟨k, hk1, hk, rfl, hall, hbl⟩ := hrel
          have HA := Lib.hid hall
          clear hall
          by_cases hlt : k < s.size
          · have r0 : (0 : Int) ≤ (s[k].toNat : Int) := by omega
            have r1 : (s[k].toNat : Int) ≤ 255 := by have := s[k].toNat_lt; omega
            cases hb2 : nameB (s[k].toNat : Int)
            · have HB := Lib.hid hb2
              go_wp2_with fail
              refine (isNamePart_any _ r0 r1 _).mono ?_
              rintro e w2 ⟨rfl, hb3⟩
              go_wp2
              go_ret
              refine ⟨ret_bool ?_, hbl.trans (hb3.mono hbl.size)⟩
              have hn : (s.data.toList.all fun c => nameB (c.toNat : Int)) = false := by
                rw [Bool.eq_false_iff]
                intro hc
                have := List.all_eq_true.1 hc s[k] (List.getElem_mem (by simpa using hlt))
                rw [HB.out] at this
                cases this
              unfold isNameL
              rw [hn]; simp
            · have HB := Lib.hid hb2
              go_wp2_with fail
              refine (isNamePart_any _ r0 r1 _).mono ?_
              rintro e w2 ⟨rfl, hb3⟩
              go_wp2
              go_roundw
              case rel => exact ⟨k + 1, by omega, by omega, by go_num, by rw [all_take_succ s k hlt, HA.out, HB.out]; rfl, hbl.trans (hb3.mono hbl.size)⟩
              case measure => simp [intOf]; omega
          · obtain rfl : k = s.size := by omega
            go_wp2
            go_ret
            refine ⟨ret_bool ?_, hbl⟩
            have hall := HA.out
            rw [take_size] at hall
            unfold isNameL
            rw [hall, head_byte s h1', HLL.out, HL.out]
            simp
            omega
    · go_enter Tryz.func329, Tryz.ntmps329
      go_wp2
      go_ret
      exact ⟨ret_bool (by unfold isNameL; rw [HL.out, decide_eq_false h2]; simp), Below.refl _ _⟩
end Go.Proofs.YticpebpicdboaaaGreatDoor

/- IsKey on both sides. -/
namespace Go.Proofs.YticpebpicdboaaaGreatDoor
open Go.ChangeShapes Go.WideShapes Go.ChangeAt Go.RowKit
set_option linter.unusedVariables false

/-- what a key is -/
def isKeyL (s : ByteArray) : Bool := (isNameL s.data.toList && !(s.toList == [120, 109, 108, 110, 115])) || (s.toList == [120, 109, 108, 58, 108, 97, 110, 103])

set_option maxHeartbeats 400000 in
theorem specIsKey_any (s : ByteArray) (hs : s.size ≤ maxLen) (w : World) :
    Calls Tryz.prog 238 #[.string s] w fun e w' => e = .returned (.bool (isKeyL s)) ∧ w' = w := by
  go_enter Tryz.func238, Tryz.ntmps238
  go_wp2_with fail
  refine (specIsName_any s hs _).mono ?_
  rintro e w' ⟨rfl, rfl⟩
  go_wp2
  all_goals
    go_ret
    exact ⟨ret_bool (by unfold isKeyL; simp_all), rfl⟩

theorem isKeyL_lang (s : ByteArray) (h : s.toList = [120, 109, 108, 58, 108, 97, 110, 103]) : isKeyL s = true := by simp [isKeyL, h]
theorem isKeyL_name (s : ByteArray) (h : ¬ s.toList = [120, 109, 108, 58, 108, 97, 110, 103]) (h2 : isNameL s.data.toList = false) : isKeyL s = false := by simp [isKeyL, h, h2]

set_option maxHeartbeats 800000 in
theorem implIsKey_any (s : ByteArray) (hs : s.size ≤ maxLen) (w : World) :
    Calls Tryz.prog 308 #[.string s] w fun e w' => e = .returned (.bool (isKeyL s)) ∧ Below w.heap.size w w' := by
  by_cases h : s.toList = [120, 109, 108, 58, 108, 97, 110, 103]
  · have HK := Lib.hid (isKeyL_lang s h)
    go_enter Tryz.func308, Tryz.ntmps308
    go_wp2
    go_ret
    exact ⟨ret_bool (by rw [HK.out]), Below.refl _ _⟩
  · have HH := Lib.hid h
    go_enter Tryz.func308, Tryz.ntmps308
    go_wp2_with (go_at_call 329; refine (implIsName_any s hs _).mono ?_; rintro e w1 ⟨rfl, hb⟩)
    all_goals
      go_ret
      exact ⟨ret_bool (by unfold isKeyL; simp_all <;> rw [Bool.or_comm]), hb⟩
end Go.Proofs.YticpebpicdboaaaGreatDoor
