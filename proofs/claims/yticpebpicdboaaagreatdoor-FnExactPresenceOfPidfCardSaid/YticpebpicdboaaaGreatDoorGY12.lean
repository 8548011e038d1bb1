/- Rows of texts. -/
import Derived.Test.YticpebpicdboaaaGreatDoorGY0
import Derived.Test.YticpebpicdboaaaGreatDoorGY1
import Derived.Test.YticpebpicdboaaaGreatDoorGY8
namespace Go.Proofs.YticpebpicdboaaaGreatDoor
open Go.ChangeShapes Go.WideShapes Go.ChangeAt Go.RowKit
set_option linter.unusedVariables false

/-- A slice value that reads as these texts. -/
def RowS (w : World) (v : Value) (ts : List ByteArray) : Prop :=
  (v = .slice none 0 0 ∧ ts = []) ∨ ∃ b o cap, v = .slice (some ⟨b, o, none⟩) ts.length cap ∧ ts.length ≤ cap ∧ cap ≤ maxLen ∧ b < w.heap.size ∧ ∀ i, i < ts.length → w.cell? ⟨b, o + i, none⟩ = some (.string (ts.getD i ByteArray.empty))
theorem RowS.of_owns {w : World} {base : Nat} {e : TypeId} {v : Value} {n : Nat} {ts : List ByteArray} (h : w.ownsRow base e 1 v n (ts.map Value.string)) : RowS w v ts := by
  have hl : ts.length = n := by have := h.1; simpa using this
  subst hl
  rcases h.2 with ⟨hv, hn⟩ | ⟨g, cap, cur, hv, hg, hh, hnc, hm, hs, ht⟩
  · have : ts = [] := List.length_eq_zero_iff.1 hn
    subst this
    exact .inl ⟨hv, rfl⟩
  · subst hv
    have hlt := (h.lt g rfl).2
    refine .inr ⟨g, 0, cap, rfl, hnc, hm, hlt, fun i hi => ?_⟩
    rw [Nat.zero_add, h.cellAt i (by omega), List.getElem?_map, List.getElem?_eq_getElem hi, List.getD_eq_getElem?_getD, List.getElem?_eq_getElem hi]
    rfl
theorem RowS.below {w w' : World} {v : Value} {ts : List ByteArray} (h : RowS w v ts) (hb : Below w.heap.size w w') : RowS w' v ts := by
  rcases h with h | ⟨b, o, cap, hv, h1, h2, h3, h4⟩
  · exact .inl h
  · exact .inr ⟨b, o, cap, hv, h1, h2, Nat.lt_of_lt_of_le h3 hb.size, fun i hi => (hb.cell (by exact h3)).trans (h4 i hi)⟩
theorem ownsS_length {w : World} {base : Nat} {e : TypeId} {v : Value} {n : Nat} {ts : List ByteArray} (h : w.ownsRow base e 1 v n (ts.map Value.string)) : n = ts.length := by
  have := h.1
  simpa using this.symm

theorem strInfo : (Tryz.prog.info? 9).map (fun i => (i.zero, i.size, i.bytes)) = some (some (.string ByteArray.empty), 1, 16) := by kernel_rfl
theorem strCells1 (W : World) (t : ByteArray) (j : Nat) (u : Value) (hj : [Value.string t][j]? = some u) : ((W.alloc (.cells #[.string t] 9))).cell? (Addr.add ⟨W.heap.size, 0, none⟩ j) = some u := by
  match j, hj with
  | 0, hj => simp at hj; subst hj; simp [Addr.add]
theorem ownsDrew {w : World} {base : Nat} {e : TypeId} {size : Nat} {v : Value} {n : Nat} {xs : List Value} (h : w.ownsRow base e size v n xs) : w.drew.ownsRow base e size v n xs := h
theorem grownDrew {w w1 : World} {r : Option Nat} (h : w.drew.grownBy w1 r) : w.grownBy w1 r := ⟨h.os, h.tape, h.output, h.size, h.block⟩

/-- a new row of texts is handed back -/
def OwnsStr (w : World) (ts : List ByteArray) (en : Ending) (w' : World) : Prop :=
  ∃ a c, en = .returned (.slice a ts.length c) ∧ w'.ownsRow w.heap.size 9 1 (.slice a ts.length c) ts.length (ts.map Value.string) ∧ Below w.heap.size w w'

end Go.Proofs.YticpebpicdboaaaGreatDoor

/- The words of kinds and of shows, in plain words. -/
namespace Go.Proofs.YticpebpicdboaaaGreatDoor
open Go.ChangeShapes Go.WideShapes Go.ChangeAt Go.RowKit
set_option linter.unusedVariables false

def kindWs : List ByteArray := [⟨#[]⟩, ⟨#[117, 110, 97, 118, 97, 105, 108, 97, 98, 108, 101]⟩, ⟨#[115, 117, 98, 115, 99, 114, 105, 98, 101]⟩, ⟨#[115, 117, 98, 115, 99, 114, 105, 98, 101, 100]⟩, ⟨#[117, 110, 115, 117, 98, 115, 99, 114, 105, 98, 101]⟩, ⟨#[117, 110, 115, 117, 98, 115, 99, 114, 105, 98, 101, 100]⟩, ⟨#[112, 114, 111, 98, 101]⟩]
def kindW (k : Int) : ByteArray := kindWs.getD k.toNat ByteArray.empty
def showWs : List ByteArray := [⟨#[]⟩, ⟨#[97, 119, 97, 121]⟩, ⟨#[99, 104, 97, 116]⟩, ⟨#[100, 110, 100]⟩, ⟨#[120, 97]⟩]
def showW (k : Int) : ByteArray := showWs.getD k.toNat ByteArray.empty
theorem kinds_row {w w' : World} (hz : w.heap.size < w'.heap.size) (c0 : w'.cell? ⟨w.heap.size, 0, none⟩ = some (.string (kindWs.getD 0 ByteArray.empty))) (c1 : w'.cell? ⟨w.heap.size, 1, none⟩ = some (.string (kindWs.getD 1 ByteArray.empty))) (c2 : w'.cell? ⟨w.heap.size, 2, none⟩ = some (.string (kindWs.getD 2 ByteArray.empty))) (c3 : w'.cell? ⟨w.heap.size, 3, none⟩ = some (.string (kindWs.getD 3 ByteArray.empty)))
    (c4 : w'.cell? ⟨w.heap.size, 4, none⟩ = some (.string (kindWs.getD 4 ByteArray.empty))) (c5 : w'.cell? ⟨w.heap.size, 5, none⟩ = some (.string (kindWs.getD 5 ByteArray.empty))) (c6 : w'.cell? ⟨w.heap.size, 6, none⟩ = some (.string (kindWs.getD 6 ByteArray.empty))) : RowS w' (.slice (some ⟨w.heap.size, 0, none⟩) 7 7) kindWs := by
  refine .inr ⟨w.heap.size, 0, 7, rfl, by decide, by decide, hz, fun i hi => ?_⟩
  have h7 : i < 7 := hi
  rw [Nat.zero_add]
  match i, h7 with
  | 0, _ => exact c0
  | 1, _ => exact c1
  | 2, _ => exact c2
  | 3, _ => exact c3
  | 4, _ => exact c4
  | 5, _ => exact c5
  | 6, _ => exact c6
theorem shows_row {w w' : World} (hz : w.heap.size < w'.heap.size) (c0 : w'.cell? ⟨w.heap.size, 0, none⟩ = some (.string (showWs.getD 0 ByteArray.empty))) (c1 : w'.cell? ⟨w.heap.size, 1, none⟩ = some (.string (showWs.getD 1 ByteArray.empty))) (c2 : w'.cell? ⟨w.heap.size, 2, none⟩ = some (.string (showWs.getD 2 ByteArray.empty))) (c3 : w'.cell? ⟨w.heap.size, 3, none⟩ = some (.string (showWs.getD 3 ByteArray.empty)))
    (c4 : w'.cell? ⟨w.heap.size, 4, none⟩ = some (.string (showWs.getD 4 ByteArray.empty))) : RowS w' (.slice (some ⟨w.heap.size, 0, none⟩) 5 5) showWs := by
  refine .inr ⟨w.heap.size, 0, 5, rfl, by decide, by decide, hz, fun i hi => ?_⟩
  have h5 : i < 5 := hi
  rw [Nat.zero_add]
  match i, h5 with
  | 0, _ => exact c0
  | 1, _ => exact c1
  | 2, _ => exact c2
  | 3, _ => exact c3
  | 4, _ => exact c4
/-- the code and the text of a word -/
def kindC (k : Int) : Int := if inB k 0 6 then 0 else 3
def kindT (k : Int) : ByteArray := if inB k 0 6 then kindW k else ByteArray.empty

/-- the code and the text of a word -/
def showC (k : Int) : Int := if inB k 0 4 then 0 else 3
def showT (k : Int) : ByteArray := if inB k 0 4 then showW k else ByteArray.empty

end Go.Proofs.YticpebpicdboaaaGreatDoor

/- Numbers with their signs: the model's l7Number. -/
namespace Go.Proofs.YticpebpicdboaaaGreatDoor
open Go.ChangeShapes Go.WideShapes Go.ChangeAt Go.RowKit
set_option linter.unusedVariables false

/-- a number with its sign -/
def numT (n : Int) : ByteArray := if n < 0 then ⟨#[45]⟩ ++ digT n.natAbs else digT n.natAbs
theorem l7Number_any (n : Int) (h1 : -9223372036854775807 ≤ n) (h2 : n ≤ 9223372036854775807) (w : World) :
    Calls Tryz.prog 141 #[.int .i64 n] w (TextB (numT n) w) := by
  have K := Lib.hid (l1Digits_any n.natAbs (by omega))
  unfold numT
  unfold TextB at K ⊢
  have hsz := digT_size19 (n := n.natAbs) (by omega)
  generalize digT n.natAbs = t at K hsz ⊢
  by_cases h : n < 0
  · rw [if_pos h]
    have e : (n.natAbs : Int) = -n := by omega
    rw [e] at K
    clear e
    go_enter Tryz.func141, Tryz.ntmps141
    go_wp2_with fail
    refine (K.out _).mono ?_
    rintro e w1 ⟨rfl, hb1⟩
    go_wp2
    exact bodyPost_ret (v := .string _) (by simp [results, Tryz.results141, go_sem]) rfl ⟨rfl, hb1⟩
  · rw [if_neg h]
    have e : (n.natAbs : Int) = n := by omega
    rw [e] at K
    clear e
    go_enter Tryz.func141, Tryz.ntmps141
    go_wp2_with fail
    refine (K.out _).mono ?_
    rintro e w1 ⟨rfl, hb1⟩
    go_wp2
    go_ret
    exact ⟨rfl, hb1⟩
end Go.Proofs.YticpebpicdboaaaGreatDoor

/- Plain words on digits, and on a list of bytes as a text: no run in this text. -/
namespace Go.Proofs.YticpebpicdboaaaGreatDoor
set_option linter.unusedVariables false

def hexV (c : UInt8) : Int := if 48 ≤ c.toNat ∧ c.toNat ≤ 57 then (c.toNat : Int) - 48 else if 97 ≤ c.toNat ∧ c.toNat ≤ 102 then (c.toNat : Int) - 97 + 10 else if 65 ≤ c.toNat ∧ c.toNat ≤ 70 then (c.toNat : Int) - 65 + 10 else -1
def digB (base : Int) (c : UInt8) : Bool := decide (0 ≤ hexV c) && decide (hexV c < base)
def numF (base : Int) : Int → List UInt8 → Int
  | n, [] => n
  | n, c :: t => if digB base c then numF base (n * base + hexV c) t else -1
/-- what digits tell; -1: they are none, or too many -/
def numberL (base : Int) (most : Nat) (l : List UInt8) : Int := if l.length < 1 ∨ most < l.length then -1 else numF base 0 l
theorem hexV_le (c : UInt8) : -1 ≤ hexV c ∧ hexV c ≤ 15 := by
  unfold hexV
  repeat' split
  all_goals omega
theorem numF_lt (base : Int) : ∀ (l : List UInt8) (n : Int), l.all (digB base) = false → numF base n l = -1
  | [], _, h => by simp at h
  | c :: t, n, h => by
    unfold numF
    cases hd : digB base c
    · rfl
    · rw [List.all_cons, hd, Bool.true_and] at h
      simp only [if_true]
      exact numF_lt base t _ h
theorem numF_bd (base : Int) (hb : 0 ≤ base) : ∀ (l : List UInt8) (n : Int), l.all (digB base) = true → 0 ≤ n → 0 ≤ numF base n l ∧ numF base n l < (n + 1) * base ^ l.length
  | [], n, _, h0 => by simp [numF]; omega
  | c :: t, n, h, h0 => by
    rw [List.all_cons, Bool.and_eq_true] at h
    have hd := h.1
    unfold digB at hd
    simp only [Bool.and_eq_true, decide_eq_true_eq] at hd
    unfold numF
    rw [if_pos h.1]
    have hm : 0 ≤ n * base := Int.mul_nonneg h0 hb
    have ih := numF_bd base hb t (n * base + hexV c) h.2 (by omega)
    refine ⟨ih.1, Int.lt_of_lt_of_le ih.2 ?_⟩
    rw [List.length_cons, Int.pow_succ, ← Int.mul_assoc, Int.mul_right_comm]
    refine Int.mul_le_mul_of_nonneg_right ?_ (Int.pow_nonneg hb)
    rw [Int.add_mul]
    omega
theorem number_cases (base : Int) (most : Nat) (l : List UInt8) (hb : 0 ≤ base) : numberL base most l = -1 ∨ (1 ≤ l.length ∧ l.length ≤ most ∧ l.all (digB base) = true ∧ 0 ≤ numberL base most l ∧ numberL base most l < base ^ l.length) := by
  unfold numberL
  split
  · exact .inl rfl
  · rename_i h
    cases hd : l.all (digB base)
    · exact .inl (numF_lt base l 0 hd)
    · have := numF_bd base hb l 0 hd (by omega)
      exact .inr ⟨by omega, by omega, rfl, this.1, by have := this.2; simpa using this⟩
theorem pow_small (base : Int) (k m : Nat) (hb : 1 ≤ base) (h : k ≤ m) : base ^ k ≤ base ^ m := by
  obtain ⟨d, rfl⟩ := Nat.exists_eq_add_of_le h
  rw [Int.pow_add]
  have h1 : 0 ≤ base ^ k := Int.pow_nonneg (by omega)
  have h2 : 1 ≤ base ^ d := by
    clear h h1
    induction d with
    | zero => simp
    | succ d ih =>
      rw [Int.pow_succ]
      have := Int.mul_le_mul ih hb (by omega) (by omega)
      omega
  have := Int.mul_le_mul_of_nonneg_left h2 h1
  omega
def bst (l : List UInt8) : ByteArray := ⟨l.toArray⟩
theorem bst_toList (l : List UInt8) : (bst l).data.toList = l := rfl
theorem bst_of {s : ByteArray} {l : List UInt8} (h : s.data.toList = l) : s = bst l := by
  subst h
  cases s with
  | mk d => rfl
theorem bst_size (l : List UInt8) : (bst l).size = l.length := rfl
end Go.Proofs.YticpebpicdboaaaGreatDoor
