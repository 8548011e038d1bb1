/- What an item without fault lacks; what is kept over new memory. -/
import Derived.Test.YtjkmgpomcnplnaaGreatDoorGS6
import Derived.Test.YtjkmgpomcnplnaaGreatDoorGS2
import Derived.IntWalk
import Derived.Lib.IndexBytes
import Derived.Test.YtjkmgpomcnplnaaGreatDoorGS0
import Derived.Laws.IdiomStrings
import Derived.Test.YtjkmgpomcnplnaaGreatDoorGS1
import Derived.Test.YtjkmgpomcnplnaaGreatDoorGS13
import Derived.Test.YtjkmgpomcnplnaaGreatDoorGS12
import Derived.Lib.AppendIntMem
namespace Go.Proofs.YtjkmgpomcnplnaaGreatDoor
open Go.ChangeShapes Go.WideShapes Go.ChangeAt Go.RowKit
set_option linter.unusedVariables false
theorem empty_str {s : ByteArray} (h : s.toList.isEmpty = true) : s = ⟨#[]⟩ := by
  rw [ByteArray.toList_eq, List.isEmpty_iff] at h
  cases s with
  | mk d =>
    congr 1
    exact Array.toList_eq_nil_iff.1 h
theorem item_text {x : It} (h : itemCode x = 0) (hx : x.name.toList.isEmpty = true) : x.name = ⟨#[]⟩ ∧ x.space = ⟨#[]⟩ ∧ x.attrs = [] := by
  unfold itemCode at h
  split at h
  · omega
  · unfold textCode at h
    split at h
    · omega
    · rename_i h1 h2
      have h3 : x.space.toList.isEmpty = true := by
        cases e : x.space.toList.isEmpty
        · exact absurd (.inl e) h2
        · rfl
      have h4 : x.attrs.length = 0 := by
        rcases Nat.eq_zero_or_pos x.attrs.length with e | e
        · exact e
        · exact absurd (.inr (.inl e)) h2
      exact ⟨empty_str hx, empty_str h3, List.length_eq_zero_iff.1 h4⟩
theorem item_elem {x : It} (h : itemCode x = 0) (hx : x.name.toList.isEmpty = false) : x.text = ⟨#[]⟩ := by
  unfold itemCode at h
  split at h
  · omega
  · rw [if_neg (by rw [hx]; simp)] at h
    unfold elemCode at h
    split at h
    · omega
    · rename_i h2
      refine empty_str ?_
      cases e : x.text.toList.isEmpty
      · exact absurd e h2
      · rfl
theorem alloc_keep {W : World} {p : Addr} {v : Value} (h : W.cell? p = some v) (x : Obj) : (W.alloc x).cell? p = some v := ((below1 W x).cell (World.block_lt_of_cell? _ _ h)).trans h
def digT (n : Nat) : ByteArray := if n < 10 then strOfNums [48 + (n : Int)] else digT (n / 10) ++ strOfNums [48 + (n : Int) % 10]
theorem digT_small {n : Nat} (h : n < 10) : digT n = strOfNums [48 + (n : Int)] := by rw [digT, if_pos h]
theorem digT_big {n : Nat} (h : ¬ n < 10) : digT n = digT (n / 10) ++ strOfNums [48 + (n : Int) % 10] := by rw [digT, if_neg h]
theorem digT_size : ∀ (k n : Nat), n < 10 ^ (k + 1) → (digT n).size ≤ k + 1
  | 0, n, h => by
    rw [digT_small (by simpa using h), strOfNums_size]
    simp
  | k + 1, n, h => by
    by_cases h1 : n < 10
    · rw [digT_small h1, strOfNums_size]
      simp
    · have h2 : n / 10 < 10 ^ (k + 1) := by
        rw [Nat.div_lt_iff_lt_mul (by decide)]
        rw [Nat.pow_succ] at h
        exact h
      have h3 := digT_size k (n / 10) h2
      rw [digT_big h1, ByteArray.size_append, strOfNums_size]
      simp
      omega
theorem digT_size19 {n : Nat} (h : (n : Int) ≤ 9223372036854775807) : (digT n).size ≤ 19 := by
  have h2 : (10 : Nat) ^ (18 + 1) = 10000000000000000000 := by decide
  exact digT_size 18 n (by rw [h2]; omega)
theorem digT_pos (n : Nat) : 1 ≤ (digT n).size := by
  by_cases h : n < 10
  · rw [digT_small h, strOfNums_size]; simp
  · rw [digT_big h, ByteArray.size_append, strOfNums_size]; simp
theorem row1 (W : World) (c : Int) : Row (W.alloc (.cells #[.int .u8 c] 5)) .u8 (.slice (some ⟨W.heap.size, 0, none⟩) 1 1) [c] :=
  .inr ⟨W.heap.size, 0, 1, rfl, by simp, by unfold maxLen; omega, by simp, fun i hi => match i, hi with | 0, _ => by simp⟩
theorem conv1 {W : World} {b : Nat} {c : Int} (h : Row W .u8 (.slice (some ⟨b, 0, none⟩) 1 1) [c]) : (convert 22 9 (.slice (some ⟨b, 0, none⟩) 1 1)).run Tryz.prog W = .ok (.string (strOfNums [c])) W :=
  conv_row (P := Tryz.prog) W Tryz.underlying22 Tryz.underlying5 Tryz.underlying9 h
def TextB (s : ByteArray) (w : World) (e : Ending) (w' : World) : Prop := e = .returned (.string s) ∧ Below w.heap.size w w'
set_option maxRecDepth 100000 in
set_option maxHeartbeats 800000 in
theorem l1Digits_any (n : Nat) : (n : Int) ≤ 9223372036854775807 → ∀ w, Calls Tryz.prog 99 #[.int .i64 n] w (TextB (digT n) w) := by
  induction n using Nat.strongRecOn with
  | ind n ih =>
    intro hb w
    unfold TextB
    by_cases h : n < 10
    · rw [digT_small h]
      have h' : (n : Int) < 10 := by omega
      have hcv := conv1 (row1 w (48 + (n : Int)))
      clear ih hb h
      go_enter Tryz.func99, Tryz.ntmps99
      go_wp2
      go_ret
      exact ⟨rfl, below1 _ _⟩
    · have K := Lib.hid (ih (n / 10) (by omega) (by omega))
      unfold TextB at K
      rw [digT_big h]
      have e : ((n / 10 : Nat) : Int) = (n : Int) / 10 := by omega
      rw [e] at K
      have hsz := digT_size19 (n := n / 10) (by omega)
      generalize digT (n / 10) = t at K hsz ⊢
      have h' : 10 ≤ (n : Int) := by omega
      have q1 : 0 ≤ (n : Int) % 10 := by omega
      have q2 : (n : Int) % 10 < 10 := by omega
      have hs1 : (strOfNums [48 + (n : Int) % 10]).size ≤ 1 := by rw [strOfNums_size]; simp
      have hr0 := Lib.hid (row1 w (48 + (n : Int) % 10))
      have hcv0 := conv1 (W := (w.alloc (.cells #[.int .u8 (48 + (n : Int) % 10)] 5)).drew) (hr0.out.drewN 1)
      have k1 : IntKind.i64.wrap ((n : Int) / 10) = (n : Int) / 10 := IntWalk.i64_in _ (by omega)
      have k2 : (n : Int).tmod 10 = (n : Int) % 10 := Int.tmod_eq_emod_of_nonneg (by omega)
      have k3 : IntKind.i64.wrap (48 + (n : Int) % 10) = 48 + (n : Int) % 10 := IntWalk.i64_in _ (by omega)
      have k4 : IntKind.u8.wrap (48 + (n : Int) % 10) = 48 + (n : Int) % 10 := IntWalk.u8_in _ (by omega)
      clear ih h e
      go_enter Tryz.func99, Tryz.ntmps99
      go_wp2
      go_region_with (go_at_call 99; refine (K.out _).mono ?_; rintro e w1 ⟨rfl, hb1⟩; have hcv1 := conv1 (row1 w1 (48 + (n : Int) % 10)); try (have hcv2 := conv1 ((hr0.out.drewN 1).below hb1)))
      all_goals
        go_wp2
        go_ret
        first
          | exact ⟨rfl, (below_of_drew hb1).alloc (below_of_drew hb1).size _⟩
          | exact ⟨rfl, ((below1 w _).drew).trans (hb1.mono (by simp))⟩
theorem dig_data (x : Nat) (h : x < 10) : (strOfNums [48 + (x : Int)]).data.toList = [UInt8.ofNat (48 + x)] := by
  rw [strOfNums_data]
  simp only [List.map_cons, List.map_nil]
  rw [show (48 + (x : Int)).toNat = 48 + x by omega]
theorem digT_data {n : Nat} (h : ¬ n < 10) : (digT n).data.toList = (digT (n / 10)).data.toList ++ [UInt8.ofNat (48 + n % 10)] := by
  rw [digT_big h, ByteArray.data_append, Array.toList_append]
  have e : (48 + (n : Int) % 10) = 48 + ((n % 10 : Nat) : Int) := by omega
  rw [e, dig_data _ (by omega)]
def numT (n : Int) : ByteArray := if n < 0 then ⟨#[45]⟩ ++ digT n.natAbs else digT n.natAbs
theorem l7Number_any (n : Int) (h1 : -9223372036854775807 ≤ n) (h2 : n ≤ 9223372036854775807) (w : World) :
    Calls Tryz.prog 66 #[.int .i64 n] w (TextB (numT n) w) := by
  have K := Lib.hid (l1Digits_any n.natAbs (by omega))
  unfold numT
  unfold TextB at K ⊢
  have hsz := digT_size19 (n := n.natAbs) (by omega)
  generalize digT n.natAbs = t at K hsz ⊢
  by_cases h : n < 0
  · rw [if_pos h]
    have e : (n.natAbs : Int) = -n := by omega
    rw [e] at K
    clear e
    go_enter Tryz.func66, Tryz.ntmps66
    go_wp2_with fail
    refine (K.out _).mono ?_
    rintro e w1 ⟨rfl, hb1⟩
    go_wp2
    exact bodyPost_ret (v := .string _) (by simp [results, Tryz.results66, go_sem]) rfl ⟨rfl, hb1⟩
  · rw [if_neg h]
    have e : (n.natAbs : Int) = n := by omega
    rw [e] at K
    clear e
    go_enter Tryz.func66, Tryz.ntmps66
    go_wp2_with fail
    refine (K.out _).mono ?_
    rintro e w1 ⟨rfl, hb1⟩
    go_wp2
    go_ret
    exact ⟨rfl, hb1⟩
end Go.Proofs.YtjkmgpomcnplnaaGreatDoor
namespace Go.Proofs.YtjkmgpomcnplnaaGreatDoor
set_option linter.unusedVariables false
def hexV (c : UInt8) : Int := if 48 ≤ c.toNat ∧ c.toNat ≤ 57 then (c.toNat : Int) - 48 else if 97 ≤ c.toNat ∧ c.toNat ≤ 102 then (c.toNat : Int) - 97 + 10 else if 65 ≤ c.toNat ∧ c.toNat ≤ 70 then (c.toNat : Int) - 65 + 10 else -1
def digB (base : Int) (c : UInt8) : Bool := decide (0 ≤ hexV c) && decide (hexV c < base)
def numF (base : Int) : Int → List UInt8 → Int
  | n, [] => n
  | n, c :: t => if digB base c then numF base (n * base + hexV c) t else -1
def numberL (base : Int) (most : Nat) (l : List UInt8) : Int := if l.length < 1 ∨ most < l.length then -1 else numF base 0 l
theorem hexV_le (c : UInt8) : -1 ≤ hexV c ∧ hexV c ≤ 15 := by
  unfold hexV
  repeat' split
  all_goals omega
theorem numF_lt (base : Int) : ∀ (l : List UInt8) (n : Int), l.all (digB base) = false → numF base n l = -1
  | [], _, h => by simp at h
  | c :: t, n, h => by
    unfold numF
    cases hd : digB base c
    · rfl
    · rw [List.all_cons, hd, Bool.true_and] at h
      simp only [if_true]
      exact numF_lt base t _ h
theorem numF_bd (base : Int) (hb : 0 ≤ base) : ∀ (l : List UInt8) (n : Int), l.all (digB base) = true → 0 ≤ n → 0 ≤ numF base n l ∧ numF base n l < (n + 1) * base ^ l.length
  | [], n, _, h0 => by simp [numF]; omega
  | c :: t, n, h, h0 => by
    rw [List.all_cons, Bool.and_eq_true] at h
    have hd := h.1
    unfold digB at hd
    simp only [Bool.and_eq_true, decide_eq_true_eq] at hd
    unfold numF
    rw [if_pos h.1]
    have hm : 0 ≤ n * base := Int.mul_nonneg h0 hb
    have ih := numF_bd base hb t (n * base + hexV c) h.2 (by omega)
    refine ⟨ih.1, Int.lt_of_lt_of_le ih.2 ?_⟩
    rw [List.length_cons, Int.pow_succ, ← Int.mul_assoc, Int.mul_right_comm]
    refine Int.mul_le_mul_of_nonneg_right ?_ (Int.pow_nonneg hb)
    rw [Int.add_mul]
    omega
theorem number_cases (base : Int) (most : Nat) (l : List UInt8) (hb : 0 ≤ base) : numberL base most l = -1 ∨ (1 ≤ l.length ∧ l.length ≤ most ∧ l.all (digB base) = true ∧ 0 ≤ numberL base most l ∧ numberL base most l < base ^ l.length) := by
  unfold numberL
  split
  · exact .inl rfl
  · rename_i h
    cases hd : l.all (digB base)
    · exact .inl (numF_lt base l 0 hd)
    · have := numF_bd base hb l 0 hd (by omega)
      exact .inr ⟨by omega, by omega, rfl, this.1, by have := this.2; simpa using this⟩
theorem pow_small (base : Int) (k m : Nat) (hb : 1 ≤ base) (h : k ≤ m) : base ^ k ≤ base ^ m := by
  obtain ⟨d, rfl⟩ := Nat.exists_eq_add_of_le h
  rw [Int.pow_add]
  have h1 : 0 ≤ base ^ k := Int.pow_nonneg (by omega)
  have h2 : 1 ≤ base ^ d := by
    clear h h1
    induction d with
    | zero => simp
    | succ d ih =>
      rw [Int.pow_succ]
      have := Int.mul_le_mul ih hb (by omega) (by omega)
      omega
  have := Int.mul_le_mul_of_nonneg_left h2 h1
  omega
def bst (l : List UInt8) : ByteArray := ⟨l.toArray⟩
theorem bst_size (l : List UInt8) : (bst l).size = l.length := rfl
end Go.Proofs.YtjkmgpomcnplnaaGreatDoor
namespace Go.Proofs.YtjkmgpomcnplnaaGreatDoor
open Go.ChangeShapes Go.WideShapes Go.ChangeAt Go.RowKit
set_option linter.unusedVariables false
theorem l3Hex_any (c : UInt8) (w : World) :
    Calls Tryz.prog 137 #[.int .u8 (c.toNat : Int)] w fun e w' => e = .returned (.int .i64 (hexV c)) ∧ w' = w := by
  have h256 := c.toNat_lt
  have e : hexV c = if 48 ≤ (c.toNat : Int) ∧ (c.toNat : Int) ≤ 57 then (c.toNat : Int) - 48 else if 97 ≤ (c.toNat : Int) ∧ (c.toNat : Int) ≤ 102 then (c.toNat : Int) - 97 + 10 else if 65 ≤ (c.toNat : Int) ∧ (c.toNat : Int) ≤ 70 then (c.toNat : Int) - 65 + 10 else -1 := by
    unfold hexV
    repeat' split
    all_goals first | rfl | omega
  rw [e]
  have x0 : 0 ≤ (c.toNat : Int) := by omega
  have x1 : (c.toNat : Int) ≤ 255 := by omega
  generalize (c.toNat : Int) = x at x0 x1
  clear e h256
  by_cases h1 : 48 ≤ x ∧ x ≤ 57
  · rw [if_pos h1]
    obtain ⟨a, b⟩ := h1
    go_enter Tryz.func137, Tryz.ntmps137
    go_wp2
    go_ret
    exact ⟨rfl, rfl⟩
  · rw [if_neg h1]
    by_cases h2 : 97 ≤ x ∧ x ≤ 102
    · rw [if_pos h2]
      obtain ⟨a, b⟩ := h2
      clear h1
      go_enter Tryz.func137, Tryz.ntmps137
      go_wp2
      go_ret
      exact ⟨rfl, rfl⟩
    · rw [if_neg h2]
      by_cases h3 : 65 ≤ x ∧ x ≤ 70
      · rw [if_pos h3]
        obtain ⟨a, b⟩ := h3
        clear h1 h2
        go_enter Tryz.func137, Tryz.ntmps137
        go_wp2
        go_ret
        exact ⟨rfl, rfl⟩
      · rw [if_neg h3]
        have hq : (x < 48 ∨ 57 < x) ∧ (x < 97 ∨ 102 < x) ∧ (x < 65 ∨ 70 < x) := by omega
        have HQ := Lib.hid hq
        clear h1 h2 h3 hq
        go_enter Tryz.func137, Tryz.ntmps137
        go_wp2
        all_goals first | (exfalso; have := HQ.out; omega) | (go_ret; exact ⟨rfl, rfl⟩)
theorem numF_all {base : Int} {l : List UInt8} {k : Nat} (h : (l.take k).all (digB base) = true) (hk : k = l.length) (h1 : 1 ≤ l.length) {most : Nat} (h2 : l.length ≤ most) : numberL base most l = numF base 0 (l.take k) := by
  subst hk
  rw [List.take_length]
  unfold numberL
  rw [if_neg (by omega)]
theorem take_snoc' (s : ByteArray) (k : Nat) (h : k < s.size) : s.data.toList.take (k + 1) = s.data.toList.take k ++ [s[k]] := by
  rw [List.take_succ_eq_append_getElem (by simpa using h)]
  rfl
theorem numF_snoc' (base : Int) : ∀ (l : List UInt8) (n : Int) (c : UInt8), (l ++ [c]).all (digB base) = true → numF base n (l ++ [c]) = numF base n l * base + hexV c
  | [], n, c, h => by
    simp at h
    simp [numF, h]
  | d :: t, n, c, h => by
    rw [List.cons_append, List.all_cons, Bool.and_eq_true] at h
    have ih := numF_snoc' base t (n * base + hexV d) c h.2
    simp only [List.cons_append, numF, h.1, if_true]
    exact ih
theorem seven' {base : Int} {k : Nat} (hb : base = 10 ∨ base = 16) (hk : k ≤ 6) : (1 : Int) * base ^ k ≤ 16777216 := by
  have h1 := pow_small base k 6 (by omega) hk
  rcases hb with rfl | rfl
  · have : (10 : Int) ^ 6 = 1000000 := by decide
    omega
  · have : (16 : Int) ^ 6 = 16777216 := by decide
    omega
theorem all_take_false' {l : List UInt8} {k : Nat} {c : UInt8} {p : UInt8 → Bool} (h : l.take (k + 1) = l.take k ++ [c]) (hc : p c = false) : l.all p = false := by
  rw [← List.take_append_drop (k + 1) l, h, List.all_append, List.all_append]
  simp [hc]
set_option maxHeartbeats 1600000 in
theorem l3Number10 (most : Nat) (hm : most ≤ 7) (s : ByteArray) (hs : s.size ≤ maxLen) (w : World) :
    Calls Tryz.prog 127 #[.string s, .int .i64 10, .int .i64 most] w fun e w' => e = .returned (.int .i64 (numberL 10 most s.data.toList)) ∧ w' = w := by
  unfold maxLen at hs
  have hl : s.data.toList.length = s.size := by simp
  have hm' : (most : Int) ≤ 7 := by omega
  by_cases h0 : s.size < 1
  · have e : numberL 10 most s.data.toList = -1 := by unfold numberL; rw [if_pos (by omega)]
    rw [e]
    have h0' : (s.size : Int) < 1 := by omega
    clear e hl h0
    go_enter Tryz.func127, Tryz.ntmps127
    go_wp2
    go_ret
    exact ⟨rfl, rfl⟩
  · have h1 : 1 ≤ (s.size : Int) := by omega
    by_cases h2 : most < s.size
    · have e : numberL 10 most s.data.toList = -1 := by unfold numberL; rw [if_pos (by omega)]
      rw [e]
      have h2' : (most : Int) < (s.size : Int) := by omega
      clear e hl h0 h2
      go_enter Tryz.func127, Tryz.ntmps127
      go_wp2
      go_ret
      exact ⟨rfl, rfl⟩
    · have h2' : (s.size : Int) ≤ (most : Int) := by omega
      generalize hr : numberL 10 most s.data.toList = r
      have HR := Lib.hid hr
      have HL := Lib.hid hl
      have h7 : s.size ≤ 7 := by omega
      clear hr hl h0
      go_enter Tryz.func127, Tryz.ntmps127
      go_wp2
      go_loop [7, 8] (fun n i => ∃ (k : Nat) (a : Int), k ≤ s.size ∧ i = .int .i64 k ∧ n = .int .i64 a ∧ Hid ((s.data.toList.take k).all (digB 10) = true ∧ a = numF 10 0 (s.data.toList.take k))) (fun _ i => s.size - (intOf i).toNat)
      case atStart => exact ⟨0, 0, Nat.zero_le _, rfl, rfl, by simp, rfl⟩
      case round =>
        obtain ⟨k, a, hk, rfl, rfl, hh⟩ := hrel
        by_cases hkn : k < s.size
        · have hbd := numF_bd 10 (by omega) _ 0 hh.out.1 (by omega)
          rw [← hh.out.2, List.length_take, HL.out, Nat.min_eq_left hk] at hbd
          have hsv := seven' (base := 10) (k := k) (by omega) (by omega)
          obtain ⟨a0, a1⟩ := hbd
          have a2 : a < 16777216 := by omega
          have HS := Lib.hid (take_snoc' s k hkn)
          have KH := Lib.hid (l3Hex_any s[k])
          have hv := hexV_le s[k]
          cases hdg : digB 10 s[k]
          · have hr : r = -1 := by
              rw [← HR.out]
              unfold numberL
              rw [if_neg (by rw [HL.out]; omega)]
              exact numF_lt _ _ 0 (all_take_false' HS.out hdg)
            subst hr
            unfold digB at hdg
            clear hsv a1 hh HS
            have hq : hexV s[k] < 0 ∨ 10 ≤ hexV s[k] := by
              simp at hdg
              omega
            generalize hexV s[k] = v at KH hv hq
            clear hdg
            rcases hq with hq | hq
            · go_wp2_with (go_at_call 137; refine (KH.out _).mono ?_; rintro e w' ⟨rfl, rfl⟩)
              all_goals go_ret
              all_goals exact ⟨rfl, rfl⟩
            · have hq' : 0 ≤ v := by omega
              go_wp2_with (go_at_call 137; refine (KH.out _).mono ?_; rintro e w' ⟨rfl, rfl⟩)
              all_goals go_ret
              all_goals exact ⟨rfl, rfl⟩
          · have hall : (s.data.toList.take (k + 1)).all (digB 10) = true := by rw [HS.out, List.all_append, hh.out.1]; simp [hdg]
            have hnum : numF 10 0 (s.data.toList.take (k + 1)) = a * 10 + hexV s[k] := by
              rw [HS.out] at hall ⊢
              rw [numF_snoc' _ _ _ _ hall, ← hh.out.2]
            have HN := Lib.hid (And.intro hall hnum.symm)
            unfold digB at hdg
            simp only [Bool.and_eq_true, decide_eq_true_eq] at hdg
            obtain ⟨v0, v1⟩ := hdg
            clear hsv a1 hh HS hall hnum
            generalize hexV s[k] = v at KH hv HN v0 v1
            go_wp2_with (go_at_call 137; refine (KH.out _).mono ?_; rintro e w' ⟨rfl, rfl⟩)
            all_goals
              go_round
              case rel => exact ⟨k + 1, a * 10 + v, by omega, by go_num, rfl, HN⟩
              case measure => simp [intOf]; omega
        · obtain rfl : k = s.size := by omega
          have hr : r = a := by rw [← HR.out, numF_all hh.out.1 HL.out.symm (by rw [HL.out]; omega) (by rw [HL.out]; omega), ← hh.out.2]
          subst hr
          clear hh
          go_wp2
          go_ret
          exact ⟨rfl, rfl⟩
def digitsL (l : List UInt8) : List UInt8 := if l.take 1 = [45] then l.drop 1 else l
def signedN (l : List UInt8) (n : Int) : Int := if l.take 1 = [45] then -n else n
def numOf (l : List UInt8) : Option Int :=
  if numberL 10 3 (digitsL l) < 0 then none
  else if (numT (signedN l (numberL 10 3 (digitsL l)))).data.toList = l then some (signedN l (numberL 10 3 (digitsL l))) else none
theorem dig_val (x : Nat) (h : x < 10) : digB 10 (UInt8.ofNat (48 + x)) = true ∧ hexV (UInt8.ofNat (48 + x)) = x := by
  have hx : x = 0 ∨ x = 1 ∨ x = 2 ∨ x = 3 ∨ x = 4 ∨ x = 5 ∨ x = 6 ∨ x = 7 ∨ x = 8 ∨ x = 9 := by omega
  rcases hx with rfl | rfl | rfl | rfl | rfl | rfl | rfl | rfl | rfl | rfl <;> decide
theorem numF_dig (n : Nat) : (digT n).data.toList.all (digB 10) = true ∧ numF 10 0 (digT n).data.toList = n := by
  induction n using Nat.strongRecOn with
  | ind n ih =>
    by_cases h : n < 10
    · obtain ⟨h1, h2⟩ := dig_val n h
      rw [digT_small h, dig_data n h]
      refine ⟨by simp only [List.all_cons, List.all_nil, Bool.and_true]; exact h1, ?_⟩
      simp only [numF, h1, if_true]
      omega
    · obtain ⟨i1, i2⟩ := ih (n / 10) (by omega)
      obtain ⟨h1, h2⟩ := dig_val (n % 10) (by omega)
      rw [digT_data h]
      have ha : ((digT (n / 10)).data.toList ++ [UInt8.ofNat (48 + n % 10)]).all (digB 10) = true := by rw [List.all_append, i1]; simp only [List.all_cons, List.all_nil, Bool.and_true, Bool.true_and]; exact h1
      refine ⟨ha, ?_⟩
      rw [numF_snoc' _ _ _ _ ha, i2, h2]
      omega
theorem digT_head (n : Nat) : ∃ c t, (digT n).data.toList = c :: t ∧ c ≠ 45 := by
  have h := (numF_dig n).1
  have hp := digT_pos n
  have hl : (digT n).data.toList.length = (digT n).size := by simp
  cases hd : (digT n).data.toList with
  | nil => rw [hd] at hl; simp at hl; omega
  | cons c t =>
    rw [hd, List.all_cons, Bool.and_eq_true] at h
    refine ⟨c, t, rfl, ?_⟩
    rintro rfl
    exact absurd h.1 (by decide)
theorem numOf_text (m : Int) (h1 : -999 ≤ m) (h2 : m ≤ 999) : numOf (numT m).data.toList = some m := by
  have hs := digT_size 2 m.natAbs (by have : (10 : Nat) ^ (2 + 1) = 1000 := by decide
                                      omega)
  have hp := digT_pos m.natAbs
  have hl : (digT m.natAbs).data.toList.length = (digT m.natAbs).size := by simp
  obtain ⟨c, t, e, hc⟩ := digT_head m.natAbs
  have hn : numberL 10 3 (digT m.natAbs).data.toList = m.natAbs := by
    unfold numberL
    rw [if_neg (by omega)]
    exact (numF_dig _).2
  by_cases hm : m < 0
  · have hT : (numT m).data.toList = 45 :: (digT m.natAbs).data.toList := by
      unfold numT
      rw [if_pos hm, ByteArray.data_append, Array.toList_append]
      rfl
    have hd : digitsL (numT m).data.toList = (digT m.natAbs).data.toList := by unfold digitsL; rw [hT]; rfl
    have hg : signedN (numT m).data.toList (m.natAbs : Int) = m := by unfold signedN; rw [hT]; simp; omega
    unfold numOf
    rw [hd, hn, hg, if_neg (by omega), if_pos rfl]
  · have hT : (numT m).data.toList = (digT m.natAbs).data.toList := by unfold numT; rw [if_neg hm]
    have hk : (numT m).data.toList.take 1 ≠ [45] := by rw [hT, e]; simpa using hc
    have hd : digitsL (numT m).data.toList = (digT m.natAbs).data.toList := by unfold digitsL; rw [if_neg hk, hT]
    have hg : signedN (numT m).data.toList (m.natAbs : Int) = m := by unfold signedN; rw [if_neg hk]; omega
    unfold numOf
    rw [hd, hn, hg, if_neg (by omega), if_pos rfl]
theorem numOf_some {l : List UInt8} {m : Int} (h : numOf l = some m) : -999 ≤ m ∧ m ≤ 999 ∧ (numT m).data.toList = l := by
  unfold numOf at h
  split at h
  · cases h
  · rename_i h0
    split at h
    · rename_i h1
      cases h
      refine ⟨?_, ?_, h1⟩
      all_goals
        rcases number_cases 10 3 (digitsL l) (by decide) with e | ⟨_, b, _, c, d⟩
        · omega
        · have hp := pow_small 10 _ 3 (by decide) b
          have h3 : (10 : Int) ^ 3 = 1000 := by decide
          unfold signedN
          split <;> omega
    · cases h
theorem nfirst_is {s : ByteArray} {c : UInt8} (h : s.data.toList.take 1 = [c]) : ∃ h : 0 < s.size, s[0] = c := by
  have hl : s.data.toList.length = s.size := by simp
  have h0 : 0 < s.size := by
    cases hx : s.data.toList with
    | nil => rw [hx] at h; simp at h
    | cons a t => rw [hx] at hl; simp at hl; omega
  refine ⟨h0, ?_⟩
  have := head_byte s h0
  rw [← this]
  generalize s.data.toList = l at h
  cases l with
  | nil => simp at h
  | cons a t => simpa using h
theorem nfirst_isnt {s : ByteArray} {c : UInt8} (h : s.data.toList.take 1 ≠ [c]) (h0 : 0 < s.size) : s[0] ≠ c := by
  intro hb
  have := head_byte s h0
  rw [hb] at this
  have hl : s.data.toList.length = s.size := by simp
  generalize s.data.toList = l at h this hl
  cases l with
  | nil => simp at hl; omega
  | cons a t => simp at this; simp [this] at h
def ReadN (l : List UInt8) (w : World) (e : Ending) (w' : World) : Prop :=
  ∃ (m : Int) (b : Bool), e = .returned (.tuple #[.int .i64 m, .bool b]) ∧ numOf l = (if b then some m else none) ∧ Below w.heap.size w w'
set_option maxHeartbeats 1600000 in
theorem l7Read_any (s : ByteArray) (hs : s.size ≤ maxLen) (w : World) : Calls Tryz.prog 112 #[.string s] w (ReadN s.data.toList w) := by
  have hl : s.data.toList.length = s.size := by simp
  have hm := hs
  unfold maxLen at hm
  have hd1 : (s.extract 1 s.size).data.toList = s.data.toList.drop 1 := Lib.extract_to_end _ _
  generalize hr : numberL 10 3 (digitsL s.data.toList) = n
  have hbd : -1 ≤ n ∧ n ≤ 999 := by
    subst hr
    rcases number_cases 10 3 (digitsL s.data.toList) (by decide) with e | ⟨_, b, _, c, d⟩
    · rw [e]; omega
    · have hp := pow_small 10 _ 3 (by decide) b
      have h3 : (10 : Int) ^ 3 = 1000 := by decide
      omega
  by_cases hg : s.data.toList.take 1 = [45]
  · obtain ⟨h0, hb⟩ := nfirst_is hg
    have hb' : ((s[0].toNat : Int) == 45) = true := by rw [hb]; rfl
    have KN := Lib.hid (l3Number10 3 (by decide) (s.extract 1 s.size) (by unfold maxLen; rw [ByteArray.size_extract]; omega))
    have hdg : digitsL s.data.toList = s.data.toList.drop 1 := by unfold digitsL; rw [if_pos hg]
    rw [hd1, ← hdg, hr] at KN
    have hsz : (s.extract 1 s.size).size = s.size - 1 := by rw [ByteArray.size_extract]; omega
    have hsg : signedN s.data.toList n = -n := by unfold signedN; rw [if_pos hg]
    by_cases hn : n < 0
    · have ho : numOf s.data.toList = none := by unfold numOf; rw [hr, if_pos hn]
      have HO := Lib.hid ho
      clear hd1 hdg hsg ho hb hg hl hr
      go_enter Tryz.func112, Tryz.ntmps112
      go_wp2_with fail
      refine (KN.out _).mono ?_
      rintro e w1 ⟨rfl, rfl⟩
      go_wp2
      go_ret2
      exact ⟨_, false, rfl, by rw [HO.out]; rfl, Below.refl _ _⟩
    · have KT := Lib.hid (l7Number_any (-n) (by omega) (by omega))
      unfold TextB at KT
      have ho : numOf s.data.toList = if (numT (-n)).toList == s.toList then some (-n) else none := by
        unfold numOf
        rw [hr, if_neg hn, hsg, ByteArray.toList_eq, ByteArray.toList_eq]
        by_cases hx : (numT (-n)).data.toList = s.data.toList
        · rw [if_pos hx, if_pos (by simpa using hx)]
        · rw [if_neg hx, if_neg (by simpa using hx)]
      have HO := Lib.hid ho
      generalize numT (-n) = T at KT HO
      have hlt : ((s.extract 1 s.size).size : Int) < (s.size : Int) := by omega
      clear hd1 hdg hsg ho hb hg hl hr
      go_enter Tryz.func112, Tryz.ntmps112
      go_wp2_with fail
      refine (KN.out _).mono ?_
      rintro e w1 ⟨rfl, rfl⟩
      go_wp2_with fail
      refine (KT.out _).mono ?_
      rintro e w2 ⟨rfl, hb2⟩
      go_wp2
      go_ret2
      exact ⟨_, _, rfl, HO.out, hb2⟩
  · have hdg : digitsL s.data.toList = s.data.toList := by unfold digitsL; rw [if_neg hg]
    have KN := Lib.hid (l3Number10 3 (by decide) s hs)
    have hrr := hr
    rw [hdg] at hrr
    rw [hrr] at KN
    have hsg : signedN s.data.toList n = n := by unfold signedN; rw [if_neg hg]
    have hc : s.size = 0 ∨ ∃ h : 0 < s.size, s[0] ≠ 45 := by
      by_cases h0 : s.size = 0
      · exact .inl h0
      · exact .inr ⟨by omega, nfirst_isnt hg _⟩
    by_cases hn : n < 0
    · have ho : numOf s.data.toList = none := by unfold numOf; rw [hr, if_pos hn]
      have HO := Lib.hid ho
      clear hd1 hdg hsg ho hg hl hr hrr
      rcases hc with h0 | ⟨h0, hb⟩
      · go_enter Tryz.func112, Tryz.ntmps112
        go_wp2_with fail
        refine (KN.out _).mono ?_
        rintro e w1 ⟨rfl, rfl⟩
        go_wp2
        go_ret2
        exact ⟨_, false, rfl, by rw [HO.out]; rfl, Below.refl _ _⟩
      · have hb' : ((s[0].toNat : Int) == 45) = false := by rw [beq_eq_false_iff_ne]; intro e; exact hb (UInt8.toNat_inj.1 (by simpa using (by omega : s[0].toNat = 45)))
        go_enter Tryz.func112, Tryz.ntmps112
        go_wp2_with fail
        refine (KN.out _).mono ?_
        rintro e w1 ⟨rfl, rfl⟩
        go_wp2
        go_ret2
        exact ⟨_, false, rfl, by rw [HO.out]; rfl, Below.refl _ _⟩
    · have KT := Lib.hid (l7Number_any n (by omega) (by omega))
      unfold TextB at KT
      have ho : numOf s.data.toList = if (numT n).toList == s.toList then some n else none := by
        unfold numOf
        rw [hr, if_neg hn, hsg, ByteArray.toList_eq, ByteArray.toList_eq]
        by_cases hx : (numT n).data.toList = s.data.toList
        · rw [if_pos hx, if_pos (by simpa using hx)]
        · rw [if_neg hx, if_neg (by simpa using hx)]
      have HO := Lib.hid ho
      generalize numT n = T at KT HO
      clear hd1 hdg hsg ho hg hl hr hrr
      rcases hc with h0 | ⟨h0, hb⟩
      · go_enter Tryz.func112, Tryz.ntmps112
        go_wp2_with fail
        refine (KN.out _).mono ?_
        rintro e w1 ⟨rfl, rfl⟩
        go_wp2_with fail
        refine (KT.out _).mono ?_
        rintro e w2 ⟨rfl, hb2⟩
        go_wp2
        go_ret2
        exact ⟨_, _, rfl, HO.out, hb2⟩
      · have hb' : ((s[0].toNat : Int) == 45) = false := by rw [beq_eq_false_iff_ne]; intro e; exact hb (UInt8.toNat_inj.1 (by simpa using (by omega : s[0].toNat = 45)))
        go_enter Tryz.func112, Tryz.ntmps112
        go_wp2_with fail
        refine (KN.out _).mono ?_
        rintro e w1 ⟨rfl, rfl⟩
        go_wp2_with fail
        refine (KT.out _).mono ?_
        rintro e w2 ⟨rfl, hb2⟩
        go_wp2
        go_ret2
        exact ⟨_, _, rfl, HO.out, hb2⟩
def csT : ByteArray := ⟨#[106, 97, 98, 98, 101, 114, 58, 99, 108, 105, 101, 110, 116]⟩
def prT : ByteArray := ⟨#[112, 114, 101, 115, 101, 110, 99, 101]⟩
def fromT : ByteArray := ⟨#[102, 114, 111, 109]⟩
def toT : ByteArray := ⟨#[116, 111]⟩
def typeT : ByteArray := ⟨#[116, 121, 112, 101]⟩
def showNm : ByteArray := ⟨#[115, 104, 111, 119]⟩
def statusNm : ByteArray := ⟨#[115, 116, 97, 116, 117, 115]⟩
def prioNm : ByteArray := ⟨#[112, 114, 105, 111, 114, 105, 116, 121]⟩
def partL (nm t : ByteArray) : List It := if t.toList.isEmpty then [] else [⟨1, ⟨#[]⟩, csT, nm, []⟩, ⟨2, t, ⟨#[]⟩, ⟨#[]⟩, []⟩]
def prioT (n : Int) : ByteArray := if n = 0 then ⟨#[]⟩ else numT n
def attrs3 (p : Pr) : List At := addAt (addAt (addAt [] fromT p.sender) toT p.goal) typeT (kindW p.kind)
def rootI (p : Pr) : It := ⟨0, ⟨#[]⟩, csT, prT, attrs3 p⟩
def headL (p : Pr) : List It := (([rootI p] ++ partL showNm (showW p.shown)) ++ partL statusNm p.status) ++ partL prioNm (prioT p.prio)
def treeL (p : Pr) : List It := headL p ++ movedTo p.more 0 p.more.length 1
def filledL (l : List At) : List At := l.filter fun x => !x.value.toList.isEmpty
theorem filled_snoc (l : List At) (x : At) : filledL (l ++ [x]) = if x.value.toList.isEmpty then filledL l else filledL l ++ [x] := by
  unfold filledL
  rw [List.filter_append]
  cases h : x.value.toList.isEmpty <;> simp [h]
theorem filled_three (p : Pr) : filledL [⟨fromT, p.sender⟩, ⟨toT, p.goal⟩, ⟨typeT, kindW p.kind⟩] = attrs3 p := by
  have e : ([⟨fromT, p.sender⟩, ⟨toT, p.goal⟩, ⟨typeT, kindW p.kind⟩] : List At) = (([] ++ [⟨fromT, p.sender⟩]) ++ [⟨toT, p.goal⟩]) ++ [⟨typeT, kindW p.kind⟩] := rfl
  rw [e, filled_snoc, filled_snoc, filled_snoc]
  rfl
theorem filled_le (l : List At) : (filledL l).length ≤ l.length := List.length_filter_le _ _
theorem partL_len (nm t : ByteArray) : (partL nm t).length ≤ 2 := by unfold partL; split <;> simp
theorem headL_len (p : Pr) : (headL p).length ≤ 7 := by
  have h1 := partL_len showNm (showW p.shown)
  have h2 := partL_len statusNm p.status
  have h3 := partL_len prioNm (prioT p.prio)
  unfold headL
  simp only [List.length_append, List.length_cons, List.length_nil]
  omega
theorem headL_pos (p : Pr) : 1 ≤ (headL p).length := by
  unfold headL
  simp only [List.length_append, List.length_cons, List.length_nil]
  omega
theorem GrowIts.two {w w0 w1 : World} {B : Nat} {v v' : Value} {n : Nat} {l : List It} {A : Nat → Option Addr} {N C : Nat → Nat} {x y : It}
    (h : GrowIts w B v n l A N C) (hw : Below w.heap.size w w0) (hx : x.attrs = []) (hy : y.attrs = []) (hB : B ≤ w.heap.size)
    (hr : w1.ownsRow B 54 5 v' (n + 2) (flatI l A N C ++ [.int .i64 x.depth, .string x.text, .string x.space, .string x.name, .slice none 0 0, .int .i64 y.depth, .string y.text, .string y.space, .string y.name, .slice none 0 0])) (hg : w0.grownBy w1 v.ownBlock)
    (hv : v'.ownBlock = v.ownBlock ∨ ∃ g, v'.ownBlock = some g ∧ w0.heap.size ≤ g) :
    GrowIts w1 B v' (n + 2) (l ++ [x, y]) (putA (l.length + 1) none (putA l.length none A)) (putA (l.length + 1) 0 (putA l.length 0 N)) (putA (l.length + 1) 0 (putA l.length 0 C)) := by
  have hon := Only.grown hg
  have hs0 := hw.size
  have hs1 := hg.size
  have hvlt : ∀ g, v.ownBlock = some g → g < w.heap.size := fun g hgb => (h.row.lt g hgb).2
  have hl : ∀ i, i < l.length → (l ++ [x, y]).getD i dIt = l.getD i dIt := fun i hi => by simp [List.getD_eq_getElem?_getD, List.getElem?_append_left hi]
  have hold : ∀ i, i < l.length → ∀ z, A i = some z → N i ≠ 0 → B ≤ z.block ∧ z.block < w.heap.size := fun i hi z hz hne => (h.ats i hi).1.in hz hne
  have hput : ∀ {α : Type} (u : α) (F : Nat → α) (i : Nat), i < l.length → putA (l.length + 1) u (putA l.length u F) i = F i := fun u F i hi => by
    unfold putA
    rw [if_neg (by omega), if_neg (by omega)]
  have hput2 : ∀ {α : Type} (u : α) (F : Nat → α) (i : Nat), l.length ≤ i → i < l.length + 2 → putA (l.length + 1) u (putA l.length u F) i = u := fun u F i h1 h2 => by
    unfold putA
    by_cases e : i = l.length + 1
    · rw [if_pos e]
    · rw [if_neg e, if_pos (by omega)]
  have hlen : ∀ i, i < (l ++ [x, y]).length → i < l.length ∨ (l.length ≤ i ∧ i < l.length + 2) := fun i hi => by
    simp only [List.length_append, List.length_cons, List.length_nil] at hi
    omega
  refine ⟨?_, fun i hi => ?_, fun i hi z hz hne => ?_, fun i j hi hj hij z z' hz hz' hn hn' => ?_⟩
  · have e : l ++ [x, y] = (l ++ [x]) ++ [y] := by simp
    have e2 : (l ++ [x]).length = l.length + 1 := by simp
    rw [e, ← e2, flatI_snoc, flatI_snoc, List.append_assoc]
    exact hr
  · rcases hlen i hi with h1 | ⟨h1, h2⟩
    · rw [hput _ _ _ h1, hput _ _ _ h1, hput _ _ _ h1, hl i h1]
      have h0 := (h.ats i h1).1.only (Only.below (P := fun _ => False) hw) fun _ _ _ h => h
      have h3 := h0.only hon fun z hz hne hq => h.apart i h1 z hz hne hq.symm
      exact ⟨⟨h3.ats, h3.own.imp id fun ⟨b, g1, g2, g3, g4⟩ => ⟨b, g1, g2, by omega, g4⟩⟩, (h.ats i h1).2⟩
    · rw [hput2 _ _ _ h1 h2, hput2 _ _ _ h1 h2, hput2 _ _ _ h1 h2]
      have ea : ((l ++ [x, y]).getD i dIt).attrs = [] := by
        rw [List.getD_eq_getElem?_getD, List.getElem?_append_right h1]
        rcases (show i - l.length = 0 ∨ i - l.length = 1 by omega) with e | e
        · rw [e]; exact hx
        · rw [e]; exact hy
      rw [ea]
      exact ⟨bareAts _ _ _, fun _ => rfl⟩
  · rcases hlen i hi with h1 | ⟨h1, h2⟩
    · rw [hput _ _ _ h1] at hz hne
      have g1 := hold i h1 z hz hne
      rcases hv with hv | ⟨g, hv, hg2⟩
      · rw [hv]
        exact h.apart i h1 z hz hne
      · rw [hv]
        intro hq
        simp only [Option.some.injEq] at hq
        omega
    · rw [hput2 _ _ _ h1 h2] at hz
      cases hz
  · rcases hlen i hi with h1 | ⟨h1, h2⟩
    · rcases hlen j hj with h3 | ⟨h3, h4⟩
      · rw [hput _ _ _ h1] at hz hn
        rw [hput _ _ _ h3] at hz' hn'
        exact h.each i j h1 h3 hij z z' hz hz' hn hn'
      · rw [hput2 _ _ _ h3 h4] at hz'
        cases hz'
    · rw [hput2 _ _ _ h1 h2] at hz
      cases hz
theorem itemCells2 (W : World) (v0 v1 v2 v3 v4 v5 v6 v7 v8 v9 : Value) (j : Nat) (u : Value) (hj : [v0, v1, v2, v3, v4, v5, v6, v7, v8, v9][j]? = some u) : ((W.alloc (.cells #[v0, v1, v2, v3, v4, v5, v6, v7, v8, v9] 54))).cell? (Addr.add ⟨W.heap.size, 0, none⟩ j) = some u := by
  match j, hj with
  | 0, hj => simp at hj; subst hj; simp [Addr.add]
  | 1, hj => simp at hj; subst hj; simp [Addr.add]
  | 2, hj => simp at hj; subst hj; simp [Addr.add]
  | 3, hj => simp at hj; subst hj; simp [Addr.add]
  | 4, hj => simp at hj; subst hj; simp [Addr.add]
  | 5, hj => simp at hj; subst hj; simp [Addr.add]
  | 6, hj => simp at hj; subst hj; simp [Addr.add]
  | 7, hj => simp at hj; subst hj; simp [Addr.add]
  | 8, hj => simp at hj; subst hj; simp [Addr.add]
  | 9, hj => simp at hj; subst hj; simp [Addr.add]
def AttrNew (w : World) (es : List At) (en : Ending) (w' : World) : Prop :=
  ∃ (a : Option Addr) (n c : Nat), en = .returned (.slice a n c) ∧ w'.ownsRow w.heap.size 52 2 (.slice a n c) n (flatA es) ∧ n ≤ 100 ∧ Below w.heap.size w w'
set_option maxRecDepth 100000 in
set_option maxHeartbeats 1600000 in
theorem filledAttrs_any (a : Option Addr) (n c : Nat) (l : List At) (w : World) (hn : n ≤ 100) (h : AtsAt w a n c l) :
    Calls Tryz.prog 30 #[.slice a n c] w (AttrNew w (filledL l)) := by
  obtain ⟨i0, hi, hz0, hi1, hz2⟩ := info_parts attrInfo
  have HR := Lib.hid h.row
  have HL := Lib.hid h.len
  clear h
  unfold AttrNew
  go_enter Tryz.func30, Tryz.ntmps30
  go_wp2
  go_loopw [3, 8] (fun v i wr => ∃ (k nv cv : Nat) (av : Option Addr), k ≤ n ∧ i = .int .i64 k ∧ v = .slice av nv cv ∧ nv ≤ k ∧ wr.ownsRow w.heap.size 52 2 (.slice av nv cv) nv (flatA (filledL (l.take k))) ∧ Below w.heap.size w wr) (fun _ i _ => n - (intOf i).toNat)
  case atStart => exact ⟨0, 0, 0, none, Nat.zero_le _, rfl, rfl, Nat.le_refl _, World.ownsRow_nil _ _ _ _, Below.refl _ _⟩
  case round =>
    obtain ⟨k, nv, cv, av, hk, rfl, rfl, hnv, ho, hb⟩ := hrel
    have HO := Lib.hid ho
    have HB := Lib.hid hb
    clear ho hb
    by_cases hlt : k < n
    · obtain ⟨b, o, rfl, h3, h4⟩ := HR.out.resolve_left (by omega)
      have d0 : wr.cell? ⟨b, o + k * 2, none⟩ = some (.string (l.getD k dAt).name) := (HB.out.cell (by exact h3)).trans (h4 k hlt).1
      have d1 : wr.cell? ⟨b, o + k * 2 + 1, none⟩ = some (.string (l.getD k dAt).value) := (HB.out.cell (by exact h3)).trans (h4 k hlt).2
      have HT : Hid (filledL (l.take (k + 1)) = if (l.getD k dAt).value.toList.isEmpty then filledL (l.take k) else filledL (l.take k) ++ [l.getD k dAt]) := Lib.hid (by
        have hl := HL.out
        rw [List.take_add_one, List.getElem?_eq_getElem (by omega), Option.toList_some, filled_snoc, List.getD_eq_getElem?_getD, List.getElem?_eq_getElem (by omega)]
        rfl)
      have k1 : (k : Int) < (n : Int) := by omega
      clear h4
      generalize l.getD k dAt = x at d0 d1 HT
      obtain ⟨s, t⟩ := x
      dsimp only at d0 d1 HT
      cases he : t.toList.isEmpty
      · rw [he, if_neg (by simp)] at HT
        have HO1 := Lib.hid (owns_below HO.out (below2 wr (.cells #[.string s, .string t] 52) (.cells #[.string s, .string t] 52)))
        go_wp2_with (at_builtin; refine wpList_append_own_at _ rfl _ _ 49 rfl w.heap.size 52 i0 (.agg #[.string ByteArray.empty, .string ByteArray.empty]) 2 32 Tryz.underlying49 hi hz0 hi1 hz2 rfl (by decide) _ nv _ rfl HO1.out ⟨wr.heap.size + 1, 0, none⟩ 1 1 [.string s, .string t] rfl rfl ?c1 ?c2 ?c3 ?c4 ?c5 ?_)
        case c1 => exact fun j u hj => by have := atCells (wr.alloc (.cells #[.string s, .string t] 52)) s t j u hj; simpa using this
        case c2 => intro v hv; simp at hv; rcases hv with rfl | rfl <;> rfl
        case c3 => unfold maxLen; omega
        case c4 => omega
        case c5 => have := HB.out.size; simp; omega
        intro v' w1 hown hgr _ hat
        obtain ⟨a8, c8, rfl⟩ := owns_slice hown
        have R : Hid (w1.ownsRow w.heap.size 52 2 (.slice a8 (nv + 1) c8) (nv + 1) (flatA (filledL (l.take (k + 1))))) := Lib.hid (by rw [HT.out, flatA_more]; exact hown)
        have B1 := Lib.hid (((HB.out.alloc HB.out.size (.cells #[.string s, .string t] 52)).alloc (by have := HB.out.size; simp; omega) (.cells #[.string s, .string t] 52)).grown hgr (by have := HB.out.size; simp; omega) (fun j hj => (HO.out.lt j hj).1))
        clear hown hgr hat
        go_wp2
        go_roundw
        case rel => exact ⟨k + 1, nv + 1, c8, a8, by omega, by go_num, rfl, by omega, R.out, B1.out⟩
        case measure => simp [intOf]; omega
      · rw [he, if_pos rfl] at HT
        go_wp2
        go_roundw
        case rel => exact ⟨k + 1, nv, cv, av, by omega, by go_num, rfl, by omega, by rw [HT.out]; exact owns_below HO.out (below1 wr _), HB.out.alloc HB.out.size _⟩
        case measure => simp [intOf]; omega
    · obtain rfl : k = n := by omega
      have R : Hid (wr.ownsRow w.heap.size 52 2 (.slice av nv cv) nv (flatA (filledL l))) := Lib.hid (by
        have := HO.out
        rwa [List.take_of_length_le (by have := HL.out; omega)] at this)
      go_wp2
      go_ret
      exact ⟨_, _, _, rfl, R.out, by omega, HB.out⟩
def numCode (n : Int) : Int := if inB n (-999) 999 then 0 else 3
def numText (n : Int) : ByteArray := if inB n (-999) 999 then numT n else ByteArray.empty
end Go.Proofs.YtjkmgpomcnplnaaGreatDoor
namespace Go.Proofs.YtjkmgpomcnplnaaGreatDoor
open Go.ChangeShapes Go.WideShapes Go.ChangeAt Go.RowKit Go.Shelf
set_option linter.unusedVariables false
def Pows (w : World) : Prop := Lib.TabIs Tryz.prog w "internal/strconv.uint64pow10" .u64 Lib.pow10Tab
theorem Pows.below {w w' : World} (h : Pows w) (hb : Below w.heap.size w w') : Pows w' := Lib.tabBelow_of_tabIs h w' hb
theorem decDigits_digT (n : Nat) : Lib.decDigits n = (digT n).data.toList := by
  induction n using Nat.strongRecOn with
  | ind n ih =>
    by_cases h : n < 10
    · rw [Lib.decDigits, dif_pos h, digT_small h, dig_data n h]
    · rw [Lib.decDigits, dif_neg h, digT_data h, ih (n / 10) (by omega)]
theorem itoa_numT (n : Int) : (⟨(Lib.itoa n).toArray⟩ : ByteArray) = numT n := by
  apply ByteArray.ext
  apply Array.toList_inj.1
  rw [List.toList_toArray]
  unfold Lib.itoa numT
  by_cases h : n < 0
  · rw [if_pos h, if_pos h, ByteArray.data_append, Array.toList_append, decDigits_digT]
    rfl
  · rw [if_neg h, if_neg h, decDigits_digT, show n.toNat = n.natAbs by omega]
set_option maxHeartbeats 800000 in
theorem implNumberText_any (n : Int) (w : World) (hT : Pows w) : Calls Tryz.prog 62 #[.int .i64 n] w (TxtRes w (numCode n) (numText n)) := by
  unfold numCode numText
  cases h : inB n (-999) 999
  · have hb : n < -999 ∨ 999 < n := by
      have : ¬ (-999 ≤ n ∧ n ≤ 999) := by simpa [inB] using h
      omega
    clear h hT
    rcases hb with h | h
    · go_enter Tryz.func62, Tryz.ntmps62
      go_wp2
      exact bodyPost_ret (v := .agg #[.int .i64 3, .string _]) (by simp [results, Tryz.results62, go_sem]; rfl) rfl ⟨rfl, below1 w _⟩
    · have h0 : -999 ≤ n := by omega
      go_enter Tryz.func62, Tryz.ntmps62
      go_wp2
      exact bodyPost_ret (v := .agg #[.int .i64 3, .string _]) (by simp [results, Tryz.results62, go_sem]; rfl) rfl ⟨rfl, below1 w _⟩
  · have hb : -999 ≤ n ∧ n ≤ 999 := by simpa [inB] using h
    obtain ⟨h1, h2⟩ := hb
    have K : Hid (∀ W, Pows W → Calls Tryz.prog 94 #[.int .i64 n, .int .i64 10] W fun e w' => e = .returned (.string (numT n)) ∧ Below W.heap.size W w') := by
      refine Lib.hid fun W hW => ?_
      refine (Tryz.strconv_FormatInt_10 n (by omega) (by omega) W hW).mono ?_
      rintro e w' ⟨rfl, k, os, rfl⟩
      exact ⟨by rw [itoa_numT], Lib.below_grow _ _ (Nat.le_refl _) _ _⟩
    have HT := Lib.hid (fun o => hT.below (below1 w o))
    simp only [if_true]
    generalize numT n = t at K ⊢
    clear h hT
    go_enter Tryz.func62, Tryz.ntmps62
    go_wp2_with fail
    refine (K.out _ (HT.out _)).mono ?_
    rintro e w1 ⟨rfl, hb⟩
    obtain ⟨hc, hf⟩ := bcell hb
    have HB := Lib.hid hb
    have hz := hb.size
    simp at hz
    clear hb
    go_wp2
    exact bodyPost_ret (v := .agg #[.int .i64 0, .string t]) (by simp [results, Tryz.results62, go_sem, hc]) rfl ⟨rfl, (((below1 w _).trans (HB.out.mono (by simp))).setCell (by simp) _).setCell (by simp) _⟩
end Go.Proofs.YtjkmgpomcnplnaaGreatDoor
namespace Go.Proofs.YtjkmgpomcnplnaaGreatDoor
open Go.ChangeShapes Go.WideShapes Go.ChangeAt Go.RowKit
set_option linter.unusedVariables false
set_option maxRecDepth 100000 in
set_option maxHeartbeats 3200000 in
theorem withPart_any (B : Nat) (a : Option Addr) (n c : Nat) (l : List It) (A : Nat → Option Addr) (N C : Nat → Nat) (nm t : ByteArray) (w : World) (hB : B ≤ w.heap.size) (hn : n ≤ 1000) (h : GrowIts w B (.slice a n c) n l A N C) :
    Calls Tryz.prog 31 #[.slice a n c, .string nm, .string t] w (GrownRes w B (.slice a n c) (l ++ partL nm t)) := by
  obtain ⟨i0, hi, hz0, hi1, hz2⟩ := info_parts itemInfo
  have H := Lib.hid h
  unfold GrownRes partL
  clear h
  cases he : t.toList.isEmpty
  · rw [if_neg (by simp)]
    unfold csT
    go_enter Tryz.func31, Tryz.ntmps31
    go_wp2_with (at_builtin; refine wpList_append_own_at _ rfl _ _ 24 rfl B 54 i0 (.agg #[.int .i64 0, .string ByteArray.empty, .string ByteArray.empty, .string ByteArray.empty, .slice none 0 0]) 5 80 Tryz.underlying24 hi hz0 hi1 hz2 rfl (by decide) _ n _ rfl (H.out.row.alloc _) ⟨w.heap.size, 0, none⟩ 2 2 [.int .i64 1, .string ⟨#[]⟩, .string ⟨#[106, 97, 98, 98, 101, 114, 58, 99, 108, 105, 101, 110, 116]⟩, .string nm, .slice none 0 0, .int .i64 2, .string t, .string ⟨#[]⟩, .string ⟨#[]⟩, .slice none 0 0] rfl rfl ?c1 ?c2 ?c3 ?c4 ?c5 ?_)
    case c1 => exact fun j u hj => itemCells2 w _ _ _ _ _ _ _ _ _ _ j u hj
    case c2 => intro v hv; simp at hv; rcases hv with rfl | rfl | rfl | rfl | rfl | rfl | rfl | rfl | rfl | rfl <;> rfl
    case c3 => unfold maxLen; omega
    case c4 => omega
    case c5 => simp; omega
    intro v' w1 hown hgr _ hat
    obtain ⟨a1, c1, rfl⟩ := owns_slice hown
    have G1 := Lib.hid (H.out.two (x := ⟨1, ⟨#[]⟩, ⟨#[106, 97, 98, 98, 101, 114, 58, 99, 108, 105, 101, 110, 116]⟩, nm, []⟩) (y := ⟨2, t, ⟨#[]⟩, ⟨#[]⟩, []⟩) (below1 w (.cells #[.int .i64 1, .string ⟨#[]⟩, .string ⟨#[106, 97, 98, 98, 101, 114, 58, 99, 108, 105, 101, 110, 116]⟩, .string nm, .slice none 0 0, .int .i64 2, .string t, .string ⟨#[]⟩, .string ⟨#[]⟩, .slice none 0 0] 54)) rfl rfl hB hown hgr (hat.imp id fun e => ⟨w.heap.size + 1, by simpa using e, by simp⟩))
    have E1 := Lib.hid (grown_trans_row (grown_made (w := w) (.cells #[.int .i64 1, .string ⟨#[]⟩, .string ⟨#[106, 97, 98, 98, 101, 114, 58, 99, 108, 105, 101, 110, 116]⟩, .string nm, .slice none 0 0, .int .i64 2, .string t, .string ⟨#[]⟩, .string ⟨#[]⟩, .slice none 0 0] 54) (Value.slice a n c).ownBlock) hgr)
    have T1 := Lib.hid (hat.imp id fun e => (⟨w.heap.size + 1, by simpa using e, by omega⟩ : ∃ g, (Value.slice a1 (n + 2) c1).ownBlock = some g ∧ w.heap.size ≤ g))
    clear hown hgr hat
    go_wp2
    go_ret
    exact ⟨_, _, _, _, _, _, rfl, G1.out, E1.out, T1.out⟩
  · rw [if_pos rfl, List.append_nil]
    go_enter Tryz.func31, Tryz.ntmps31
    go_wp2
    go_ret
    exact ⟨a, n, c, A, N, C, rfl, H.out, World.grownBy.refl _ _, .inl rfl⟩
theorem priorityText_any (n : Int) (w : World) (hn : -999 ≤ n ∧ n ≤ 999) (hT : Pows w) :
    Calls Tryz.prog 32 #[.int .i64 n] w fun e w' => e = .returned (.string (prioT n)) ∧ Below w.heap.size w w' := by
  have K := implNumberText_any n w hT
  have hi : inB n (-999) 999 = true := by simp [inB]; omega
  have et : numText n = numT n := by unfold numText; rw [hi]; rfl
  unfold TxtRes at K
  rw [et] at K
  unfold prioT
  have K := Lib.hid K
  generalize numCode n = cd at K
  have hf := field_text
  clear hT hn hi et
  by_cases h0 : n = 0
  · rw [if_pos h0]
    subst h0
    go_enter Tryz.func32, Tryz.ntmps32
    go_wp2
    go_ret
    exact ⟨rfl, Below.refl _ _⟩
  · rw [if_neg h0]
    generalize numT n = t at K ⊢
    have q : (n == 0) = false := by rw [beq_eq_false_iff_ne]; exact h0
    clear h0
    go_enter Tryz.func32, Tryz.ntmps32
    go_wp2_with fail
    refine K.out.mono ?_
    rintro e w1 ⟨rfl, hb⟩
    go_wp2
    go_ret
    exact ⟨rfl, hb⟩
end Go.Proofs.YtjkmgpomcnplnaaGreatDoor
