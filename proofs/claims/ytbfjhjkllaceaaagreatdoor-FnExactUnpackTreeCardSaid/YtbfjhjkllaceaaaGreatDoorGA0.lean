/- Texts laid together, part 0. -/
import Derived.Test.YtbfjhjkllaceaaaGreatDoorRows
import Derived.WalkKit
import Derived.ProofKit
import Derived.OpenShut
import Derived.Lib.Hide
import Derived.Deep.QuietTactic
import Derived.Deep.Draws
import Derived.BigQuiet
import Derived.Laws.BytesArg
import Derived.Deep.RegionWith
import Derived.Lib.MapLaws
import Derived.Lib.Strings
import Derived.Lib.IndexBytes
import Derived.Laws.Strings
import Derived.Shelf.Unicode.Decode
import Derived.Shelf.Unicode.DecodeSlow
import Derived.Shelf.Unicode.DecodeAny
import Derived.Test.YtbfjhjkllaceaaaGreatDoorProg
import Derived.Lib.RuneBytes

/- Plain words that all texts use. -/
namespace Go.Proofs.YtbfjhjkllaceaaaGreatDoor
open Go.ChangeShapes Go.WideShapes Go.ChangeAt Go.RowKit
set_option linter.unusedVariables false

/-- A slice value that reads as these numbers. -/
def Row (w : World) (k : IntKind) (v : Value) (xs : List Int) : Prop :=
  (v = .slice none 0 0 ∧ xs = []) ∨ ∃ b o cap, v = .slice (some ⟨b, o, none⟩) xs.length cap ∧ xs.length ≤ cap ∧ cap ≤ maxLen ∧ b < w.heap.size ∧ ∀ i, i < xs.length → w.cell? ⟨b, o + i, none⟩ = some (.int k (xs.getD i 0))

theorem ret_bool {a b : Bool} (h : a = b) : Ending.returned (.bool a) = .returned (.bool b) := by rw [h]

theorem Row.of_owns {w : World} {base : Nat} {e : TypeId} {k : IntKind} {v : Value} {n : Nat} {xs : List Int} (h : w.ownsRow base e 1 v n (xs.map (Value.int k))) : Row w k v xs := by
  have hl : xs.length = n := by have := h.1; simpa using this
  subst hl
  rcases h.2 with ⟨hv, hn⟩ | ⟨g, cap, cur, hv, hg, hh, hnc, hm, hs, ht⟩
  · have : xs = [] := List.length_eq_zero_iff.1 hn
    subst this
    exact .inl ⟨hv, rfl⟩
  · subst hv
    have hlt := (h.lt g rfl).2
    refine .inr ⟨g, 0, cap, rfl, hnc, hm, hlt, fun i hi => ?_⟩
    rw [Nat.zero_add, h.cellAt i (by omega), List.getElem?_map, List.getElem?_eq_getElem hi, List.getD_eq_getElem?_getD, List.getElem?_eq_getElem hi]
    rfl

theorem Row.drewN {w : World} {k : IntKind} {v : Value} {xs : List Int} (h : Row w k v xs) (n : Nat) : Row (w.drewN n) k v xs := h
theorem Row.below {w w' : World} {k : IntKind} {v : Value} {xs : List Int} (h : Row w k v xs) (hb : Below w.heap.size w w') : Row w' k v xs := by
  rcases h with h | ⟨b, o, cap, hv, h1, h2, h3, h4⟩
  · exact .inl h
  · exact .inr ⟨b, o, cap, hv, h1, h2, Nat.lt_of_lt_of_le h3 hb.size, fun i hi => (hb.cell (by exact h3)).trans (h4 i hi)⟩

theorem ne_at {xs ys : List Int} (hl : xs.length = ys.length) (k : Nat) (hk : k < xs.length) (h : (xs.getD k 0 == ys.getD k 0) = false) : decide (xs = ys) = false := by
  rw [decide_eq_false_iff_not]
  rintro rfl
  simp at h
theorem take_eq_succ {xs ys : List Int} (hl : xs.length = ys.length) (k : Nat) (hk : k < xs.length) (h : (xs.getD k 0 == ys.getD k 0) = true) (ht : xs.take k = ys.take k) : xs.take (k + 1) = ys.take (k + 1) := by
  rw [List.take_succ_eq_append_getElem hk, List.take_succ_eq_append_getElem (by omega), ht]
  rw [beq_iff_eq, List.getD_eq_getElem?_getD, List.getElem?_eq_getElem hk, List.getD_eq_getElem?_getD, List.getElem?_eq_getElem (by omega)] at h
  simp only [Option.getD_some] at h
  rw [h]


theorem grown_trans_row {a b c : World} {r : Option Nat} (h : a.grownBy b r) (k : b.grownBy c r) : a.grownBy c r :=
  ⟨k.os.trans h.os, k.tape.trans h.tape, k.output.trans h.output, Nat.le_trans h.size k.size, fun i hi hne => (k.block i (Nat.lt_of_lt_of_le hi h.size) hne).trans (h.block i hi hne)⟩
theorem below_drewN {B : Nat} {a w : World} (h : Below B a w) (n : Nat) : Below B a (w.drewN n) := ⟨h.os, h.tape, h.output, h.size, h.block⟩

theorem below2 (w : World) (o1 o2 : Obj) : Below w.heap.size w ((w.alloc o1).alloc o2) := ((Below.refl _ _).alloc (Nat.le_refl _) _).alloc (by simp) _
theorem below1 (w : World) (o1 : Obj) : Below w.heap.size w (w.alloc o1) := (Below.refl _ _).alloc (Nat.le_refl _) _
theorem below_then {w w1 w2 : World} (h : Below w.heap.size w w1) (k : Below w1.heap.size w1 w2) : Below w.heap.size w w2 := h.trans (k.mono h.size)

/-- a new row of numbers is handed back -/
def OwnsRes (w : World) (e : TypeId) (k : IntKind) (xs : List Int) (en : Ending) (w' : World) : Prop :=
  ∃ a n c, en = .returned (.slice a n c) ∧ w'.ownsRow w.heap.size e 1 (.slice a n c) n (xs.map (Value.int k)) ∧ Below w.heap.size w w'
/-- a struct of a code and a new row of numbers is handed back -/
def OwnsRes2 (w : World) (e : TypeId) (k : IntKind) (cd : Int) (xs : List Int) (en : Ending) (w' : World) : Prop :=
  ∃ a n c, en = .returned (.agg #[.int .i64 cd, .slice a n c]) ∧ w'.ownsRow w.heap.size e 1 (.slice a n c) n (xs.map (Value.int k)) ∧ Below w.heap.size w w'
/-- behind a call that only made memory: what was there reads as it did -/
theorem bcell {W w1 : World} (hb : Below W.heap.size W w1) : (∀ b o, b < W.heap.size → w1.cell? ⟨b, o, none⟩ = W.cell? ⟨b, o, none⟩) ∧ (∀ b o, b < W.heap.size → w1.frozen? ⟨b, o, none⟩ = W.frozen? ⟨b, o, none⟩) :=
  ⟨fun b o h => hb.cell (p := ⟨b, o, none⟩) h, fun b o h => hb.frozen (p := ⟨b, o, none⟩) h⟩
theorem owns_mono {w : World} {base base' : Nat} {e : TypeId} {size : Nat} {v : Value} {n : Nat} {xs : List Value} (h : w.ownsRow base e size v n xs) (hle : base' ≤ base) : w.ownsRow base' e size v n xs := by
  refine ⟨h.1, ?_⟩
  rcases h.2 with h2 | ⟨g, cap, cur, hv, hg, r⟩
  · exact .inl h2
  · exact .inr ⟨g, cap, cur, hv, by omega, r⟩
theorem owns_set_below {w : World} {base : Nat} {e : TypeId} {size : Nat} {v : Value} {n : Nat} {xs : List Value} (h : w.ownsRow base e size v n xs) (p : Addr) (hp : p.block < base) (u : Value) : (w.setCell p u).ownsRow base e size v n xs := ownsRow_setCell_below h hp u
/-- what is owned stays so, whatever is made behind it -/
theorem owns_below {w w1 : World} {base : Nat} {e : TypeId} {size : Nat} {v : Value} {n : Nat} {xs : List Value} (h : w.ownsRow base e size v n xs) (hb : Below w.heap.size w w1) : w1.ownsRow base e size v n xs := by
  refine h.kept (row := none) ⟨hb.os, hb.tape, hb.output, hb.size, fun i hi _ => hb.block i hi⟩ ?_
  cases hv : v.ownBlock with
  | none => exact .inl rfl
  | some b => exact .inr (by simp)
theorem owns_length {w : World} {base : Nat} {e : TypeId} {k : IntKind} {v : Value} {n : Nat} {xs : List Int} (h : w.ownsRow base e 1 v n (xs.map (Value.int k))) : n = xs.length := by
  have := h.1
  simpa using this.symm
theorem lit_owns (w : World) (e : TypeId) (k : IntKind) (xs : List Int) (n : Nat) (hn : n = xs.length) (hm : n ≤ maxLen) :
    (w.alloc (.cells (xs.map (Value.int k)).toArray e)).ownsRow w.heap.size e 1 (.slice (some ⟨w.heap.size, 0, none⟩) n n) n (xs.map (Value.int k)) := by
  have := World.ownsRow_lit (base := w.heap.size) (e := e) (size := 1) w (xs.map (Value.int k)).toArray n (Nat.le_refl _) hm (by simp [hn])
  simpa using this

theorem below_of_grown {w w1 : World} {o : Obj} (h : (w.alloc o).grownBy w1 none) : Below w.heap.size w w1 :=
  (below1 w o).trans ⟨h.os, h.tape, h.output, h.size, fun k hk => h.block k (by simp; omega) (by simp)⟩
theorem owns_slice {w : World} {base : Nat} {e : TypeId} {size : Nat} {v : Value} {n : Nat} {xs : List Value} (h : w.ownsRow base e size v n xs) : ∃ a c, v = .slice a n c := by
  rcases h.2 with ⟨hv, h0⟩ | ⟨g, cap, cur, hv, _⟩
  · exact ⟨none, 0, by rw [hv, h0]⟩
  · exact ⟨_, cap, hv⟩

/-- a local struct of a code and a slice, in block b -/
structure Var2 (w : World) (b : Nat) (cd : Int) (v : Value) : Prop where
  lt : b < w.heap.size
  c0 : w.cell? ⟨b, 0, none⟩ = some (.int .i64 cd)
  c1 : w.cell? ⟨b, 1, none⟩ = some v
theorem Var2.below {w w1 : World} {b : Nat} {cd : Int} {v : Value} (h : Var2 w b cd v) (hb : Below w.heap.size w w1) : Var2 w1 b cd v :=
  ⟨Nat.lt_of_lt_of_le h.lt hb.size, (hb.cell (by exact h.lt)).trans h.c0, (hb.cell (by exact h.lt)).trans h.c1⟩
theorem Var2.grown {w w1 : World} {b : Nat} {cd : Int} {v : Value} {row : Option Nat} (h : Var2 w b cd v) (hg : w.grownBy w1 row) (hne : some b ≠ row) : Var2 w1 b cd v :=
  ⟨Nat.lt_of_lt_of_le h.lt hg.size, hg.cell h.c0 hne, hg.cell h.c1 hne⟩
theorem Var2.new (w : World) (t : TypeId) (cd : Int) (v : Value) : Var2 (w.alloc (.cells #[.int .i64 cd, v] t)) w.heap.size cd v :=
  ⟨by simp, by simp, by simp⟩
theorem Var2.alloc {w : World} {b : Nat} {cd : Int} {v : Value} (h : Var2 w b cd v) (o : Obj) : Var2 (w.alloc o) b cd v := h.below (below1 w o)
/-- behind a write to an own row alone, what lies below is as it was -/
theorem below_grown_own {w w1 w2 : World} {B : Nat} {row : Option Nat} (h : Below B w w1) (hg : w1.grownBy w2 row) (hr : ∀ k, row = some k → B ≤ k) (hB : B ≤ w1.heap.size) : Below B w w2 := h.grown hg hB hr

/-- two rows of different makings -/
theorem rows_apart {w : World} {B e size n : Nat} {v1 v2 : Value} {xs : List Value} {m : Nat} (h1 : ∀ k, v1.ownBlock = some k → k < m) (h2 : w.ownsRow B e size v2 n xs) (hm : m ≤ B) : v1.ownBlock = none ∨ v1.ownBlock ≠ v2.ownBlock := by
  cases hv : v1.ownBlock with
  | none => exact .inl rfl
  | some k =>
    refine .inr fun heq => ?_
    have a := h1 k hv
    have b := (h2.lt k heq.symm).1
    omega
theorem row_other {w : World} {B e size n : Nat} {v : Value} {xs : List Value} {b : Nat} (h : w.ownsRow B e size v n xs) (hb : b < B ∨ w.heap.size ≤ b) : some b ≠ v.ownBlock := by
  intro heq
  have := h.lt b heq.symm
  omega
theorem head_byte (s : ByteArray) (h : 0 < s.size) : s.data.toList[0]?.getD 0 = s[0] := by
  rw [List.getElem?_eq_getElem (by simpa using h)]; rfl
theorem all_take_succ (s : ByteArray) (k : Nat) (h : k < s.size) (f : UInt8 → Bool) : (s.data.toList.take (k + 1)).all f = ((s.data.toList.take k).all f && f s[k]) := by
  rw [List.take_succ_eq_append_getElem (by simpa using h), List.all_append]; simp only [List.all_cons, List.all_nil, Bool.and_true]; rfl
theorem take_size (s : ByteArray) : s.data.toList.take s.size = s.data.toList := List.take_of_length_le (by simp)


/-- a slice of bytes made a string -/
theorem conv_row {P : Program} (w : World) {src e dst : TypeId} (hs : P.underlying src = some (.slice e)) (he : P.underlying e = some (.int .u8)) (hd : P.underlying dst = some .string) {a : Option Addr} {n c : Nat} {xs : List Int} (h : Row w .u8 (.slice a n c) xs) :
    (convert src dst (.slice a n c)).run P w = .ok (.string (strOfNums xs)) w := by
  rcases h with ⟨hv, rfl⟩ | ⟨b, o, cap, hv, h1, h2, h3, h4⟩
  · simp only [Value.slice.injEq] at hv
    obtain ⟨rfl, rfl, rfl⟩ := hv
    rw [run_convert_bytes_nil w src e hs he 0 0 dst hd]
    rfl
  · simp only [Value.slice.injEq] at hv
    obtain ⟨rfl, rfl, rfl⟩ := hv
    exact run_convert_bytes_arg w src e hs he b o xs.length c xs rfl h4 dst hd
theorem below_of_drew {w w2 : World} (h : Below w.drew.heap.size w.drew w2) : Below w.heap.size w w2 := ((Below.refl _ _).drew).trans h
def strSize : Value → Nat | .string s => s.size | _ => 0
/-- behind an append to an own row -/
theorem below_appended {w wr w1 : World} {o : Obj} {v : Value} {e : TypeId} {size n : Nat} {xs : List Value} (h : Below w.heap.size w wr) (ho : wr.ownsRow w.heap.size e size v n xs) (hg : (wr.alloc o).grownBy w1 v.ownBlock) : Below w.heap.size w w1 :=
  (h.alloc h.size o).grown hg (by have := h.size; simp; omega) (fun k hk => (ho.lt k hk).1)
end Go.Proofs.YtbfjhjkllaceaaaGreatDoor

/- Plain facts on numbers in groups of seven bits. -/
namespace Go.Proofs.YtbfjhjkllaceaaaGreatDoor
set_option linter.unusedVariables false

theorem i64_of_wf {p : Int} (h : (Lit.int .i64 p).wf = true) : -9223372036854775808 ≤ p ∧ p ≤ 9223372036854775807 := by
  have h2 := h
  simp only [Lit.wf, Bool.and_eq_true, decide_eq_true_eq] at h2
  have a : IntKind.i64.min = -9223372036854775808 := by decide
  have b : IntKind.i64.max = 9223372036854775807 := by decide
  omega
/-- the bytes of a number -/
def vput (n : Nat) : List Int := if h : n < 128 then [(n : Int)] else (128 + (n : Int) % 128) :: vput (n / 128)
termination_by n
decreasing_by omega
theorem vput_small {n : Nat} (h : n < 128) : vput n = [(n : Int)] := by rw [vput]; simp [h]
theorem vput_big {n : Nat} (h : ¬ n < 128) : vput n = (128 + (n : Int) % 128) :: vput (n / 128) := by rw [vput]; simp [h]
theorem vput_len (k : Nat) : ∀ n : Nat, n < 128 ^ (k + 1) → (vput n).length ≤ k + 1 := by
  induction k with
  | zero => intro n h; rw [vput_small (by simpa using h)]; simp
  | succ k ih =>
    intro n h
    by_cases hs : n < 128
    · rw [vput_small hs]; simp
    · rw [vput_big hs]
      have : n / 128 < 128 ^ (k + 1) := Nat.div_lt_of_lt_mul (by rw [Nat.pow_succ] at h; omega)
      have := ih _ this
      simp
      omega
theorem vput_len9 (n : Nat) (h : n ≤ 9223372036854775807) : (vput n).length ≤ 9 := vput_len 8 n (by
  have : (128 : Nat) ^ 9 = 9223372036854775808 := by decide
  omega)
theorem vput_pos (n : Nat) : 0 < (vput n).length := by
  by_cases hs : n < 128
  · rw [vput_small hs]; simp
  · rw [vput_big hs]; simp
theorem vput_bytes : ∀ (m n : Nat), n ≤ m → ∀ x ∈ vput n, 0 ≤ x ∧ x ≤ 255 := by
  intro m
  induction m with
  | zero => intro n h x hx; rw [vput_small (by omega)] at hx; simp at hx; omega
  | succ m ih =>
    intro n h x hx
    by_cases hs : n < 128
    · rw [vput_small hs] at hx; simp at hx; omega
    · rw [vput_big hs] at hx
      simp at hx
      rcases hx with rfl | hx
      · omega
      · exact ih (n / 128) (by omega) x hx
/-- one step of the loops that put -/
theorem vput_step {N m : Nat} {zs : List Int} (h : zs ++ vput m = vput N) (hm : ¬ m < 128) : (zs ++ [128 + (m : Int) % 128]) ++ vput (m / 128) = vput N := by
  rw [← h, vput_big hm]; simp
theorem vput_last {N m : Nat} {zs : List Int} (h : zs ++ vput m = vput N) (hm : m < 128) : zs ++ [(m : Int)] = vput N := by
  rw [← h, vput_small hm]

/-- the number that bytes tell, the lowest ones first -/
def vval : List Int → Int
  | [] => 0
  | b :: r => b % 128 + 128 * vval r
theorem vval_nonneg : ∀ l : List Int, 0 ≤ vval l
  | [] => by simp [vval]
  | b :: r => by have := vval_nonneg r; simp only [vval]; omega
theorem vval_lt : ∀ l : List Int, vval l < 128 ^ l.length
  | [] => by simp [vval]
  | b :: r => by
    have h := vval_lt r
    have h0 := vval_nonneg r
    simp only [vval, List.length_cons]
    rw [Int.pow_succ]
    omega
theorem vval_le9 (l : List Int) (h : l.length ≤ 9) : vval l ≤ 9223372036854775807 := by
  have h2 := vval_lt l
  have h4 : (128 : Nat) ^ l.length ≤ 128 ^ 9 := Nat.pow_le_pow_right (by decide) h
  have h5 : (128 : Nat) ^ 9 = 9223372036854775808 := by decide
  have h6 : (128 : Int) ^ l.length = ((128 ^ l.length : Nat) : Int) := by simp
  omega
theorem vval_snoc : ∀ (l : List Int) (b : Int), vval (l ++ [b]) = vval l + b % 128 * 128 ^ l.length
  | [], b => by simp [vval]
  | a :: r, b => by
    have h := vval_snoc r b
    simp only [vval, List.cons_append, List.length_cons, h, Int.pow_succ]
    rw [Int.mul_add, Int.add_assoc]
    congr 2
    rw [Int.mul_comm (128 ^ r.length) 128, ← Int.mul_assoc, ← Int.mul_assoc, Int.mul_comm 128 (b % 128)]
theorem vval_pos : ∀ (l : List Int) (z : Int), 0 < z → z < 128 → 0 < vval (l ++ [z])
  | [], z, h, h2 => by simp [vval]; omega
  | a :: r, z, h, h2 => by have := vval_pos r z h h2; simp only [vval, List.cons_append]; omega
/-- bytes of the right form are those of their number -/
theorem vput_vval : ∀ (l : List Int) (z : Int), (∀ x ∈ l, 128 ≤ x ∧ x ≤ 255) → 0 ≤ z → z < 128 → (l = [] ∨ z ≠ 0) → vput (vval (l ++ [z])).toNat = l ++ [z]
  | [], z, _, h0, h1, _ => by
    have e : vval ([] ++ [z]) = z := by simp [vval]; omega
    rw [e, vput_small (by omega)]
    simp; omega
  | a :: r, z, hl, h0, h1, h2 => by
    have hz : z ≠ 0 := by rcases h2 with h | h; · cases h
                          · exact h
    have ha := hl a (by simp)
    have ih := vput_vval r z (fun x hx => hl x (by simp [hx])) h0 h1 (.inr hz)
    have hp := vval_pos r z (by omega) h1
    have e : vval (a :: r ++ [z]) = a % 128 + 128 * vval (r ++ [z]) := by simp [vval]
    rw [e, vput_big (by omega)]
    have e2 : (a % 128 + 128 * vval (r ++ [z])).toNat / 128 = (vval (r ++ [z])).toNat := by omega
    rw [e2, ih]
    simp
    omega
/-- the last byte is no nought, where there are more -/
theorem vput_tail : ∀ (m n : Nat), n ≤ m → ∀ (l : List Int) (z : Int), l ≠ [] → vput n = l ++ [z] → z ≠ 0 := by
  intro m
  induction m with
  | zero =>
    intro n h l z hl he
    rw [vput_small (by omega)] at he
    have := congrArg List.length he
    simp at this
    exact absurd this hl
  | succ m ih =>
    intro n h l z hl he
    by_cases hs : n < 128
    · rw [vput_small hs] at he
      have := congrArg List.length he
      simp at this
      exact absurd this hl
    · rw [vput_big hs] at he
      cases l with
      | nil => exact absurd rfl hl
      | cons a r =>
        simp only [List.cons_append, List.cons.injEq] at he
        obtain ⟨_, he⟩ := he
        by_cases hr : r = []
        · subst hr
          by_cases h2 : n / 128 < 128
          · rw [vput_small h2] at he
            simp at he
            omega
          · rw [vput_big h2] at he
            have := congrArg List.length he
            have hp := vput_pos (n / 128 / 128)
            simp at this
            rw [this] at hp
            simp at hp
        · exact ih (n / 128) (by omega) r z hr he

/-- how many bytes go on, ahead of the last one -/
def lead (bs : List Int) : Nat := ((bs.take 9).takeWhile (fun b => decide (128 ≤ b))).length
theorem lead_le (bs : List Int) : lead bs ≤ bs.length ∧ lead bs ≤ 9 := by
  unfold lead
  have h := (List.takeWhile_sublist (fun b : Int => decide (128 ≤ b)) (l := bs.take 9)).length_le
  have h2 : (bs.take 9).length ≤ 9 := by simp; omega
  have h3 : (bs.take 9).length ≤ bs.length := by simp; omega
  omega
theorem takeWhile_len {f : Int → Bool} : ∀ (l : List Int) (j : Nat), (∀ i, i < j → f (l.getD i 0) = true) → j ≤ l.length → (j < l.length → f (l.getD j 0) = false) → (l.takeWhile f).length = j
  | [], j, _, h, _ => by simp at h; simp [h]
  | a :: r, 0, _, _, h => by
    have := h (by simp)
    simp at this
    simp [this]
  | a :: r, j + 1, h, hl, hn => by
    have h0 := h 0 (by omega)
    simp at h0
    have ih := takeWhile_len r j (fun i hi => by have := h (i + 1) (by omega); simpa using this) (by simpa using hl) (fun hj => by have := hn (by simpa using hj); simpa using this)
    simp [h0, ih]
/-- j bytes go on; the next one does not, or there is none, or nine are over -/
theorem lead_is (bs : List Int) (j : Nat) (h : ∀ i, i < j → 128 ≤ bs.getD i 0) (hl : j ≤ bs.length) (h9 : j ≤ 9) (hn : j < bs.length → j < 9 → bs.getD j 0 < 128) : lead bs = j := by
  unfold lead
  have hlen : (bs.take 9).length = min 9 bs.length := by simp
  have hg : ∀ i, i < 9 → (bs.take 9).getD i 0 = bs.getD i 0 := fun i hi => by simp [List.getD_eq_getElem?_getD, hi]
  refine takeWhile_len _ j (fun i hi => ?_) (by rw [hlen]; omega) (fun hj => ?_)
  · rw [hg i (by omega)]; simpa using h i hi
  · rw [hlen] at hj
    rw [hg j (by omega)]
    simpa using hn (by omega) (by omega)
/-- the number that bytes begin with, and how many bytes it has; 0: there is none -/
def vreadOk (bs : List Int) : Bool := decide (lead bs < bs.length ∧ lead bs < 9 ∧ (lead bs = 0 ∨ bs.getD (lead bs) 0 ≠ 0))
def vreadN (bs : List Int) : Int := if vreadOk bs then vval (bs.take (lead bs + 1)) else 0
def vreadK (bs : List Int) : Nat := if vreadOk bs then lead bs + 1 else 0
theorem take_snoc_getD (bs : List Int) (k : Nat) (h : k < bs.length) : bs.take (k + 1) = bs.take k ++ [bs.getD k 0] := by
  rw [List.take_succ_eq_append_getElem h, List.getD_eq_getElem?_getD, List.getElem?_eq_getElem h]; rfl
theorem vreadN_bd (bs : List Int) : 0 ≤ vreadN bs ∧ vreadN bs ≤ 9223372036854775807 := by
  unfold vreadN
  split
  · rename_i h
    simp [vreadOk] at h
    exact ⟨vval_nonneg _, vval_le9 _ (by simp; omega)⟩
  · omega
theorem vreadK_le (bs : List Int) : vreadK bs ≤ bs.length ∧ vreadK bs ≤ 9 := by
  unfold vreadK
  split
  · rename_i h
    simp [vreadOk] at h
    omega
  · omega
/-- the bytes are those of the number, just where it is so -/
theorem vread_put (bs : List Int) (hb : ∀ i, i < bs.length → 0 ≤ bs.getD i 0 ∧ bs.getD i 0 ≤ 255) (k : Nat) (hk : k < bs.length) (h128 : ∀ i, i < k → 128 ≤ bs.getD i 0) (hz : bs.getD k 0 < 128) :
    (vput (vval (bs.take (k + 1))).toNat = bs.take (k + 1)) ↔ (k = 0 ∨ bs.getD k 0 ≠ 0) := by
  rw [take_snoc_getD bs k hk]
  have hmem : ∀ x ∈ bs.take k, 128 ≤ x ∧ x ≤ 255 := by
    intro x hx
    obtain ⟨i, hi, rfl⟩ := List.mem_iff_getElem.1 hx
    have hi2 : i < k ∧ i < bs.length := by rw [List.length_take] at hi; omega
    have e : (bs.take k)[i] = bs.getD i 0 := by simp [List.getD_eq_getElem?_getD, List.getElem?_eq_getElem hi2.2]
    rw [e]
    exact ⟨h128 i hi2.1, (hb i hi2.2).2⟩
  have hnil : bs.take k = [] ↔ k = 0 := by
    rw [List.take_eq_nil_iff]
    constructor
    · rintro (h | h)
      · exact h
      · subst h; simp at hk
    · intro h; exact .inl h
  constructor
  · intro h
    by_cases h0 : k = 0
    · exact .inl h0
    · exact .inr (vput_tail _ _ (Nat.le_refl _) _ _ (fun e => h0 (hnil.1 e)) h)
  · intro h
    exact vput_vval _ _ hmem (hb k hk).1 hz (h.imp hnil.2 id)
end Go.Proofs.YtbfjhjkllaceaaaGreatDoor

/- Contract of the model's l2Put. -/
namespace Go.Proofs.YtbfjhjkllaceaaaGreatDoor
open Go.ChangeShapes Go.WideShapes Go.ChangeAt Go.RowKit
set_option linter.unusedVariables false

theorem varInfo : (Tryz.prog.info? 5).map (fun i => (i.zero, i.size, i.bytes)) = some (some (.int .u8 0), 1, 1) := by kernel_rfl

theorem vint {k : IntKind} {a b : Int} (h : a = b) : Value.int k a = .int k b := by rw [h]

set_option maxRecDepth 100000 in
set_option maxHeartbeats 1600000 in
theorem l2Put_any (N : Nat) (hN : N ≤ 9223372036854775807) (w : World) :
    Calls Tryz.prog 53 #[.int .i64 N] w (OwnsRes w 5 .u8 (vput N)) := by
  obtain ⟨i0, hi, hz0, hz1, hz2⟩ := info_parts varInfo
  have h9 := vput_len9 N hN
  have HN := Lib.hid hN
  clear hN
  go_enter Tryz.func53, Tryz.ntmps53
  go_wp2
  go_loopw [0, 3] (fun q v wr => ∃ (m j : Nat) (a' : Option Addr) (c' : Nat) (zs : List Int), q = .int .i64 m ∧ m ≤ N ∧ zs ++ vput m = vput N ∧ v = .slice a' j c' ∧ wr.ownsRow w.heap.size 5 1 (.slice a' j c') j (zs.map (Value.int .u8)) ∧ Below w.heap.size w wr) (fun q _ _ => (intOf q).toNat)
  case atStart => exact ⟨N, 0, _, _, [], rfl, Nat.le_refl _, rfl, rfl, lit_owns w _ .u8 [] 0 rfl (by decide), below1 w _⟩
  case round =>
    obtain ⟨m, j, a', c', zs, rfl, hm, hz, rfl, ho, hb⟩ := hrel
    have hj : j ≤ 9 := by have := congrArg List.length hz; have := owns_length ho; simp at *; omega
    have HZ := Lib.hid hz
    have HO := Lib.hid ho
    have HB := Lib.hid hb
    clear hz ho hb
    by_cases h128 : m < 128
    · go_wp2_with (at_builtin; refine wpList_append_own _ rfl _ _ 22 rfl w.heap.size 5 i0 (.int .u8 0) 1 1 Tryz.underlying22 hi hz0 hz1 hz2 rfl (by decide) _ _ _ rfl (HO.out.alloc _) ⟨wr.heap.size, 0, none⟩ 1 1 [.int .u8 (m : Int)] rfl rfl ?c1 ?c2 ?c3 ?c4 ?c5 ?_)
      case c1 =>
        intro j v hj
        match j, hj with
        | 0, hj => simp at hj; subst hj; simp [Addr.add]
      case c2 => intro v hv; simp at hv; subst hv; rfl
      case c3 => unfold maxLen; omega
      case c4 => omega
      case c5 => have := HB.out.size; simp; omega
      intro v' w2 hown' hgrow _
      obtain ⟨a2, c2, rfl⟩ := owns_slice hown'
      have HB2 := Lib.hid (below_appended HB.out HO.out hgrow)
      have HO2 := Lib.hid hown'
      clear hown' hgrow
      go_wp2
      go_ret
      exact ⟨a2, _, c2, rfl, by rw [← vput_last HZ.out h128, List.map_append]; exact HO2.out, HB2.out⟩
    · have q1 : 0 ≤ (m : Int) % 128 := by omega
      have q2 : (m : Int) % 128 < 128 := by omega
      have q3 : (m : Int) / 128 ≤ 72057594037927936 := by have := HN.out; omega
      have q4 : 0 ≤ (m : Int) / 128 := by omega
      go_wp2_with (at_builtin; refine wpList_append_own _ rfl _ _ 22 rfl w.heap.size 5 i0 (.int .u8 0) 1 1 Tryz.underlying22 hi hz0 hz1 hz2 rfl (by decide) _ _ _ rfl (HO.out.alloc _) ⟨wr.heap.size, 0, none⟩ 1 1 [.int .u8 (128 + (m : Int) % 128)] rfl rfl ?d1 ?d2 ?d3 ?d4 ?d5 ?_)
      case d1 =>
        intro j v hj
        match j, hj with
        | 0, hj => simp at hj; subst hj; simp [Addr.add]
      case d2 => intro v hv; simp at hv; subst hv; rfl
      case d3 => unfold maxLen; omega
      case d4 => omega
      case d5 => have := HB.out.size; simp; omega
      intro v' w2 hown' hgrow _
      obtain ⟨a2, c2, rfl⟩ := owns_slice hown'
      have HB2 := Lib.hid (below_appended HB.out HO.out hgrow)
      have HO2 := Lib.hid hown'
      clear hown' hgrow
      go_wp2
      go_roundw
      case rel => exact ⟨m / 128, j + 1, a2, c2, zs ++ [128 + (m : Int) % 128], vint (by omega), by omega, vput_step HZ.out h128, rfl, by rw [List.map_append]; exact HO2.out, HB2.out⟩
      case measure => simp [intOf]; omega

end Go.Proofs.YtbfjhjkllaceaaaGreatDoor

/- Contracts of l1In, isIn. -/
namespace Go.Proofs.YtbfjhjkllaceaaaGreatDoor
open Go.ChangeShapes Go.WideShapes Go.ChangeAt Go.RowKit
set_option linter.unusedVariables false

def inB (v l h : Int) : Bool := decide (l ≤ v ∧ v ≤ h)

set_option maxHeartbeats 400000 in
theorem l1In_any (v l h : Int) (w : World) :
    Calls Tryz.prog 90 #[.int .i64 v, .int .i64 l, .int .i64 h] w fun e w' => e = .returned (.bool (inB v l h)) ∧ w' = w := by
  by_cases h1 : l ≤ v
  · by_cases h2 : v ≤ h
    · go_enter Tryz.func90, Tryz.ntmps90
      go_wp2
      go_ret
      exact ⟨ret_bool (by simp [inB, h1, h2]), rfl⟩
    · go_enter Tryz.func90, Tryz.ntmps90
      go_wp2
      go_ret
      exact ⟨ret_bool (by simp [inB, h1, h2]), rfl⟩
  · go_enter Tryz.func90, Tryz.ntmps90
    go_wp2
    go_ret
    exact ⟨ret_bool (by simp [inB]; omega), rfl⟩

/-- isIn over a row of spans at an address. -/
def spansAt (w : World) (b : Nat) (l : List (Int × Int)) : Prop := ∀ i (h : i < l.length), w.cell? ⟨b, 2 * i, none⟩ = some (.int .i64 (l[i]).1) ∧ w.cell? ⟨b, 2 * i + 1, none⟩ = some (.int .i64 (l[i]).2)

theorem isIn_any' (v : Int) (l : List (Int × Int)) (b : Nat) (w : World) (hl : l.length ≤ 10) (hb : b < w.heap.size) (hs : spansAt w b l) :
    Calls Tryz.prog 118 #[.int .i64 v, .slice (some ⟨b, 0, none⟩) l.length l.length] w fun e w' => e = .returned (.bool (l.any fun p => inB v p.1 p.2)) ∧ Below w.heap.size w w' := by
  go_enter Tryz.func118, Tryz.ntmps118
  go_wp2
  go_loopw [9] (fun i wr => ∃ k : Nat, k ≤ l.length ∧ i = .int .i64 k ∧ (l.take k).any (fun p => inB v p.1 p.2) = false ∧ Below w.heap.size w wr) (fun i _ => l.length - (intOf i).toNat)
  case atStart => exact ⟨0, Nat.zero_le _, rfl, by simp, Below.refl _ _⟩
  case round =>
    obtain ⟨k, hk, rfl, hno, hbl⟩ := hrel
    by_cases hlt : k < l.length
    · obtain ⟨c0, c1⟩ := hs k hlt
      have d0 : wr.cell? ⟨b, k * 2, none⟩ = some (.int .i64 (l[k]).1) := by rw [hbl.cell (by exact hb), Nat.mul_comm]; exact c0
      have d1 : wr.cell? ⟨b, k * 2 + 1, none⟩ = some (.int .i64 (l[k]).2) := by rw [hbl.cell (by exact hb), Nat.mul_comm]; exact c1
      clear c0 c1
      have hsn : (l.take (k + 1)).any (fun p => inB v p.1 p.2) = inB v (l[k]).1 (l[k]).2 := by rw [List.take_succ_eq_append_getElem hlt, List.any_append, hno]; simp only [List.any_cons, List.any_nil, Bool.or_false, Bool.false_or]
      have HS := Lib.hid hsn
      have HNO := Lib.hid hno
      clear hsn hno
      by_cases h1 : (l[k]).1 ≤ v
      · by_cases h2 : v ≤ (l[k]).2
        · go_wp2
          go_ret
          refine ⟨ret_bool (List.any_eq_true.2 ⟨l[k], List.getElem_mem hlt, by simp [inB, h1, h2]⟩).symm, ?_⟩
          exact hbl.trans (((Below.refl _ _).alloc (Nat.le_refl _) _).mono hbl.size)
        · go_wp2
          go_roundw
          case rel => exact ⟨k + 1, by omega, by go_num, by rw [HS.out]; simp [inB]; omega, hbl.trans (((Below.refl _ _).alloc (Nat.le_refl _) _).mono hbl.size)⟩
          case measure => simp [intOf]; omega
      · go_wp2
        go_roundw
        case rel => exact ⟨k + 1, by omega, by go_num, by rw [HS.out]; simp [inB]; omega, hbl.trans (((Below.refl _ _).alloc (Nat.le_refl _) _).mono hbl.size)⟩
        case measure => simp [intOf]; omega
    · obtain rfl : k = l.length := by omega
      have HNO := Lib.hid hno
      clear hno
      go_wp2
      go_ret
      have := HNO.out
      rw [List.take_length] at this
      exact ⟨ret_bool this.symm, hbl⟩
theorem isIn_any (v : Int) (l : List (Int × Int)) (b n : Nat) (w : World) (hn : n = l.length) (hl : n ≤ 10) (hb : b < w.heap.size) (hs : spansAt w b l) :
    Calls Tryz.prog 118 #[.int .i64 v, .slice (some ⟨b, 0, none⟩) n n] w fun e w' => e = .returned (.bool (l.any fun p => inB v p.1 p.2)) ∧ Below w.heap.size w w' := by
  subst hn
  exact isIn_any' v l b w hl hb hs
end Go.Proofs.YtbfjhjkllaceaaaGreatDoor

/- Contracts of the characters' classes. -/
namespace Go.Proofs.YtbfjhjkllaceaaaGreatDoor
open Go.ChangeShapes Go.WideShapes Go.ChangeAt Go.RowKit
set_option linter.unusedVariables false

def pointB (p : Int) : Bool := inB p 0 1114111 && !inB p 55296 57343
def charB (p : Int) : Bool := decide (p = 9) || decide (p = 10) || (decide (32 ≤ p) && pointB p && decide (p ≠ 127) && decide (p ≠ 65534) && decide (p ≠ 65535))

theorem l1Point_any (p : Int) (w : World) :
    Calls Tryz.prog 97 #[.int .i64 p] w fun e w' => e = .returned (.bool (pointB p)) ∧ w' = w := by
  cases h : inB p 0 1114111
  all_goals
    go_enter Tryz.func97, Tryz.ntmps97
    go_wp2_with (go_at_call 90; refine (l1In_any _ _ _ _).mono ?_; rintro e w' ⟨rfl, rfl⟩)
    go_ret
    exact ⟨ret_bool (by simp [pointB, h]), rfl⟩

theorem pointB_spans (p : Int) : (inB p 0 55295 || inB p 57344 1114111) = pointB p := by
  rw [Bool.eq_iff_iff]
  simp [pointB, inB]
  omega

theorem isPoint_any (p : Int) (w : World) :
    Calls Tryz.prog 117 #[.int .i64 p] w fun e w' => e = .returned (.bool (pointB p)) ∧ Below w.heap.size w w' := by
  go_enter Tryz.func117, Tryz.ntmps117
  go_wp2_with fail
  refine (isIn_any p [(0, 55295), (57344, 1114111)] _ _ _ rfl (by decide) (by simp) ?_).mono ?_
  · intro i hi
    match i, hi with
    | 0, _ => simp
    | 1, _ => simp
  rintro e w' ⟨rfl, hb⟩
  go_wp2
  go_ret
  exact ⟨ret_bool (pointB_spans p), ((Below.refl _ _).alloc (Nat.le_refl _) _).trans (hb.mono (by simp))⟩

theorem charB_spans (p : Int) (h : pointB p = true) : (inB p 9 10 || (inB p 32 126 || (inB p 128 65533 || inB p 65536 1114111))) = charB p := by
  rw [Bool.eq_iff_iff]
  simp [charB, h]
  simp [pointB, inB] at h ⊢
  omega

theorem charB_point (p : Int) (h : pointB p = false) : charB p = false := by
  simp [charB, h]
  simp [pointB, inB] at h
  constructor <;> (rintro rfl; simp at h)

theorem implIsChar_any (p : Int) (w : World) :
    Calls Tryz.prog 113 #[.int .i64 p] w fun e w' => e = .returned (.bool (charB p)) ∧ Below w.heap.size w w' := by
  cases h : pointB p
  · go_enter Tryz.func113, Tryz.ntmps113
    go_wp2_with fail
    refine (isPoint_any p _).mono ?_
    rintro e w1 ⟨rfl, hb⟩
    go_wp2
    go_ret
    exact ⟨ret_bool (charB_point p h).symm, hb⟩
  · go_enter Tryz.func113, Tryz.ntmps113
    go_wp2_with fail
    refine (isPoint_any p _).mono ?_
    rintro e w1 ⟨rfl, hb⟩
    go_wp2_with fail
    refine (isIn_any p [(9, 10), (32, 126), (128, 65533), (65536, 1114111)] _ _ _ rfl (by decide) (by simp) ?_).mono ?_
    · intro i hi
      match i, hi with
      | 0, _ => simp
      | 1, _ => simp
      | 2, _ => simp
      | 3, _ => simp
    rintro e w2 ⟨rfl, hb2⟩
    go_wp2
    go_ret
    exact ⟨ret_bool (charB_spans p h), (hb.alloc hb.size _).trans (hb2.mono (by have := hb.size; simp; omega))⟩

theorem specIsChar_any (p : Int) (w : World) :
    Calls Tryz.prog 83 #[.int .i64 p] w fun e w' => e = .returned (.bool (charB p)) ∧ w' = w := by
  cases hq : pointB p
  all_goals
    go_enter Tryz.func83, Tryz.ntmps83
    go_wp2_with (go_at_call 97; refine (l1Point_any _ _).mono ?_; rintro e w' ⟨rfl, rfl⟩)
    all_goals
      go_ret
      exact ⟨ret_bool (by rw [Bool.eq_iff_iff]; simp [charB, hq] <;> omega), rfl⟩
end Go.Proofs.YtbfjhjkllaceaaaGreatDoor

/- Plain words on points in bytes: no run in this text. -/
namespace Go.Proofs.YtbfjhjkllaceaaaGreatDoor
open Go.Lib
set_option linter.unusedVariables false

/-- the bytes begin with no point -/
def badB (l : List UInt8) : Bool := decide ((decodeL l).1 = 65533 ∧ (decodeL l).2 = 1)
/-- the points of the bytes, each with true; what is none: false, and the end -/
def strmF : Nat → List UInt8 → List (Int × Bool)
  | 0, _ => []
  | f + 1, l => if l = [] then [] else if badB l then [(0, false)] else (((decodeL l).1 : Int), true) :: strmF f (l.drop (decodeL l).2)
def strm (l : List UInt8) : List (Int × Bool) := strmF l.length l
theorem strmF_nil : ∀ f, strmF f [] = []
  | 0 => rfl
  | _ + 1 => by simp [strmF]
theorem drop_lt (l : List UInt8) (h : l ≠ []) : (l.drop (decodeL l).2).length < l.length := by
  have h1 := decodeL_width l
  have h2 : 0 < l.length := List.length_pos_iff.2 h
  rw [List.length_drop]
  omega
theorem strmF_fuel : ∀ (n m : Nat) (l : List UInt8), l.length ≤ n → l.length ≤ m → strmF n l = strmF m l
  | 0, m, l, hn, _ => by
    have : l = [] := List.eq_nil_of_length_eq_zero (by omega)
    subst this
    rw [strmF_nil, strmF_nil]
  | n + 1, 0, l, _, hm => by
    have : l = [] := List.eq_nil_of_length_eq_zero (by omega)
    subst this
    rw [strmF_nil, strmF_nil]
  | n + 1, m + 1, l, hn, hm => by
    by_cases h : l = []
    · subst h
      rw [strmF_nil, strmF_nil]
    · have := drop_lt l h
      simp only [strmF, if_neg h]
      rw [strmF_fuel n m _ (by omega) (by omega)]
theorem strm_nil : strm [] = [] := rfl
theorem strm_bad (l : List UInt8) (h : l ≠ []) (hb : badB l = true) : strm l = [(0, false)] := by
  unfold strm
  obtain ⟨k, hk⟩ : ∃ k, l.length = k + 1 := ⟨l.length - 1, by have : 0 < l.length := List.length_pos_iff.2 h; omega⟩
  rw [hk]
  simp [strmF, h, hb]
theorem strm_step (l : List UInt8) (h : l ≠ []) (hb : badB l = false) : strm l = (((decodeL l).1 : Int), true) :: strm (l.drop (decodeL l).2) := by
  have hd := drop_lt l h
  unfold strm
  obtain ⟨k, hk⟩ : ∃ k, l.length = k + 1 := ⟨l.length - 1, by have : 0 < l.length := List.length_pos_iff.2 h; omega⟩
  rw [hk]
  simp only [strmF, if_neg h, hb]
  rw [strmF_fuel k _ _ (by omega) (Nat.le_refl _)]
  rfl
theorem strm_length_le : ∀ (n : Nat) (l : List UInt8), l.length ≤ n → (strm l).length ≤ l.length
  | 0, l, h => by
    have : l = [] := List.eq_nil_of_length_eq_zero (by omega)
    subst this
    simp [strm_nil]
  | n + 1, l, h => by
    by_cases h0 : l = []
    · subst h0; simp [strm_nil]
    · have hp : 0 < l.length := List.length_pos_iff.2 h0
      cases hb : badB l
      · rw [strm_step l h0 hb, List.length_cons]
        have hd := drop_lt l h0
        have := strm_length_le n (l.drop (decodeL l).2) (by omega)
        omega
      · rw [strm_bad l h0 hb]
        simp
        omega
theorem strm_len (l : List UInt8) : (strm l).length ≤ l.length := strm_length_le _ l (Nat.le_refl _)

/-- the points, or none -/
def pts (l : List UInt8) : Option (List Int) := if (strm l).all (·.2) then some ((strm l).map (·.1)) else none
/-- all are characters -/
def goodB (x : Int × Bool) : Bool := x.2 && charB x.1
def charsB (l : List UInt8) : Bool := (strm l).all goodB
/-- the text's fault -/
def textFault (l : List UInt8) : Int := if 60 < l.length then 2 else if charsB l then 0 else 5
/-- PointsOf: its code and its list -/
def ptsCode (l : List UInt8) : Int := if 4000 < l.length then 2 else if (pts l).isSome then 0 else 5
def ptsList (l : List UInt8) : List Int := if 4000 < l.length then [] else (pts l).getD []

/-! What the bytes' first one tells, and what the rest of them must be. -/
def by' (l : List UInt8) (i : Nat) : Int := ((l.getD i 0).toNat : Int)
def leadN (b : Int) : Nat := if b < 128 then 1 else if 192 ≤ b ∧ b < 224 then 2 else if 224 ≤ b ∧ b < 240 then 3 else if 240 ≤ b ∧ b < 248 then 4 else 0
def leadP (b : Int) : Int := if b < 128 then b else if 192 ≤ b ∧ b < 224 then b - 192 else if 224 ≤ b ∧ b < 240 then b - 224 else if 240 ≤ b ∧ b < 248 then b - 240 else 0
/-- the number that k bytes tell -/
def foldP (l : List UInt8) : Nat → Int
  | 0 => leadP (by' l 0)
  | 1 => leadP (by' l 0)
  | k + 2 => foldP l (k + 1) * 64 + by' l (k + 1) % 64
def bytesI (l : List UInt8) : List Int := l.map fun c => (c.toNat : Int)

theorem bad_lead (l : List UInt8) (h : l ≠ []) (hl : leadN (by' l 0) = 0 ∨ l.length < leadN (by' l 0)) : badB l = true := by
  have hp : 0 < l.length := List.length_pos_iff.2 h
  have k0 := (l.getD 0 0).toNat_lt
  unfold badB
  rw [decodeL_N]
  unfold leadN by' at hl
  rcases decodeN_shape l.length (l.getD 0 0).toNat (l.getD 1 0).toNat (l.getD 2 0).toNat (l.getD 3 0).toNat with ⟨c, e⟩ | ⟨c1, c2, c3, cv, e⟩ | ⟨c1, c2, c3, c4, cv, cs, e⟩ | ⟨c1, c2, c3, c4, c5, cv, cw, e⟩ | e
  · exfalso
    rw [if_pos (by omega)] at hl
    omega
  · exfalso
    rw [if_neg (by omega), if_pos (by omega)] at hl
    omega
  · exfalso
    rw [if_neg (by omega), if_neg (by omega), if_pos (by omega)] at hl
    omega
  · exfalso
    rw [if_neg (by omega), if_neg (by omega), if_neg (by omega), if_pos (by omega)] at hl
    omega
  · rw [e]
    simp

theorem dec1 (n b0 b1 b2 b3 : Nat) (h : b0 < 128) : decodeN n b0 b1 b2 b3 = (b0, 1) := by simp [decodeN, h]
theorem dec2 (n b0 b1 b2 b3 : Nat) (h : 192 ≤ b0 ∧ b0 < 224) (hn : 1 < n) (h1 : b1 < 256) :
    decodeN n b0 b1 b2 b3 = if b1 / 64 = 2 ∧ 128 ≤ b0 % 32 * 64 + b1 % 64 then (b0 % 32 * 64 + b1 % 64, 2) else (65533, 1) := by
  unfold decodeN
  repeat' split
  all_goals first | rfl | (exfalso; omega)
set_option maxRecDepth 100000 in
set_option maxHeartbeats 1000000 in
theorem dec3 (n b0 b1 b2 b3 : Nat) (h : 224 ≤ b0 ∧ b0 < 240) (hn : 2 < n) (h1 : b1 < 256) (h2 : b2 < 256) :
    decodeN n b0 b1 b2 b3 = if b1 / 64 = 2 ∧ b2 / 64 = 2 ∧ 2048 ≤ b0 % 16 * 4096 + b1 % 64 * 64 + b2 % 64 ∧ ¬ (55296 ≤ b0 % 16 * 4096 + b1 % 64 * 64 + b2 % 64 ∧ b0 % 16 * 4096 + b1 % 64 * 64 + b2 % 64 ≤ 57343) then (b0 % 16 * 4096 + b1 % 64 * 64 + b2 % 64, 3) else (65533, 1) := by
  unfold decodeN
  repeat' split
  all_goals first | rfl | (exfalso; omega)
set_option maxRecDepth 100000 in
set_option maxHeartbeats 1000000 in
theorem dec4 (n b0 b1 b2 b3 : Nat) (h : 240 ≤ b0 ∧ b0 < 248) (hn : 3 < n) (h1 : b1 < 256) (h2 : b2 < 256) (h3 : b3 < 256) :
    decodeN n b0 b1 b2 b3 = if b1 / 64 = 2 ∧ b2 / 64 = 2 ∧ b3 / 64 = 2 ∧ 65536 ≤ b0 % 8 * 262144 + b1 % 64 * 4096 + b2 % 64 * 64 + b3 % 64 ∧ b0 % 8 * 262144 + b1 % 64 * 4096 + b2 % 64 * 64 + b3 % 64 ≤ 1114111 then (b0 % 8 * 262144 + b1 % 64 * 4096 + b2 % 64 * 64 + b3 % 64, 4) else (65533, 1) := by
  unfold decodeN
  repeat' split
  all_goals first | rfl | (exfalso; omega)

theorem pointB_iff (p : Int) : pointB p = true ↔ (0 ≤ p ∧ p ≤ 1114111) ∧ ¬ (55296 ≤ p ∧ p ≤ 57343) := by
  simp [pointB, inB]
  omega
theorem enc_cases (p : Int) (h : pointB p = true) :
    (p < 128 ∧ encodeRuneZ p = [p]) ∨ (128 ≤ p ∧ p < 2048 ∧ encodeRuneZ p = [192 + p / 64, 128 + p % 64]) ∨
    (2048 ≤ p ∧ p < 65536 ∧ encodeRuneZ p = [224 + p / 4096, 128 + p / 64 % 64, 128 + p % 64]) ∨ (65536 ≤ p ∧ encodeRuneZ p = [240 + p / 262144, 128 + p / 4096 % 64, 128 + p / 64 % 64, 128 + p % 64]) := by
  have := (pointB_iff p).1 h
  by_cases c1 : p < 128
  · exact .inl ⟨c1, encodeRuneZ_one (by omega) (by omega)⟩
  · by_cases c2 : p < 2048
    · exact .inr (.inl ⟨by omega, c2, encodeRuneZ_two (by omega) (by omega)⟩)
    · by_cases c3 : p < 65536
      · exact .inr (.inr (.inl ⟨by omega, c3, encodeRuneZ_three (by omega)⟩))
      · exact .inr (.inr (.inr ⟨by omega, encodeRuneZ_four (by omega) (by omega)⟩))

/-- the test that the model makes, as a proposition -/
def FirstOk (l : List UInt8) (n : Nat) : Prop := pointB (foldP l n) = true ∧ encodeRuneZ (foldP l n) = bytesI (l.take n)

theorem leadP_1 {b : Int} (h : b < 128) : leadP b = b := by simp [leadP, h]
theorem leadP_2 {b : Int} (h : 192 ≤ b ∧ b < 224) : leadP b = b - 192 := by
  unfold leadP
  rw [if_neg (by omega), if_pos h]
theorem leadP_3 {b : Int} (h : 224 ≤ b ∧ b < 240) : leadP b = b - 224 := by
  unfold leadP
  rw [if_neg (by omega), if_neg (by omega), if_pos h]
theorem leadP_4 {b : Int} (h : 240 ≤ b ∧ b < 248) : leadP b = b - 240 := by
  unfold leadP
  rw [if_neg (by omega), if_neg (by omega), if_neg (by omega), if_pos h]
theorem foldP_1 (l : List UInt8) : foldP l 1 = leadP (by' l 0) := rfl
theorem foldP_2 (l : List UInt8) : foldP l 2 = leadP (by' l 0) * 64 + by' l 1 % 64 := rfl
theorem foldP_3 (l : List UInt8) : foldP l 3 = (leadP (by' l 0) * 64 + by' l 1 % 64) * 64 + by' l 2 % 64 := rfl
theorem foldP_4 (l : List UInt8) : foldP l 4 = ((leadP (by' l 0) * 64 + by' l 1 % 64) * 64 + by' l 2 % 64) * 64 + by' l 3 % 64 := rfl

/-! The four lengths, over plain numbers. -/
theorem num1 (b0 : Nat) (h : b0 < 128) : pointB (b0 : Int) = true ∧ encodeRuneZ (b0 : Int) = [(b0 : Int)] :=
  ⟨(pointB_iff _).2 (by omega), encodeRuneZ_one (by omega) (by omega)⟩
theorem num2 (b0 b1 p : Nat) (h : 192 ≤ b0 ∧ b0 < 224) (h1 : b1 < 256) (hp : p = b0 % 32 * 64 + b1 % 64) :
    (pointB (p : Int) = true ∧ encodeRuneZ (p : Int) = [(b0 : Int), (b1 : Int)]) ↔ (b1 / 64 = 2 ∧ 128 ≤ p) := by
  constructor
  · rintro ⟨a, e⟩
    rcases enc_cases _ a with ⟨c, e'⟩ | ⟨c, d, e'⟩ | ⟨c, d, e'⟩ | ⟨c, e'⟩ <;> rw [e'] at e <;> simp at e <;> omega
  · rintro ⟨a, b⟩
    refine ⟨(pointB_iff _).2 (by omega), ?_⟩
    rw [encodeRuneZ_two (by omega) (by omega)]
    simp
    omega
theorem num3 (b0 b1 b2 p : Nat) (h : 224 ≤ b0 ∧ b0 < 240) (h1 : b1 < 256) (h2 : b2 < 256) (hp : p = b0 % 16 * 4096 + b1 % 64 * 64 + b2 % 64) :
    (pointB (p : Int) = true ∧ encodeRuneZ (p : Int) = [(b0 : Int), (b1 : Int), (b2 : Int)]) ↔ (b1 / 64 = 2 ∧ b2 / 64 = 2 ∧ 2048 ≤ p ∧ ¬ (55296 ≤ p ∧ p ≤ 57343)) := by
  constructor
  · rintro ⟨a, e⟩
    have a' := (pointB_iff _).1 a
    rcases enc_cases _ a with ⟨c, e'⟩ | ⟨c, d, e'⟩ | ⟨c, d, e'⟩ | ⟨c, e'⟩ <;> rw [e'] at e <;> simp at e <;> omega
  · rintro ⟨a, b, c, d⟩
    refine ⟨(pointB_iff _).2 (by omega), ?_⟩
    rw [encodeRuneZ_three (by omega)]
    simp
    omega
theorem num4 (b0 b1 b2 b3 p : Nat) (h : 240 ≤ b0 ∧ b0 < 248) (h1 : b1 < 256) (h2 : b2 < 256) (h3 : b3 < 256) (hp : p = b0 % 8 * 262144 + b1 % 64 * 4096 + b2 % 64 * 64 + b3 % 64) :
    (pointB (p : Int) = true ∧ encodeRuneZ (p : Int) = [(b0 : Int), (b1 : Int), (b2 : Int), (b3 : Int)]) ↔ (b1 / 64 = 2 ∧ b2 / 64 = 2 ∧ b3 / 64 = 2 ∧ 65536 ≤ p ∧ p ≤ 1114111) := by
  constructor
  · rintro ⟨a, e⟩
    have a' := (pointB_iff _).1 a
    rcases enc_cases _ a with ⟨c, e'⟩ | ⟨c, d, e'⟩ | ⟨c, d, e'⟩ | ⟨c, e'⟩ <;> rw [e'] at e <;> simp at e <;> omega
  · rintro ⟨a, b, c, d, e⟩
    refine ⟨(pointB_iff _).2 (by omega), ?_⟩
    rw [encodeRuneZ_four (by omega) (by omega)]
    simp
    omega

def FirstIs (l : List UInt8) (n : Nat) : Prop := (FirstOk l n ↔ badB l = false) ∧ (badB l = false → ((decodeL l).1 : Int) = foldP l n ∧ (decodeL l).2 = n)
theorem bad_of (l : List UInt8) {c : Prop} [Decidable c] {p n : Nat} (hd : decodeL l = if c then (p, n) else (65533, 1)) (hn : c → ¬ (p = 65533 ∧ n = 1)) : badB l = false ↔ c := by
  unfold badB
  rw [hd]
  by_cases hc : c
  · rw [if_pos hc]
    have := hn hc
    simp only [decide_eq_false_iff_not]
    exact ⟨fun _ => hc, fun _ => this⟩
  · rw [if_neg hc]
    simp [hc]
theorem first_of (l : List UInt8) {c : Prop} [Decidable c] {p n : Nat} (hd : decodeL l = if c then (p, n) else (65533, 1)) (hn : c → ¬ (p = 65533 ∧ n = 1)) (hf : foldP l n = (p : Int))
    (ho : (pointB (p : Int) = true ∧ encodeRuneZ (p : Int) = bytesI (l.take n)) ↔ c) : FirstIs l n := by
  have hb := bad_of l hd hn
  refine ⟨?_, fun h => ?_⟩
  · unfold FirstOk
    rw [hf, ho, hb]
  · rw [hd, if_pos (hb.1 h), hf]
    exact ⟨rfl, rfl⟩

theorem first1 (l : List UInt8) (h : l ≠ []) (hb : by' l 0 < 128) : FirstIs l 1 := by
  have hp : 0 < l.length := List.length_pos_iff.2 h
  have hd := decodeL_N l
  have hb' : (l.getD 0 0).toNat < 128 := by unfold by' at hb; omega
  rw [dec1 _ _ _ _ _ hb'] at hd
  refine first_of (c := True) l (p := (l.getD 0 0).toNat) (by rw [hd, if_pos trivial]) (fun _ => by omega) (by rw [foldP_1, leadP_1 hb]; rfl) ?_
  rw [takeA l hp]
  exact ⟨fun _ => trivial, fun _ => num1 _ hb'⟩
theorem first2 (l : List UInt8) (hl : 2 ≤ l.length) (hb : 192 ≤ by' l 0 ∧ by' l 0 < 224) : FirstIs l 2 := by
  have k1 := (l.getD 1 0).toNat_lt
  have hd := decodeL_N l
  have hb' : 192 ≤ (l.getD 0 0).toNat ∧ (l.getD 0 0).toNat < 224 := by unfold by' at hb; omega
  rw [dec2 _ _ _ _ _ hb' (by omega) k1] at hd
  refine first_of l hd (fun _ => by omega) (by rw [foldP_2, leadP_2 hb]; unfold by'; omega) ?_
  rw [takeB l (by omega)]
  exact num2 _ _ _ hb' k1 rfl
theorem first3 (l : List UInt8) (hl : 3 ≤ l.length) (hb : 224 ≤ by' l 0 ∧ by' l 0 < 240) : FirstIs l 3 := by
  have k1 := (l.getD 1 0).toNat_lt
  have k2 := (l.getD 2 0).toNat_lt
  have hd := decodeL_N l
  have hb' : 224 ≤ (l.getD 0 0).toNat ∧ (l.getD 0 0).toNat < 240 := by unfold by' at hb; omega
  rw [dec3 _ _ _ _ _ hb' (by omega) k1 k2] at hd
  refine first_of l hd (fun _ => by omega) (by rw [foldP_3, leadP_3 hb]; unfold by'; omega) ?_
  rw [takeC l (by omega)]
  exact num3 _ _ _ _ hb' k1 k2 rfl
theorem first4 (l : List UInt8) (hl : 4 ≤ l.length) (hb : 240 ≤ by' l 0 ∧ by' l 0 < 248) : FirstIs l 4 := by
  have k1 := (l.getD 1 0).toNat_lt
  have k2 := (l.getD 2 0).toNat_lt
  have k3 := (l.getD 3 0).toNat_lt
  have hd := decodeL_N l
  have hb' : 240 ≤ (l.getD 0 0).toNat ∧ (l.getD 0 0).toNat < 248 := by unfold by' at hb; omega
  rw [dec4 _ _ _ _ _ hb' (by omega) k1 k2 k3] at hd
  refine first_of l hd (fun _ => by omega) (by rw [foldP_4, leadP_4 hb]; unfold by'; omega) ?_
  rw [takeD l (by omega)]
  exact num4 _ _ _ _ _ hb' k1 k2 k3 rfl

theorem first_is (l : List UInt8) (h : l ≠ []) (hn : leadN (by' l 0) ≠ 0) (hl : leadN (by' l 0) ≤ l.length) : FirstIs l (leadN (by' l 0)) := by
  by_cases a1 : by' l 0 < 128
  · have e : leadN (by' l 0) = 1 := by simp [leadN, a1]
    rw [e]
    exact first1 l h a1
  · by_cases a2 : 192 ≤ by' l 0 ∧ by' l 0 < 224
    · have e : leadN (by' l 0) = 2 := by unfold leadN; rw [if_neg a1, if_pos a2]
      rw [e] at hl ⊢
      exact first2 l hl a2
    · by_cases a3 : 224 ≤ by' l 0 ∧ by' l 0 < 240
      · have e : leadN (by' l 0) = 3 := by unfold leadN; rw [if_neg a1, if_neg a2, if_pos a3]
        rw [e] at hl ⊢
        exact first3 l hl a3
      · by_cases a4 : 240 ≤ by' l 0 ∧ by' l 0 < 248
        · have e : leadN (by' l 0) = 4 := by unfold leadN; rw [if_neg a1, if_neg a2, if_neg a3, if_pos a4]
          rw [e] at hl ⊢
          exact first4 l hl a4
        · exact absurd (by unfold leadN; rw [if_neg a1, if_neg a2, if_neg a3, if_neg a4]) hn

/-! Bytes as numbers. -/
theorem ofNums_inj : ∀ (xs : List Int) (l : List UInt8), (∀ x ∈ xs, 0 ≤ x ∧ x < 256) → (xs.map (fun n => UInt8.ofNat n.toNat) = l ↔ xs = bytesI l)
  | [], [], _ => by simp [bytesI]
  | [], _ :: _, _ => by simp [bytesI]
  | _ :: _, [], _ => by simp [bytesI]
  | x :: xs, c :: l, h => by
    have hx := h x (by simp)
    have ih := ofNums_inj xs l (fun y hy => h y (by simp [hy]))
    unfold bytesI at ih ⊢
    simp only [List.map_cons, List.cons.injEq]
    rw [ih]
    refine and_congr_left fun _ => ?_
    constructor
    · intro e
      have e2 := congrArg UInt8.toNat e
      simp at e2
      omega
    · intro e
      subst e
      simp
/-- the test of a number's bytes against the text's head -/
theorem str_test (s : ByteArray) (k : Nat) (p : Int) : ((strOfNums (encodeRuneZ p)).toList == (s.extract 0 k).toList) = decide (encodeRuneZ p = bytesI (s.data.toList.take k)) := by
  rw [ByteArray.toList_eq, ByteArray.toList_eq, strOfNums_data, Lib.extract_data, List.drop_zero, Nat.sub_zero]
  rw [Bool.eq_iff_iff, beq_iff_eq, decide_eq_true_iff]
  exact ofNums_inj _ _ (encodeRuneZ_byte p)
theorem first_test (s : ByteArray) (k : Nat) (p : Int) (hp : foldP s.data.toList k = p) (h : FirstIs s.data.toList k) (hq : pointB p = true) :
    ((strOfNums (encodeRuneZ p)).toList == (s.extract 0 k).toList) = !badB s.data.toList := by
  rw [str_test]
  have h1 := h.1
  unfold FirstOk at h1
  rw [hp] at h1
  rw [Bool.eq_iff_iff, decide_eq_true_iff]
  simp only [hq, true_and] at h1
  rw [h1]
  simp
theorem first_not (l : List UInt8) (k : Nat) (p : Int) (hp : foldP l k = p) (h : FirstIs l k) (hq : pointB p = false) : badB l = true := by
  have h1 := h.1
  unfold FirstOk at h1
  rw [hp, hq] at h1
  simp at h1
  exact h1
end Go.Proofs.YtbfjhjkllaceaaaGreatDoor

/- The library contracts at this dump. -/
namespace Go.Proofs
open Go.Shelf
def Tryz.lays197_ren : Go.Shelf.Ren := ⟨fun | 197 => 116 | 260 => 120 | n => n, fun | 9 => 9 | 21 => 21 | 3 => 3 | 4 => 4 | 5 => 5 | 105 => 158 | 119 => 166 | 0 => 0 | 46 => 167 | 139 => 170 | 138 => 169 | n => n, fun | 3 => 1 | 4 => 2 | n => n⟩
theorem Tryz.lays197 : Go.Proofs.Lays.n197 Tryz.prog Tryz.lays197_ren := {
  mixed := by kernel_rfl
  f197 := Tryz.func116.trans (congrArg some (by kernel_rfl))
  f260 := Tryz.func120.trans (congrArg some (by kernel_rfl))
  t0 := Tryz.underlying0
  a0 := Tryz.isAgg0
  z0 := Tryz.sizeOf0
  v0 := Tryz.zeroValue0
  t3 := Tryz.underlying3
  a3 := Tryz.isAgg3
  z3 := Tryz.sizeOf3
  v3 := Tryz.zeroValue3
  t4 := Tryz.underlying4
  a4 := Tryz.isAgg4
  z4 := Tryz.sizeOf4
  v4 := Tryz.zeroValue4
  t5 := Tryz.underlying5
  a5 := Tryz.isAgg5
  z5 := Tryz.sizeOf5
  v5 := Tryz.zeroValue5
  t9 := Tryz.underlying9
  a9 := Tryz.isAgg9
  z9 := Tryz.sizeOf9
  v9 := Tryz.zeroValue9
  t21 := Tryz.underlying21
  a21 := Tryz.isAgg21
  z21 := Tryz.sizeOf21
  v21 := Tryz.zeroValue21
  t46 := Tryz.underlying167
  a46 := Tryz.isAgg167
  z46 := Tryz.sizeOf167
  v46 := Tryz.zeroValue167
  t105 := Tryz.underlying158
  a105 := Tryz.isAgg158
  z105 := Tryz.sizeOf158
  v105 := Tryz.zeroValue158
  t119 := Tryz.underlying166
  a119 := Tryz.isAgg166
  z119 := Tryz.sizeOf166
  t138 := Tryz.underlying169
  a138 := Tryz.isAgg169
  z138 := Tryz.sizeOf169
  v138 := Tryz.zeroValue169
  t139 := Tryz.underlying170
  a139 := Tryz.isAgg170
  z139 := Tryz.sizeOf170
  v139 := Tryz.zeroValue170
  g3 := by kernel_rfl
  g4 := by kernel_rfl }
open Go.RowKit Go.Lib in
theorem Tryz.utf8_DecodeRuneInString_ascii (s : ByteArray) (x : UInt8) (w : World) (h0 : s.data.toList[0]? = some x) (hx : x.toNat < 128) :
    Calls Tryz.prog 116 #[.string s] w fun e w' => e = .returned (.tuple #[.int .i32 x.toNat, .int .i64 1]) ∧ w' = w := Any.utf8_DecodeRuneInString_ascii Tryz.lays197 s x w h0 hx
def Tryz.lays260_ren : Go.Shelf.Ren := ⟨fun | 260 => 120 | n => n, fun | 9 => 9 | 21 => 21 | 3 => 3 | 4 => 4 | 5 => 5 | 119 => 166 | 0 => 0 | 46 => 167 | 139 => 170 | 138 => 169 | n => n, fun | 3 => 1 | 4 => 2 | n => n⟩
theorem Tryz.lays260 : Go.Proofs.Lays.n260 Tryz.prog Tryz.lays260_ren := {
  mixed := by kernel_rfl
  f260 := Tryz.func120.trans (congrArg some (by kernel_rfl))
  t0 := Tryz.underlying0
  a0 := Tryz.isAgg0
  z0 := Tryz.sizeOf0
  v0 := Tryz.zeroValue0
  t3 := Tryz.underlying3
  a3 := Tryz.isAgg3
  z3 := Tryz.sizeOf3
  v3 := Tryz.zeroValue3
  t4 := Tryz.underlying4
  a4 := Tryz.isAgg4
  z4 := Tryz.sizeOf4
  v4 := Tryz.zeroValue4
  t5 := Tryz.underlying5
  a5 := Tryz.isAgg5
  z5 := Tryz.sizeOf5
  v5 := Tryz.zeroValue5
  t9 := Tryz.underlying9
  a9 := Tryz.isAgg9
  z9 := Tryz.sizeOf9
  v9 := Tryz.zeroValue9
  t21 := Tryz.underlying21
  a21 := Tryz.isAgg21
  z21 := Tryz.sizeOf21
  v21 := Tryz.zeroValue21
  t46 := Tryz.underlying167
  a46 := Tryz.isAgg167
  z46 := Tryz.sizeOf167
  v46 := Tryz.zeroValue167
  t119 := Tryz.underlying166
  a119 := Tryz.isAgg166
  z119 := Tryz.sizeOf166
  t138 := Tryz.underlying169
  a138 := Tryz.isAgg169
  z138 := Tryz.sizeOf169
  v138 := Tryz.zeroValue169
  t139 := Tryz.underlying170
  a139 := Tryz.isAgg170
  z139 := Tryz.sizeOf170
  v139 := Tryz.zeroValue170
  g3 := by kernel_rfl
  g4 := by kernel_rfl }
open Go.RowKit Go.Lib in
theorem Tryz.utf8_decodeRuneInStringSlow (s : ByteArray) (w : World) (hT : Lib.Utf8Tabs 1 2 w) :
    Calls Tryz.prog 120 #[.string s] w fun e w' => e = .returned (.tuple #[.int .i32 (Lib.decodeGo s).1, .int .i64 (Lib.decodeGo s).2]) ∧ Below w.heap.size w w' := Any.utf8_decodeRuneInStringSlow Tryz.lays260 s w hT
open Go.RowKit Go.Lib in
theorem Tryz.utf8_DecodeRuneInString (s : ByteArray) (w : World) (hT : Lib.Utf8Tabs 1 2 w) :
    Calls Tryz.prog 116 #[.string s] w fun e w' => e = .returned (.tuple #[.int .i32 (Lib.decodeGo s).1, .int .i64 (Lib.decodeGo s).2]) ∧ Below w.heap.size w w' := Any.utf8_DecodeRuneInString Tryz.lays197 s w hT
end Go.Proofs

/- Contract of the model's l1Put. -/
namespace Go.Proofs.YtbfjhjkllaceaaaGreatDoor
open Go.ChangeShapes Go.WideShapes Go.ChangeAt Go.RowKit
set_option linter.unusedVariables false

theorem point_of {p : Int} (h : pointB p = true) : (0 ≤ p ∧ p ≤ 1114111) ∧ ¬ (55296 ≤ p ∧ p ≤ 57343) := by
  simp [pointB, inB] at h
  omega

set_option maxHeartbeats 1600000 in
theorem l1Put_any (p : Int) (hp : pointB p = true) (w : World) :
    Calls Tryz.prog 84 #[.int .i64 p] w (OwnsRes w 5 .u8 (Lib.encodeRuneZ p)) := by
  obtain ⟨⟨h0, h1⟩, h2⟩ := point_of hp
  clear hp
  by_cases c1 : p < 128
  · go_enter Tryz.func84, Tryz.ntmps84
    go_wp2
    go_ret
    refine ⟨_, 1, _, rfl, ?_, below1 _ _⟩
    rw [Lib.encodeRuneZ_one h0 (by omega)]
    exact lit_owns w _ .u8 [p] 1 rfl (by decide)
  · by_cases c2 : p < 2048
    · have q1 : p / 64 < 32 := by omega
      have q2 : 0 ≤ p / 64 := by omega
      go_enter Tryz.func84, Tryz.ntmps84
      go_wp2
      go_ret
      refine ⟨_, 2, _, rfl, ?_, below1 _ _⟩
      rw [Lib.encodeRuneZ_two (by omega) (by omega)]
      exact lit_owns w _ .u8 [192 + p / 64, 128 + p % 64] 2 rfl (by decide)
    · by_cases c3 : p < 65536
      · have q1 : p / 4096 < 16 := by omega
        have q2 : 0 ≤ p / 4096 := by omega
        have q3 : 0 ≤ p / 64 := by omega
        go_enter Tryz.func84, Tryz.ntmps84
        go_wp2
        go_ret
        refine ⟨_, 3, _, rfl, ?_, below1 _ _⟩
        rw [Lib.encodeRuneZ_three (by omega)]
        exact lit_owns w _ .u8 [224 + p / 4096, 128 + p / 64 % 64, 128 + p % 64] 3 rfl (by decide)
      · have q1 : p / 262144 < 8 := by omega
        have q2 : 0 ≤ p / 262144 := by omega
        have q3 : 0 ≤ p / 64 := by omega
        have q4 : 0 ≤ p / 4096 := by omega
        go_enter Tryz.func84, Tryz.ntmps84
        go_wp2
        go_ret
        refine ⟨_, 4, _, rfl, ?_, below1 _ _⟩
        rw [Lib.encodeRuneZ_four (by omega) (by omega)]
        exact lit_owns w _ .u8 [240 + p / 262144, 128 + p / 4096 % 64, 128 + p / 64 % 64, 128 + p % 64] 4 rfl (by decide)

end Go.Proofs.YtbfjhjkllaceaaaGreatDoor
