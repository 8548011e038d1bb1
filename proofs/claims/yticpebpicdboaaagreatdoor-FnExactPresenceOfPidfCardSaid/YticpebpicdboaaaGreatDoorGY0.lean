/- Two facts of the frame: the program's main package, and that no goroutine is started. -/
import Derived.Test.YticpebpicdboaaaGreatDoorCards
import Derived.Test.YticpebpicdboaaaGreatDoorChecked
import Derived.SevenTiedAt
import Derived.Test.YticpebpicdboaaaGreatDoorRows
import Derived.WalkKit
import Derived.ProofKit
import Derived.OpenShut
import Derived.Lib.Hide
import Derived.Deep.QuietTactic
import Derived.Deep.Draws
import Derived.BigQuiet
import Derived.Laws.BytesArg
import Derived.Deep.RegionWith
namespace Go.Proofs.YticpebpicdboaaaGreatDoor.fnExactPresenceOfPidf
theorem mains : Tryz.pinned.checked.prog.mainIs = some (true, "e7a8bd5b4c659b9a31a762ba0761641031c8db7552b21f7c371f10dd80a41322".toList) := by kernel_rfl
theorem goes : false = Rows.fnExactPresenceOfPidfRow.goesBy Tryz.pinned.checked.prog := by kernel_rfl
end Go.Proofs.YticpebpicdboaaaGreatDoor.fnExactPresenceOfPidf

/- Plain words that all texts use. -/
namespace Go.Proofs.YticpebpicdboaaaGreatDoor
open Go.ChangeShapes Go.WideShapes Go.ChangeAt Go.RowKit
set_option linter.unusedVariables false

/-- A slice value that reads as these numbers. -/
def Row (w : World) (k : IntKind) (v : Value) (xs : List Int) : Prop :=
  (v = .slice none 0 0 ∧ xs = []) ∨ ∃ b o cap, v = .slice (some ⟨b, o, none⟩) xs.length cap ∧ xs.length ≤ cap ∧ cap ≤ maxLen ∧ b < w.heap.size ∧ ∀ i, i < xs.length → w.cell? ⟨b, o + i, none⟩ = some (.int k (xs.getD i 0))

theorem ret_bool {a b : Bool} (h : a = b) : Ending.returned (.bool a) = .returned (.bool b) := by rw [h]

theorem Row.of_owns {w : World} {base : Nat} {e : TypeId} {k : IntKind} {v : Value} {n : Nat} {xs : List Int} (h : w.ownsRow base e 1 v n (xs.map (Value.int k))) : Row w k v xs := by
  have hl : xs.length = n := by have := h.1; simpa using this
  subst hl
  rcases h.2 with ⟨hv, hn⟩ | ⟨g, cap, cur, hv, hg, hh, hnc, hm, hs, ht⟩
  · have : xs = [] := List.length_eq_zero_iff.1 hn
    subst this
    exact .inl ⟨hv, rfl⟩
  · subst hv
    have hlt := (h.lt g rfl).2
    refine .inr ⟨g, 0, cap, rfl, hnc, hm, hlt, fun i hi => ?_⟩
    rw [Nat.zero_add, h.cellAt i (by omega), List.getElem?_map, List.getElem?_eq_getElem hi, List.getD_eq_getElem?_getD, List.getElem?_eq_getElem hi]
    rfl

theorem Row.drewN {w : World} {k : IntKind} {v : Value} {xs : List Int} (h : Row w k v xs) (n : Nat) : Row (w.drewN n) k v xs := h
theorem Row.below {w w' : World} {k : IntKind} {v : Value} {xs : List Int} (h : Row w k v xs) (hb : Below w.heap.size w w') : Row w' k v xs := by
  rcases h with h | ⟨b, o, cap, hv, h1, h2, h3, h4⟩
  · exact .inl h
  · exact .inr ⟨b, o, cap, hv, h1, h2, Nat.lt_of_lt_of_le h3 hb.size, fun i hi => (hb.cell (by exact h3)).trans (h4 i hi)⟩

theorem ne_at {xs ys : List Int} (hl : xs.length = ys.length) (k : Nat) (hk : k < xs.length) (h : (xs.getD k 0 == ys.getD k 0) = false) : decide (xs = ys) = false := by
  rw [decide_eq_false_iff_not]
  rintro rfl
  simp at h
theorem take_eq_succ {xs ys : List Int} (hl : xs.length = ys.length) (k : Nat) (hk : k < xs.length) (h : (xs.getD k 0 == ys.getD k 0) = true) (ht : xs.take k = ys.take k) : xs.take (k + 1) = ys.take (k + 1) := by
  rw [List.take_succ_eq_append_getElem hk, List.take_succ_eq_append_getElem (by omega), ht]
  rw [beq_iff_eq, List.getD_eq_getElem?_getD, List.getElem?_eq_getElem hk, List.getD_eq_getElem?_getD, List.getElem?_eq_getElem (by omega)] at h
  simp only [Option.getD_some] at h
  rw [h]


theorem grown_trans_row {a b c : World} {r : Option Nat} (h : a.grownBy b r) (k : b.grownBy c r) : a.grownBy c r :=
  ⟨k.os.trans h.os, k.tape.trans h.tape, k.output.trans h.output, Nat.le_trans h.size k.size, fun i hi hne => (k.block i (Nat.lt_of_lt_of_le hi h.size) hne).trans (h.block i hi hne)⟩
theorem below_drewN {B : Nat} {a w : World} (h : Below B a w) (n : Nat) : Below B a (w.drewN n) := ⟨h.os, h.tape, h.output, h.size, h.block⟩

theorem below2 (w : World) (o1 o2 : Obj) : Below w.heap.size w ((w.alloc o1).alloc o2) := ((Below.refl _ _).alloc (Nat.le_refl _) _).alloc (by simp) _
theorem below1 (w : World) (o1 : Obj) : Below w.heap.size w (w.alloc o1) := (Below.refl _ _).alloc (Nat.le_refl _) _
theorem below_then {w w1 w2 : World} (h : Below w.heap.size w w1) (k : Below w1.heap.size w1 w2) : Below w.heap.size w w2 := h.trans (k.mono h.size)

/-- a new row of numbers is handed back -/
def OwnsRes (w : World) (e : TypeId) (k : IntKind) (xs : List Int) (en : Ending) (w' : World) : Prop :=
  ∃ a n c, en = .returned (.slice a n c) ∧ w'.ownsRow w.heap.size e 1 (.slice a n c) n (xs.map (Value.int k)) ∧ Below w.heap.size w w'
/-- a struct of a code and a new row of numbers is handed back -/
def OwnsRes2 (w : World) (e : TypeId) (k : IntKind) (cd : Int) (xs : List Int) (en : Ending) (w' : World) : Prop :=
  ∃ a n c, en = .returned (.agg #[.int .i64 cd, .slice a n c]) ∧ w'.ownsRow w.heap.size e 1 (.slice a n c) n (xs.map (Value.int k)) ∧ Below w.heap.size w w'
/-- behind a call that only made memory: what was there reads as it did -/
theorem bcell {W w1 : World} (hb : Below W.heap.size W w1) : (∀ b o, b < W.heap.size → w1.cell? ⟨b, o, none⟩ = W.cell? ⟨b, o, none⟩) ∧ (∀ b o, b < W.heap.size → w1.frozen? ⟨b, o, none⟩ = W.frozen? ⟨b, o, none⟩) :=
  ⟨fun b o h => hb.cell (p := ⟨b, o, none⟩) h, fun b o h => hb.frozen (p := ⟨b, o, none⟩) h⟩
theorem owns_mono {w : World} {base base' : Nat} {e : TypeId} {size : Nat} {v : Value} {n : Nat} {xs : List Value} (h : w.ownsRow base e size v n xs) (hle : base' ≤ base) : w.ownsRow base' e size v n xs := by
  refine ⟨h.1, ?_⟩
  rcases h.2 with h2 | ⟨g, cap, cur, hv, hg, r⟩
  · exact .inl h2
  · exact .inr ⟨g, cap, cur, hv, by omega, r⟩
theorem owns_set_below {w : World} {base : Nat} {e : TypeId} {size : Nat} {v : Value} {n : Nat} {xs : List Value} (h : w.ownsRow base e size v n xs) (p : Addr) (hp : p.block < base) (u : Value) : (w.setCell p u).ownsRow base e size v n xs := ownsRow_setCell_below h hp u
/-- what is owned stays so, whatever is made behind it -/
theorem owns_below {w w1 : World} {base : Nat} {e : TypeId} {size : Nat} {v : Value} {n : Nat} {xs : List Value} (h : w.ownsRow base e size v n xs) (hb : Below w.heap.size w w1) : w1.ownsRow base e size v n xs := by
  refine h.kept (row := none) ⟨hb.os, hb.tape, hb.output, hb.size, fun i hi _ => hb.block i hi⟩ ?_
  cases hv : v.ownBlock with
  | none => exact .inl rfl
  | some b => exact .inr (by simp)
theorem owns_length {w : World} {base : Nat} {e : TypeId} {k : IntKind} {v : Value} {n : Nat} {xs : List Int} (h : w.ownsRow base e 1 v n (xs.map (Value.int k))) : n = xs.length := by
  have := h.1
  simpa using this.symm
theorem lit_owns (w : World) (e : TypeId) (k : IntKind) (xs : List Int) (n : Nat) (hn : n = xs.length) (hm : n ≤ maxLen) :
    (w.alloc (.cells (xs.map (Value.int k)).toArray e)).ownsRow w.heap.size e 1 (.slice (some ⟨w.heap.size, 0, none⟩) n n) n (xs.map (Value.int k)) := by
  have := World.ownsRow_lit (base := w.heap.size) (e := e) (size := 1) w (xs.map (Value.int k)).toArray n (Nat.le_refl _) hm (by simp [hn])
  simpa using this

theorem below_of_grown {w w1 : World} {o : Obj} (h : (w.alloc o).grownBy w1 none) : Below w.heap.size w w1 :=
  (below1 w o).trans ⟨h.os, h.tape, h.output, h.size, fun k hk => h.block k (by simp; omega) (by simp)⟩
theorem owns_slice {w : World} {base : Nat} {e : TypeId} {size : Nat} {v : Value} {n : Nat} {xs : List Value} (h : w.ownsRow base e size v n xs) : ∃ a c, v = .slice a n c := by
  rcases h.2 with ⟨hv, h0⟩ | ⟨g, cap, cur, hv, _⟩
  · exact ⟨none, 0, by rw [hv, h0]⟩
  · exact ⟨_, cap, hv⟩

/-- a local struct of a code and a slice, in block b -/
structure Var2 (w : World) (b : Nat) (cd : Int) (v : Value) : Prop where
  lt : b < w.heap.size
  c0 : w.cell? ⟨b, 0, none⟩ = some (.int .i64 cd)
  c1 : w.cell? ⟨b, 1, none⟩ = some v
theorem Var2.below {w w1 : World} {b : Nat} {cd : Int} {v : Value} (h : Var2 w b cd v) (hb : Below w.heap.size w w1) : Var2 w1 b cd v :=
  ⟨Nat.lt_of_lt_of_le h.lt hb.size, (hb.cell (by exact h.lt)).trans h.c0, (hb.cell (by exact h.lt)).trans h.c1⟩
theorem Var2.grown {w w1 : World} {b : Nat} {cd : Int} {v : Value} {row : Option Nat} (h : Var2 w b cd v) (hg : w.grownBy w1 row) (hne : some b ≠ row) : Var2 w1 b cd v :=
  ⟨Nat.lt_of_lt_of_le h.lt hg.size, hg.cell h.c0 hne, hg.cell h.c1 hne⟩
theorem Var2.new (w : World) (t : TypeId) (cd : Int) (v : Value) : Var2 (w.alloc (.cells #[.int .i64 cd, v] t)) w.heap.size cd v :=
  ⟨by simp, by simp, by simp⟩
theorem Var2.alloc {w : World} {b : Nat} {cd : Int} {v : Value} (h : Var2 w b cd v) (o : Obj) : Var2 (w.alloc o) b cd v := h.below (below1 w o)
/-- behind a write to an own row alone, what lies below is as it was -/
theorem below_grown_own {w w1 w2 : World} {B : Nat} {row : Option Nat} (h : Below B w w1) (hg : w1.grownBy w2 row) (hr : ∀ k, row = some k → B ≤ k) (hB : B ≤ w1.heap.size) : Below B w w2 := h.grown hg hB hr

/-- two rows of different makings -/
theorem rows_apart {w : World} {B e size n : Nat} {v1 v2 : Value} {xs : List Value} {m : Nat} (h1 : ∀ k, v1.ownBlock = some k → k < m) (h2 : w.ownsRow B e size v2 n xs) (hm : m ≤ B) : v1.ownBlock = none ∨ v1.ownBlock ≠ v2.ownBlock := by
  cases hv : v1.ownBlock with
  | none => exact .inl rfl
  | some k =>
    refine .inr fun heq => ?_
    have a := h1 k hv
    have b := (h2.lt k heq.symm).1
    omega
theorem row_other {w : World} {B e size n : Nat} {v : Value} {xs : List Value} {b : Nat} (h : w.ownsRow B e size v n xs) (hb : b < B ∨ w.heap.size ≤ b) : some b ≠ v.ownBlock := by
  intro heq
  have := h.lt b heq.symm
  omega
theorem head_byte (s : ByteArray) (h : 0 < s.size) : s.data.toList[0]?.getD 0 = s[0] := by
  rw [List.getElem?_eq_getElem (by simpa using h)]; rfl
theorem all_take_succ (s : ByteArray) (k : Nat) (h : k < s.size) (f : UInt8 → Bool) : (s.data.toList.take (k + 1)).all f = ((s.data.toList.take k).all f && f s[k]) := by
  rw [List.take_succ_eq_append_getElem (by simpa using h), List.all_append]; simp only [List.all_cons, List.all_nil, Bool.and_true]; rfl
theorem take_size (s : ByteArray) : s.data.toList.take s.size = s.data.toList := List.take_of_length_le (by simp)


/-- a slice of bytes made a string -/
theorem conv_row {P : Program} (w : World) {src e dst : TypeId} (hs : P.underlying src = some (.slice e)) (he : P.underlying e = some (.int .u8)) (hd : P.underlying dst = some .string) {a : Option Addr} {n c : Nat} {xs : List Int} (h : Row w .u8 (.slice a n c) xs) :
    (convert src dst (.slice a n c)).run P w = .ok (.string (strOfNums xs)) w := by
  rcases h with ⟨hv, rfl⟩ | ⟨b, o, cap, hv, h1, h2, h3, h4⟩
  · simp only [Value.slice.injEq] at hv
    obtain ⟨rfl, rfl, rfl⟩ := hv
    rw [run_convert_bytes_nil w src e hs he 0 0 dst hd]
    rfl
  · simp only [Value.slice.injEq] at hv
    obtain ⟨rfl, rfl, rfl⟩ := hv
    exact run_convert_bytes_arg w src e hs he b o xs.length c xs rfl h4 dst hd
theorem below_of_drew {w w2 : World} (h : Below w.drew.heap.size w.drew w2) : Below w.heap.size w w2 := ((Below.refl _ _).drew).trans h
def strSize : Value → Nat | .string s => s.size | _ => 0
/-- behind an append to an own row -/
theorem below_appended {w wr w1 : World} {o : Obj} {v : Value} {e : TypeId} {size n : Nat} {xs : List Value} (h : Below w.heap.size w wr) (ho : wr.ownsRow w.heap.size e size v n xs) (hg : (wr.alloc o).grownBy w1 v.ownBlock) : Below w.heap.size w w1 :=
  (h.alloc h.size o).grown hg (by have := h.size; simp; omega) (fun k hk => (ho.lt k hk).1)
end Go.Proofs.YticpebpicdboaaaGreatDoor

/- What a tree's items are, and how they lie in memory. -/
namespace Go.Proofs.YticpebpicdboaaaGreatDoor
open Go.ChangeShapes Go.WideShapes Go.ChangeAt Go.RowKit
set_option linter.unusedVariables false

structure At where
  name : ByteArray
  value : ByteArray
structure It where
  depth : Int
  text : ByteArray
  space : ByteArray
  name : ByteArray
  attrs : List At
def dAt : At := ⟨ByteArray.empty, ByteArray.empty⟩
def dIt : It := ⟨0, ByteArray.empty, ByteArray.empty, ByteArray.empty, []⟩
theorem At.eq {x y : At} (h1 : x.name = y.name) (h2 : x.value = y.value) : x = y := by cases x; cases y; simp_all
theorem It.eq {x y : It} (h0 : x.depth = y.depth) (h1 : x.text = y.text) (h2 : x.space = y.space) (h3 : x.name = y.name) (h4 : x.attrs = y.attrs) : x = y := by cases x; cases y; simp_all

/-- a slice of attributes that reads as l -/
structure AtsAt (w : World) (a : Option Addr) (n c : Nat) (l : List At) : Prop where
  len : l.length = n
  max : n ≤ 9223372036854775807
  size : ∀ i, (l.getD i dAt).name.size ≤ 9223372036854775807 ∧ (l.getD i dAt).value.size ≤ 9223372036854775807
  row : n = 0 ∨ ∃ b o, a = some ⟨b, o, none⟩ ∧ b < w.heap.size ∧ ∀ i, i < n → w.cell? ⟨b, o + i * 2, none⟩ = some (.string (l.getD i dAt).name) ∧ w.cell? ⟨b, o + i * 2 + 1, none⟩ = some (.string (l.getD i dAt).value)
theorem AtsAt.below {w w' : World} {a : Option Addr} {n c : Nat} {l : List At} (h : AtsAt w a n c l) (hb : Below w.heap.size w w') : AtsAt w' a n c l := by
  refine ⟨h.len, h.max, h.size, ?_⟩
  rcases h.row with e | ⟨b, o, ha, hr, hc⟩
  · exact .inl e
  · exact .inr ⟨b, o, ha, Nat.lt_of_lt_of_le hr hb.size, fun i hi => ⟨(hb.cell (p := ⟨b, o + i * 2, none⟩) hr).trans (hc i hi).1, (hb.cell (p := ⟨b, o + i * 2 + 1, none⟩) hr).trans (hc i hi).2⟩⟩

/-- five cells that read as an item -/
structure ItAt (w : World) (b o : Nat) (x : It) : Prop where
  lt : b < w.heap.size
  wf : -9223372036854775808 ≤ x.depth ∧ x.depth ≤ 9223372036854775807
  size : x.text.size ≤ 9223372036854775807 ∧ x.space.size ≤ 9223372036854775807 ∧ x.name.size ≤ 9223372036854775807
  c0 : w.cell? ⟨b, o, none⟩ = some (.int .i64 x.depth)
  c1 : w.cell? ⟨b, o + 1, none⟩ = some (.string x.text)
  c2 : w.cell? ⟨b, o + 2, none⟩ = some (.string x.space)
  c3 : w.cell? ⟨b, o + 3, none⟩ = some (.string x.name)
  c4 : ∃ a n c, w.cell? ⟨b, o + 4, none⟩ = some (.slice a n c) ∧ AtsAt w a n c x.attrs
theorem ItAt.below {w w' : World} {b o : Nat} {x : It} (h : ItAt w b o x) (hb : Below w.heap.size w w') : ItAt w' b o x := by
  obtain ⟨a, n, c, h4, hat⟩ := h.c4
  exact ⟨Nat.lt_of_lt_of_le h.lt hb.size, h.wf, h.size, (hb.cell (by exact h.lt)).trans h.c0, (hb.cell (by exact h.lt)).trans h.c1, (hb.cell (by exact h.lt)).trans h.c2, (hb.cell (by exact h.lt)).trans h.c3, a, n, c, (hb.cell (by exact h.lt)).trans h4, hat.below hb⟩

/-- a slice of items that reads as l -/
structure ItsAt (w : World) (a : Option Addr) (n c : Nat) (l : List It) : Prop where
  len : l.length = n
  max : n ≤ 9223372036854775807
  row : n = 0 ∨ ∃ b o, a = some ⟨b, o, none⟩ ∧ ∀ i, i < n → ItAt w b (o + i * 5) (l.getD i dIt)
theorem ItsAt.below {w w' : World} {a : Option Addr} {n c : Nat} {l : List It} (h : ItsAt w a n c l) (hb : Below w.heap.size w w') : ItsAt w' a n c l := by
  refine ⟨h.len, h.max, ?_⟩
  rcases h.row with e | ⟨b, o, ha, hc⟩
  · exact .inl e
  · exact .inr ⟨b, o, ha, fun i hi => (hc i hi).below hb⟩

/-- what was measured is small -/
def SmallAt (x : At) : Prop := x.name.size ≤ 1048576 ∧ x.value.size ≤ 1048576
def SmallAts (l : List At) : Prop := l.length ≤ 1048576 ∧ ∀ i, i < l.length → SmallAt (l.getD i dAt)
def SmallIt (x : It) : Prop := (x.text.size ≤ 1048576 ∧ x.space.size ≤ 1048576 ∧ x.name.size ≤ 1048576) ∧ SmallAts x.attrs
def SmallIts (l : List It) : Prop := l.length ≤ 1048576 ∧ ∀ i, i < l.length → SmallIt (l.getD i dIt)
/-- some number is handed back, and only memory is made -/
def SzRes (P : Int → Prop) (w : World) (e : Ending) (w' : World) : Prop := ∃ r : Int, P r ∧ e = .returned (.int .i64 r) ∧ Below w.heap.size w w'
theorem SzRes.mk {P : Int → Prop} {w w' : World} {r : Int} (h : P r) (hb : Below w.heap.size w w') : SzRes P w (.returned (.int .i64 r)) w' := ⟨r, h, rfl, hb⟩
/-- some number is left, or fewer than none -/
def Left (left : Int) (P : Prop) (r : Int) : Prop := r = -1 ∨ (0 ≤ r ∧ r ≤ left ∧ P)
theorem Left.no {left : Int} {P : Prop} : Left left P (-1) := .inl rfl
theorem Left.yes {left r : Int} {P : Prop} (h1 : 0 ≤ r) (h2 : r ≤ left) (h : P) : Left left P r := .inr ⟨h1, h2, h⟩
theorem drew_more {w wr : World} (h : ∃ n, wr = w.drewN n) (m : Nat) : ∃ n, wr.drewN m = w.drewN n := by
  obtain ⟨n, rfl⟩ := h
  exact ⟨_, World.drewN_drewN _ _ _⟩
theorem find_at {α : Type} (l : List α) (d : α) (p : α → Bool) (k : Nat) (hk : k < l.length) (h0 : ∀ j, j < k → p (l.getD j d) = false) (h1 : p (l.getD k d) = true) : l.find? p = some (l.getD k d) := by
  induction l generalizing k with
  | nil => simp at hk
  | cons x r ih =>
    cases k with
    | zero =>
      have hx : p x = true := by simpa using h1
      simp [hx]
    | succ k =>
      have hx : p x = false := by simpa using h0 0 (by omega)
      rw [List.find?_cons, hx]
      simpa using ih k (by simpa using hk) (fun j hj => by simpa using h0 (j + 1) (by omega)) (by simpa using h1)
theorem find_no {α : Type} (l : List α) (d : α) (p : α → Bool) (h0 : ∀ j, j < l.length → p (l.getD j d) = false) : l.find? p = none := by
  rw [List.find?_eq_none]
  intro x hx
  obtain ⟨i, hi, rfl⟩ := List.getElem_of_mem hx
  have := h0 i hi
  rw [List.getD_eq_getElem?_getD, List.getElem?_eq_getElem hi] at this
  simpa using this
theorem ret_n {a b : Nat} (h : a = b) : Ending.returned (.int .i64 (a : Int)) = .returned (.int .i64 (b : Int)) := by rw [h]
end Go.Proofs.YticpebpicdboaaaGreatDoor

/- Presences: what they are, in plain words. -/
namespace Go.Proofs.YticpebpicdboaaaGreatDoor
open Go.ChangeShapes Go.WideShapes Go.ChangeAt Go.RowKit
set_option linter.unusedVariables false

structure Pr where
  kind : Int
  sender : ByteArray
  goal : ByteArray
  shown : Int
  status : ByteArray
  prio : Int
  more : List It
/-- the seven cells of a presence in block b -/
structure PrAt (w : World) (b : Nat) (p : Pr) (a : Option Addr) (n c : Nat) : Prop where
  lt : b < w.heap.size
  c0 : w.cell? ⟨b, 0, none⟩ = some (.int .i64 p.kind)
  c1 : w.cell? ⟨b, 1, none⟩ = some (.string p.sender)
  c2 : w.cell? ⟨b, 2, none⟩ = some (.string p.goal)
  c3 : w.cell? ⟨b, 3, none⟩ = some (.int .i64 p.shown)
  c4 : w.cell? ⟨b, 4, none⟩ = some (.string p.status)
  c5 : w.cell? ⟨b, 5, none⟩ = some (.int .i64 p.prio)
  c6 : w.cell? ⟨b, 6, none⟩ = some (.slice a n c)
theorem PrAt.below {w w' : World} {b : Nat} {p : Pr} {a : Option Addr} {n c : Nat} (h : PrAt w b p a n c) (hb : Below w.heap.size w w') : PrAt w' b p a n c :=
  ⟨Nat.lt_of_lt_of_le h.lt hb.size, (hb.cell (by exact h.lt)).trans h.c0, (hb.cell (by exact h.lt)).trans h.c1, (hb.cell (by exact h.lt)).trans h.c2, (hb.cell (by exact h.lt)).trans h.c3, (hb.cell (by exact h.lt)).trans h.c4, (hb.cell (by exact h.lt)).trans h.c5, (hb.cell (by exact h.lt)).trans h.c6⟩
theorem PrAt.new (w : World) (t : TypeId) (p : Pr) (a : Option Addr) (n c : Nat) : PrAt (w.alloc (.cells #[.int .i64 p.kind, .string p.sender, .string p.goal, .int .i64 p.shown, .string p.status, .int .i64 p.prio, .slice a n c] t)) w.heap.size p a n c :=
  ⟨by simp, by simp, by simp, by simp, by simp, by simp, by simp, by simp⟩
/-- texts of no more than this many bytes -/
structure SmallPr (p : Pr) : Prop where
  texts : p.sender.size ≤ 1048576 ∧ p.goal.size ≤ 1048576 ∧ p.status.size ≤ 1048576
  more : SmallIts p.more
/-- texts of sizes that a machine can hold -/
structure PrSize (p : Pr) : Prop where
  s1 : p.sender.size ≤ 9223372036854775807
  s2 : p.goal.size ≤ 9223372036854775807
  s4 : p.status.size ≤ 9223372036854775807
end Go.Proofs.YticpebpicdboaaaGreatDoor
