/- Two facts of the frame: the program's main package, and that no goroutine is started. -/
import Derived.Test.YtjkmgpomcnplnaaGreatDoorCards
import Derived.Test.YtjkmgpomcnplnaaGreatDoorChecked
import Derived.SevenTiedAt
import Derived.Test.YtjkmgpomcnplnaaGreatDoorRows
import Derived.WalkKit
import Derived.ProofKit
import Derived.OpenShut
import Derived.Lib.Hide
import Derived.Deep.QuietTactic
import Derived.Deep.Draws
import Derived.BigQuiet
import Derived.Laws.BytesArg
import Derived.Deep.RegionWith
namespace Go.Proofs.YtjkmgpomcnplnaaGreatDoor.fnStanzas
theorem mains : Tryz.pinned.checked.prog.mainIs = some (true, "4560696e75f5dce5a9fd891a2e07516ac1aeb287992fa39b5eb704f93ea2d869".toList) := by kernel_rfl
theorem goes : false = Rows.fnStanzasRow.goesBy Tryz.pinned.checked.prog := by kernel_rfl
end Go.Proofs.YtjkmgpomcnplnaaGreatDoor.fnStanzas
namespace Go.Proofs.YtjkmgpomcnplnaaGreatDoor
open Go.ChangeShapes Go.WideShapes Go.ChangeAt Go.RowKit
set_option linter.unusedVariables false
def Row (w : World) (k : IntKind) (v : Value) (xs : List Int) : Prop :=
  (v = .slice none 0 0 ∧ xs = []) ∨ ∃ b o cap, v = .slice (some ⟨b, o, none⟩) xs.length cap ∧ xs.length ≤ cap ∧ cap ≤ maxLen ∧ b < w.heap.size ∧ ∀ i, i < xs.length → w.cell? ⟨b, o + i, none⟩ = some (.int k (xs.getD i 0))
theorem ret_bool {a b : Bool} (h : a = b) : Ending.returned (.bool a) = .returned (.bool b) := by rw [h]
theorem Row.of_owns {w : World} {base : Nat} {e : TypeId} {k : IntKind} {v : Value} {n : Nat} {xs : List Int} (h : w.ownsRow base e 1 v n (xs.map (Value.int k))) : Row w k v xs := by
  have hl : xs.length = n := by have := h.1; simpa using this
  subst hl
  rcases h.2 with ⟨hv, hn⟩ | ⟨g, cap, cur, hv, hg, hh, hnc, hm, hs, ht⟩
  · have : xs = [] := List.length_eq_zero_iff.1 hn
    subst this
    exact .inl ⟨hv, rfl⟩
  · subst hv
    have hlt := (h.lt g rfl).2
    refine .inr ⟨g, 0, cap, rfl, hnc, hm, hlt, fun i hi => ?_⟩
    rw [Nat.zero_add, h.cellAt i (by omega), List.getElem?_map, List.getElem?_eq_getElem hi, List.getD_eq_getElem?_getD, List.getElem?_eq_getElem hi]
    rfl
theorem Row.drewN {w : World} {k : IntKind} {v : Value} {xs : List Int} (h : Row w k v xs) (n : Nat) : Row (w.drewN n) k v xs := h
theorem Row.below {w w' : World} {k : IntKind} {v : Value} {xs : List Int} (h : Row w k v xs) (hb : Below w.heap.size w w') : Row w' k v xs := by
  rcases h with h | ⟨b, o, cap, hv, h1, h2, h3, h4⟩
  · exact .inl h
  · exact .inr ⟨b, o, cap, hv, h1, h2, Nat.lt_of_lt_of_le h3 hb.size, fun i hi => (hb.cell (by exact h3)).trans (h4 i hi)⟩
theorem grown_trans_row {a b c : World} {r : Option Nat} (h : a.grownBy b r) (k : b.grownBy c r) : a.grownBy c r :=
  ⟨k.os.trans h.os, k.tape.trans h.tape, k.output.trans h.output, Nat.le_trans h.size k.size, fun i hi hne => (k.block i (Nat.lt_of_lt_of_le hi h.size) hne).trans (h.block i hi hne)⟩
theorem below_drewN {B : Nat} {a w : World} (h : Below B a w) (n : Nat) : Below B a (w.drewN n) := ⟨h.os, h.tape, h.output, h.size, h.block⟩
theorem below2 (w : World) (o1 o2 : Obj) : Below w.heap.size w ((w.alloc o1).alloc o2) := ((Below.refl _ _).alloc (Nat.le_refl _) _).alloc (by simp) _
theorem below1 (w : World) (o1 : Obj) : Below w.heap.size w (w.alloc o1) := (Below.refl _ _).alloc (Nat.le_refl _) _
theorem below_then {w w1 w2 : World} (h : Below w.heap.size w w1) (k : Below w1.heap.size w1 w2) : Below w.heap.size w w2 := h.trans (k.mono h.size)
def OwnsRes (w : World) (e : TypeId) (k : IntKind) (xs : List Int) (en : Ending) (w' : World) : Prop :=
  ∃ a n c, en = .returned (.slice a n c) ∧ w'.ownsRow w.heap.size e 1 (.slice a n c) n (xs.map (Value.int k)) ∧ Below w.heap.size w w'
def OwnsRes2 (w : World) (e : TypeId) (k : IntKind) (cd : Int) (xs : List Int) (en : Ending) (w' : World) : Prop :=
  ∃ a n c, en = .returned (.agg #[.int .i64 cd, .slice a n c]) ∧ w'.ownsRow w.heap.size e 1 (.slice a n c) n (xs.map (Value.int k)) ∧ Below w.heap.size w w'
theorem bcell {W w1 : World} (hb : Below W.heap.size W w1) : (∀ b o, b < W.heap.size → w1.cell? ⟨b, o, none⟩ = W.cell? ⟨b, o, none⟩) ∧ (∀ b o, b < W.heap.size → w1.frozen? ⟨b, o, none⟩ = W.frozen? ⟨b, o, none⟩) :=
  ⟨fun b o h => hb.cell (p := ⟨b, o, none⟩) h, fun b o h => hb.frozen (p := ⟨b, o, none⟩) h⟩
theorem owns_mono {w : World} {base base' : Nat} {e : TypeId} {size : Nat} {v : Value} {n : Nat} {xs : List Value} (h : w.ownsRow base e size v n xs) (hle : base' ≤ base) : w.ownsRow base' e size v n xs := by
  refine ⟨h.1, ?_⟩
  rcases h.2 with h2 | ⟨g, cap, cur, hv, hg, r⟩
  · exact .inl h2
  · exact .inr ⟨g, cap, cur, hv, by omega, r⟩
theorem owns_below {w w1 : World} {base : Nat} {e : TypeId} {size : Nat} {v : Value} {n : Nat} {xs : List Value} (h : w.ownsRow base e size v n xs) (hb : Below w.heap.size w w1) : w1.ownsRow base e size v n xs := by
  refine h.kept (row := none) ⟨hb.os, hb.tape, hb.output, hb.size, fun i hi _ => hb.block i hi⟩ ?_
  cases hv : v.ownBlock with
  | none => exact .inl rfl
  | some b => exact .inr (by simp)
theorem owns_length {w : World} {base : Nat} {e : TypeId} {k : IntKind} {v : Value} {n : Nat} {xs : List Int} (h : w.ownsRow base e 1 v n (xs.map (Value.int k))) : n = xs.length := by
  have := h.1
  simpa using this.symm
theorem lit_owns (w : World) (e : TypeId) (k : IntKind) (xs : List Int) (n : Nat) (hn : n = xs.length) (hm : n ≤ maxLen) :
    (w.alloc (.cells (xs.map (Value.int k)).toArray e)).ownsRow w.heap.size e 1 (.slice (some ⟨w.heap.size, 0, none⟩) n n) n (xs.map (Value.int k)) := by
  have := World.ownsRow_lit (base := w.heap.size) (e := e) (size := 1) w (xs.map (Value.int k)).toArray n (Nat.le_refl _) hm (by simp [hn])
  simpa using this
theorem owns_slice {w : World} {base : Nat} {e : TypeId} {size : Nat} {v : Value} {n : Nat} {xs : List Value} (h : w.ownsRow base e size v n xs) : ∃ a c, v = .slice a n c := by
  rcases h.2 with ⟨hv, h0⟩ | ⟨g, cap, cur, hv, _⟩
  · exact ⟨none, 0, by rw [hv, h0]⟩
  · exact ⟨_, cap, hv⟩
structure Var2 (w : World) (b : Nat) (cd : Int) (v : Value) : Prop where
  lt : b < w.heap.size
  c0 : w.cell? ⟨b, 0, none⟩ = some (.int .i64 cd)
  c1 : w.cell? ⟨b, 1, none⟩ = some v
theorem Var2.below {w w1 : World} {b : Nat} {cd : Int} {v : Value} (h : Var2 w b cd v) (hb : Below w.heap.size w w1) : Var2 w1 b cd v :=
  ⟨Nat.lt_of_lt_of_le h.lt hb.size, (hb.cell (by exact h.lt)).trans h.c0, (hb.cell (by exact h.lt)).trans h.c1⟩
theorem Var2.grown {w w1 : World} {b : Nat} {cd : Int} {v : Value} {row : Option Nat} (h : Var2 w b cd v) (hg : w.grownBy w1 row) (hne : some b ≠ row) : Var2 w1 b cd v :=
  ⟨Nat.lt_of_lt_of_le h.lt hg.size, hg.cell h.c0 hne, hg.cell h.c1 hne⟩
theorem Var2.new (w : World) (t : TypeId) (cd : Int) (v : Value) : Var2 (w.alloc (.cells #[.int .i64 cd, v] t)) w.heap.size cd v :=
  ⟨by simp, by simp, by simp⟩
theorem Var2.alloc {w : World} {b : Nat} {cd : Int} {v : Value} (h : Var2 w b cd v) (o : Obj) : Var2 (w.alloc o) b cd v := h.below (below1 w o)
theorem head_byte (s : ByteArray) (h : 0 < s.size) : s.data.toList[0]?.getD 0 = s[0] := by
  rw [List.getElem?_eq_getElem (by simpa using h)]; rfl
theorem all_take_succ (s : ByteArray) (k : Nat) (h : k < s.size) (f : UInt8 → Bool) : (s.data.toList.take (k + 1)).all f = ((s.data.toList.take k).all f && f s[k]) := by
  rw [List.take_succ_eq_append_getElem (by simpa using h), List.all_append]; simp only [List.all_cons, List.all_nil, Bool.and_true]; rfl
theorem take_size (s : ByteArray) : s.data.toList.take s.size = s.data.toList := List.take_of_length_le (by simp)
theorem conv_row {P : Program} (w : World) {src e dst : TypeId} (hs : P.underlying src = some (.slice e)) (he : P.underlying e = some (.int .u8)) (hd : P.underlying dst = some .string) {a : Option Addr} {n c : Nat} {xs : List Int} (h : Row w .u8 (.slice a n c) xs) :
    (convert src dst (.slice a n c)).run P w = .ok (.string (strOfNums xs)) w := by
  rcases h with ⟨hv, rfl⟩ | ⟨b, o, cap, hv, h1, h2, h3, h4⟩
  · simp only [Value.slice.injEq] at hv
    obtain ⟨rfl, rfl, rfl⟩ := hv
    rw [run_convert_bytes_nil w src e hs he 0 0 dst hd]
    rfl
  · simp only [Value.slice.injEq] at hv
    obtain ⟨rfl, rfl, rfl⟩ := hv
    exact run_convert_bytes_arg w src e hs he b o xs.length c xs rfl h4 dst hd
theorem below_of_drew {w w2 : World} (h : Below w.drew.heap.size w.drew w2) : Below w.heap.size w w2 := ((Below.refl _ _).drew).trans h
def strSize : Value → Nat | .string s => s.size | _ => 0
theorem below_appended {w wr w1 : World} {o : Obj} {v : Value} {e : TypeId} {size n : Nat} {xs : List Value} (h : Below w.heap.size w wr) (ho : wr.ownsRow w.heap.size e size v n xs) (hg : (wr.alloc o).grownBy w1 v.ownBlock) : Below w.heap.size w w1 :=
  (h.alloc h.size o).grown hg (by have := h.size; simp; omega) (fun k hk => (ho.lt k hk).1)
end Go.Proofs.YtjkmgpomcnplnaaGreatDoor
namespace Go.Proofs.YtjkmgpomcnplnaaGreatDoor
open Go.ChangeShapes Go.WideShapes Go.ChangeAt Go.RowKit
set_option linter.unusedVariables false
structure At where
  name : ByteArray
  value : ByteArray
structure It where
  depth : Int
  text : ByteArray
  space : ByteArray
  name : ByteArray
  attrs : List At
def dAt : At := ⟨ByteArray.empty, ByteArray.empty⟩
def dIt : It := ⟨0, ByteArray.empty, ByteArray.empty, ByteArray.empty, []⟩
theorem At.eq {x y : At} (h1 : x.name = y.name) (h2 : x.value = y.value) : x = y := by cases x; cases y; simp_all
theorem It.eq {x y : It} (h0 : x.depth = y.depth) (h1 : x.text = y.text) (h2 : x.space = y.space) (h3 : x.name = y.name) (h4 : x.attrs = y.attrs) : x = y := by cases x; cases y; simp_all
structure AtsAt (w : World) (a : Option Addr) (n c : Nat) (l : List At) : Prop where
  len : l.length = n
  max : n ≤ 9223372036854775807
  size : ∀ i, (l.getD i dAt).name.size ≤ 9223372036854775807 ∧ (l.getD i dAt).value.size ≤ 9223372036854775807
  row : n = 0 ∨ ∃ b o, a = some ⟨b, o, none⟩ ∧ b < w.heap.size ∧ ∀ i, i < n → w.cell? ⟨b, o + i * 2, none⟩ = some (.string (l.getD i dAt).name) ∧ w.cell? ⟨b, o + i * 2 + 1, none⟩ = some (.string (l.getD i dAt).value)
theorem AtsAt.below {w w' : World} {a : Option Addr} {n c : Nat} {l : List At} (h : AtsAt w a n c l) (hb : Below w.heap.size w w') : AtsAt w' a n c l := by
  refine ⟨h.len, h.max, h.size, ?_⟩
  rcases h.row with e | ⟨b, o, ha, hr, hc⟩
  · exact .inl e
  · exact .inr ⟨b, o, ha, Nat.lt_of_lt_of_le hr hb.size, fun i hi => ⟨(hb.cell (p := ⟨b, o + i * 2, none⟩) hr).trans (hc i hi).1, (hb.cell (p := ⟨b, o + i * 2 + 1, none⟩) hr).trans (hc i hi).2⟩⟩
structure ItAt (w : World) (b o : Nat) (x : It) : Prop where
  lt : b < w.heap.size
  wf : -9223372036854775808 ≤ x.depth ∧ x.depth ≤ 9223372036854775807
  size : x.text.size ≤ 9223372036854775807 ∧ x.space.size ≤ 9223372036854775807 ∧ x.name.size ≤ 9223372036854775807
  c0 : w.cell? ⟨b, o, none⟩ = some (.int .i64 x.depth)
  c1 : w.cell? ⟨b, o + 1, none⟩ = some (.string x.text)
  c2 : w.cell? ⟨b, o + 2, none⟩ = some (.string x.space)
  c3 : w.cell? ⟨b, o + 3, none⟩ = some (.string x.name)
  c4 : ∃ a n c, w.cell? ⟨b, o + 4, none⟩ = some (.slice a n c) ∧ AtsAt w a n c x.attrs
theorem ItAt.below {w w' : World} {b o : Nat} {x : It} (h : ItAt w b o x) (hb : Below w.heap.size w w') : ItAt w' b o x := by
  obtain ⟨a, n, c, h4, hat⟩ := h.c4
  exact ⟨Nat.lt_of_lt_of_le h.lt hb.size, h.wf, h.size, (hb.cell (by exact h.lt)).trans h.c0, (hb.cell (by exact h.lt)).trans h.c1, (hb.cell (by exact h.lt)).trans h.c2, (hb.cell (by exact h.lt)).trans h.c3, a, n, c, (hb.cell (by exact h.lt)).trans h4, hat.below hb⟩
structure ItsAt (w : World) (a : Option Addr) (n c : Nat) (l : List It) : Prop where
  len : l.length = n
  max : n ≤ 9223372036854775807
  row : n = 0 ∨ ∃ b o, a = some ⟨b, o, none⟩ ∧ ∀ i, i < n → ItAt w b (o + i * 5) (l.getD i dIt)
theorem ItsAt.below {w w' : World} {a : Option Addr} {n c : Nat} {l : List It} (h : ItsAt w a n c l) (hb : Below w.heap.size w w') : ItsAt w' a n c l := by
  refine ⟨h.len, h.max, ?_⟩
  rcases h.row with e | ⟨b, o, ha, hc⟩
  · exact .inl e
  · exact .inr ⟨b, o, ha, fun i hi => (hc i hi).below hb⟩
def SmallAt (x : At) : Prop := x.name.size ≤ 1048576 ∧ x.value.size ≤ 1048576
def SmallAts (l : List At) : Prop := l.length ≤ 1048576 ∧ ∀ i, i < l.length → SmallAt (l.getD i dAt)
def SmallIt (x : It) : Prop := (x.text.size ≤ 1048576 ∧ x.space.size ≤ 1048576 ∧ x.name.size ≤ 1048576) ∧ SmallAts x.attrs
def SmallIts (l : List It) : Prop := l.length ≤ 1048576 ∧ ∀ i, i < l.length → SmallIt (l.getD i dIt)
def SzRes (P : Int → Prop) (w : World) (e : Ending) (w' : World) : Prop := ∃ r : Int, P r ∧ e = .returned (.int .i64 r) ∧ Below w.heap.size w w'
theorem SzRes.mk {P : Int → Prop} {w w' : World} {r : Int} (h : P r) (hb : Below w.heap.size w w') : SzRes P w (.returned (.int .i64 r)) w' := ⟨r, h, rfl, hb⟩
def Left (left : Int) (P : Prop) (r : Int) : Prop := r = -1 ∨ (0 ≤ r ∧ r ≤ left ∧ P)
theorem Left.no {left : Int} {P : Prop} : Left left P (-1) := .inl rfl
theorem drew_more {w wr : World} (h : ∃ n, wr = w.drewN n) (m : Nat) : ∃ n, wr.drewN m = w.drewN n := by
  obtain ⟨n, rfl⟩ := h
  exact ⟨_, World.drewN_drewN _ _ _⟩
theorem find_at {α : Type} (l : List α) (d : α) (p : α → Bool) (k : Nat) (hk : k < l.length) (h0 : ∀ j, j < k → p (l.getD j d) = false) (h1 : p (l.getD k d) = true) : l.find? p = some (l.getD k d) := by
  induction l generalizing k with
  | nil => simp at hk
  | cons x r ih =>
    cases k with
    | zero =>
      have hx : p x = true := by simpa using h1
      simp [hx]
    | succ k =>
      have hx : p x = false := by simpa using h0 0 (by omega)
      rw [List.find?_cons, hx]
      simpa using ih k (by simpa using hk) (fun j hj => by simpa using h0 (j + 1) (by omega)) (by simpa using h1)
theorem find_no {α : Type} (l : List α) (d : α) (p : α → Bool) (h0 : ∀ j, j < l.length → p (l.getD j d) = false) : l.find? p = none := by
  rw [List.find?_eq_none]
  intro x hx
  obtain ⟨i, hi, rfl⟩ := List.getElem_of_mem hx
  have := h0 i hi
  rw [List.getD_eq_getElem?_getD, List.getElem?_eq_getElem hi] at this
  simpa using this
theorem ret_n {a b : Nat} (h : a = b) : Ending.returned (.int .i64 (a : Int)) = .returned (.int .i64 (b : Int)) := by rw [h]
theorem below3 (w : World) (o1 o2 o3 : Obj) : Below w.heap.size w (((w.alloc o1).alloc o2).alloc o3) := (((Below.refl _ _).alloc (Nat.le_refl _) _).alloc (by simp) _).alloc (by simp; omega) _
theorem below_made {w w1 : World} (h : w.grownBy w1 none) : Below w.heap.size w w1 := ⟨h.os, h.tape, h.output, h.size, fun i hi => h.block i hi (by simp)⟩
def Room (w : World) (b m : Nat) : Prop := b < w.heap.size ∧ ∀ i, i < m → (∃ v, w.cell? ⟨b, i, none⟩ = some v) ∧ w.frozen? ⟨b, i, none⟩ = false
theorem Room.below {w w' : World} {b m : Nat} (h : Room w b m) (hb : Below w.heap.size w w') : Room w' b m :=
  ⟨Nat.lt_of_lt_of_le h.1 hb.size, fun i hi => ⟨(h.2 i hi).1.imp fun v hv => (hb.cell (p := ⟨b, i, none⟩) h.1).trans hv, (hb.frozen (p := ⟨b, i, none⟩) h.1).trans (h.2 i hi).2⟩⟩
theorem room_made {w : World} {base : Nat} {e : TypeId} {size n g cap : Nat} {xs : List Value} (h : w.ownsRow base e size (.slice (some ⟨g, 0, none⟩) n cap) n xs) : Room w g (n * size) := by
  refine ⟨(h.lt g rfl).2, fun i hi => ⟨?_, h.frozenAt i⟩⟩
  rw [h.cellAt i hi]
  have := h.1
  exact ⟨xs[i]'(by omega), List.getElem?_eq_getElem (by omega)⟩
theorem Room.set {w : World} {b m : Nat} (h : Room w b m) (p : Addr) (v : Value) : Room (w.setCell p v) b m :=
  ⟨by simpa using h.1, fun i hi => ⟨by obtain ⟨v', hv⟩ := (h.2 i hi).1; exact cell?_setCell_some hv, by rw [World.frozen?_setCell]; exact (h.2 i hi).2⟩⟩
theorem Room.put {w : World} {b m i : Nat} (h : Room w b m) (hi : i < m) (v : Value) : (w.setCell ⟨b, i, none⟩ v).cell? ⟨b, i, none⟩ = some v := by
  obtain ⟨u, hu⟩ := (h.2 i hi).1
  exact World.cell?_setCell_same _ _ _ hu
theorem set_off {w : World} {b i j : Nat} {v : Value} (h : i ≠ j) : (w.setCell ⟨b, i, none⟩ v).cell? ⟨b, j, none⟩ = w.cell? ⟨b, j, none⟩ := World.cell?_setCell_other _ _ _ _ (fun e => absurd (congrArg Addr.off e) h)
theorem attrInfo : (Tryz.prog.info? 52).map (fun i => (i.zero, i.size, i.bytes)) = some (some (.agg #[.string ByteArray.empty, .string ByteArray.empty]), 2, 32) := by kernel_rfl
theorem itemInfo : (Tryz.prog.info? 54).map (fun i => (i.zero, i.size, i.bytes)) = some (some (.agg #[.int .i64 0, .string ByteArray.empty, .string ByteArray.empty, .string ByteArray.empty, .slice none 0 0]), 5, 80) := by kernel_rfl
def AtsRes (w : World) (l : List At) (e : Ending) (w' : World) : Prop := ∃ a n c, e = .returned (.slice a n c) ∧ AtsAt w' a n c l ∧ (∀ x, a = some x → w.heap.size ≤ x.block) ∧ Below w.heap.size w w'
structure ItNew (w : World) (B o : Nat) (x : It) : Prop where
  lt : B < w.heap.size
  wf : -9223372036854775808 ≤ x.depth ∧ x.depth ≤ 9223372036854775807
  size : x.text.size ≤ 9223372036854775807 ∧ x.space.size ≤ 9223372036854775807 ∧ x.name.size ≤ 9223372036854775807
  c0 : w.cell? ⟨B, o, none⟩ = some (.int .i64 x.depth)
  c1 : w.cell? ⟨B, o + 1, none⟩ = some (.string x.text)
  c2 : w.cell? ⟨B, o + 2, none⟩ = some (.string x.space)
  c3 : w.cell? ⟨B, o + 3, none⟩ = some (.string x.name)
  c4 : ∃ a n c, w.cell? ⟨B, o + 4, none⟩ = some (.slice a n c) ∧ AtsAt w a n c x.attrs ∧ ∀ y, a = some y → B < y.block
theorem ItNew.it {w : World} {B o : Nat} {x : It} (h : ItNew w B o x) : ItAt w B o x := by
  obtain ⟨a, n, c, h4, hat, _⟩ := h.c4
  exact ⟨h.lt, h.wf, h.size, h.c0, h.c1, h.c2, h.c3, a, n, c, h4, hat⟩
theorem ItNew.below {w w' : World} {b o : Nat} {x : It} (h : ItNew w b o x) (hb : Below w.heap.size w w') : ItNew w' b o x := by
  obtain ⟨a, n, c, h4, hat, hs⟩ := h.c4
  exact ⟨Nat.lt_of_lt_of_le h.lt hb.size, h.wf, h.size, (hb.cell (by exact h.lt)).trans h.c0, (hb.cell (by exact h.lt)).trans h.c1, (hb.cell (by exact h.lt)).trans h.c2, (hb.cell (by exact h.lt)).trans h.c3, a, n, c, (hb.cell (by exact h.lt)).trans h4, hat.below hb, hs⟩
theorem AtsAt.set {w : World} {a : Option Addr} {n c : Nat} {l : List At} {B i : Nat} {v : Value} (h : AtsAt w a n c l) (hs : ∀ y, a = some y → B < y.block) : AtsAt (w.setCell ⟨B, i, none⟩ v) a n c l := by
  refine ⟨h.len, h.max, h.size, ?_⟩
  rcases h.row with e | ⟨b, o, ha, hr, hc⟩
  · exact .inl e
  · have hne := hs _ ha
    refine .inr ⟨b, o, ha, by simpa using hr, fun i hi => ⟨?_, ?_⟩⟩
    · rw [World.cell?_setCell_other _ _ _ _ (fun e => by simp only [Addr.mk.injEq] at e; simp only at hne; omega)]; exact (hc i hi).1
    · rw [World.cell?_setCell_other _ _ _ _ (fun e => by simp only [Addr.mk.injEq] at e; simp only at hne; omega)]; exact (hc i hi).2
theorem ItNew.set {w : World} {B o i : Nat} {x : It} {v : Value} (h : ItNew w B o x) (hi : i < o ∨ o + 5 ≤ i) : ItNew (w.setCell ⟨B, i, none⟩ v) B o x := by
  obtain ⟨a, n, c, h4, hat, hs⟩ := h.c4
  refine ⟨by simpa using h.lt, h.wf, h.size, ?_, ?_, ?_, ?_, a, n, c, ?_, hat.set hs, hs⟩
  · rw [set_off (by omega)]; exact h.c0
  · rw [set_off (by omega)]; exact h.c1
  · rw [set_off (by omega)]; exact h.c2
  · rw [set_off (by omega)]; exact h.c3
  · rw [set_off (by omega)]; exact h4
def ItRes (w : World) (x : It) (e : Ending) (w' : World) : Prop := ∃ a n c, e = .returned (.agg #[.int .i64 x.depth, .string x.text, .string x.space, .string x.name, .slice a n c]) ∧ AtsAt w' a n c x.attrs ∧ (∀ y, a = some y → w.heap.size ≤ y.block) ∧ Below w.heap.size w w'
def ItsRes (w : World) (l : List It) (e : Ending) (w' : World) : Prop := ∃ a n c, e = .returned (.slice a n c) ∧ ItsAt w' a n c l ∧ Below w.heap.size w w'
structure Only (P : Nat → Prop) (w w' : World) : Prop where
  os : w'.os = w.os
  tape : w'.tape = w.tape
  output : w'.output = w.output
  size : w.heap.size ≤ w'.heap.size
  block : ∀ i, i < w.heap.size → ¬ P i → w'.heap[i]? = w.heap[i]?
theorem Only.refl {P : Nat → Prop} (w : World) : Only P w w := ⟨rfl, rfl, rfl, Nat.le_refl _, fun _ _ _ => rfl⟩
theorem Only.trans {P : Nat → Prop} {a b c : World} (h : Only P a b) (k : Only P b c) : Only P a c :=
  ⟨k.os.trans h.os, k.tape.trans h.tape, k.output.trans h.output, Nat.le_trans h.size k.size, fun i hi hp => (k.block i (Nat.lt_of_lt_of_le hi h.size) hp).trans (h.block i hi hp)⟩
theorem Only.mono {P Q : Nat → Prop} {a b : World} (h : Only P a b) (hpq : ∀ i, P i → Q i) : Only Q a b :=
  ⟨h.os, h.tape, h.output, h.size, fun i hi hq => h.block i hi fun hp => hq (hpq i hp)⟩
theorem Only.below {P : Nat → Prop} {a b : World} (h : Below a.heap.size a b) : Only P a b := ⟨h.os, h.tape, h.output, h.size, fun i hi _ => h.block i hi⟩
theorem Only.set {P : Nat → Prop} (w : World) (p : Addr) (v : Value) (h : P p.block) : Only P w (w.setCell p v) :=
  ⟨rfl, rfl, rfl, by simp, fun i hi hp => Below.heap_setCell w p v i fun e => hp (e ▸ h)⟩
theorem Only.cell {P : Nat → Prop} {a b : World} (h : Only P a b) {p : Addr} (hp : p.block < a.heap.size) (hn : ¬ P p.block) : b.cell? p = a.cell? p := by
  unfold World.cell?
  rw [h.block _ hp hn]
theorem Only.frozen {P : Nat → Prop} {a b : World} (h : Only P a b) {p : Addr} (hp : p.block < a.heap.size) (hn : ¬ P p.block) : b.frozen? p = a.frozen? p := by
  unfold World.frozen?
  rw [h.block _ hp hn]
theorem Only.under {P : Nat → Prop} {B : Nat} {w0 a b : World} (h0 : Below B w0 a) (hB : B ≤ w0.heap.size) (h : Only P a b) (hP : ∀ i, P i → B ≤ i) : Below B w0 b :=
  ⟨h.os.trans h0.os, h.tape.trans h0.tape, h.output.trans h0.output, Nat.le_trans h0.size h.size, fun i hi => (h.block i (Nat.lt_of_lt_of_le hi (Nat.le_trans hB h0.size)) fun hp => by have := hP i hp; omega).trans (h0.block i hi)⟩
theorem Room.only {P : Nat → Prop} {w w' : World} {b m : Nat} (h : Room w b m) (ho : Only P w w') (hn : ¬ P b) : Room w' b m :=
  ⟨Nat.lt_of_lt_of_le h.1 ho.size, fun i hi => ⟨(h.2 i hi).1.imp fun v hv => (ho.cell (p := ⟨b, i, none⟩) h.1 hn).trans hv, (ho.frozen (p := ⟨b, i, none⟩) h.1 hn).trans (h.2 i hi).2⟩⟩
theorem AtsAt.only {P : Nat → Prop} {w w' : World} {a : Option Addr} {n c : Nat} {l : List At} (h : AtsAt w a n c l) (ho : Only P w w') (hn : ∀ x, a = some x → n ≠ 0 → ¬ P x.block) : AtsAt w' a n c l := by
  refine ⟨h.len, h.max, h.size, ?_⟩
  rcases h.row with e | ⟨b, o, ha, hr, hc⟩
  · exact .inl e
  · by_cases h0 : n = 0
    · exact .inl h0
    · have hb := hn _ ha h0
      exact .inr ⟨b, o, ha, Nat.lt_of_lt_of_le hr ho.size, fun i hi => ⟨(ho.cell (p := ⟨b, o + i * 2, none⟩) hr hb).trans (hc i hi).1, (ho.cell (p := ⟨b, o + i * 2 + 1, none⟩) hr hb).trans (hc i hi).2⟩⟩
structure OwnAts (w : World) (lo hi : Nat) (a : Option Addr) (n c : Nat) (l : List At) : Prop where
  ats : AtsAt w a n c l
  own : n = 0 ∨ ∃ b, a = some ⟨b, 0, none⟩ ∧ lo ≤ b ∧ b < hi ∧ Room w b (n * 2)
theorem OwnAts.only {P : Nat → Prop} {w w' : World} {lo hi : Nat} {a : Option Addr} {n c : Nat} {l : List At} (h : OwnAts w lo hi a n c l) (ho : Only P w w') (hn : ∀ x, a = some x → n ≠ 0 → ¬ P x.block) : OwnAts w' lo hi a n c l := by
  refine ⟨h.ats.only ho hn, ?_⟩
  rcases h.own with e | ⟨b, ha, h1, h2, hr⟩
  · exact .inl e
  · by_cases h0 : n = 0
    · exact .inl h0
    · exact .inr ⟨b, ha, h1, h2, hr.only ho (hn _ ha h0)⟩
def BlockOf (a : Option Addr) (n : Nat) (i : Nat) : Prop := ∃ x, a = some x ∧ x.block = i ∧ n ≠ 0
structure Cells5 (w : World) (b i : Nat) (x : It) (a : Option Addr) (n c : Nat) : Prop where
  c0 : w.cell? ⟨b, i * 5, none⟩ = some (.int .i64 x.depth)
  c1 : w.cell? ⟨b, i * 5 + 1, none⟩ = some (.string x.text)
  c2 : w.cell? ⟨b, i * 5 + 2, none⟩ = some (.string x.space)
  c3 : w.cell? ⟨b, i * 5 + 3, none⟩ = some (.string x.name)
  c4 : w.cell? ⟨b, i * 5 + 4, none⟩ = some (.slice a n c)
  nil : a = none → c = 0
theorem Cells5.set {w : World} {b i m : Nat} {x : It} {a : Option Addr} {n c : Nat} {v : Value} (h : Cells5 w b i x a n c) (hm : m < i * 5 ∨ i * 5 + 5 ≤ m) : Cells5 (w.setCell ⟨b, m, none⟩ v) b i x a n c :=
  ⟨by rw [set_off (by omega)]; exact h.c0, by rw [set_off (by omega)]; exact h.c1, by rw [set_off (by omega)]; exact h.c2, by rw [set_off (by omega)]; exact h.c3, by rw [set_off (by omega)]; exact h.c4, h.nil⟩
theorem Cells5.below {w w' : World} {b i : Nat} {x : It} {a : Option Addr} {n c : Nat} (h : Cells5 w b i x a n c) (hlt : b < w.heap.size) (hb : Below w.heap.size w w') : Cells5 w' b i x a n c :=
  ⟨(hb.cell (by exact hlt)).trans h.c0, (hb.cell (by exact hlt)).trans h.c1, (hb.cell (by exact hlt)).trans h.c2, (hb.cell (by exact hlt)).trans h.c3, (hb.cell (by exact hlt)).trans h.c4, h.nil⟩
theorem Cells5.only {P : Nat → Prop} {w w' : World} {b i : Nat} {x : It} {a : Option Addr} {n c : Nat} (h : Cells5 w b i x a n c) (hlt : b < w.heap.size) (ho : Only P w w') (hn : ¬ P b) : Cells5 w' b i x a n c :=
  ⟨(ho.cell (p := ⟨b, i * 5, none⟩) hlt hn).trans h.c0, (ho.cell (p := ⟨b, i * 5 + 1, none⟩) hlt hn).trans h.c1, (ho.cell (p := ⟨b, i * 5 + 2, none⟩) hlt hn).trans h.c2, (ho.cell (p := ⟨b, i * 5 + 3, none⟩) hlt hn).trans h.c3, (ho.cell (p := ⟨b, i * 5 + 4, none⟩) hlt hn).trans h.c4, h.nil⟩
def OwnAt (w : World) (lo hi b i : Nat) (x : It) (a : Option Addr) (n c : Nat) : Prop := Cells5 w b i x a n c ∧ OwnAts w lo hi a n c x.attrs
structure OwnIts (w : World) (lo hi : Nat) (a : Option Addr) (n c : Nat) (l : List It) : Prop where
  len : l.length = n
  max : n ≤ 1048576
  it : ∀ i, i < n → (-9223372036854775808 ≤ (l.getD i dIt).depth ∧ (l.getD i dIt).depth ≤ 9223372036854775807) ∧ ((l.getD i dIt).text.size ≤ 9223372036854775807 ∧ (l.getD i dIt).space.size ≤ 9223372036854775807 ∧ (l.getD i dIt).name.size ≤ 9223372036854775807)
  row : n = 0 ∨ ∃ (b : Nat) (A : Nat → Option Addr) (N C : Nat → Nat), a = some ⟨b, 0, none⟩ ∧ lo ≤ b ∧ b < hi ∧ Room w b (n * 5) ∧ (∀ i, i < n → OwnAt w lo hi b i (l.getD i dIt) (A i) (N i) (C i)) ∧
    (∀ i, i < n → ∀ x, A i = some x → N i ≠ 0 → x.block ≠ b) ∧ (∀ i j, i < n → j < n → i ≠ j → ∀ x y, A i = some x → A j = some y → N i ≠ 0 → N j ≠ 0 → x.block ≠ y.block)
theorem OwnIts.its {w : World} {lo hi : Nat} {a : Option Addr} {n c : Nat} {l : List It} (h : OwnIts w lo hi a n c l) : ItsAt w a n c l := by
  refine ⟨h.len, by have := h.max; omega, ?_⟩
  rcases h.row with e | ⟨b, A, N, C, ha, h1, h2, hr, hc, _, _⟩
  · exact .inl e
  · refine .inr ⟨b, 0, ha, fun i hi => ?_⟩
    have hi5 := hc i hi
    rw [Nat.zero_add]
    exact ⟨hr.1, (h.it i hi).1, (h.it i hi).2, hi5.1.c0, hi5.1.c1, hi5.1.c2, hi5.1.c3, _, _, _, hi5.1.c4, hi5.2.ats⟩
theorem OwnIts.below {w w' : World} {lo hi : Nat} {a : Option Addr} {n c : Nat} {l : List It} (h : OwnIts w lo hi a n c l) (hb : Below w.heap.size w w') : OwnIts w' lo hi a n c l := by
  refine ⟨h.len, h.max, h.it, h.row.imp id ?_⟩
  rintro ⟨b, A, N, C, ha, h1, h2, hr, hc, hab, haa⟩
  exact ⟨b, A, N, C, ha, h1, h2, hr.below hb, fun i hi => ⟨(hc i hi).1.below hr.1 hb, (hc i hi).2.only (Only.below (P := fun _ => False) hb) fun _ _ _ h => h⟩, hab, haa⟩
theorem OwnIts.only {P : Nat → Prop} {w w' : World} {lo hi : Nat} {a : Option Addr} {n c : Nat} {l : List It} (h : OwnIts w lo hi a n c l) (ho : Only P w w') (hP : ∀ i, lo ≤ i → i < hi → ¬ P i) : OwnIts w' lo hi a n c l := by
  refine ⟨h.len, h.max, h.it, h.row.imp id ?_⟩
  rintro ⟨b, A, N, C, ha, h1, h2, hr, hc, hab, haa⟩
  refine ⟨b, A, N, C, ha, h1, h2, hr.only ho (hP b h1 h2), fun i hi => ⟨(hc i hi).1.only hr.1 ho (hP b h1 h2), (hc i hi).2.only ho fun x hx hne => ?_⟩, hab, haa⟩
  obtain ⟨b5, e5, g1, g2, _⟩ := (hc i hi).2.own.resolve_left hne
  rw [hx] at e5
  cases e5
  exact hP b5 g1 g2
theorem OwnIts.mono {w : World} {lo hi lo' hi' : Nat} {a : Option Addr} {n c : Nat} {l : List It} (h : OwnIts w lo hi a n c l) (h1 : lo' ≤ lo) (h2 : hi ≤ hi') : OwnIts w lo' hi' a n c l := by
  refine ⟨h.len, h.max, h.it, h.row.imp id ?_⟩
  rintro ⟨b, A, N, C, ha, g1, g2, hr, hc, hab, haa⟩
  refine ⟨b, A, N, C, ha, by omega, by omega, hr, fun i hi => ⟨(hc i hi).1, (hc i hi).2.ats, (hc i hi).2.own.imp id ?_⟩, hab, haa⟩
  rintro ⟨b5, e5, k1, k2, k3⟩
  exact ⟨b5, e5, by omega, by omega, k3⟩
end Go.Proofs.YtjkmgpomcnplnaaGreatDoor
