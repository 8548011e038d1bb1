/- Texts laid together, part 0. -/
import Derived.Test.YtbfjhjkllaceaaaGreatDoorRows
import Derived.WalkKit
import Derived.ProofKit
import Derived.OpenShut
import Derived.Lib.Hide
import Derived.Deep.QuietTactic
import Derived.Deep.Draws
import Derived.BigQuiet
import Derived.Laws.BytesArg
import Derived.Deep.RegionWith
import Derived.Shelf.Unicode.Decode
import Derived.Shelf.Unicode.DecodeSlow
import Derived.Shelf.Unicode.DecodeAny
import Derived.Test.YtbfjhjkllaceaaaGreatDoorProg
import Derived.Lib.RuneBytes
import Derived.Laws.IdiomStrings

/- Plain words that all texts use. -/
namespace Go.Proofs.YtbfjhjkllaceaaaGreatDoor
open Go.ChangeShapes Go.WideShapes Go.ChangeAt Go.RowKit
set_option linter.unusedVariables false

/-- A slice value that reads as these numbers. -/
def Row (w : World) (k : IntKind) (v : Value) (xs : List Int) : Prop :=
  (v = .slice none 0 0 ∧ xs = []) ∨ ∃ b o cap, v = .slice (some ⟨b, o, none⟩) xs.length cap ∧ xs.length ≤ cap ∧ cap ≤ maxLen ∧ b < w.heap.size ∧ ∀ i, i < xs.length → w.cell? ⟨b, o + i, none⟩ = some (.int k (xs.getD i 0))

theorem ret_bool {a b : Bool} (h : a = b) : Ending.returned (.bool a) = .returned (.bool b) := by rw [h]

theorem Row.of_owns {w : World} {base : Nat} {e : TypeId} {k : IntKind} {v : Value} {n : Nat} {xs : List Int} (h : w.ownsRow base e 1 v n (xs.map (Value.int k))) : Row w k v xs := by
  have hl : xs.length = n := by have := h.1; simpa using this
  subst hl
  rcases h.2 with ⟨hv, hn⟩ | ⟨g, cap, cur, hv, hg, hh, hnc, hm, hs, ht⟩
  · have : xs = [] := List.length_eq_zero_iff.1 hn
    subst this
    exact .inl ⟨hv, rfl⟩
  · subst hv
    have hlt := (h.lt g rfl).2
    refine .inr ⟨g, 0, cap, rfl, hnc, hm, hlt, fun i hi => ?_⟩
    rw [Nat.zero_add, h.cellAt i (by omega), List.getElem?_map, List.getElem?_eq_getElem hi, List.getD_eq_getElem?_getD, List.getElem?_eq_getElem hi]
    rfl

theorem Row.drewN {w : World} {k : IntKind} {v : Value} {xs : List Int} (h : Row w k v xs) (n : Nat) : Row (w.drewN n) k v xs := h
theorem Row.below {w w' : World} {k : IntKind} {v : Value} {xs : List Int} (h : Row w k v xs) (hb : Below w.heap.size w w') : Row w' k v xs := by
  rcases h with h | ⟨b, o, cap, hv, h1, h2, h3, h4⟩
  · exact .inl h
  · exact .inr ⟨b, o, cap, hv, h1, h2, Nat.lt_of_lt_of_le h3 hb.size, fun i hi => (hb.cell (by exact h3)).trans (h4 i hi)⟩

theorem ne_at {xs ys : List Int} (hl : xs.length = ys.length) (k : Nat) (hk : k < xs.length) (h : (xs.getD k 0 == ys.getD k 0) = false) : decide (xs = ys) = false := by
  rw [decide_eq_false_iff_not]
  rintro rfl
  simp at h
theorem take_eq_succ {xs ys : List Int} (hl : xs.length = ys.length) (k : Nat) (hk : k < xs.length) (h : (xs.getD k 0 == ys.getD k 0) = true) (ht : xs.take k = ys.take k) : xs.take (k + 1) = ys.take (k + 1) := by
  rw [List.take_succ_eq_append_getElem hk, List.take_succ_eq_append_getElem (by omega), ht]
  rw [beq_iff_eq, List.getD_eq_getElem?_getD, List.getElem?_eq_getElem hk, List.getD_eq_getElem?_getD, List.getElem?_eq_getElem (by omega)] at h
  simp only [Option.getD_some] at h
  rw [h]


theorem grown_trans_row {a b c : World} {r : Option Nat} (h : a.grownBy b r) (k : b.grownBy c r) : a.grownBy c r :=
  ⟨k.os.trans h.os, k.tape.trans h.tape, k.output.trans h.output, Nat.le_trans h.size k.size, fun i hi hne => (k.block i (Nat.lt_of_lt_of_le hi h.size) hne).trans (h.block i hi hne)⟩
theorem below_drewN {B : Nat} {a w : World} (h : Below B a w) (n : Nat) : Below B a (w.drewN n) := ⟨h.os, h.tape, h.output, h.size, h.block⟩

theorem below2 (w : World) (o1 o2 : Obj) : Below w.heap.size w ((w.alloc o1).alloc o2) := ((Below.refl _ _).alloc (Nat.le_refl _) _).alloc (by simp) _
theorem below1 (w : World) (o1 : Obj) : Below w.heap.size w (w.alloc o1) := (Below.refl _ _).alloc (Nat.le_refl _) _
theorem below_then {w w1 w2 : World} (h : Below w.heap.size w w1) (k : Below w1.heap.size w1 w2) : Below w.heap.size w w2 := h.trans (k.mono h.size)

/-- a new row of numbers is handed back -/
def OwnsRes (w : World) (e : TypeId) (k : IntKind) (xs : List Int) (en : Ending) (w' : World) : Prop :=
  ∃ a n c, en = .returned (.slice a n c) ∧ w'.ownsRow w.heap.size e 1 (.slice a n c) n (xs.map (Value.int k)) ∧ Below w.heap.size w w'
/-- a struct of a code and a new row of numbers is handed back -/
def OwnsRes2 (w : World) (e : TypeId) (k : IntKind) (cd : Int) (xs : List Int) (en : Ending) (w' : World) : Prop :=
  ∃ a n c, en = .returned (.agg #[.int .i64 cd, .slice a n c]) ∧ w'.ownsRow w.heap.size e 1 (.slice a n c) n (xs.map (Value.int k)) ∧ Below w.heap.size w w'
/-- behind a call that only made memory: what was there reads as it did -/
theorem bcell {W w1 : World} (hb : Below W.heap.size W w1) : (∀ b o, b < W.heap.size → w1.cell? ⟨b, o, none⟩ = W.cell? ⟨b, o, none⟩) ∧ (∀ b o, b < W.heap.size → w1.frozen? ⟨b, o, none⟩ = W.frozen? ⟨b, o, none⟩) :=
  ⟨fun b o h => hb.cell (p := ⟨b, o, none⟩) h, fun b o h => hb.frozen (p := ⟨b, o, none⟩) h⟩
theorem owns_mono {w : World} {base base' : Nat} {e : TypeId} {size : Nat} {v : Value} {n : Nat} {xs : List Value} (h : w.ownsRow base e size v n xs) (hle : base' ≤ base) : w.ownsRow base' e size v n xs := by
  refine ⟨h.1, ?_⟩
  rcases h.2 with h2 | ⟨g, cap, cur, hv, hg, r⟩
  · exact .inl h2
  · exact .inr ⟨g, cap, cur, hv, by omega, r⟩
theorem owns_set_below {w : World} {base : Nat} {e : TypeId} {size : Nat} {v : Value} {n : Nat} {xs : List Value} (h : w.ownsRow base e size v n xs) (p : Addr) (hp : p.block < base) (u : Value) : (w.setCell p u).ownsRow base e size v n xs := ownsRow_setCell_below h hp u
/-- what is owned stays so, whatever is made behind it -/
theorem owns_below {w w1 : World} {base : Nat} {e : TypeId} {size : Nat} {v : Value} {n : Nat} {xs : List Value} (h : w.ownsRow base e size v n xs) (hb : Below w.heap.size w w1) : w1.ownsRow base e size v n xs := by
  refine h.kept (row := none) ⟨hb.os, hb.tape, hb.output, hb.size, fun i hi _ => hb.block i hi⟩ ?_
  cases hv : v.ownBlock with
  | none => exact .inl rfl
  | some b => exact .inr (by simp)
theorem owns_length {w : World} {base : Nat} {e : TypeId} {k : IntKind} {v : Value} {n : Nat} {xs : List Int} (h : w.ownsRow base e 1 v n (xs.map (Value.int k))) : n = xs.length := by
  have := h.1
  simpa using this.symm
theorem lit_owns (w : World) (e : TypeId) (k : IntKind) (xs : List Int) (n : Nat) (hn : n = xs.length) (hm : n ≤ maxLen) :
    (w.alloc (.cells (xs.map (Value.int k)).toArray e)).ownsRow w.heap.size e 1 (.slice (some ⟨w.heap.size, 0, none⟩) n n) n (xs.map (Value.int k)) := by
  have := World.ownsRow_lit (base := w.heap.size) (e := e) (size := 1) w (xs.map (Value.int k)).toArray n (Nat.le_refl _) hm (by simp [hn])
  simpa using this

theorem below_of_grown {w w1 : World} {o : Obj} (h : (w.alloc o).grownBy w1 none) : Below w.heap.size w w1 :=
  (below1 w o).trans ⟨h.os, h.tape, h.output, h.size, fun k hk => h.block k (by simp; omega) (by simp)⟩
theorem owns_slice {w : World} {base : Nat} {e : TypeId} {size : Nat} {v : Value} {n : Nat} {xs : List Value} (h : w.ownsRow base e size v n xs) : ∃ a c, v = .slice a n c := by
  rcases h.2 with ⟨hv, h0⟩ | ⟨g, cap, cur, hv, _⟩
  · exact ⟨none, 0, by rw [hv, h0]⟩
  · exact ⟨_, cap, hv⟩

/-- a local struct of a code and a slice, in block b -/
structure Var2 (w : World) (b : Nat) (cd : Int) (v : Value) : Prop where
  lt : b < w.heap.size
  c0 : w.cell? ⟨b, 0, none⟩ = some (.int .i64 cd)
  c1 : w.cell? ⟨b, 1, none⟩ = some v
theorem Var2.below {w w1 : World} {b : Nat} {cd : Int} {v : Value} (h : Var2 w b cd v) (hb : Below w.heap.size w w1) : Var2 w1 b cd v :=
  ⟨Nat.lt_of_lt_of_le h.lt hb.size, (hb.cell (by exact h.lt)).trans h.c0, (hb.cell (by exact h.lt)).trans h.c1⟩
theorem Var2.grown {w w1 : World} {b : Nat} {cd : Int} {v : Value} {row : Option Nat} (h : Var2 w b cd v) (hg : w.grownBy w1 row) (hne : some b ≠ row) : Var2 w1 b cd v :=
  ⟨Nat.lt_of_lt_of_le h.lt hg.size, hg.cell h.c0 hne, hg.cell h.c1 hne⟩
theorem Var2.new (w : World) (t : TypeId) (cd : Int) (v : Value) : Var2 (w.alloc (.cells #[.int .i64 cd, v] t)) w.heap.size cd v :=
  ⟨by simp, by simp, by simp⟩
theorem Var2.alloc {w : World} {b : Nat} {cd : Int} {v : Value} (h : Var2 w b cd v) (o : Obj) : Var2 (w.alloc o) b cd v := h.below (below1 w o)
/-- behind a write to an own row alone, what lies below is as it was -/
theorem below_grown_own {w w1 w2 : World} {B : Nat} {row : Option Nat} (h : Below B w w1) (hg : w1.grownBy w2 row) (hr : ∀ k, row = some k → B ≤ k) (hB : B ≤ w1.heap.size) : Below B w w2 := h.grown hg hB hr

/-- two rows of different makings -/
theorem rows_apart {w : World} {B e size n : Nat} {v1 v2 : Value} {xs : List Value} {m : Nat} (h1 : ∀ k, v1.ownBlock = some k → k < m) (h2 : w.ownsRow B e size v2 n xs) (hm : m ≤ B) : v1.ownBlock = none ∨ v1.ownBlock ≠ v2.ownBlock := by
  cases hv : v1.ownBlock with
  | none => exact .inl rfl
  | some k =>
    refine .inr fun heq => ?_
    have a := h1 k hv
    have b := (h2.lt k heq.symm).1
    omega
theorem row_other {w : World} {B e size n : Nat} {v : Value} {xs : List Value} {b : Nat} (h : w.ownsRow B e size v n xs) (hb : b < B ∨ w.heap.size ≤ b) : some b ≠ v.ownBlock := by
  intro heq
  have := h.lt b heq.symm
  omega
theorem head_byte (s : ByteArray) (h : 0 < s.size) : s.data.toList[0]?.getD 0 = s[0] := by
  rw [List.getElem?_eq_getElem (by simpa using h)]; rfl
theorem all_take_succ (s : ByteArray) (k : Nat) (h : k < s.size) (f : UInt8 → Bool) : (s.data.toList.take (k + 1)).all f = ((s.data.toList.take k).all f && f s[k]) := by
  rw [List.take_succ_eq_append_getElem (by simpa using h), List.all_append]; simp only [List.all_cons, List.all_nil, Bool.and_true]; rfl
theorem take_size (s : ByteArray) : s.data.toList.take s.size = s.data.toList := List.take_of_length_le (by simp)


/-- a slice of bytes made a string -/
theorem conv_row {P : Program} (w : World) {src e dst : TypeId} (hs : P.underlying src = some (.slice e)) (he : P.underlying e = some (.int .u8)) (hd : P.underlying dst = some .string) {a : Option Addr} {n c : Nat} {xs : List Int} (h : Row w .u8 (.slice a n c) xs) :
    (convert src dst (.slice a n c)).run P w = .ok (.string (strOfNums xs)) w := by
  rcases h with ⟨hv, rfl⟩ | ⟨b, o, cap, hv, h1, h2, h3, h4⟩
  · simp only [Value.slice.injEq] at hv
    obtain ⟨rfl, rfl, rfl⟩ := hv
    rw [run_convert_bytes_nil w src e hs he 0 0 dst hd]
    rfl
  · simp only [Value.slice.injEq] at hv
    obtain ⟨rfl, rfl, rfl⟩ := hv
    exact run_convert_bytes_arg w src e hs he b o xs.length c xs rfl h4 dst hd
theorem below_of_drew {w w2 : World} (h : Below w.drew.heap.size w.drew w2) : Below w.heap.size w w2 := ((Below.refl _ _).drew).trans h
def strSize : Value → Nat | .string s => s.size | _ => 0
/-- behind an append to an own row -/
theorem below_appended {w wr w1 : World} {o : Obj} {v : Value} {e : TypeId} {size n : Nat} {xs : List Value} (h : Below w.heap.size w wr) (ho : wr.ownsRow w.heap.size e size v n xs) (hg : (wr.alloc o).grownBy w1 v.ownBlock) : Below w.heap.size w w1 :=
  (h.alloc h.size o).grown hg (by have := h.size; simp; omega) (fun k hk => (ho.lt k hk).1)
end Go.Proofs.YtbfjhjkllaceaaaGreatDoor

/- Contracts of the laws' draws. -/
namespace Go.Proofs.YtbfjhjkllaceaaaGreatDoor
open Go.ChangeShapes Go.WideShapes Go.ChangeAt Go.RowKit
set_option linter.unusedVariables false

/-- A source of draws in block b: a code of n bytes that lies below b, and how far it is. -/
structure Src (w : World) (b : Nat) (a : Option Addr) (n c : Nat) (xs : List Int) (k : Nat) : Prop where
  lt : b < w.heap.size
  c0 : w.cell? ⟨b, 0, none⟩ = some (.slice a n c)
  c1 : w.cell? ⟨b, 1, none⟩ = some (.int .i64 k)
  f1 : w.frozen? ⟨b, 1, none⟩ = false
  len : xs.length = n
  row : n = 0 ∨ ∃ rb ro, a = some ⟨rb, ro, none⟩ ∧ rb < b ∧ ∀ i, i < n → w.cell? ⟨rb, ro + i, none⟩ = some (.int .u8 (xs.getD i 0))
  byte : ∀ i, 0 ≤ xs.getD i 0 ∧ xs.getD i 0 ≤ 255
  size : n ≤ 1048576
  far : k ≤ 1000000

/-- a draw below m (0, if m is below 1): the source has gone on by one; only its block has turned -/
def NextRes (w : World) (b : Nat) (a : Option Addr) (n c : Nat) (xs : List Int) (k : Nat) (m : Int) (en : Ending) (w' : World) : Prop :=
  ∃ r : Nat, en = .returned (.int .i64 r) ∧ (1 ≤ m → (r : Int) < m) ∧ Src w' b a n c xs (k + 1) ∧ w.grownBy w' (some b)

theorem grown_setC (W : World) (B o : Nat) (u : Value) (n : Nat) : W.grownBy ((W.setCell ⟨B, o, none⟩ u).drewN n) (some B) :=
  ⟨rfl, rfl, rfl, by simp [World.setCell], fun k _ hk => Below.heap_setCell _ _ _ k (fun e => hk (by rw [e]))⟩
theorem Src.step {w : World} {b : Nat} {a : Option Addr} {n c : Nat} {xs : List Int} {k : Nat} (h : Src w b a n c xs k) (hk : k < 1000000) (d : Nat) : Src ((w.setCell ⟨b, 1, none⟩ (.int .i64 ((k : Int) + 1))).drewN d) b a n c xs (k + 1) := by
  refine ⟨by simpa [World.setCell] using h.lt, ?_, ?_, ?_, h.len, ?_, h.byte, h.size, by omega⟩
  · show (w.setCell _ _).cell? _ = _
    rw [World.cell?_setCell_other _ _ _ _ (by simp)]
    exact h.c0
  · show (w.setCell _ _).cell? _ = _
    rw [World.cell?_setCell_same' _ _ _ (by rw [h.c1]; rfl)]
    rfl
  · show (w.setCell _ _).frozen? _ = _
    rw [World.frozen?_setCell]
    exact h.f1
  · rcases h.row with e | ⟨rb, ro, ha, hrb, hc⟩
    · exact .inl e
    · refine .inr ⟨rb, ro, ha, hrb, fun i hi => ?_⟩
      show (w.setCell _ _).cell? _ = _
      rw [World.cell?_setCell_other _ _ _ _ (by first | (simp; done) | (intro e; simp at e; omega))]
      exact hc i hi
theorem next_close {w : World} {b : Nat} {a : Option Addr} {n c : Nat} {xs : List Int} {k : Nat} {m : Int} (h : Src w b a n c xs k) (hk : k < 1000000) (d : Nat) (r : Int) (h0 : 0 ≤ r) (h1 : 1 ≤ m → r < m) :
    NextRes w b a n c xs k m (.returned (.int .i64 r)) ((w.setCell ⟨b, 1, none⟩ (.int .i64 ((k : Int) + 1))).drewN d) := by
  obtain ⟨j, rfl⟩ := Int.eq_ofNat_of_zero_le h0
  exact ⟨j, rfl, h1, h.step hk d, grown_setC _ _ _ _ _⟩
theorem wrap64_id {x : Int} (h0 : -9223372036854775808 ≤ x) (h1 : x ≤ 9223372036854775807) : wrap64 x = x := by
  unfold wrap64
  omega
theorem tmod_bounds {x m : Int} (h0 : 0 ≤ x) (hm : 1 ≤ m) : 0 ≤ x.tmod m ∧ x.tmod m < m := ⟨Int.tmod_nonneg _ h0, Int.tmod_lt_of_pos _ (by omega)⟩
theorem div_bounds (k n : Nat) (hk : k < 1000000) : 0 ≤ (k : Int) / (n : Int) ∧ (k : Int) / (n : Int) ≤ 1000000 := by
  have h : (k : Int) / (n : Int) = ((k / n : Nat) : Int) := (Int.natCast_ediv k n).symm
  have h2 := Nat.div_le_self k n
  rw [h]
  generalize k / n = q at h2 ⊢
  omega
theorem draw1 {x : Int} {k n : Nat} (hk : k < 1000000) (hx : 0 ≤ x ∧ x ≤ 255) : ∃ v, wrap64 (x + wrap64 (wrap64 ((k : Int) / (n : Int)) * 37)) = v ∧ 0 ≤ v ∧ v ≤ 37000255 := by
  have hd := div_bounds k n hk
  generalize (k : Int) / (n : Int) = q at hd
  rw [wrap64_id (x := q) (by omega) (by omega), wrap64_id (x := q * 37) (by omega) (by omega), wrap64_id (by omega) (by omega)]
  exact ⟨_, rfl, by omega, by omega⟩

set_option maxRecDepth 100000 in
set_option maxHeartbeats 1600000 in
theorem l1Next_any (b : Nat) (a : Option Addr) (n c : Nat) (xs : List Int) (k : Nat) (m : Int) (hm0 : 1 ≤ m) (hm : m ≤ 1000000000) (hk : k < 1000000) (w : World) (h : Src w b a n c xs k) :
    Calls Tryz.prog 31 #[.pointer (some ⟨b, 0, none⟩), .int .i64 m] w (NextRes w b a n c xs k m) := by
  have HS := Lib.hid h
  have h1 := h.c1
  have h2 := h.f1
  have h0 := h.c0
  have h3 := h.size
  by_cases hn : n = 0
  · have hn0 : ((n : Int) == 0) = true := by rw [beq_iff_eq]; omega
    clear h h3 hn
    go_enter Tryz.func31, Tryz.ntmps31
    go_wp2
    go_ret
    exact next_close HS.out hk 0 _ (Int.emod_nonneg _ (by omega)) (fun _ => Int.emod_lt_of_pos _ (by omega))
  · rcases h.row with e | ⟨rb, ro, rfl, hrb, hcell⟩
    · exact absurd e hn
    · have hn0 : ((n : Int) == 0) = false := by rw [beq_eq_false_iff_ne]; omega
      have hi := hcell (k % n) (Nat.mod_lt _ (by omega))
      have hby := h.byte (k % n)
      have hi1 := hcell ((k + 1) % n) (Nat.mod_lt _ (by omega))
      have hby1 := h.byte ((k + 1) % n)
      have hi2 := hcell ((k + 2) % n) (Nat.mod_lt _ (by omega))
      have hby2 := h.byte ((k + 2) % n)
      generalize xs.getD (k % n) 0 = x at hi hby
      generalize xs.getD ((k + 1) % n) 0 = x1 at hi1 hby1
      generalize xs.getD ((k + 2) % n) 0 = x2 at hi2 hby2
      have hlt : ((k % n : Nat) : Int) < (n : Int) := by have := Nat.mod_lt k (show 0 < n by omega); omega
      have hlt1 : (((k + 1) % n : Nat) : Int) < (n : Int) := by have := Nat.mod_lt (k + 1) (show 0 < n by omega); omega
      have hlt2 : (((k + 2) % n : Nat) : Int) < (n : Int) := by have := Nat.mod_lt (k + 2) (show 0 < n by omega); omega
      obtain ⟨v, hv, v0, v1⟩ := draw1 (n := n) hk hby
      have HV := Lib.hid hv
      have hne : ¬ rb = b := by omega
      clear h hcell hv
      have w1 : IntKind.i64.wrap ((k : Int) + 1) = (k : Int) + 1 := by rw [IntKind.wrap_i64]; omega
      have w2 : IntKind.i64.wrap ((k : Int) + 2) = (k : Int) + 2 := by rw [IntKind.wrap_i64]; omega
      have p1 : (0 : Int) ≤ (k : Int) + 1 := by omega
      have p2 : (0 : Int) ≤ (k : Int) + 2 := by omega
      have t1 : ((k : Int) + 1).tmod (n : Int) = (((k + 1) % n : Nat) : Int) := by rw [Int.tmod_eq_emod_of_nonneg p1]; rfl
      have t2 : ((k : Int) + 2).tmod (n : Int) = (((k + 2) % n : Nat) : Int) := by rw [Int.tmod_eq_emod_of_nonneg p2]; rfl
      have W1 := Lib.hid w1
      have W2 := Lib.hid w2
      have T1 := Lib.hid t1
      have T2 := Lib.hid t2
      generalize (k + 1) % n = j1 at hi1 hlt1 T1
      generalize (k + 2) % n = j2 at hi2 hlt2 T2
      clear w1 w2 t1 t2
      by_cases m1 : m ≤ 200
      · go_enter Tryz.func31, Tryz.ntmps31
        go_wp2
        go_quiet (fail)
        rw [HV.out]
        go_wp2
        go_ret
        exact next_close HS.out hk _ _ (Int.emod_nonneg _ (by omega)) (fun _ => Int.emod_lt_of_pos _ (by omega))
      · by_cases m2 : m ≤ 60000
        · go_enter Tryz.func31, Tryz.ntmps31
          go_wp2
          go_quiet (fail)
          rw [HV.out]
          go_wp2
          have w1 := W1.out
          have t1 := T1.out
          go_quiet (fail)
          clear w1 t1
          go_wp2
          go_ret
          exact next_close HS.out hk _ _ (Int.emod_nonneg _ (by omega)) (fun _ => Int.emod_lt_of_pos _ (by omega))
        · go_enter Tryz.func31, Tryz.ntmps31
          go_wp2
          go_quiet (fail)
          rw [HV.out]
          go_wp2
          have w1 := W1.out
          have t1 := T1.out
          go_quiet (fail)
          clear w1 t1
          have u0 : 0 ≤ v * 251 + x1 * 13 + (k : Int) := by omega
          have u1 : v * 251 + x1 * 13 + (k : Int) ≤ 10000000000 := by omega
          go_wp2
          have w2 := W2.out
          have t2 := T2.out
          go_quiet (fail)
          clear w2 t2
          go_wp2
          go_ret
          exact next_close HS.out hk _ _ (Int.emod_nonneg _ (by omega)) (fun _ => Int.emod_lt_of_pos _ (by omega))

theorem Src.grown {w w' : World} {b : Nat} {a : Option Addr} {n c : Nat} {xs : List Int} {k : Nat} (h : Src w b a n c xs k) {row : Option Nat} (hg : w.grownBy w' row) (hr : ∀ j, row = some j → b < j) : Src w' b a n c xs k := by
  have hb : w'.heap[b]? = w.heap[b]? := hg.block b h.lt (fun e => by have := hr b e.symm; omega)
  refine ⟨Nat.lt_of_lt_of_le h.lt hg.size, (World.cell?_of_block (w := w) hb).trans h.c0, (World.cell?_of_block (w := w) hb).trans h.c1, (World.frozen?_of_block (w := w) hb).trans h.f1, h.len, ?_, h.byte, h.size, h.far⟩
  rcases h.row with e | ⟨rb, ro, ha, hrb, hc⟩
  · exact .inl e
  · refine .inr ⟨rb, ro, ha, hrb, fun i hi => ?_⟩
    have hb2 : w'.heap[rb]? = w.heap[rb]? := hg.block rb (Nat.lt_trans hrb h.lt) (fun e => by have := hr rb e.symm; omega)
    exact (World.cell?_of_block (w := w) hb2).trans (hc i hi)
theorem grown_of_below {w w' : World} (h : Below w.heap.size w w') (row : Option Nat) : w.grownBy w' row := ⟨h.os, h.tape, h.output, h.size, fun i hi _ => h.block i hi⟩
theorem Src.below {w w' : World} {b : Nat} {a : Option Addr} {n c : Nat} {xs : List Int} {k : Nat} (h : Src w b a n c xs k) (hb : Below w.heap.size w w') : Src w' b a n c xs k := h.grown (grown_of_below hb none) (fun _ e => by cases e)
theorem Src.alloc {w : World} {b : Nat} {a : Option Addr} {n c : Nat} {xs : List Int} {k : Nat} (h : Src w b a n c xs k) (o : Obj) : Src (w.alloc o) b a n c xs k := h.below (below1 w o)
theorem Row.grown {w w' : World} {k : IntKind} {v : Value} {xs : List Int} {row : Option Nat} (h : Row w k v xs) (hg : w.grownBy w' row) (hne : ∀ j, row = some j → v.ownBlock ≠ some j) : Row w' k v xs := by
  rcases h with h | ⟨b, o, cap, rfl, h1, h2, h3, h4⟩
  · exact .inl h
  · refine .inr ⟨b, o, cap, rfl, h1, h2, Nat.lt_of_lt_of_le h3 hg.size, fun i hi => ?_⟩
    have hb : w'.heap[b]? = w.heap[b]? := hg.block b h3 (fun e => hne b e.symm rfl)
    exact (World.cell?_of_block (w := w) hb).trans (h4 i hi)

/-- one of L is drawn -/
def PickRes (w : World) (b : Nat) (a : Option Addr) (n c : Nat) (xs : List Int) (k : Nat) (L : List Int) (en : Ending) (w' : World) : Prop :=
  ∃ r : Int, en = .returned (.int .i64 r) ∧ r ∈ L ∧ Src w' b a n c xs (k + 1) ∧ w.grownBy w' (some b)

set_option maxHeartbeats 800000 in
theorem l1Pick_any (b : Nat) (a : Option Addr) (n c : Nat) (xs : List Int) (k : Nat) (lb m : Nat) (L : List Int) (hm : m = L.length) (hm0 : 1 ≤ m) (hm1 : m ≤ 1000) (hk : k < 1000000) (w : World) (h : Src w b a n c xs k)
    (hL : Row w .i64 (.slice (some ⟨lb, 0, none⟩) m m) L) (hne : lb ≠ b) :
    Calls Tryz.prog 32 #[.pointer (some ⟨b, 0, none⟩), .slice (some ⟨lb, 0, none⟩) m m] w (PickRes w b a n c xs k L) := by
  have hmi : (1 : Int) ≤ (m : Int) := by omega
  have K := Lib.hid (l1Next_any b a n c xs k m hmi (by omega) hk w h)
  have HL := Lib.hid hL
  have HM := Lib.hid hm
  clear hm h hL
  go_enter Tryz.func32, Tryz.ntmps32
  go_wp2_with fail
  refine K.out.mono ?_
  rintro e w1 ⟨r, rfl, hr, hs, hg⟩
  have hr1 := hr hmi
  have HR := Lib.hid (HL.out.grown hg (fun j e => by cases e; simp [Value.ownBlock]; exact hne))
  have HS := Lib.hid hs
  have HG := Lib.hid hg
  clear hr hs hg
  rcases HR.out with ⟨hv, _⟩ | ⟨rb, ro, cap, hv, h1, h2, h3, h4⟩
  · simp at hv
  · simp only [Value.slice.injEq, Option.some.injEq, Addr.mk.injEq, and_true] at hv
    obtain ⟨⟨rfl, rfl⟩, _, _⟩ := hv
    have hc := h4 r (by have := HM.out; omega)
    rw [Nat.zero_add] at hc
    have hmem : L.getD r 0 ∈ L := by
      have hlt : r < L.length := by have := HM.out; omega
      rw [List.getD_eq_getElem?_getD, List.getElem?_eq_getElem hlt]
      exact List.getElem_mem hlt
    have HMEM := Lib.hid hmem
    clear hmem h4 h1
    generalize L.getD r 0 = z at hc HMEM
    go_wp2
    go_ret
    exact ⟨z, rfl, HMEM.out, HS.out, HG.out⟩

theorem lit_row (w : World) (e : TypeId) (k : IntKind) (L : List Int) (m : Nat) (hm : m = L.length) (hx : m ≤ maxLen) : Row (w.alloc (.cells (L.map (Value.int k)).toArray e)) k (.slice (some ⟨w.heap.size, 0, none⟩) m m) L :=
  Row.of_owns (lit_owns w e k L m hm hx)

theorem l1Chance_any (b : Nat) (a : Option Addr) (n c : Nat) (xs : List Int) (k : Nat) (m : Int) (hm0 : 1 ≤ m) (hm : m ≤ 1000000000) (hk : k < 1000000) (w : World) (h : Src w b a n c xs k) :
    Calls Tryz.prog 33 #[.pointer (some ⟨b, 0, none⟩), .int .i64 m] w fun en w' => (∃ t : Bool, en = .returned (.bool t)) ∧ Src w' b a n c xs (k + 1) ∧ w.grownBy w' (some b) := by
  have K := Lib.hid (l1Next_any b a n c xs k m hm0 hm hk w h)
  clear h
  go_enter Tryz.func33, Tryz.ntmps33
  go_wp2_with fail
  refine K.out.mono ?_
  rintro e w1 ⟨r, rfl, hr, hs, hg⟩
  have HS := Lib.hid hs
  have HG := Lib.hid hg
  clear hs hg hr
  go_wp2
  go_ret
  exact ⟨⟨_, rfl⟩, HS.out, HG.out⟩

/-- the draws' source: a new block -/
theorem l1Source_any (a : Option Addr) (n c : Nat) (xs : List Int) (w : World) (hl : xs.length = n) (hs : n ≤ 1048576) (hby : ∀ i, 0 ≤ xs.getD i 0 ∧ xs.getD i 0 ≤ 255)
    (hrow : n = 0 ∨ ∃ rb ro, a = some ⟨rb, ro, none⟩ ∧ rb < w.heap.size ∧ ∀ i, i < n → w.cell? ⟨rb, ro + i, none⟩ = some (.int .u8 (xs.getD i 0))) :
    Calls Tryz.prog 25 #[.slice a n c] w fun en w' => en = .returned (.pointer (some ⟨w.heap.size, 0, none⟩)) ∧ Src w' w.heap.size a n c xs 0 ∧ Below w.heap.size w w' := by
  have HR := Lib.hid hrow
  have HB := Lib.hid hby
  clear hrow hby
  go_enter Tryz.func25, Tryz.ntmps25
  go_wp2
  go_ret
  refine ⟨rfl, ⟨by simp, by simp, by simp, by simp, hl, ?_, HB.out, hs, by omega⟩, below1 _ _⟩
  rcases HR.out with e | ⟨rb, ro, ha, hrb, hc⟩
  · exact .inl e
  · exact .inr ⟨rb, ro, ha, hrb, fun i hi => ((below1 w _).cell (p := ⟨rb, ro + i, none⟩) hrb).trans (hc i hi)⟩
end Go.Proofs.YtbfjhjkllaceaaaGreatDoor

/- Contracts of l1In, isIn. -/
namespace Go.Proofs.YtbfjhjkllaceaaaGreatDoor
open Go.ChangeShapes Go.WideShapes Go.ChangeAt Go.RowKit
set_option linter.unusedVariables false

def inB (v l h : Int) : Bool := decide (l ≤ v ∧ v ≤ h)

set_option maxHeartbeats 400000 in
theorem l1In_any (v l h : Int) (w : World) :
    Calls Tryz.prog 90 #[.int .i64 v, .int .i64 l, .int .i64 h] w fun e w' => e = .returned (.bool (inB v l h)) ∧ w' = w := by
  by_cases h1 : l ≤ v
  · by_cases h2 : v ≤ h
    · go_enter Tryz.func90, Tryz.ntmps90
      go_wp2
      go_ret
      exact ⟨ret_bool (by simp [inB, h1, h2]), rfl⟩
    · go_enter Tryz.func90, Tryz.ntmps90
      go_wp2
      go_ret
      exact ⟨ret_bool (by simp [inB, h1, h2]), rfl⟩
  · go_enter Tryz.func90, Tryz.ntmps90
    go_wp2
    go_ret
    exact ⟨ret_bool (by simp [inB]; omega), rfl⟩

/-- isIn over a row of spans at an address. -/
def spansAt (w : World) (b : Nat) (l : List (Int × Int)) : Prop := ∀ i (h : i < l.length), w.cell? ⟨b, 2 * i, none⟩ = some (.int .i64 (l[i]).1) ∧ w.cell? ⟨b, 2 * i + 1, none⟩ = some (.int .i64 (l[i]).2)

theorem isIn_any' (v : Int) (l : List (Int × Int)) (b : Nat) (w : World) (hl : l.length ≤ 10) (hb : b < w.heap.size) (hs : spansAt w b l) :
    Calls Tryz.prog 118 #[.int .i64 v, .slice (some ⟨b, 0, none⟩) l.length l.length] w fun e w' => e = .returned (.bool (l.any fun p => inB v p.1 p.2)) ∧ Below w.heap.size w w' := by
  go_enter Tryz.func118, Tryz.ntmps118
  go_wp2
  go_loopw [9] (fun i wr => ∃ k : Nat, k ≤ l.length ∧ i = .int .i64 k ∧ (l.take k).any (fun p => inB v p.1 p.2) = false ∧ Below w.heap.size w wr) (fun i _ => l.length - (intOf i).toNat)
  case atStart => exact ⟨0, Nat.zero_le _, rfl, by simp, Below.refl _ _⟩
  case round =>
    obtain ⟨k, hk, rfl, hno, hbl⟩ := hrel
    by_cases hlt : k < l.length
    · obtain ⟨c0, c1⟩ := hs k hlt
      have d0 : wr.cell? ⟨b, k * 2, none⟩ = some (.int .i64 (l[k]).1) := by rw [hbl.cell (by exact hb), Nat.mul_comm]; exact c0
      have d1 : wr.cell? ⟨b, k * 2 + 1, none⟩ = some (.int .i64 (l[k]).2) := by rw [hbl.cell (by exact hb), Nat.mul_comm]; exact c1
      clear c0 c1
      have hsn : (l.take (k + 1)).any (fun p => inB v p.1 p.2) = inB v (l[k]).1 (l[k]).2 := by rw [List.take_succ_eq_append_getElem hlt, List.any_append, hno]; simp only [List.any_cons, List.any_nil, Bool.or_false, Bool.false_or]
      have HS := Lib.hid hsn
      have HNO := Lib.hid hno
      clear hsn hno
      by_cases h1 : (l[k]).1 ≤ v
      · by_cases h2 : v ≤ (l[k]).2
        · go_wp2
          go_ret
          refine ⟨ret_bool (List.any_eq_true.2 ⟨l[k], List.getElem_mem hlt, by simp [inB, h1, h2]⟩).symm, ?_⟩
          exact hbl.trans (((Below.refl _ _).alloc (Nat.le_refl _) _).mono hbl.size)
        · go_wp2
          go_roundw
          case rel => exact ⟨k + 1, by omega, by go_num, by rw [HS.out]; simp [inB]; omega, hbl.trans (((Below.refl _ _).alloc (Nat.le_refl _) _).mono hbl.size)⟩
          case measure => simp [intOf]; omega
      · go_wp2
        go_roundw
        case rel => exact ⟨k + 1, by omega, by go_num, by rw [HS.out]; simp [inB]; omega, hbl.trans (((Below.refl _ _).alloc (Nat.le_refl _) _).mono hbl.size)⟩
        case measure => simp [intOf]; omega
    · obtain rfl : k = l.length := by omega
      have HNO := Lib.hid hno
      clear hno
      go_wp2
      go_ret
      have := HNO.out
      rw [List.take_length] at this
      exact ⟨ret_bool this.symm, hbl⟩
theorem isIn_any (v : Int) (l : List (Int × Int)) (b n : Nat) (w : World) (hn : n = l.length) (hl : n ≤ 10) (hb : b < w.heap.size) (hs : spansAt w b l) :
    Calls Tryz.prog 118 #[.int .i64 v, .slice (some ⟨b, 0, none⟩) n n] w fun e w' => e = .returned (.bool (l.any fun p => inB v p.1 p.2)) ∧ Below w.heap.size w w' := by
  subst hn
  exact isIn_any' v l b w hl hb hs
end Go.Proofs.YtbfjhjkllaceaaaGreatDoor

/- Contracts of the characters' classes. -/
namespace Go.Proofs.YtbfjhjkllaceaaaGreatDoor
open Go.ChangeShapes Go.WideShapes Go.ChangeAt Go.RowKit
set_option linter.unusedVariables false

def pointB (p : Int) : Bool := inB p 0 1114111 && !inB p 55296 57343
def charB (p : Int) : Bool := decide (p = 9) || decide (p = 10) || (decide (32 ≤ p) && pointB p && decide (p ≠ 127) && decide (p ≠ 65534) && decide (p ≠ 65535))

theorem l1Point_any (p : Int) (w : World) :
    Calls Tryz.prog 97 #[.int .i64 p] w fun e w' => e = .returned (.bool (pointB p)) ∧ w' = w := by
  cases h : inB p 0 1114111
  all_goals
    go_enter Tryz.func97, Tryz.ntmps97
    go_wp2_with (go_at_call 90; refine (l1In_any _ _ _ _).mono ?_; rintro e w' ⟨rfl, rfl⟩)
    go_ret
    exact ⟨ret_bool (by simp [pointB, h]), rfl⟩

theorem pointB_spans (p : Int) : (inB p 0 55295 || inB p 57344 1114111) = pointB p := by
  rw [Bool.eq_iff_iff]
  simp [pointB, inB]
  omega

theorem isPoint_any (p : Int) (w : World) :
    Calls Tryz.prog 117 #[.int .i64 p] w fun e w' => e = .returned (.bool (pointB p)) ∧ Below w.heap.size w w' := by
  go_enter Tryz.func117, Tryz.ntmps117
  go_wp2_with fail
  refine (isIn_any p [(0, 55295), (57344, 1114111)] _ _ _ rfl (by decide) (by simp) ?_).mono ?_
  · intro i hi
    match i, hi with
    | 0, _ => simp
    | 1, _ => simp
  rintro e w' ⟨rfl, hb⟩
  go_wp2
  go_ret
  exact ⟨ret_bool (pointB_spans p), ((Below.refl _ _).alloc (Nat.le_refl _) _).trans (hb.mono (by simp))⟩

theorem charB_spans (p : Int) (h : pointB p = true) : (inB p 9 10 || (inB p 32 126 || (inB p 128 65533 || inB p 65536 1114111))) = charB p := by
  rw [Bool.eq_iff_iff]
  simp [charB, h]
  simp [pointB, inB] at h ⊢
  omega

theorem charB_point (p : Int) (h : pointB p = false) : charB p = false := by
  simp [charB, h]
  simp [pointB, inB] at h
  constructor <;> (rintro rfl; simp at h)

theorem implIsChar_any (p : Int) (w : World) :
    Calls Tryz.prog 113 #[.int .i64 p] w fun e w' => e = .returned (.bool (charB p)) ∧ Below w.heap.size w w' := by
  cases h : pointB p
  · go_enter Tryz.func113, Tryz.ntmps113
    go_wp2_with fail
    refine (isPoint_any p _).mono ?_
    rintro e w1 ⟨rfl, hb⟩
    go_wp2
    go_ret
    exact ⟨ret_bool (charB_point p h).symm, hb⟩
  · go_enter Tryz.func113, Tryz.ntmps113
    go_wp2_with fail
    refine (isPoint_any p _).mono ?_
    rintro e w1 ⟨rfl, hb⟩
    go_wp2_with fail
    refine (isIn_any p [(9, 10), (32, 126), (128, 65533), (65536, 1114111)] _ _ _ rfl (by decide) (by simp) ?_).mono ?_
    · intro i hi
      match i, hi with
      | 0, _ => simp
      | 1, _ => simp
      | 2, _ => simp
      | 3, _ => simp
    rintro e w2 ⟨rfl, hb2⟩
    go_wp2
    go_ret
    exact ⟨ret_bool (charB_spans p h), (hb.alloc hb.size _).trans (hb2.mono (by have := hb.size; simp; omega))⟩

theorem specIsChar_any (p : Int) (w : World) :
    Calls Tryz.prog 83 #[.int .i64 p] w fun e w' => e = .returned (.bool (charB p)) ∧ w' = w := by
  cases hq : pointB p
  all_goals
    go_enter Tryz.func83, Tryz.ntmps83
    go_wp2_with (go_at_call 97; refine (l1Point_any _ _).mono ?_; rintro e w' ⟨rfl, rfl⟩)
    all_goals
      go_ret
      exact ⟨ret_bool (by rw [Bool.eq_iff_iff]; simp [charB, hq] <;> omega), rfl⟩
end Go.Proofs.YtbfjhjkllaceaaaGreatDoor

/- The library contracts at this dump. -/
namespace Go.Proofs
open Go.Shelf
def Tryz.lays197_ren : Go.Shelf.Ren := ⟨fun | 197 => 116 | 260 => 120 | n => n, fun | 9 => 9 | 21 => 21 | 3 => 3 | 4 => 4 | 5 => 5 | 105 => 158 | 119 => 166 | 0 => 0 | 46 => 167 | 139 => 170 | 138 => 169 | n => n, fun | 3 => 1 | 4 => 2 | n => n⟩
theorem Tryz.lays197 : Go.Proofs.Lays.n197 Tryz.prog Tryz.lays197_ren := {
  mixed := by kernel_rfl
  f197 := Tryz.func116.trans (congrArg some (by kernel_rfl))
  f260 := Tryz.func120.trans (congrArg some (by kernel_rfl))
  t0 := Tryz.underlying0
  a0 := Tryz.isAgg0
  z0 := Tryz.sizeOf0
  v0 := Tryz.zeroValue0
  t3 := Tryz.underlying3
  a3 := Tryz.isAgg3
  z3 := Tryz.sizeOf3
  v3 := Tryz.zeroValue3
  t4 := Tryz.underlying4
  a4 := Tryz.isAgg4
  z4 := Tryz.sizeOf4
  v4 := Tryz.zeroValue4
  t5 := Tryz.underlying5
  a5 := Tryz.isAgg5
  z5 := Tryz.sizeOf5
  v5 := Tryz.zeroValue5
  t9 := Tryz.underlying9
  a9 := Tryz.isAgg9
  z9 := Tryz.sizeOf9
  v9 := Tryz.zeroValue9
  t21 := Tryz.underlying21
  a21 := Tryz.isAgg21
  z21 := Tryz.sizeOf21
  v21 := Tryz.zeroValue21
  t46 := Tryz.underlying167
  a46 := Tryz.isAgg167
  z46 := Tryz.sizeOf167
  v46 := Tryz.zeroValue167
  t105 := Tryz.underlying158
  a105 := Tryz.isAgg158
  z105 := Tryz.sizeOf158
  v105 := Tryz.zeroValue158
  t119 := Tryz.underlying166
  a119 := Tryz.isAgg166
  z119 := Tryz.sizeOf166
  t138 := Tryz.underlying169
  a138 := Tryz.isAgg169
  z138 := Tryz.sizeOf169
  v138 := Tryz.zeroValue169
  t139 := Tryz.underlying170
  a139 := Tryz.isAgg170
  z139 := Tryz.sizeOf170
  v139 := Tryz.zeroValue170
  g3 := by kernel_rfl
  g4 := by kernel_rfl }
open Go.RowKit Go.Lib in
theorem Tryz.utf8_DecodeRuneInString_ascii (s : ByteArray) (x : UInt8) (w : World) (h0 : s.data.toList[0]? = some x) (hx : x.toNat < 128) :
    Calls Tryz.prog 116 #[.string s] w fun e w' => e = .returned (.tuple #[.int .i32 x.toNat, .int .i64 1]) ∧ w' = w := Any.utf8_DecodeRuneInString_ascii Tryz.lays197 s x w h0 hx
def Tryz.lays260_ren : Go.Shelf.Ren := ⟨fun | 260 => 120 | n => n, fun | 9 => 9 | 21 => 21 | 3 => 3 | 4 => 4 | 5 => 5 | 119 => 166 | 0 => 0 | 46 => 167 | 139 => 170 | 138 => 169 | n => n, fun | 3 => 1 | 4 => 2 | n => n⟩
theorem Tryz.lays260 : Go.Proofs.Lays.n260 Tryz.prog Tryz.lays260_ren := {
  mixed := by kernel_rfl
  f260 := Tryz.func120.trans (congrArg some (by kernel_rfl))
  t0 := Tryz.underlying0
  a0 := Tryz.isAgg0
  z0 := Tryz.sizeOf0
  v0 := Tryz.zeroValue0
  t3 := Tryz.underlying3
  a3 := Tryz.isAgg3
  z3 := Tryz.sizeOf3
  v3 := Tryz.zeroValue3
  t4 := Tryz.underlying4
  a4 := Tryz.isAgg4
  z4 := Tryz.sizeOf4
  v4 := Tryz.zeroValue4
  t5 := Tryz.underlying5
  a5 := Tryz.isAgg5
  z5 := Tryz.sizeOf5
  v5 := Tryz.zeroValue5
  t9 := Tryz.underlying9
  a9 := Tryz.isAgg9
  z9 := Tryz.sizeOf9
  v9 := Tryz.zeroValue9
  t21 := Tryz.underlying21
  a21 := Tryz.isAgg21
  z21 := Tryz.sizeOf21
  v21 := Tryz.zeroValue21
  t46 := Tryz.underlying167
  a46 := Tryz.isAgg167
  z46 := Tryz.sizeOf167
  v46 := Tryz.zeroValue167
  t119 := Tryz.underlying166
  a119 := Tryz.isAgg166
  z119 := Tryz.sizeOf166
  t138 := Tryz.underlying169
  a138 := Tryz.isAgg169
  z138 := Tryz.sizeOf169
  v138 := Tryz.zeroValue169
  t139 := Tryz.underlying170
  a139 := Tryz.isAgg170
  z139 := Tryz.sizeOf170
  v139 := Tryz.zeroValue170
  g3 := by kernel_rfl
  g4 := by kernel_rfl }
open Go.RowKit Go.Lib in
theorem Tryz.utf8_decodeRuneInStringSlow (s : ByteArray) (w : World) (hT : Lib.Utf8Tabs 1 2 w) :
    Calls Tryz.prog 120 #[.string s] w fun e w' => e = .returned (.tuple #[.int .i32 (Lib.decodeGo s).1, .int .i64 (Lib.decodeGo s).2]) ∧ Below w.heap.size w w' := Any.utf8_decodeRuneInStringSlow Tryz.lays260 s w hT
open Go.RowKit Go.Lib in
theorem Tryz.utf8_DecodeRuneInString (s : ByteArray) (w : World) (hT : Lib.Utf8Tabs 1 2 w) :
    Calls Tryz.prog 116 #[.string s] w fun e w' => e = .returned (.tuple #[.int .i32 (Lib.decodeGo s).1, .int .i64 (Lib.decodeGo s).2]) ∧ Below w.heap.size w w' := Any.utf8_DecodeRuneInString Tryz.lays197 s w hT
end Go.Proofs

/- Contract of the model's l1Put. -/
namespace Go.Proofs.YtbfjhjkllaceaaaGreatDoor
open Go.ChangeShapes Go.WideShapes Go.ChangeAt Go.RowKit
set_option linter.unusedVariables false

theorem point_of {p : Int} (h : pointB p = true) : (0 ≤ p ∧ p ≤ 1114111) ∧ ¬ (55296 ≤ p ∧ p ≤ 57343) := by
  simp [pointB, inB] at h
  omega

set_option maxHeartbeats 1600000 in
theorem l1Put_any (p : Int) (hp : pointB p = true) (w : World) :
    Calls Tryz.prog 84 #[.int .i64 p] w (OwnsRes w 5 .u8 (Lib.encodeRuneZ p)) := by
  obtain ⟨⟨h0, h1⟩, h2⟩ := point_of hp
  clear hp
  by_cases c1 : p < 128
  · go_enter Tryz.func84, Tryz.ntmps84
    go_wp2
    go_ret
    refine ⟨_, 1, _, rfl, ?_, below1 _ _⟩
    rw [Lib.encodeRuneZ_one h0 (by omega)]
    exact lit_owns w _ .u8 [p] 1 rfl (by decide)
  · by_cases c2 : p < 2048
    · have q1 : p / 64 < 32 := by omega
      have q2 : 0 ≤ p / 64 := by omega
      go_enter Tryz.func84, Tryz.ntmps84
      go_wp2
      go_ret
      refine ⟨_, 2, _, rfl, ?_, below1 _ _⟩
      rw [Lib.encodeRuneZ_two (by omega) (by omega)]
      exact lit_owns w _ .u8 [192 + p / 64, 128 + p % 64] 2 rfl (by decide)
    · by_cases c3 : p < 65536
      · have q1 : p / 4096 < 16 := by omega
        have q2 : 0 ≤ p / 4096 := by omega
        have q3 : 0 ≤ p / 64 := by omega
        go_enter Tryz.func84, Tryz.ntmps84
        go_wp2
        go_ret
        refine ⟨_, 3, _, rfl, ?_, below1 _ _⟩
        rw [Lib.encodeRuneZ_three (by omega)]
        exact lit_owns w _ .u8 [224 + p / 4096, 128 + p / 64 % 64, 128 + p % 64] 3 rfl (by decide)
      · have q1 : p / 262144 < 8 := by omega
        have q2 : 0 ≤ p / 262144 := by omega
        have q3 : 0 ≤ p / 64 := by omega
        have q4 : 0 ≤ p / 4096 := by omega
        go_enter Tryz.func84, Tryz.ntmps84
        go_wp2
        go_ret
        refine ⟨_, 4, _, rfl, ?_, below1 _ _⟩
        rw [Lib.encodeRuneZ_four (by omega) (by omega)]
        exact lit_owns w _ .u8 [240 + p / 262144, 128 + p / 4096 % 64, 128 + p / 64 % 64, 128 + p % 64] 4 rfl (by decide)

end Go.Proofs.YtbfjhjkllaceaaaGreatDoor

/- Contracts of the draws of bytes and of texts. -/
namespace Go.Proofs.YtbfjhjkllaceaaaGreatDoor
open Go.ChangeShapes Go.WideShapes Go.ChangeAt Go.RowKit
set_option linter.unusedVariables false

theorem u8Info : (Tryz.prog.info? 5).map (fun i => (i.zero, i.size, i.bytes)) = some (some (.int .u8 0), 1, 1) := by kernel_rfl

/-- only block b, and what is new, has turned: behind an append to an own row -/
theorem step_appended {w wr w1 : World} {b base : Nat} {o : Obj} {v : Value} {e : TypeId} {size n : Nat} {xs : List Value} (h : w.grownBy wr (some b)) (hb : w.heap.size ≤ base) (ho : wr.ownsRow base e size v n xs) (hg : (wr.alloc o).grownBy w1 v.ownBlock) : w.grownBy w1 (some b) := by
  refine ⟨hg.os.trans h.os, hg.tape.trans h.tape, hg.output.trans h.output, Nat.le_trans h.size (Nat.le_trans (by simp) hg.size), fun i hi hne => ?_⟩
  rw [hg.block i (by have := h.size; simp; omega) (fun e => by have := (ho.lt i e.symm).1; omega), Below.heap_alloc _ _ _ (Nat.lt_of_lt_of_le hi h.size)]
  exact h.block i hi hne
theorem step_appended0 {w wr w1 : World} {b base : Nat} {v : Value} {e : TypeId} {size n : Nat} {xs : List Value} (h : w.grownBy wr (some b)) (hb : w.heap.size ≤ base) (ho : wr.ownsRow base e size v n xs) (hg : wr.grownBy w1 v.ownBlock) : w.grownBy w1 (some b) := by
  refine ⟨hg.os.trans h.os, hg.tape.trans h.tape, hg.output.trans h.output, Nat.le_trans h.size hg.size, fun i hi hne => ?_⟩
  rw [hg.block i (Nat.lt_of_lt_of_le hi h.size) (fun e => by have := (ho.lt i e.symm).1; omega)]
  exact h.block i hi hne
theorem step_below {w wr w1 : World} {b : Nat} (h : w.grownBy wr (some b)) (hb : Below wr.heap.size wr w1) : w.grownBy w1 (some b) := grown_trans_row h (grown_of_below hb _)

/-- some number is drawn -/
def IntRes (w : World) (b : Nat) (a : Option Addr) (n c : Nat) (xs : List Int) (k : Nat) (en : Ending) (w' : World) : Prop :=
  (∃ r : Int, en = .returned (.int .i64 r)) ∧ Src w' b a n c xs (k + 1) ∧ w.grownBy w' (some b)

theorem l1DrawPoint_any (b : Nat) (a : Option Addr) (n c : Nat) (xs : List Int) (k : Nat) (hk : k < 1000000) (w : World) (h : Src w b a n c xs k) :
    Calls Tryz.prog 82 #[.pointer (some ⟨b, 0, none⟩)] w (IntRes w b a n c xs k) := by
  have hblt := h.lt
  have HS := Lib.hid h
  clear h
  go_enter Tryz.func82, Tryz.ntmps82
  go_wp2_with fail
  refine (l1Pick_any b a n c xs k w.heap.size 20 _ rfl (by decide) (by decide) hk _ (HS.out.alloc _) (lit_row w _ .i64 [97, 98, 60, 38, 32, 34, 233, 8364, 128512, 9, 10, 2047, 2048, 65535, 65536, 1114111, 120, 121, 62, 39] 20 rfl (by decide)) (by omega)).mono ?_
  rintro e w1 ⟨r, rfl, _, hs, hg⟩
  have HS1 := Lib.hid hs
  have HG1 := Lib.hid (grown_trans_row (World.grownBy_alloc w _ (some b)) hg)
  clear hs hg
  go_wp2
  go_ret
  exact ⟨⟨r, rfl⟩, HS1.out, HG1.out⟩

theorem point_of_char {p : Int} (h : charB p = true) : pointB p = true := by
  cases hp : pointB p
  · rw [charB_point p hp] at h
    exact absurd h (by simp)
  · rfl

/-- a text is drawn, of no more than 4 times m bytes -/
def TextDrawn (w : World) (b : Nat) (a : Option Addr) (n c : Nat) (xs : List Int) (k m : Nat) (en : Ending) (w' : World) : Prop :=
  ∃ (s : ByteArray) (k' : Nat), en = .returned (.string s) ∧ s.size ≤ 4 * m ∧ k' ≤ k + 1 + m ∧ Src w' b a n c xs k' ∧ w.grownBy w' (some b)

set_option maxHeartbeats 1600000 in
theorem l1DrawText_any (b : Nat) (a : Option Addr) (n c : Nat) (xs : List Int) (k m : Nat) (hm : m ≤ 10000) (hk : k + 1 + m < 1000000) (w : World) (h : Src w b a n c xs k) :
    Calls Tryz.prog 59 #[.pointer (some ⟨b, 0, none⟩), .int .i64 m] w (TextDrawn w b a n c xs k m) := by
  obtain ⟨i0, hi, hz0, hz1, hz2⟩ := info_parts u8Info
  have hblt := h.lt
  have hmi : (m : Int) ≤ 10000 := by omega
  have HS0 := Lib.hid h
  clear h
  go_enter Tryz.func59, Tryz.ntmps59
  go_wp2_with fail
  refine (l1Next_any b a n c xs k ((m : Int) + 1) (by omega) (by omega) (by omega) _ (HS0.out.alloc _)).mono ?_
  rintro e w1 ⟨r0, rfl, hr0, hs1, hg1⟩
  have hr1 := hr0 (by omega)
  have HS1 := Lib.hid hs1
  have HO1 := Lib.hid ((lit_owns w 5 .u8 [] 0 rfl (by decide)).kept hg1 (.inr (by simp [Value.ownBlock]; omega)))
  have HG1 := Lib.hid (grown_trans_row (World.grownBy_alloc w (.cells (([] : List Int).map (Value.int .u8)).toArray 5) (some b)) hg1)
  clear hr0 hs1 hg1
  go_wp2
  go_loopw [5, 6] (fun v q wr => ∃ (r j l : Nat) (a' : Option Addr) (c' : Nat) (ys : List Int), j + r = r0 ∧ l ≤ 4 * j ∧ q = .int .i64 r ∧ v = .slice a' l c' ∧ wr.ownsRow w.heap.size 5 1 (.slice a' l c') l (ys.map (Value.int .u8)) ∧ Src wr b a n c xs (k + 1 + j) ∧ w.grownBy wr (some b)) (fun _ q _ => (intOf q).toNat)
  case atStart => exact ⟨r0, 0, 0, _, _, [], by omega, by omega, rfl, rfl, HO1.out, HS1.out, HG1.out⟩
  case round =>
    obtain ⟨r, j, l, a', c', ys, hjr, hl, rfl, rfl, ho, hs, hg⟩ := hrel
    have HO := Lib.hid ho
    have HS := Lib.hid hs
    have HG := Lib.hid hg
    have hj1 : j ≤ 10000 := by omega
    have hrm : r ≤ 10000 := by omega
    clear ho hs hg
    by_cases hr : 0 < r
    · go_wp2_with fail
      refine (l1DrawPoint_any b a n c xs (k + 1 + j) (by omega) wr HS.out).mono ?_
      rintro e w2 ⟨⟨p, rfl⟩, hs2, hg2⟩
      have HS2 := Lib.hid hs2
      have HO2 := Lib.hid (HO.out.kept hg2 (by
        cases hv : (Value.slice a' l c').ownBlock with
        | none => exact .inl rfl
        | some g => exact .inr (fun e => by have := (HO.out.lt g hv).1; cases e; omega)))
      have HG2 := Lib.hid (grown_trans_row HG.out hg2)
      clear hs2 hg2
      cases hc : charB p
      · go_wp2_with fail
        refine (specIsChar_any p _).mono ?_
        rintro e w3 ⟨rfl, rfl⟩
        go_wp2
        go_roundw
        case rel => exact ⟨r - 1, j + 1, l, a', c', ys, by omega, by omega, by rw [show ((r - 1 : Nat) : Int) = (r : Int) - 1 by omega], rfl, HO2.out, HS2.out, HG2.out⟩
        case measure => simp [intOf]; omega
      · have hp := point_of_char hc
        go_wp2_with fail
        refine (specIsChar_any p _).mono ?_
        rintro e w3 ⟨rfl, rfl⟩
        go_wp2_with fail
        refine (l1Put_any p hp _).mono ?_
        rintro e w4 ⟨a4, n4, c4, rfl, ho4, hb4⟩
        have hn4 := owns_length ho4
        have hle4 := Lib.encodeRuneZ_length p
        have HO3 := Lib.hid (owns_below HO2.out hb4)
        have HS3 := Lib.hid (HS2.out.below hb4)
        have HG3 := Lib.hid (step_below HG2.out hb4)
        have HO4 := Lib.hid ho4
        clear ho4 hb4
        rcases HO4.out.2 with ⟨hv, h0⟩ | ⟨g, cap, cur, hv, _⟩
        · exfalso
          omega
        · simp only [Value.slice.injEq] at hv
          obtain ⟨rfl, _, rfl⟩ := hv
          have HL4 := Lib.hid hle4
          have HN4 := Lib.hid hn4
          clear hle4 hn4
          go_wp2_with (at_builtin; refine wpList_append_own _ rfl _ _ 22 rfl w.heap.size 5 i0 (.int .u8 0) 1 1 Tryz.underlying22 hi hz0 hz1 hz2 rfl (by decide) _ _ _ rfl HO3.out ⟨g, 0, none⟩ n4 c4 ((Lib.encodeRuneZ p).map (Value.int .u8)) rfl ?c1 ?c2 ?c3 ?c4 ?c5 ?c6 ?_)
          case c1 => have := HN4.out; simp; omega
          case c2 => exact HO4.out.cells (g := g) rfl
          case c3 => exact ints_oneCell _ _
          case c4 => have := HN4.out; have := HL4.out; unfold maxLen; omega
          case c5 => have := HN4.out; have := HL4.out; omega
          case c6 => exact HG3.out.size
          intro v' w5 hown' hgrow _
          obtain ⟨a2, c2, rfl⟩ := owns_slice hown'
          have HG5 := Lib.hid (step_appended0 HG3.out (Nat.le_refl _) HO3.out hgrow)
          have HS5 := Lib.hid (HS3.out.grown hgrow (fun g e => by have := (HO3.out.lt g e).1; omega))
          have HO5 := Lib.hid hown'
          clear hown' hgrow
          go_wp2
          go_roundw
          case rel => exact ⟨r - 1, j + 1, l + n4, a2, c2, ys ++ Lib.encodeRuneZ p, by omega, by have := HN4.out; have := HL4.out; omega, by rw [show ((r - 1 : Nat) : Int) = (r : Int) - 1 by omega], rfl, by rw [List.map_append]; exact HO5.out, HS5.out, HG5.out⟩
          case measure => simp [intOf]; omega
    · obtain rfl : r = 0 := by omega
      have hcv := conv_row (P := Tryz.prog) wr Tryz.underlying22 Tryz.underlying5 Tryz.underlying9 (Row.of_owns HO.out)
      have hyl := owns_length HO.out
      have HYL := Lib.hid hyl
      clear hyl
      go_wp2
      go_ret
      exact ⟨strOfNums ys, k + 1 + j, rfl, by rw [strOfNums_size]; have := HYL.out; omega, by omega, HS.out, HG.out⟩
end Go.Proofs.YtbfjhjkllaceaaaGreatDoor

/- What every draw of a law's code wants. -/
namespace Go.Proofs.YtbfjhjkllaceaaaGreatDoor
open Go.ChangeShapes Go.WideShapes Go.ChangeAt Go.RowKit
set_option linter.unusedVariables false

/-- what is known of the code that a law is handed -/
structure CodeAt (w : World) (a : Option Addr) (n c : Nat) (xs : List Int) : Prop where
  len : xs.length = n
  size : n ≤ 1048576
  byte : ∀ i, 0 ≤ xs.getD i 0 ∧ xs.getD i 0 ≤ 255
  row : n = 0 ∨ ∃ rb ro, a = some ⟨rb, ro, none⟩ ∧ rb < w.heap.size ∧ ∀ i, i < n → w.cell? ⟨rb, ro + i, none⟩ = some (.int .u8 (xs.getD i 0))
theorem CodeAt.below {w w' : World} {a : Option Addr} {n c : Nat} {xs : List Int} (h : CodeAt w a n c xs) (hb : Below w.heap.size w w') : CodeAt w' a n c xs := by
  refine ⟨h.len, h.size, h.byte, ?_⟩
  rcases h.row with e | ⟨rb, ro, ha, hr, hc⟩
  · exact .inl e
  · exact .inr ⟨rb, ro, ha, Nat.lt_of_lt_of_le hr hb.size, fun i hi => (hb.cell (p := ⟨rb, ro + i, none⟩) hr).trans (hc i hi)⟩
theorem source_any {w : World} {a : Option Addr} {n c : Nat} {xs : List Int} (h : CodeAt w a n c xs) :
    Calls Tryz.prog 25 #[.slice a n c] w fun en w' => en = .returned (.pointer (some ⟨w.heap.size, 0, none⟩)) ∧ Src w' w.heap.size a n c xs 0 ∧ Below w.heap.size w w' :=
  l1Source_any a n c xs w h.len h.size h.byte h.row
theorem below_step {w w1 w2 : World} {b : Nat} (h : Below w.heap.size w w1) (hg : w1.grownBy w2 (some b)) (hb : w.heap.size ≤ b) : Below w.heap.size w w2 := h.grown hg h.size (fun k e => by cases e; exact hb)

/-- some number is drawn of the code -/
def TopInt (w : World) (en : Ending) (w' : World) : Prop := ∃ r : Int, en = .returned (.int .i64 r) ∧ Below w.heap.size w w'
/-- some text of no more than m bytes -/
def TopText (w : World) (m : Nat) (en : Ending) (w' : World) : Prop := ∃ s : ByteArray, en = .returned (.string s) ∧ s.size ≤ m ∧ Below w.heap.size w w'

/-! Words out of a list of texts. -/
def isWord (m : Nat) : Option Value → Bool
  | some (.string s) => decide (s.size ≤ m)
  | _ => false
theorem word_of {m : Nat} {o : Option Value} (h : isWord m o = true) : ∃ s : ByteArray, o = some (.string s) ∧ s.size ≤ m := by
  unfold isWord at h
  split at h
  · rename_i s
    exact ⟨s, rfl, of_decide_eq_true h⟩
  · cases h
theorem words_of {w w1 : World} {arr : Array Value} {e : TypeId} (hb : Below (w.alloc (.cells arr e)).heap.size (w.alloc (.cells arr e)) w1) (m k : Nat) (hall : (List.range k).all (fun r => isWord m arr[r]?) = true) :
    ∀ r, r < k → ∃ s : ByteArray, w1.cell? ⟨w.heap.size, r, none⟩ = some (.string s) ∧ s.size ≤ m := by
  intro r hr
  obtain ⟨s, hs, hm⟩ := word_of (List.all_eq_true.1 hall r (List.mem_range.2 hr))
  refine ⟨s, ?_, hm⟩
  rw [hb.cell (p := ⟨w.heap.size, r, none⟩) (by simp), cell_of_row _ _ _ _ _ (0, 0) (heap_alloc_new w _)]
  exact hs

/-- a byte made a text -/
theorem conv_byte {P : Program} {src e dst : TypeId} (hs : P.underlying src = some (.slice e)) (he : P.underlying e = some (.int .u8)) (hd : P.underlying dst = some .string) (W : World) (x : Int) :
    (convert src dst (.slice (some ⟨W.heap.size, 0, none⟩) 1 1)).run P (W.alloc (.cells #[.int .u8 x] e)) = .ok (.string (strOfNums [x])) (W.alloc (.cells #[.int .u8 x] e)) :=
  conv_row _ hs he hd (lit_row W e .u8 [x] 1 rfl (by decide))
end Go.Proofs.YtbfjhjkllaceaaaGreatDoor

/- What a tree's items are, and how they lie in memory. -/
namespace Go.Proofs.YtbfjhjkllaceaaaGreatDoor
open Go.ChangeShapes Go.WideShapes Go.ChangeAt Go.RowKit
set_option linter.unusedVariables false

structure At where
  name : ByteArray
  value : ByteArray
structure It where
  depth : Int
  text : ByteArray
  space : ByteArray
  name : ByteArray
  attrs : List At
def dAt : At := ⟨ByteArray.empty, ByteArray.empty⟩
def dIt : It := ⟨0, ByteArray.empty, ByteArray.empty, ByteArray.empty, []⟩
theorem At.eq {x y : At} (h1 : x.name = y.name) (h2 : x.value = y.value) : x = y := by cases x; cases y; simp_all
theorem It.eq {x y : It} (h0 : x.depth = y.depth) (h1 : x.text = y.text) (h2 : x.space = y.space) (h3 : x.name = y.name) (h4 : x.attrs = y.attrs) : x = y := by cases x; cases y; simp_all

/-- a slice of attributes that reads as l -/
structure AtsAt (w : World) (a : Option Addr) (n c : Nat) (l : List At) : Prop where
  len : l.length = n
  max : n ≤ 9223372036854775807
  size : ∀ i, (l.getD i dAt).name.size ≤ 9223372036854775807 ∧ (l.getD i dAt).value.size ≤ 9223372036854775807
  row : n = 0 ∨ ∃ b o, a = some ⟨b, o, none⟩ ∧ b < w.heap.size ∧ ∀ i, i < n → w.cell? ⟨b, o + i * 2, none⟩ = some (.string (l.getD i dAt).name) ∧ w.cell? ⟨b, o + i * 2 + 1, none⟩ = some (.string (l.getD i dAt).value)
theorem AtsAt.below {w w' : World} {a : Option Addr} {n c : Nat} {l : List At} (h : AtsAt w a n c l) (hb : Below w.heap.size w w') : AtsAt w' a n c l := by
  refine ⟨h.len, h.max, h.size, ?_⟩
  rcases h.row with e | ⟨b, o, ha, hr, hc⟩
  · exact .inl e
  · exact .inr ⟨b, o, ha, Nat.lt_of_lt_of_le hr hb.size, fun i hi => ⟨(hb.cell (p := ⟨b, o + i * 2, none⟩) hr).trans (hc i hi).1, (hb.cell (p := ⟨b, o + i * 2 + 1, none⟩) hr).trans (hc i hi).2⟩⟩

/-- five cells that read as an item -/
structure ItAt (w : World) (b o : Nat) (x : It) : Prop where
  lt : b < w.heap.size
  wf : -9223372036854775808 ≤ x.depth ∧ x.depth ≤ 9223372036854775807
  size : x.text.size ≤ 9223372036854775807 ∧ x.space.size ≤ 9223372036854775807 ∧ x.name.size ≤ 9223372036854775807
  c0 : w.cell? ⟨b, o, none⟩ = some (.int .i64 x.depth)
  c1 : w.cell? ⟨b, o + 1, none⟩ = some (.string x.text)
  c2 : w.cell? ⟨b, o + 2, none⟩ = some (.string x.space)
  c3 : w.cell? ⟨b, o + 3, none⟩ = some (.string x.name)
  c4 : ∃ a n c, w.cell? ⟨b, o + 4, none⟩ = some (.slice a n c) ∧ AtsAt w a n c x.attrs
theorem ItAt.below {w w' : World} {b o : Nat} {x : It} (h : ItAt w b o x) (hb : Below w.heap.size w w') : ItAt w' b o x := by
  obtain ⟨a, n, c, h4, hat⟩ := h.c4
  exact ⟨Nat.lt_of_lt_of_le h.lt hb.size, h.wf, h.size, (hb.cell (by exact h.lt)).trans h.c0, (hb.cell (by exact h.lt)).trans h.c1, (hb.cell (by exact h.lt)).trans h.c2, (hb.cell (by exact h.lt)).trans h.c3, a, n, c, (hb.cell (by exact h.lt)).trans h4, hat.below hb⟩

/-- a slice of items that reads as l -/
structure ItsAt (w : World) (a : Option Addr) (n c : Nat) (l : List It) : Prop where
  len : l.length = n
  max : n ≤ 9223372036854775807
  row : n = 0 ∨ ∃ b o, a = some ⟨b, o, none⟩ ∧ ∀ i, i < n → ItAt w b (o + i * 5) (l.getD i dIt)
theorem ItsAt.below {w w' : World} {a : Option Addr} {n c : Nat} {l : List It} (h : ItsAt w a n c l) (hb : Below w.heap.size w w') : ItsAt w' a n c l := by
  refine ⟨h.len, h.max, ?_⟩
  rcases h.row with e | ⟨b, o, ha, hc⟩
  · exact .inl e
  · exact .inr ⟨b, o, ha, fun i hi => (hc i hi).below hb⟩

/-- what was measured is small -/
def SmallAt (x : At) : Prop := x.name.size ≤ 1048576 ∧ x.value.size ≤ 1048576
def SmallAts (l : List At) : Prop := l.length ≤ 1048576 ∧ ∀ i, i < l.length → SmallAt (l.getD i dAt)
def SmallIt (x : It) : Prop := (x.text.size ≤ 1048576 ∧ x.space.size ≤ 1048576 ∧ x.name.size ≤ 1048576) ∧ SmallAts x.attrs
def SmallIts (l : List It) : Prop := l.length ≤ 1048576 ∧ ∀ i, i < l.length → SmallIt (l.getD i dIt)
/-- some number is handed back, and only memory is made -/
def SzRes (P : Int → Prop) (w : World) (e : Ending) (w' : World) : Prop := ∃ r : Int, P r ∧ e = .returned (.int .i64 r) ∧ Below w.heap.size w w'
theorem SzRes.mk {P : Int → Prop} {w w' : World} {r : Int} (h : P r) (hb : Below w.heap.size w w') : SzRes P w (.returned (.int .i64 r)) w' := ⟨r, h, rfl, hb⟩
/-- some number is left, or fewer than none -/
def Left (left : Int) (P : Prop) (r : Int) : Prop := r = -1 ∨ (0 ≤ r ∧ r ≤ left ∧ P)
theorem Left.no {left : Int} {P : Prop} : Left left P (-1) := .inl rfl
theorem Left.yes {left r : Int} {P : Prop} (h1 : 0 ≤ r) (h2 : r ≤ left) (h : P) : Left left P r := .inr ⟨h1, h2, h⟩
theorem drew_more {w wr : World} (h : ∃ n, wr = w.drewN n) (m : Nat) : ∃ n, wr.drewN m = w.drewN n := by
  obtain ⟨n, rfl⟩ := h
  exact ⟨_, World.drewN_drewN _ _ _⟩
theorem find_at {α : Type} (l : List α) (d : α) (p : α → Bool) (k : Nat) (hk : k < l.length) (h0 : ∀ j, j < k → p (l.getD j d) = false) (h1 : p (l.getD k d) = true) : l.find? p = some (l.getD k d) := by
  induction l generalizing k with
  | nil => simp at hk
  | cons x r ih =>
    cases k with
    | zero =>
      have hx : p x = true := by simpa using h1
      simp [hx]
    | succ k =>
      have hx : p x = false := by simpa using h0 0 (by omega)
      rw [List.find?_cons, hx]
      simpa using ih k (by simpa using hk) (fun j hj => by simpa using h0 (j + 1) (by omega)) (by simpa using h1)
theorem find_no {α : Type} (l : List α) (d : α) (p : α → Bool) (h0 : ∀ j, j < l.length → p (l.getD j d) = false) : l.find? p = none := by
  rw [List.find?_eq_none]
  intro x hx
  obtain ⟨i, hi, rfl⟩ := List.getElem_of_mem hx
  have := h0 i hi
  rw [List.getD_eq_getElem?_getD, List.getElem?_eq_getElem hi] at this
  simpa using this
theorem ret_n {a b : Nat} (h : a = b) : Ending.returned (.int .i64 (a : Int)) = .returned (.int .i64 (b : Int)) := by rw [h]
end Go.Proofs.YtbfjhjkllaceaaaGreatDoor
