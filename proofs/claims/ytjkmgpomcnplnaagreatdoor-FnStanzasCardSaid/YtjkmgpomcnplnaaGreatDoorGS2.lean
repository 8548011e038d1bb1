/- Contracts of the laws' draws. -/
import Derived.Test.YtjkmgpomcnplnaaGreatDoorGS0
import Derived.Laws.IdiomStrings
import Derived.Shelf.Strings.Builder1
import Derived.Shelf.Strings.BuilderF
import Derived.Shelf.Strings.BuilderK
import Derived.Shelf.Strconv.Itoa0
import Derived.Shelf.Strconv.Itoa1
import Derived.Shelf.LaysM
import Derived.Shelf.Strconv.Itoa2
import Derived.Shelf.Strconv.Itoa3
import Derived.Shelf.Strconv.Itoa4
import Derived.Shelf.Strconv.ParseIntEmpty
import Derived.Shelf.Strconv.Clone
import Derived.Shelf.Strconv.SyntaxError
import Derived.Shelf.LaysC
import Derived.Shelf.Strconv.ToError
import Derived.Shelf.Strconv.Lower
import Derived.Shelf.Strconv.ParseUint10
import Derived.Shelf.Strconv.ParseUint10Empty
import Derived.Shelf.Strconv.ParseUint10Any
import Derived.Shelf.Strconv.ParseInt10
import Derived.Shelf.Strconv.RangeError
import Derived.Shelf.Strconv.ToErrorRange
import Derived.Shelf.Strconv.ParseUintEmpty
import Derived.Shelf.Strconv.ParseUint10b64
import Derived.Shelf.Strconv.ParseUint10b32
import Derived.Shelf.Strconv.ParseUint10b16
import Derived.Shelf.Strconv.ParseUint10b8
import Derived.Shelf.Strconv.ParseUint10At
import Derived.Shelf.Strconv.ParseInt10At64
import Derived.Shelf.Strconv.ParseInt10At32
import Derived.Shelf.Strconv.ParseInt10At16
import Derived.Shelf.Strconv.ParseInt10At8
import Derived.Shelf.Strconv.ParseInt10All
import Derived.Shelf.Strconv.ParseIntPublic10
import Derived.Shelf.Unicode.Decode
import Derived.Shelf.Unicode.DecodeSlow
import Derived.Shelf.Unicode.DecodeAny
import Derived.Test.YtjkmgpomcnplnaaGreatDoorProg
import Derived.Lib.RuneBytes
import Derived.Test.YtjkmgpomcnplnaaGreatDoorGS1
import Derived.Deep.AppendLies
import Derived.Deep.RegionLaw
import Derived.Deep.RegionHeld3
import Derived.Maps.AppendAt
namespace Go.Proofs.YtjkmgpomcnplnaaGreatDoor
open Go.ChangeShapes Go.WideShapes Go.ChangeAt Go.RowKit
set_option linter.unusedVariables false
structure Src (w : World) (b : Nat) (a : Option Addr) (n c : Nat) (xs : List Int) (k : Nat) : Prop where
  lt : b < w.heap.size
  c0 : w.cell? ⟨b, 0, none⟩ = some (.slice a n c)
  c1 : w.cell? ⟨b, 1, none⟩ = some (.int .i64 k)
  f1 : w.frozen? ⟨b, 1, none⟩ = false
  len : xs.length = n
  row : n = 0 ∨ ∃ rb ro, a = some ⟨rb, ro, none⟩ ∧ rb < b ∧ ∀ i, i < n → w.cell? ⟨rb, ro + i, none⟩ = some (.int .u8 (xs.getD i 0))
  byte : ∀ i, 0 ≤ xs.getD i 0 ∧ xs.getD i 0 ≤ 255
  size : n ≤ 1048576
  far : k ≤ 1000000
def NextRes (w : World) (b : Nat) (a : Option Addr) (n c : Nat) (xs : List Int) (k : Nat) (m : Int) (en : Ending) (w' : World) : Prop :=
  ∃ r : Nat, en = .returned (.int .i64 r) ∧ (1 ≤ m → (r : Int) < m) ∧ Src w' b a n c xs (k + 1) ∧ w.grownBy w' (some b)
theorem grown_setC (W : World) (B o : Nat) (u : Value) (n : Nat) : W.grownBy ((W.setCell ⟨B, o, none⟩ u).drewN n) (some B) :=
  ⟨rfl, rfl, rfl, by simp [World.setCell], fun k _ hk => Below.heap_setCell _ _ _ k (fun e => hk (by rw [e]))⟩
theorem Src.step {w : World} {b : Nat} {a : Option Addr} {n c : Nat} {xs : List Int} {k : Nat} (h : Src w b a n c xs k) (hk : k < 1000000) (d : Nat) : Src ((w.setCell ⟨b, 1, none⟩ (.int .i64 ((k : Int) + 1))).drewN d) b a n c xs (k + 1) := by
  refine ⟨by simpa [World.setCell] using h.lt, ?_, ?_, ?_, h.len, ?_, h.byte, h.size, by omega⟩
  · show (w.setCell _ _).cell? _ = _
    rw [World.cell?_setCell_other _ _ _ _ (by simp)]
    exact h.c0
  · show (w.setCell _ _).cell? _ = _
    rw [World.cell?_setCell_same' _ _ _ (by rw [h.c1]; rfl)]
    rfl
  · show (w.setCell _ _).frozen? _ = _
    rw [World.frozen?_setCell]
    exact h.f1
  · rcases h.row with e | ⟨rb, ro, ha, hrb, hc⟩
    · exact .inl e
    · refine .inr ⟨rb, ro, ha, hrb, fun i hi => ?_⟩
      show (w.setCell _ _).cell? _ = _
      rw [World.cell?_setCell_other _ _ _ _ (by first | (simp; done) | (intro e; simp at e; omega))]
      exact hc i hi
theorem next_close {w : World} {b : Nat} {a : Option Addr} {n c : Nat} {xs : List Int} {k : Nat} {m : Int} (h : Src w b a n c xs k) (hk : k < 1000000) (d : Nat) (r : Int) (h0 : 0 ≤ r) (h1 : 1 ≤ m → r < m) :
    NextRes w b a n c xs k m (.returned (.int .i64 r)) ((w.setCell ⟨b, 1, none⟩ (.int .i64 ((k : Int) + 1))).drewN d) := by
  obtain ⟨j, rfl⟩ := Int.eq_ofNat_of_zero_le h0
  exact ⟨j, rfl, h1, h.step hk d, grown_setC _ _ _ _ _⟩
theorem wrap64_id {x : Int} (h0 : -9223372036854775808 ≤ x) (h1 : x ≤ 9223372036854775807) : wrap64 x = x := by
  unfold wrap64
  omega
theorem div_bounds (k n : Nat) (hk : k < 1000000) : 0 ≤ (k : Int) / (n : Int) ∧ (k : Int) / (n : Int) ≤ 1000000 := by
  have h : (k : Int) / (n : Int) = ((k / n : Nat) : Int) := (Int.natCast_ediv k n).symm
  have h2 := Nat.div_le_self k n
  rw [h]
  generalize k / n = q at h2 ⊢
  omega
theorem draw1 {x : Int} {k n : Nat} (hk : k < 1000000) (hx : 0 ≤ x ∧ x ≤ 255) : ∃ v, wrap64 (x + wrap64 (wrap64 ((k : Int) / (n : Int)) * 37)) = v ∧ 0 ≤ v ∧ v ≤ 37000255 := by
  have hd := div_bounds k n hk
  generalize (k : Int) / (n : Int) = q at hd
  rw [wrap64_id (x := q) (by omega) (by omega), wrap64_id (x := q * 37) (by omega) (by omega), wrap64_id (by omega) (by omega)]
  exact ⟨_, rfl, by omega, by omega⟩
set_option maxRecDepth 100000 in
set_option maxHeartbeats 1600000 in
theorem l1Next_any (b : Nat) (a : Option Addr) (n c : Nat) (xs : List Int) (k : Nat) (m : Int) (hm0 : 1 ≤ m) (hm : m ≤ 1000000000) (hk : k < 1000000) (w : World) (h : Src w b a n c xs k) :
    Calls Tryz.prog 36 #[.pointer (some ⟨b, 0, none⟩), .int .i64 m] w (NextRes w b a n c xs k m) := by
  have HS := Lib.hid h
  have h1 := h.c1
  have h2 := h.f1
  have h0 := h.c0
  have h3 := h.size
  by_cases hn : n = 0
  · have hn0 : ((n : Int) == 0) = true := by rw [beq_iff_eq]; omega
    clear h h3 hn
    go_enter Tryz.func36, Tryz.ntmps36
    go_wp2
    go_ret
    exact next_close HS.out hk 0 _ (Int.emod_nonneg _ (by omega)) (fun _ => Int.emod_lt_of_pos _ (by omega))
  · rcases h.row with e | ⟨rb, ro, rfl, hrb, hcell⟩
    · exact absurd e hn
    · have hn0 : ((n : Int) == 0) = false := by rw [beq_eq_false_iff_ne]; omega
      have hi := hcell (k % n) (Nat.mod_lt _ (by omega))
      have hby := h.byte (k % n)
      have hi1 := hcell ((k + 1) % n) (Nat.mod_lt _ (by omega))
      have hby1 := h.byte ((k + 1) % n)
      have hi2 := hcell ((k + 2) % n) (Nat.mod_lt _ (by omega))
      have hby2 := h.byte ((k + 2) % n)
      generalize xs.getD (k % n) 0 = x at hi hby
      generalize xs.getD ((k + 1) % n) 0 = x1 at hi1 hby1
      generalize xs.getD ((k + 2) % n) 0 = x2 at hi2 hby2
      have hlt : ((k % n : Nat) : Int) < (n : Int) := by have := Nat.mod_lt k (show 0 < n by omega); omega
      have hlt1 : (((k + 1) % n : Nat) : Int) < (n : Int) := by have := Nat.mod_lt (k + 1) (show 0 < n by omega); omega
      have hlt2 : (((k + 2) % n : Nat) : Int) < (n : Int) := by have := Nat.mod_lt (k + 2) (show 0 < n by omega); omega
      obtain ⟨v, hv, v0, v1⟩ := draw1 (n := n) hk hby
      have HV := Lib.hid hv
      have hne : ¬ rb = b := by omega
      clear h hcell hv
      have w1 : IntKind.i64.wrap ((k : Int) + 1) = (k : Int) + 1 := by rw [IntKind.wrap_i64]; omega
      have w2 : IntKind.i64.wrap ((k : Int) + 2) = (k : Int) + 2 := by rw [IntKind.wrap_i64]; omega
      have p1 : (0 : Int) ≤ (k : Int) + 1 := by omega
      have p2 : (0 : Int) ≤ (k : Int) + 2 := by omega
      have t1 : ((k : Int) + 1).tmod (n : Int) = (((k + 1) % n : Nat) : Int) := by rw [Int.tmod_eq_emod_of_nonneg p1]; rfl
      have t2 : ((k : Int) + 2).tmod (n : Int) = (((k + 2) % n : Nat) : Int) := by rw [Int.tmod_eq_emod_of_nonneg p2]; rfl
      have W1 := Lib.hid w1
      have W2 := Lib.hid w2
      have T1 := Lib.hid t1
      have T2 := Lib.hid t2
      generalize (k + 1) % n = j1 at hi1 hlt1 T1
      generalize (k + 2) % n = j2 at hi2 hlt2 T2
      clear w1 w2 t1 t2
      by_cases m1 : m ≤ 200
      · go_enter Tryz.func36, Tryz.ntmps36
        go_wp2
        go_quiet (fail)
        rw [HV.out]
        go_wp2
        go_ret
        exact next_close HS.out hk _ _ (Int.emod_nonneg _ (by omega)) (fun _ => Int.emod_lt_of_pos _ (by omega))
      · by_cases m2 : m ≤ 60000
        · go_enter Tryz.func36, Tryz.ntmps36
          go_wp2
          go_quiet (fail)
          rw [HV.out]
          go_wp2
          have w1 := W1.out
          have t1 := T1.out
          go_quiet (fail)
          clear w1 t1
          go_wp2
          go_ret
          exact next_close HS.out hk _ _ (Int.emod_nonneg _ (by omega)) (fun _ => Int.emod_lt_of_pos _ (by omega))
        · go_enter Tryz.func36, Tryz.ntmps36
          go_wp2
          go_quiet (fail)
          rw [HV.out]
          go_wp2
          have w1 := W1.out
          have t1 := T1.out
          go_quiet (fail)
          clear w1 t1
          have u0 : 0 ≤ v * 251 + x1 * 13 + (k : Int) := by omega
          have u1 : v * 251 + x1 * 13 + (k : Int) ≤ 10000000000 := by omega
          go_wp2
          have w2 := W2.out
          have t2 := T2.out
          go_quiet (fail)
          clear w2 t2
          go_wp2
          go_ret
          exact next_close HS.out hk _ _ (Int.emod_nonneg _ (by omega)) (fun _ => Int.emod_lt_of_pos _ (by omega))
theorem Src.grown {w w' : World} {b : Nat} {a : Option Addr} {n c : Nat} {xs : List Int} {k : Nat} (h : Src w b a n c xs k) {row : Option Nat} (hg : w.grownBy w' row) (hr : ∀ j, row = some j → b < j) : Src w' b a n c xs k := by
  have hb : w'.heap[b]? = w.heap[b]? := hg.block b h.lt (fun e => by have := hr b e.symm; omega)
  refine ⟨Nat.lt_of_lt_of_le h.lt hg.size, (World.cell?_of_block (w := w) hb).trans h.c0, (World.cell?_of_block (w := w) hb).trans h.c1, (World.frozen?_of_block (w := w) hb).trans h.f1, h.len, ?_, h.byte, h.size, h.far⟩
  rcases h.row with e | ⟨rb, ro, ha, hrb, hc⟩
  · exact .inl e
  · refine .inr ⟨rb, ro, ha, hrb, fun i hi => ?_⟩
    have hb2 : w'.heap[rb]? = w.heap[rb]? := hg.block rb (Nat.lt_trans hrb h.lt) (fun e => by have := hr rb e.symm; omega)
    exact (World.cell?_of_block (w := w) hb2).trans (hc i hi)
theorem grown_of_below {w w' : World} (h : Below w.heap.size w w') (row : Option Nat) : w.grownBy w' row := ⟨h.os, h.tape, h.output, h.size, fun i hi _ => h.block i hi⟩
theorem Src.below {w w' : World} {b : Nat} {a : Option Addr} {n c : Nat} {xs : List Int} {k : Nat} (h : Src w b a n c xs k) (hb : Below w.heap.size w w') : Src w' b a n c xs k := h.grown (grown_of_below hb none) (fun _ e => by cases e)
theorem Src.alloc {w : World} {b : Nat} {a : Option Addr} {n c : Nat} {xs : List Int} {k : Nat} (h : Src w b a n c xs k) (o : Obj) : Src (w.alloc o) b a n c xs k := h.below (below1 w o)
theorem Row.grown {w w' : World} {k : IntKind} {v : Value} {xs : List Int} {row : Option Nat} (h : Row w k v xs) (hg : w.grownBy w' row) (hne : ∀ j, row = some j → v.ownBlock ≠ some j) : Row w' k v xs := by
  rcases h with h | ⟨b, o, cap, rfl, h1, h2, h3, h4⟩
  · exact .inl h
  · refine .inr ⟨b, o, cap, rfl, h1, h2, Nat.lt_of_lt_of_le h3 hg.size, fun i hi => ?_⟩
    have hb : w'.heap[b]? = w.heap[b]? := hg.block b h3 (fun e => hne b e.symm rfl)
    exact (World.cell?_of_block (w := w) hb).trans (h4 i hi)
def PickRes (w : World) (b : Nat) (a : Option Addr) (n c : Nat) (xs : List Int) (k : Nat) (L : List Int) (en : Ending) (w' : World) : Prop :=
  ∃ r : Int, en = .returned (.int .i64 r) ∧ r ∈ L ∧ Src w' b a n c xs (k + 1) ∧ w.grownBy w' (some b)
set_option maxHeartbeats 800000 in
theorem l1Pick_any (b : Nat) (a : Option Addr) (n c : Nat) (xs : List Int) (k : Nat) (lb m : Nat) (L : List Int) (hm : m = L.length) (hm0 : 1 ≤ m) (hm1 : m ≤ 1000) (hk : k < 1000000) (w : World) (h : Src w b a n c xs k)
    (hL : Row w .i64 (.slice (some ⟨lb, 0, none⟩) m m) L) (hne : lb ≠ b) :
    Calls Tryz.prog 61 #[.pointer (some ⟨b, 0, none⟩), .slice (some ⟨lb, 0, none⟩) m m] w (PickRes w b a n c xs k L) := by
  have hmi : (1 : Int) ≤ (m : Int) := by omega
  have K := Lib.hid (l1Next_any b a n c xs k m hmi (by omega) hk w h)
  have HL := Lib.hid hL
  have HM := Lib.hid hm
  clear hm h hL
  go_enter Tryz.func61, Tryz.ntmps61
  go_wp2_with fail
  refine K.out.mono ?_
  rintro e w1 ⟨r, rfl, hr, hs, hg⟩
  have hr1 := hr hmi
  have HR := Lib.hid (HL.out.grown hg (fun j e => by cases e; simp [Value.ownBlock]; exact hne))
  have HS := Lib.hid hs
  have HG := Lib.hid hg
  clear hr hs hg
  rcases HR.out with ⟨hv, _⟩ | ⟨rb, ro, cap, hv, h1, h2, h3, h4⟩
  · simp at hv
  · simp only [Value.slice.injEq, Option.some.injEq, Addr.mk.injEq, and_true] at hv
    obtain ⟨⟨rfl, rfl⟩, _, _⟩ := hv
    have hc := h4 r (by have := HM.out; omega)
    rw [Nat.zero_add] at hc
    have hmem : L.getD r 0 ∈ L := by
      have hlt : r < L.length := by have := HM.out; omega
      rw [List.getD_eq_getElem?_getD, List.getElem?_eq_getElem hlt]
      exact List.getElem_mem hlt
    have HMEM := Lib.hid hmem
    clear hmem h4 h1
    generalize L.getD r 0 = z at hc HMEM
    go_wp2
    go_ret
    exact ⟨z, rfl, HMEM.out, HS.out, HG.out⟩
theorem lit_row (w : World) (e : TypeId) (k : IntKind) (L : List Int) (m : Nat) (hm : m = L.length) (hx : m ≤ maxLen) : Row (w.alloc (.cells (L.map (Value.int k)).toArray e)) k (.slice (some ⟨w.heap.size, 0, none⟩) m m) L :=
  Row.of_owns (lit_owns w e k L m hm hx)
theorem l1Source_any (a : Option Addr) (n c : Nat) (xs : List Int) (w : World) (hl : xs.length = n) (hs : n ≤ 1048576) (hby : ∀ i, 0 ≤ xs.getD i 0 ∧ xs.getD i 0 ≤ 255)
    (hrow : n = 0 ∨ ∃ rb ro, a = some ⟨rb, ro, none⟩ ∧ rb < w.heap.size ∧ ∀ i, i < n → w.cell? ⟨rb, ro + i, none⟩ = some (.int .u8 (xs.getD i 0))) :
    Calls Tryz.prog 29 #[.slice a n c] w fun en w' => en = .returned (.pointer (some ⟨w.heap.size, 0, none⟩)) ∧ Src w' w.heap.size a n c xs 0 ∧ Below w.heap.size w w' := by
  have HR := Lib.hid hrow
  have HB := Lib.hid hby
  clear hrow hby
  go_enter Tryz.func29, Tryz.ntmps29
  go_wp2
  go_ret
  refine ⟨rfl, ⟨by simp, by simp, by simp, by simp, hl, ?_, HB.out, hs, by omega⟩, below1 _ _⟩
  rcases HR.out with e | ⟨rb, ro, ha, hrb, hc⟩
  · exact .inl e
  · exact .inr ⟨rb, ro, ha, hrb, fun i hi => ((below1 w _).cell (p := ⟨rb, ro + i, none⟩) hrb).trans (hc i hi)⟩
theorem l1Chance_any (b : Nat) (a : Option Addr) (n c : Nat) (xs : List Int) (k : Nat) (m : Int) (hm0 : 1 ≤ m) (hm : m ≤ 1000000000) (hk : k < 1000000) (w : World) (h : Src w b a n c xs k) :
    Calls Tryz.prog 102 #[.pointer (some ⟨b, 0, none⟩), .int .i64 m] w fun en w' => (∃ t : Bool, en = .returned (.bool t)) ∧ Src w' b a n c xs (k + 1) ∧ w.grownBy w' (some b) := by
  have K := Lib.hid (l1Next_any b a n c xs k m hm0 hm hk w h)
  clear h
  go_enter Tryz.func102, Tryz.ntmps102
  go_wp2_with fail
  refine K.out.mono ?_
  rintro e w1 ⟨r, rfl, hr, hs, hg⟩
  have HS := Lib.hid hs
  have HG := Lib.hid hg
  clear hs hg hr
  go_wp2
  go_ret
  exact ⟨⟨_, rfl⟩, HS.out, HG.out⟩
structure CodeAt (w : World) (a : Option Addr) (n c : Nat) (xs : List Int) : Prop where
  len : xs.length = n
  size : n ≤ 1048576
  byte : ∀ i, 0 ≤ xs.getD i 0 ∧ xs.getD i 0 ≤ 255
  row : n = 0 ∨ ∃ rb ro, a = some ⟨rb, ro, none⟩ ∧ rb < w.heap.size ∧ ∀ i, i < n → w.cell? ⟨rb, ro + i, none⟩ = some (.int .u8 (xs.getD i 0))
theorem CodeAt.below {w w' : World} {a : Option Addr} {n c : Nat} {xs : List Int} (h : CodeAt w a n c xs) (hb : Below w.heap.size w w') : CodeAt w' a n c xs := by
  refine ⟨h.len, h.size, h.byte, ?_⟩
  rcases h.row with e | ⟨rb, ro, ha, hr, hc⟩
  · exact .inl e
  · exact .inr ⟨rb, ro, ha, Nat.lt_of_lt_of_le hr hb.size, fun i hi => (hb.cell (p := ⟨rb, ro + i, none⟩) hr).trans (hc i hi)⟩
theorem source_any {w : World} {a : Option Addr} {n c : Nat} {xs : List Int} (h : CodeAt w a n c xs) :
    Calls Tryz.prog 29 #[.slice a n c] w fun en w' => en = .returned (.pointer (some ⟨w.heap.size, 0, none⟩)) ∧ Src w' w.heap.size a n c xs 0 ∧ Below w.heap.size w w' :=
  l1Source_any a n c xs w h.len h.size h.byte h.row
theorem below_step {w w1 w2 : World} {b : Nat} (h : Below w.heap.size w w1) (hg : w1.grownBy w2 (some b)) (hb : w.heap.size ≤ b) : Below w.heap.size w w2 := h.grown hg h.size (fun k e => by cases e; exact hb)
def TopInt (w : World) (en : Ending) (w' : World) : Prop := ∃ r : Int, en = .returned (.int .i64 r) ∧ Below w.heap.size w w'
def TopText (w : World) (m : Nat) (en : Ending) (w' : World) : Prop := ∃ s : ByteArray, en = .returned (.string s) ∧ s.size ≤ m ∧ Below w.heap.size w w'
def isWord (m : Nat) : Option Value → Bool
  | some (.string s) => decide (s.size ≤ m)
  | _ => false
theorem word_of {m : Nat} {o : Option Value} (h : isWord m o = true) : ∃ s : ByteArray, o = some (.string s) ∧ s.size ≤ m := by
  unfold isWord at h
  split at h
  · rename_i s
    exact ⟨s, rfl, of_decide_eq_true h⟩
  · cases h
theorem words_of {w w1 : World} {arr : Array Value} {e : TypeId} (hb : Below (w.alloc (.cells arr e)).heap.size (w.alloc (.cells arr e)) w1) (m k : Nat) (hall : (List.range k).all (fun r => isWord m arr[r]?) = true) :
    ∀ r, r < k → ∃ s : ByteArray, w1.cell? ⟨w.heap.size, r, none⟩ = some (.string s) ∧ s.size ≤ m := by
  intro r hr
  obtain ⟨s, hs, hm⟩ := word_of (List.all_eq_true.1 hall r (List.mem_range.2 hr))
  refine ⟨s, ?_, hm⟩
  rw [hb.cell (p := ⟨w.heap.size, r, none⟩) (by simp), cell_of_row _ _ _ _ _ (0, 0) (heap_alloc_new w _)]
  exact hs
def inB (v l h : Int) : Bool := decide (l ≤ v ∧ v ≤ h)
set_option maxHeartbeats 400000 in
theorem l1In_any (v l h : Int) (w : World) :
    Calls Tryz.prog 48 #[.int .i64 v, .int .i64 l, .int .i64 h] w fun e w' => e = .returned (.bool (inB v l h)) ∧ w' = w := by
  by_cases h1 : l ≤ v
  · by_cases h2 : v ≤ h
    · go_enter Tryz.func48, Tryz.ntmps48
      go_wp2
      go_ret
      exact ⟨ret_bool (by simp [inB, h1, h2]), rfl⟩
    · go_enter Tryz.func48, Tryz.ntmps48
      go_wp2
      go_ret
      exact ⟨ret_bool (by simp [inB, h1, h2]), rfl⟩
  · go_enter Tryz.func48, Tryz.ntmps48
    go_wp2
    go_ret
    exact ⟨ret_bool (by simp [inB]; omega), rfl⟩
def spansAt (w : World) (b : Nat) (l : List (Int × Int)) : Prop := ∀ i (h : i < l.length), w.cell? ⟨b, 2 * i, none⟩ = some (.int .i64 (l[i]).1) ∧ w.cell? ⟨b, 2 * i + 1, none⟩ = some (.int .i64 (l[i]).2)
theorem isIn_any' (v : Int) (l : List (Int × Int)) (b : Nat) (w : World) (hl : l.length ≤ 10) (hb : b < w.heap.size) (hs : spansAt w b l) :
    Calls Tryz.prog 120 #[.int .i64 v, .slice (some ⟨b, 0, none⟩) l.length l.length] w fun e w' => e = .returned (.bool (l.any fun p => inB v p.1 p.2)) ∧ Below w.heap.size w w' := by
  go_enter Tryz.func120, Tryz.ntmps120
  go_wp2
  go_loopw [9] (fun i wr => ∃ k : Nat, k ≤ l.length ∧ i = .int .i64 k ∧ (l.take k).any (fun p => inB v p.1 p.2) = false ∧ Below w.heap.size w wr) (fun i _ => l.length - (intOf i).toNat)
  case atStart => exact ⟨0, Nat.zero_le _, rfl, by simp, Below.refl _ _⟩
  case round =>
    obtain ⟨k, hk, rfl, hno, hbl⟩ := hrel
    by_cases hlt : k < l.length
    · obtain ⟨c0, c1⟩ := hs k hlt
      have d0 : wr.cell? ⟨b, k * 2, none⟩ = some (.int .i64 (l[k]).1) := by rw [hbl.cell (by exact hb), Nat.mul_comm]; exact c0
      have d1 : wr.cell? ⟨b, k * 2 + 1, none⟩ = some (.int .i64 (l[k]).2) := by rw [hbl.cell (by exact hb), Nat.mul_comm]; exact c1
      clear c0 c1
      have hsn : (l.take (k + 1)).any (fun p => inB v p.1 p.2) = inB v (l[k]).1 (l[k]).2 := by rw [List.take_succ_eq_append_getElem hlt, List.any_append, hno]; simp only [List.any_cons, List.any_nil, Bool.or_false, Bool.false_or]
      have HS := Lib.hid hsn
      have HNO := Lib.hid hno
      clear hsn hno
      by_cases h1 : (l[k]).1 ≤ v
      · by_cases h2 : v ≤ (l[k]).2
        · go_wp2
          go_ret
          refine ⟨ret_bool (List.any_eq_true.2 ⟨l[k], List.getElem_mem hlt, by simp [inB, h1, h2]⟩).symm, ?_⟩
          exact hbl.trans (((Below.refl _ _).alloc (Nat.le_refl _) _).mono hbl.size)
        · go_wp2
          go_roundw
          case rel => exact ⟨k + 1, by omega, by go_num, by rw [HS.out]; simp [inB]; omega, hbl.trans (((Below.refl _ _).alloc (Nat.le_refl _) _).mono hbl.size)⟩
          case measure => simp [intOf]; omega
      · go_wp2
        go_roundw
        case rel => exact ⟨k + 1, by omega, by go_num, by rw [HS.out]; simp [inB]; omega, hbl.trans (((Below.refl _ _).alloc (Nat.le_refl _) _).mono hbl.size)⟩
        case measure => simp [intOf]; omega
    · obtain rfl : k = l.length := by omega
      have HNO := Lib.hid hno
      clear hno
      go_wp2
      go_ret
      have := HNO.out
      rw [List.take_length] at this
      exact ⟨ret_bool this.symm, hbl⟩
theorem isIn_any (v : Int) (l : List (Int × Int)) (b n : Nat) (w : World) (hn : n = l.length) (hl : n ≤ 10) (hb : b < w.heap.size) (hs : spansAt w b l) :
    Calls Tryz.prog 120 #[.int .i64 v, .slice (some ⟨b, 0, none⟩) n n] w fun e w' => e = .returned (.bool (l.any fun p => inB v p.1 p.2)) ∧ Below w.heap.size w w' := by
  subst hn
  exact isIn_any' v l b w hl hb hs
def pointB (p : Int) : Bool := inB p 0 1114111 && !inB p 55296 57343
def charB (p : Int) : Bool := decide (p = 9) || decide (p = 10) || (decide (32 ≤ p) && pointB p && decide (p ≠ 127) && decide (p ≠ 65534) && decide (p ≠ 65535))
theorem l1Point_any (p : Int) (w : World) :
    Calls Tryz.prog 122 #[.int .i64 p] w fun e w' => e = .returned (.bool (pointB p)) ∧ w' = w := by
  cases h : inB p 0 1114111
  all_goals
    go_enter Tryz.func122, Tryz.ntmps122
    go_wp2_with (go_at_call 48; refine (l1In_any _ _ _ _).mono ?_; rintro e w' ⟨rfl, rfl⟩)
    go_ret
    exact ⟨ret_bool (by simp [pointB, h]), rfl⟩
theorem pointB_spans (p : Int) : (inB p 0 55295 || inB p 57344 1114111) = pointB p := by
  rw [Bool.eq_iff_iff]
  simp [pointB, inB]
  omega
theorem isPoint_any (p : Int) (w : World) :
    Calls Tryz.prog 119 #[.int .i64 p] w fun e w' => e = .returned (.bool (pointB p)) ∧ Below w.heap.size w w' := by
  go_enter Tryz.func119, Tryz.ntmps119
  go_wp2_with fail
  refine (isIn_any p [(0, 55295), (57344, 1114111)] _ _ _ rfl (by decide) (by simp) ?_).mono ?_
  · intro i hi
    match i, hi with
    | 0, _ => simp
    | 1, _ => simp
  rintro e w' ⟨rfl, hb⟩
  go_wp2
  go_ret
  exact ⟨ret_bool (pointB_spans p), ((Below.refl _ _).alloc (Nat.le_refl _) _).trans (hb.mono (by simp))⟩
theorem charB_spans (p : Int) (h : pointB p = true) : (inB p 9 10 || (inB p 32 126 || (inB p 128 65533 || inB p 65536 1114111))) = charB p := by
  rw [Bool.eq_iff_iff]
  simp [charB, h]
  simp [pointB, inB] at h ⊢
  omega
theorem charB_point (p : Int) (h : pointB p = false) : charB p = false := by
  simp [charB, h]
  simp [pointB, inB] at h
  constructor <;> (rintro rfl; simp at h)
theorem implIsChar_any (p : Int) (w : World) :
    Calls Tryz.prog 93 #[.int .i64 p] w fun e w' => e = .returned (.bool (charB p)) ∧ Below w.heap.size w w' := by
  cases h : pointB p
  · go_enter Tryz.func93, Tryz.ntmps93
    go_wp2_with fail
    refine (isPoint_any p _).mono ?_
    rintro e w1 ⟨rfl, hb⟩
    go_wp2
    go_ret
    exact ⟨ret_bool (charB_point p h).symm, hb⟩
  · go_enter Tryz.func93, Tryz.ntmps93
    go_wp2_with fail
    refine (isPoint_any p _).mono ?_
    rintro e w1 ⟨rfl, hb⟩
    go_wp2_with fail
    refine (isIn_any p [(9, 10), (32, 126), (128, 65533), (65536, 1114111)] _ _ _ rfl (by decide) (by simp) ?_).mono ?_
    · intro i hi
      match i, hi with
      | 0, _ => simp
      | 1, _ => simp
      | 2, _ => simp
      | 3, _ => simp
    rintro e w2 ⟨rfl, hb2⟩
    go_wp2
    go_ret
    exact ⟨ret_bool (charB_spans p h), (hb.alloc hb.size _).trans (hb2.mono (by have := hb.size; simp; omega))⟩
theorem specIsChar_any (p : Int) (w : World) :
    Calls Tryz.prog 97 #[.int .i64 p] w fun e w' => e = .returned (.bool (charB p)) ∧ w' = w := by
  cases hq : pointB p
  all_goals
    go_enter Tryz.func97, Tryz.ntmps97
    go_wp2_with (go_at_call 122; refine (l1Point_any _ _).mono ?_; rintro e w' ⟨rfl, rfl⟩)
    all_goals
      go_ret
      exact ⟨ret_bool (by rw [Bool.eq_iff_iff]; simp [charB, hq] <;> omega), rfl⟩
end Go.Proofs.YtjkmgpomcnplnaaGreatDoor
namespace Go.Proofs
open Go.Shelf
def Tryz.lays170_ren : Go.Shelf.Ren := ⟨fun | 170 => 107 | n => n, fun | 70 => 134 | 3 => 3 | 0 => 0 | 72 => 136 | 37 => 22 | 5 => 5 | n => n, fun | n => n⟩
theorem Tryz.lays170 : Go.Proofs.Lays.n170 Tryz.prog Tryz.lays170_ren := {
  mixed := by kernel_rfl
  f170 := Tryz.func107.trans (congrArg some (by kernel_rfl))
  t0 := Tryz.underlying0
  a0 := Tryz.isAgg0
  z0 := Tryz.sizeOf0
  v0 := Tryz.zeroValue0
  t3 := Tryz.underlying3
  a3 := Tryz.isAgg3
  z3 := Tryz.sizeOf3
  v3 := Tryz.zeroValue3
  t37 := Tryz.underlying22
  a37 := Tryz.isAgg22
  z37 := Tryz.sizeOf22
  v37 := Tryz.zeroValue22
  t70 := Tryz.underlying134
  a70 := Tryz.isAgg134
  z70 := Tryz.sizeOf134
  v70 := Tryz.zeroValue134
  t72 := Tryz.underlying136
  a72 := Tryz.isAgg136
  z72 := Tryz.sizeOf136
  v72 := Tryz.zeroValue136 }
open Go.RowKit in
def Tryz.lays169_ren : Go.Shelf.Ren := ⟨fun | 169 => 108 | n => n, fun | 70 => 134 | 9 => 9 | 0 => 0 | 72 => 136 | 37 => 22 | 127 => 159 | 3 => 3 | 5 => 5 | n => n, fun | n => n⟩
theorem Tryz.lays169 : Go.Proofs.Lays.n169 Tryz.prog Tryz.lays169_ren := {
  mixed := by kernel_rfl
  f169 := Tryz.func108.trans (congrArg some (by kernel_rfl))
  t0 := Tryz.underlying0
  a0 := Tryz.isAgg0
  z0 := Tryz.sizeOf0
  v0 := Tryz.zeroValue0
  t3 := Tryz.underlying3
  a3 := Tryz.isAgg3
  z3 := Tryz.sizeOf3
  v3 := Tryz.zeroValue3
  t9 := Tryz.underlying9
  a9 := Tryz.isAgg9
  z9 := Tryz.sizeOf9
  v9 := Tryz.zeroValue9
  t37 := Tryz.underlying22
  a37 := Tryz.isAgg22
  z37 := Tryz.sizeOf22
  v37 := Tryz.zeroValue22
  t70 := Tryz.underlying134
  a70 := Tryz.isAgg134
  z70 := Tryz.sizeOf134
  v70 := Tryz.zeroValue134
  t72 := Tryz.underlying136
  a72 := Tryz.isAgg136
  z72 := Tryz.sizeOf136
  v72 := Tryz.zeroValue136
  t127 := Tryz.underlying159
  a127 := Tryz.isAgg159
  z127 := Tryz.sizeOf159
  v127 := Tryz.zeroValue159 }
theorem Tryz.Builder_Extra_169 : Builder.Extra Tryz.prog Tryz.lays169_ren := {
  sizeBuilder := by kernel_rfl
  liesBuilder := by kernel_rfl
  t5 := Tryz.underlying5
  a5 := Tryz.isAgg5
  z5 := Tryz.sizeOf5
  v5 := Tryz.zeroValue5
  infoByte := by kernel_rfl
  cellsByte := by kernel_rfl
  sizeByte := by kernel_rfl
  neB5 := by decide }
open Go.RowKit in
theorem Tryz.Builder_Len_f (B b : Nat) (bs : List Value) (w : World) (h : Lib.IsBuilderF 136 5 B b bs w) :
    Calls Tryz.prog 107 #[.pointer (some ⟨b, 0, none⟩)] w fun e w' => e = .returned (.int .i64 bs.length) ∧ w' = w := Any.Builder_Len_f Tryz.lays170 B b bs w h
open Go.RowKit in
theorem Tryz.Builder_String_any_f (B b : Nat) (l : List UInt8) (w : World) (h : Lib.IsBuilderF 136 5 B b (Lib.byteCells l) w) (hBw : B ≤ w.heap.size) :
    Calls Tryz.prog 108 #[.pointer (some ⟨b, 0, none⟩)] w fun e w' => e = .returned (.string ⟨l.toArray⟩) ∧ (Lib.IsBuilderF 136 5 B b (Lib.byteCells l) w' ∧ Below B w w') := Any.Builder_String_any_f Tryz.lays169 Tryz.Builder_Extra_169 B b l w h hBw
open Go.RowKit in
def Tryz.laysM173_ren : Go.Shelf.Ren := ⟨fun | 173 => 94 | 246 => 121 | 283 => 130 | 284 => 131 | 285 => 132 | 286 => 133 | 129 => 140 | 317 => 139 | 318 => 141 | 319 => 142 | 320 => 143 | 337 => 150 | 338 => 151 | n => n, fun | 2 => 2 | 3 => 3 | 9 => 9 | 4 => 4 | 171 => 165 | 0 => 0 | 53 => 166 | 37 => 22 | 5 => 5 | 173 => 169 | 212 => 184 | 51 => 185 | 20 => 20 | 213 => 186 | 46 => 178 | 232 => 203 | 233 => 204 | n => n, fun | 17 => 2 | 18 => 5 | 19 => 6 | n => n⟩
theorem Tryz.laysM173 : Go.Proofs.LaysM.n173 Tryz.prog Tryz.laysM173_ren := {
  mixed := by kernel_rfl
  f129 := Tryz.func140.trans (congrArg some (by kernel_rfl))
  f173 := Tryz.func94.trans (congrArg some (by kernel_rfl))
  f246 := Tryz.func121.trans (congrArg some (by kernel_rfl))
  f283 := Tryz.func130.trans (congrArg some (by kernel_rfl))
  f284 := Tryz.func131.trans (congrArg some (by kernel_rfl))
  f285 := Tryz.func132.trans (congrArg some (by kernel_rfl))
  f286 := Tryz.func133.trans (congrArg some (by kernel_rfl))
  f317 := Tryz.func139.trans (congrArg some (by kernel_rfl))
  f318 := Tryz.func141.trans (congrArg some (by kernel_rfl))
  f319 := Tryz.func142.trans (congrArg some (by kernel_rfl))
  f320 := Tryz.func143.trans (congrArg some (by kernel_rfl))
  f337 := Tryz.func150.trans (congrArg some (by kernel_rfl))
  f338 := Tryz.func151.trans (congrArg some (by kernel_rfl))
  t0 := Tryz.underlying0
  a0 := Tryz.isAgg0
  z0 := Tryz.sizeOf0
  v0 := Tryz.zeroValue0
  t2 := Tryz.underlying2
  a2 := Tryz.isAgg2
  z2 := Tryz.sizeOf2
  v2 := Tryz.zeroValue2
  t3 := Tryz.underlying3
  a3 := Tryz.isAgg3
  z3 := Tryz.sizeOf3
  v3 := Tryz.zeroValue3
  t4 := Tryz.underlying4
  a4 := Tryz.isAgg4
  z4 := Tryz.sizeOf4
  v4 := Tryz.zeroValue4
  t5 := Tryz.underlying5
  a5 := Tryz.isAgg5
  z5 := Tryz.sizeOf5
  v5 := Tryz.zeroValue5
  t9 := Tryz.underlying9
  a9 := Tryz.isAgg9
  z9 := Tryz.sizeOf9
  v9 := Tryz.zeroValue9
  t20 := Tryz.underlying20
  a20 := Tryz.isAgg20
  z20 := Tryz.sizeOf20
  v20 := Tryz.zeroValue20
  t37 := Tryz.underlying22
  a37 := Tryz.isAgg22
  z37 := Tryz.sizeOf22
  v37 := Tryz.zeroValue22
  t46 := Tryz.underlying178
  a46 := Tryz.isAgg178
  z46 := Tryz.sizeOf178
  v46 := Tryz.zeroValue178
  t51 := Tryz.underlying185
  a51 := Tryz.isAgg185
  z51 := Tryz.sizeOf185
  v51 := Tryz.zeroValue185
  t53 := Tryz.underlying166
  a53 := Tryz.isAgg166
  z53 := Tryz.sizeOf166
  v53 := Tryz.zeroValue166
  t171 := Tryz.underlying165
  a171 := Tryz.isAgg165
  z171 := Tryz.sizeOf165
  v171 := Tryz.zeroValue165
  t173 := Tryz.underlying169
  a173 := Tryz.isAgg169
  z173 := Tryz.sizeOf169
  v173 := Tryz.zeroValue169
  t212 := Tryz.underlying184
  a212 := Tryz.isAgg184
  z212 := Tryz.sizeOf184
  v212 := Tryz.zeroValue184
  t213 := Tryz.underlying186
  a213 := Tryz.isAgg186
  z213 := Tryz.sizeOf186
  t232 := Tryz.underlying203
  a232 := Tryz.isAgg203
  z232 := Tryz.sizeOf203
  v232 := Tryz.zeroValue203
  t233 := Tryz.underlying204
  a233 := Tryz.isAgg204
  z233 := Tryz.sizeOf204
  v233 := Tryz.zeroValue204
  g17 := by kernel_rfl
  g18 := by kernel_rfl
  g19 := by kernel_rfl
  i0 := by kernel_rfl
  i2 := by kernel_rfl
  i3 := by kernel_rfl
  i4 := by kernel_rfl
  i5 := by kernel_rfl
  i9 := by kernel_rfl
  i20 := by kernel_rfl
  i37 := by kernel_rfl
  i46 := by kernel_rfl
  i51 := by kernel_rfl
  i53 := by kernel_rfl
  i171 := by kernel_rfl
  i173 := by kernel_rfl
  i212 := by kernel_rfl
  i232 := by kernel_rfl
  i233 := by kernel_rfl
  m17 := by kernel_rfl
  m18 := by kernel_rfl
  m19 := by kernel_rfl }
open Go.RowKit Go.Sort Go.Lib in
theorem Tryz.strconv_FormatInt_10 (n : Int) (h0 : -9223372036854775808 ≤ n) (h1 : n ≤ 9223372036854775807) (w : World) (htab : Lib.TabIs Tryz.prog w "internal/strconv.uint64pow10" .u64 Lib.pow10Tab) :
    Calls Tryz.prog 94 #[.int .i64 n, .int .i64 10] w fun e w' => e = .returned (.string ⟨(Lib.itoa n).toArray⟩) ∧ ∃ k os, w' = grow (w.drewN k) os := Any.strconv_FormatInt_10 Tryz.laysM173 n h0 h1 w htab
def Tryz.laysC174_ren : Go.Shelf.Ren := ⟨fun | 174 => 125 | 247 => 134 | 245 => 135 | 287 => 144 | 279 => 145 | 280 => 146 | 281 => 147 | 282 => 148 | 321 => 152 | 322 => 153 | 316 => 154 | 171 => 156 | 205 => 155 | 243 => 157 | 246 => 121 | 283 => 130 | 284 => 131 | 285 => 132 | 286 => 133 | 129 => 140 | 317 => 139 | 318 => 141 | 319 => 142 | 320 => 143 | 337 => 150 | 338 => 151 | n => n, fun | 9 => 9 | 3 => 3 | 2 => 2 | 75 => 138 | 85 => 157 | 4 => 4 | 167 => 189 | 5 => 5 | 53 => 166 | 175 => 190 | 46 => 178 | 168 => 192 | 37 => 22 | 0 => 0 | 210 => 201 | 21 => 21 | 127 => 159 | 145 => 207 | 143 => 205 | 171 => 165 | 173 => 169 | 212 => 184 | 51 => 185 | 20 => 20 | 213 => 186 | 232 => 203 | 233 => 204 | 80 => 142 | n => n, fun | 15 => 3 | 16 => 4 | 17 => 2 | 18 => 5 | 19 => 6 | n => n⟩
theorem Tryz.laysC174 : Go.Proofs.LaysC.n174 Tryz.prog Tryz.laysC174_ren := {
  mixed := by kernel_rfl
  f129 := Tryz.func140.trans (congrArg some (by kernel_rfl))
  f171 := Tryz.func156.trans (congrArg some (by kernel_rfl))
  f174 := Tryz.func125.trans (congrArg some (by kernel_rfl))
  f205 := Tryz.func155.trans (congrArg some (by kernel_rfl))
  f243 := Tryz.func157.trans (congrArg some (by kernel_rfl))
  f245 := Tryz.func135.trans (congrArg some (by kernel_rfl))
  f246 := Tryz.func121.trans (congrArg some (by kernel_rfl))
  f247 := Tryz.func134.trans (congrArg some (by kernel_rfl))
  f279 := Tryz.func145.trans (congrArg some (by kernel_rfl))
  f280 := Tryz.func146.trans (congrArg some (by kernel_rfl))
  f281 := Tryz.func147.trans (congrArg some (by kernel_rfl))
  f282 := Tryz.func148.trans (congrArg some (by kernel_rfl))
  f283 := Tryz.func130.trans (congrArg some (by kernel_rfl))
  f284 := Tryz.func131.trans (congrArg some (by kernel_rfl))
  f285 := Tryz.func132.trans (congrArg some (by kernel_rfl))
  f286 := Tryz.func133.trans (congrArg some (by kernel_rfl))
  f287 := Tryz.func144.trans (congrArg some (by kernel_rfl))
  f316 := Tryz.func154.trans (congrArg some (by kernel_rfl))
  f317 := Tryz.func139.trans (congrArg some (by kernel_rfl))
  f318 := Tryz.func141.trans (congrArg some (by kernel_rfl))
  f319 := Tryz.func142.trans (congrArg some (by kernel_rfl))
  f320 := Tryz.func143.trans (congrArg some (by kernel_rfl))
  f321 := Tryz.func152.trans (congrArg some (by kernel_rfl))
  f322 := Tryz.func153.trans (congrArg some (by kernel_rfl))
  f337 := Tryz.func150.trans (congrArg some (by kernel_rfl))
  f338 := Tryz.func151.trans (congrArg some (by kernel_rfl))
  t0 := Tryz.underlying0
  a0 := Tryz.isAgg0
  z0 := Tryz.sizeOf0
  v0 := Tryz.zeroValue0
  t2 := Tryz.underlying2
  a2 := Tryz.isAgg2
  z2 := Tryz.sizeOf2
  v2 := Tryz.zeroValue2
  t3 := Tryz.underlying3
  a3 := Tryz.isAgg3
  z3 := Tryz.sizeOf3
  v3 := Tryz.zeroValue3
  t4 := Tryz.underlying4
  a4 := Tryz.isAgg4
  z4 := Tryz.sizeOf4
  v4 := Tryz.zeroValue4
  t5 := Tryz.underlying5
  a5 := Tryz.isAgg5
  z5 := Tryz.sizeOf5
  v5 := Tryz.zeroValue5
  t9 := Tryz.underlying9
  a9 := Tryz.isAgg9
  z9 := Tryz.sizeOf9
  v9 := Tryz.zeroValue9
  t20 := Tryz.underlying20
  a20 := Tryz.isAgg20
  z20 := Tryz.sizeOf20
  v20 := Tryz.zeroValue20
  t21 := Tryz.underlying21
  a21 := Tryz.isAgg21
  z21 := Tryz.sizeOf21
  v21 := Tryz.zeroValue21
  t37 := Tryz.underlying22
  a37 := Tryz.isAgg22
  z37 := Tryz.sizeOf22
  v37 := Tryz.zeroValue22
  t46 := Tryz.underlying178
  a46 := Tryz.isAgg178
  z46 := Tryz.sizeOf178
  v46 := Tryz.zeroValue178
  t51 := Tryz.underlying185
  a51 := Tryz.isAgg185
  z51 := Tryz.sizeOf185
  v51 := Tryz.zeroValue185
  t53 := Tryz.underlying166
  a53 := Tryz.isAgg166
  z53 := Tryz.sizeOf166
  v53 := Tryz.zeroValue166
  t75 := Tryz.underlying138
  a75 := Tryz.isAgg138
  z75 := Tryz.sizeOf138
  v75 := Tryz.zeroValue138
  t85 := Tryz.underlying157
  a85 := Tryz.isAgg157
  z85 := Tryz.sizeOf157
  v85 := Tryz.zeroValue157
  t127 := Tryz.underlying159
  a127 := Tryz.isAgg159
  z127 := Tryz.sizeOf159
  v127 := Tryz.zeroValue159
  t143 := Tryz.underlying205
  a143 := Tryz.isAgg205
  z143 := Tryz.sizeOf205
  v143 := Tryz.zeroValue205
  t145 := Tryz.underlying207
  a145 := Tryz.isAgg207
  z145 := Tryz.sizeOf207
  v145 := Tryz.zeroValue207
  t167 := Tryz.underlying189
  a167 := Tryz.isAgg189
  z167 := Tryz.sizeOf189
  v167 := Tryz.zeroValue189
  t168 := Tryz.underlying192
  a168 := Tryz.isAgg192
  z168 := Tryz.sizeOf192
  v168 := Tryz.zeroValue192
  t171 := Tryz.underlying165
  a171 := Tryz.isAgg165
  z171 := Tryz.sizeOf165
  v171 := Tryz.zeroValue165
  t173 := Tryz.underlying169
  a173 := Tryz.isAgg169
  z173 := Tryz.sizeOf169
  v173 := Tryz.zeroValue169
  t175 := Tryz.underlying190
  a175 := Tryz.isAgg190
  z175 := Tryz.sizeOf190
  v175 := Tryz.zeroValue190
  t210 := Tryz.underlying201
  a210 := Tryz.isAgg201
  z210 := Tryz.sizeOf201
  v210 := Tryz.zeroValue201
  t212 := Tryz.underlying184
  a212 := Tryz.isAgg184
  z212 := Tryz.sizeOf184
  v212 := Tryz.zeroValue184
  t213 := Tryz.underlying186
  a213 := Tryz.isAgg186
  z213 := Tryz.sizeOf186
  t232 := Tryz.underlying203
  a232 := Tryz.isAgg203
  z232 := Tryz.sizeOf203
  v232 := Tryz.zeroValue203
  t233 := Tryz.underlying204
  a233 := Tryz.isAgg204
  z233 := Tryz.sizeOf204
  v233 := Tryz.zeroValue204
  g15 := by kernel_rfl
  g16 := by kernel_rfl
  g17 := by kernel_rfl
  g18 := by kernel_rfl
  g19 := by kernel_rfl
  t80 := Tryz.underlying142
  a80 := Tryz.isAgg142
  z80 := Tryz.sizeOf142
  v80 := Tryz.zeroValue142
  i0 := by kernel_rfl
  i2 := by kernel_rfl
  i3 := by kernel_rfl
  i4 := by kernel_rfl
  i5 := by kernel_rfl
  i9 := by kernel_rfl
  i20 := by kernel_rfl
  i21 := by kernel_rfl
  i37 := by kernel_rfl
  i46 := by kernel_rfl
  i51 := by kernel_rfl
  i53 := by kernel_rfl
  i75 := by kernel_rfl
  i80 := by kernel_rfl
  i85 := by kernel_rfl
  i127 := by kernel_rfl
  i143 := by kernel_rfl
  i145 := by kernel_rfl
  i167 := by kernel_rfl
  i168 := by kernel_rfl
  i171 := by kernel_rfl
  i173 := by kernel_rfl
  i175 := by kernel_rfl
  i210 := by kernel_rfl
  i212 := by kernel_rfl
  i232 := by kernel_rfl
  i233 := by kernel_rfl
  m15 := by kernel_rfl
  m16 := by kernel_rfl
  m17 := by kernel_rfl
  m18 := by kernel_rfl
  m19 := by kernel_rfl
  c0 := by kernel_rfl
  c2 := by kernel_rfl
  c3 := by kernel_rfl
  c4 := by kernel_rfl
  c5 := by kernel_rfl
  c9 := by kernel_rfl
  c20 := by kernel_rfl
  c21 := by kernel_rfl
  c37 := by kernel_rfl
  c46 := by kernel_rfl
  c51 := by kernel_rfl
  c53 := by kernel_rfl
  c75 := by kernel_rfl
  c80 := by kernel_rfl
  c85 := by kernel_rfl
  c127 := by kernel_rfl
  c143 := by kernel_rfl
  c145 := by kernel_rfl
  c167 := by kernel_rfl
  c168 := by kernel_rfl
  c171 := by kernel_rfl
  c173 := by kernel_rfl
  c175 := by kernel_rfl
  c210 := by kernel_rfl
  c212 := by kernel_rfl
  c213 := by kernel_rfl
  c232 := by kernel_rfl
  c233 := by kernel_rfl }
open Go.RowKit in
theorem Tryz.strconv_ParseInt_10_at64_ok (s : ByteArray) (hmax : s.size ≤ 9223372036854775806) (v : Int) (h : Lib.parseIntB 64 s.data.toList = .ok v) (w : World) :
    Calls Tryz.prog 125 #[.string s, .int .i64 10, .int .i64 64] w fun e w' => e = .returned (.tuple #[.int .i64 v, .nilIface]) ∧ (w' = w ∨ ∃ t, w' = Lib.bytesWorld w 5 t) := Any.strconv_ParseInt_10_at64_ok Tryz.laysC174 s hmax v h w
open Go.RowKit in
theorem Tryz.strconv_ParseInt_10_at64_syntax (s : ByteArray) (hlim : s.size ≤ 281474976710656) (h : Lib.parseIntB 64 s.data.toList = .«syntax») (ev : Value) (w : World) (hv : w.cell? ⟨3, 0, none⟩ = some ev) (hev : ev = .nilIface ∨ ∃ te pe, ev = .iface te pe) :
    Calls Tryz.prog 125 #[.string s, .int .i64 10, .int .i64 64] w fun e w' => ∃ N, e = .returned (.tuple #[.int .i64 (0), .iface 192 (.pointer (some ⟨N, 0, none⟩))]) ∧ w.heap.size ≤ N ∧ w'.heap[N]? = some (.cells #[.string ⟨#[80, 97, 114, 115, 101, 73, 110, 116]⟩, .string s, ev] 201 (0, 0)) ∧ Below w.heap.size w w' := Any.strconv_ParseInt_10_at64_syntax Tryz.laysC174 s hlim h ev w hv hev
open Go.RowKit in
theorem Tryz.strconv_ParseInt_10_at64_range (s : ByteArray) (hlim : s.size ≤ 281474976710656) (h : Lib.parseIntB 64 s.data.toList = .range) (ev : Value) (w : World) (hv : w.cell? ⟨4, 0, none⟩ = some ev) (hev : ev = .nilIface ∨ ∃ te pe, ev = .iface te pe) :
    Calls Tryz.prog 125 #[.string s, .int .i64 10, .int .i64 64] w fun e w' => ∃ N, e = .returned (.tuple #[.int .i64 (Lib.intSat 64 s.data.toList), .iface 192 (.pointer (some ⟨N, 0, none⟩))]) ∧ w.heap.size ≤ N ∧ w'.heap[N]? = some (.cells #[.string ⟨#[80, 97, 114, 115, 101, 73, 110, 116]⟩, .string s, ev] 201 (0, 0)) ∧ Below w.heap.size w w' := Any.strconv_ParseInt_10_at64_range Tryz.laysC174 s hlim h ev w hv hev
open Go.RowKit in
def Tryz.lays197_ren : Go.Shelf.Ren := ⟨fun | 197 => 118 | 260 => 129 | n => n, fun | 9 => 9 | 21 => 21 | 3 => 3 | 4 => 4 | 5 => 5 | 105 => 151 | 119 => 177 | 0 => 0 | 46 => 178 | 139 => 181 | 138 => 180 | n => n, fun | 3 => 0 | 4 => 1 | n => n⟩
theorem Tryz.lays197 : Go.Proofs.Lays.n197 Tryz.prog Tryz.lays197_ren := {
  mixed := by kernel_rfl
  f197 := Tryz.func118.trans (congrArg some (by kernel_rfl))
  f260 := Tryz.func129.trans (congrArg some (by kernel_rfl))
  t0 := Tryz.underlying0
  a0 := Tryz.isAgg0
  z0 := Tryz.sizeOf0
  v0 := Tryz.zeroValue0
  t3 := Tryz.underlying3
  a3 := Tryz.isAgg3
  z3 := Tryz.sizeOf3
  v3 := Tryz.zeroValue3
  t4 := Tryz.underlying4
  a4 := Tryz.isAgg4
  z4 := Tryz.sizeOf4
  v4 := Tryz.zeroValue4
  t5 := Tryz.underlying5
  a5 := Tryz.isAgg5
  z5 := Tryz.sizeOf5
  v5 := Tryz.zeroValue5
  t9 := Tryz.underlying9
  a9 := Tryz.isAgg9
  z9 := Tryz.sizeOf9
  v9 := Tryz.zeroValue9
  t21 := Tryz.underlying21
  a21 := Tryz.isAgg21
  z21 := Tryz.sizeOf21
  v21 := Tryz.zeroValue21
  t46 := Tryz.underlying178
  a46 := Tryz.isAgg178
  z46 := Tryz.sizeOf178
  v46 := Tryz.zeroValue178
  t105 := Tryz.underlying151
  a105 := Tryz.isAgg151
  z105 := Tryz.sizeOf151
  v105 := Tryz.zeroValue151
  t119 := Tryz.underlying177
  a119 := Tryz.isAgg177
  z119 := Tryz.sizeOf177
  t138 := Tryz.underlying180
  a138 := Tryz.isAgg180
  z138 := Tryz.sizeOf180
  v138 := Tryz.zeroValue180
  t139 := Tryz.underlying181
  a139 := Tryz.isAgg181
  z139 := Tryz.sizeOf181
  v139 := Tryz.zeroValue181
  g3 := by kernel_rfl
  g4 := by kernel_rfl }
open Go.RowKit Go.Lib in
def Tryz.lays260_ren : Go.Shelf.Ren := ⟨fun | 260 => 129 | n => n, fun | 9 => 9 | 21 => 21 | 3 => 3 | 4 => 4 | 5 => 5 | 119 => 177 | 0 => 0 | 46 => 178 | 139 => 181 | 138 => 180 | n => n, fun | 3 => 0 | 4 => 1 | n => n⟩
theorem Tryz.lays260 : Go.Proofs.Lays.n260 Tryz.prog Tryz.lays260_ren := {
  mixed := by kernel_rfl
  f260 := Tryz.func129.trans (congrArg some (by kernel_rfl))
  t0 := Tryz.underlying0
  a0 := Tryz.isAgg0
  z0 := Tryz.sizeOf0
  v0 := Tryz.zeroValue0
  t3 := Tryz.underlying3
  a3 := Tryz.isAgg3
  z3 := Tryz.sizeOf3
  v3 := Tryz.zeroValue3
  t4 := Tryz.underlying4
  a4 := Tryz.isAgg4
  z4 := Tryz.sizeOf4
  v4 := Tryz.zeroValue4
  t5 := Tryz.underlying5
  a5 := Tryz.isAgg5
  z5 := Tryz.sizeOf5
  v5 := Tryz.zeroValue5
  t9 := Tryz.underlying9
  a9 := Tryz.isAgg9
  z9 := Tryz.sizeOf9
  v9 := Tryz.zeroValue9
  t21 := Tryz.underlying21
  a21 := Tryz.isAgg21
  z21 := Tryz.sizeOf21
  v21 := Tryz.zeroValue21
  t46 := Tryz.underlying178
  a46 := Tryz.isAgg178
  z46 := Tryz.sizeOf178
  v46 := Tryz.zeroValue178
  t119 := Tryz.underlying177
  a119 := Tryz.isAgg177
  z119 := Tryz.sizeOf177
  t138 := Tryz.underlying180
  a138 := Tryz.isAgg180
  z138 := Tryz.sizeOf180
  v138 := Tryz.zeroValue180
  t139 := Tryz.underlying181
  a139 := Tryz.isAgg181
  z139 := Tryz.sizeOf181
  v139 := Tryz.zeroValue181
  g3 := by kernel_rfl
  g4 := by kernel_rfl }
open Go.RowKit Go.Lib in
theorem Tryz.utf8_DecodeRuneInString (s : ByteArray) (w : World) (hT : Lib.Utf8Tabs 0 1 w) :
    Calls Tryz.prog 118 #[.string s] w fun e w' => e = .returned (.tuple #[.int .i32 (Lib.decodeGo s).1, .int .i64 (Lib.decodeGo s).2]) ∧ Below w.heap.size w w' := Any.utf8_DecodeRuneInString Tryz.lays197 s w hT
end Go.Proofs
namespace Go.Proofs.YtjkmgpomcnplnaaGreatDoor
open Go.ChangeShapes Go.WideShapes Go.ChangeAt Go.RowKit
set_option linter.unusedVariables false
theorem point_of {p : Int} (h : pointB p = true) : (0 ≤ p ∧ p ≤ 1114111) ∧ ¬ (55296 ≤ p ∧ p ≤ 57343) := by
  simp [pointB, inB] at h
  omega
set_option maxHeartbeats 1600000 in
theorem l1Put_any (p : Int) (hp : pointB p = true) (w : World) :
    Calls Tryz.prog 98 #[.int .i64 p] w (OwnsRes w 5 .u8 (Lib.encodeRuneZ p)) := by
  obtain ⟨⟨h0, h1⟩, h2⟩ := point_of hp
  clear hp
  by_cases c1 : p < 128
  · go_enter Tryz.func98, Tryz.ntmps98
    go_wp2
    go_ret
    refine ⟨_, 1, _, rfl, ?_, below1 _ _⟩
    rw [Lib.encodeRuneZ_one h0 (by omega)]
    exact lit_owns w _ .u8 [p] 1 rfl (by decide)
  · by_cases c2 : p < 2048
    · have q1 : p / 64 < 32 := by omega
      have q2 : 0 ≤ p / 64 := by omega
      go_enter Tryz.func98, Tryz.ntmps98
      go_wp2
      go_ret
      refine ⟨_, 2, _, rfl, ?_, below1 _ _⟩
      rw [Lib.encodeRuneZ_two (by omega) (by omega)]
      exact lit_owns w _ .u8 [192 + p / 64, 128 + p % 64] 2 rfl (by decide)
    · by_cases c3 : p < 65536
      · have q1 : p / 4096 < 16 := by omega
        have q2 : 0 ≤ p / 4096 := by omega
        have q3 : 0 ≤ p / 64 := by omega
        go_enter Tryz.func98, Tryz.ntmps98
        go_wp2
        go_ret
        refine ⟨_, 3, _, rfl, ?_, below1 _ _⟩
        rw [Lib.encodeRuneZ_three (by omega)]
        exact lit_owns w _ .u8 [224 + p / 4096, 128 + p / 64 % 64, 128 + p % 64] 3 rfl (by decide)
      · have q1 : p / 262144 < 8 := by omega
        have q2 : 0 ≤ p / 262144 := by omega
        have q3 : 0 ≤ p / 64 := by omega
        have q4 : 0 ≤ p / 4096 := by omega
        go_enter Tryz.func98, Tryz.ntmps98
        go_wp2
        go_ret
        refine ⟨_, 4, _, rfl, ?_, below1 _ _⟩
        rw [Lib.encodeRuneZ_four (by omega) (by omega)]
        exact lit_owns w _ .u8 [240 + p / 262144, 128 + p / 4096 % 64, 128 + p / 64 % 64, 128 + p % 64] 4 rfl (by decide)
end Go.Proofs.YtjkmgpomcnplnaaGreatDoor
namespace Go.Proofs.YtjkmgpomcnplnaaGreatDoor
open Go.ChangeShapes Go.WideShapes Go.ChangeAt Go.RowKit
set_option linter.unusedVariables false
theorem u8Info : (Tryz.prog.info? 5).map (fun i => (i.zero, i.size, i.bytes)) = some (some (.int .u8 0), 1, 1) := by kernel_rfl
theorem step_appended {w wr w1 : World} {b base : Nat} {o : Obj} {v : Value} {e : TypeId} {size n : Nat} {xs : List Value} (h : w.grownBy wr (some b)) (hb : w.heap.size ≤ base) (ho : wr.ownsRow base e size v n xs) (hg : (wr.alloc o).grownBy w1 v.ownBlock) : w.grownBy w1 (some b) := by
  refine ⟨hg.os.trans h.os, hg.tape.trans h.tape, hg.output.trans h.output, Nat.le_trans h.size (Nat.le_trans (by simp) hg.size), fun i hi hne => ?_⟩
  rw [hg.block i (by have := h.size; simp; omega) (fun e => by have := (ho.lt i e.symm).1; omega), Below.heap_alloc _ _ _ (Nat.lt_of_lt_of_le hi h.size)]
  exact h.block i hi hne
theorem step_appended0 {w wr w1 : World} {b base : Nat} {v : Value} {e : TypeId} {size n : Nat} {xs : List Value} (h : w.grownBy wr (some b)) (hb : w.heap.size ≤ base) (ho : wr.ownsRow base e size v n xs) (hg : wr.grownBy w1 v.ownBlock) : w.grownBy w1 (some b) := by
  refine ⟨hg.os.trans h.os, hg.tape.trans h.tape, hg.output.trans h.output, Nat.le_trans h.size hg.size, fun i hi hne => ?_⟩
  rw [hg.block i (Nat.lt_of_lt_of_le hi h.size) (fun e => by have := (ho.lt i e.symm).1; omega)]
  exact h.block i hi hne
theorem step_below {w wr w1 : World} {b : Nat} (h : w.grownBy wr (some b)) (hb : Below wr.heap.size wr w1) : w.grownBy w1 (some b) := grown_trans_row h (grown_of_below hb _)
def IntRes (w : World) (b : Nat) (a : Option Addr) (n c : Nat) (xs : List Int) (k : Nat) (en : Ending) (w' : World) : Prop :=
  (∃ r : Int, en = .returned (.int .i64 r)) ∧ Src w' b a n c xs (k + 1) ∧ w.grownBy w' (some b)
theorem l1DrawPoint_any (b : Nat) (a : Option Addr) (n c : Nat) (xs : List Int) (k : Nat) (hk : k < 1000000) (w : World) (h : Src w b a n c xs k) :
    Calls Tryz.prog 96 #[.pointer (some ⟨b, 0, none⟩)] w (IntRes w b a n c xs k) := by
  have hblt := h.lt
  have HS := Lib.hid h
  clear h
  go_enter Tryz.func96, Tryz.ntmps96
  go_wp2_with fail
  refine (l1Pick_any b a n c xs k w.heap.size 20 _ rfl (by decide) (by decide) hk _ (HS.out.alloc _) (lit_row w _ .i64 [97, 98, 60, 38, 32, 34, 233, 8364, 128512, 9, 10, 2047, 2048, 65535, 65536, 1114111, 120, 121, 62, 39] 20 rfl (by decide)) (by omega)).mono ?_
  rintro e w1 ⟨r, rfl, _, hs, hg⟩
  have HS1 := Lib.hid hs
  have HG1 := Lib.hid (grown_trans_row (World.grownBy_alloc w _ (some b)) hg)
  clear hs hg
  go_wp2
  go_ret
  exact ⟨⟨r, rfl⟩, HS1.out, HG1.out⟩
theorem point_of_char {p : Int} (h : charB p = true) : pointB p = true := by
  cases hp : pointB p
  · rw [charB_point p hp] at h
    exact absurd h (by simp)
  · rfl
def TextDrawn (w : World) (b : Nat) (a : Option Addr) (n c : Nat) (xs : List Int) (k m : Nat) (en : Ending) (w' : World) : Prop :=
  ∃ (s : ByteArray) (k' : Nat), en = .returned (.string s) ∧ s.size ≤ 4 * m ∧ k' ≤ k + 1 + m ∧ Src w' b a n c xs k' ∧ w.grownBy w' (some b)
set_option maxHeartbeats 1600000 in
theorem l1DrawText_any (b : Nat) (a : Option Addr) (n c : Nat) (xs : List Int) (k m : Nat) (hm : m ≤ 10000) (hk : k + 1 + m < 1000000) (w : World) (h : Src w b a n c xs k) :
    Calls Tryz.prog 64 #[.pointer (some ⟨b, 0, none⟩), .int .i64 m] w (TextDrawn w b a n c xs k m) := by
  obtain ⟨i0, hi, hz0, hz1, hz2⟩ := info_parts u8Info
  have hblt := h.lt
  have hmi : (m : Int) ≤ 10000 := by omega
  have HS0 := Lib.hid h
  clear h
  go_enter Tryz.func64, Tryz.ntmps64
  go_wp2_with fail
  refine (l1Next_any b a n c xs k ((m : Int) + 1) (by omega) (by omega) (by omega) _ (HS0.out.alloc _)).mono ?_
  rintro e w1 ⟨r0, rfl, hr0, hs1, hg1⟩
  have hr1 := hr0 (by omega)
  have HS1 := Lib.hid hs1
  have HO1 := Lib.hid ((lit_owns w 5 .u8 [] 0 rfl (by decide)).kept hg1 (.inr (by simp [Value.ownBlock]; omega)))
  have HG1 := Lib.hid (grown_trans_row (World.grownBy_alloc w (.cells (([] : List Int).map (Value.int .u8)).toArray 5) (some b)) hg1)
  clear hr0 hs1 hg1
  go_wp2
  go_loopw [5, 6] (fun v q wr => ∃ (r j l : Nat) (a' : Option Addr) (c' : Nat) (ys : List Int), j + r = r0 ∧ l ≤ 4 * j ∧ q = .int .i64 r ∧ v = .slice a' l c' ∧ wr.ownsRow w.heap.size 5 1 (.slice a' l c') l (ys.map (Value.int .u8)) ∧ Src wr b a n c xs (k + 1 + j) ∧ w.grownBy wr (some b)) (fun _ q _ => (intOf q).toNat)
  case atStart => exact ⟨r0, 0, 0, _, _, [], by omega, by omega, rfl, rfl, HO1.out, HS1.out, HG1.out⟩
  case round =>
    obtain ⟨r, j, l, a', c', ys, hjr, hl, rfl, rfl, ho, hs, hg⟩ := hrel
    have HO := Lib.hid ho
    have HS := Lib.hid hs
    have HG := Lib.hid hg
    have hj1 : j ≤ 10000 := by omega
    have hrm : r ≤ 10000 := by omega
    clear ho hs hg
    by_cases hr : 0 < r
    · go_wp2_with fail
      refine (l1DrawPoint_any b a n c xs (k + 1 + j) (by omega) wr HS.out).mono ?_
      rintro e w2 ⟨⟨p, rfl⟩, hs2, hg2⟩
      have HS2 := Lib.hid hs2
      have HO2 := Lib.hid (HO.out.kept hg2 (by
        cases hv : (Value.slice a' l c').ownBlock with
        | none => exact .inl rfl
        | some g => exact .inr (fun e => by have := (HO.out.lt g hv).1; cases e; omega)))
      have HG2 := Lib.hid (grown_trans_row HG.out hg2)
      clear hs2 hg2
      cases hc : charB p
      · go_wp2_with fail
        refine (specIsChar_any p _).mono ?_
        rintro e w3 ⟨rfl, rfl⟩
        go_wp2
        go_roundw
        case rel => exact ⟨r - 1, j + 1, l, a', c', ys, by omega, by omega, by rw [show ((r - 1 : Nat) : Int) = (r : Int) - 1 by omega], rfl, HO2.out, HS2.out, HG2.out⟩
        case measure => simp [intOf]; omega
      · have hp := point_of_char hc
        go_wp2_with fail
        refine (specIsChar_any p _).mono ?_
        rintro e w3 ⟨rfl, rfl⟩
        go_wp2_with fail
        refine (l1Put_any p hp _).mono ?_
        rintro e w4 ⟨a4, n4, c4, rfl, ho4, hb4⟩
        have hn4 := owns_length ho4
        have hle4 := Lib.encodeRuneZ_length p
        have HO3 := Lib.hid (owns_below HO2.out hb4)
        have HS3 := Lib.hid (HS2.out.below hb4)
        have HG3 := Lib.hid (step_below HG2.out hb4)
        have HO4 := Lib.hid ho4
        clear ho4 hb4
        rcases HO4.out.2 with ⟨hv, h0⟩ | ⟨g, cap, cur, hv, _⟩
        · exfalso
          omega
        · simp only [Value.slice.injEq] at hv
          obtain ⟨rfl, _, rfl⟩ := hv
          have HL4 := Lib.hid hle4
          have HN4 := Lib.hid hn4
          clear hle4 hn4
          go_wp2_with (at_builtin; refine wpList_append_own _ rfl _ _ 22 rfl w.heap.size 5 i0 (.int .u8 0) 1 1 Tryz.underlying22 hi hz0 hz1 hz2 rfl (by decide) _ _ _ rfl HO3.out ⟨g, 0, none⟩ n4 c4 ((Lib.encodeRuneZ p).map (Value.int .u8)) rfl ?c1 ?c2 ?c3 ?c4 ?c5 ?c6 ?_)
          case c1 => have := HN4.out; simp; omega
          case c2 => exact HO4.out.cells (g := g) rfl
          case c3 => exact ints_oneCell _ _
          case c4 => have := HN4.out; have := HL4.out; unfold maxLen; omega
          case c5 => have := HN4.out; have := HL4.out; omega
          case c6 => exact HG3.out.size
          intro v' w5 hown' hgrow _
          obtain ⟨a2, c2, rfl⟩ := owns_slice hown'
          have HG5 := Lib.hid (step_appended0 HG3.out (Nat.le_refl _) HO3.out hgrow)
          have HS5 := Lib.hid (HS3.out.grown hgrow (fun g e => by have := (HO3.out.lt g e).1; omega))
          have HO5 := Lib.hid hown'
          clear hown' hgrow
          go_wp2
          go_roundw
          case rel => exact ⟨r - 1, j + 1, l + n4, a2, c2, ys ++ Lib.encodeRuneZ p, by omega, by have := HN4.out; have := HL4.out; omega, by rw [show ((r - 1 : Nat) : Int) = (r : Int) - 1 by omega], rfl, by rw [List.map_append]; exact HO5.out, HS5.out, HG5.out⟩
          case measure => simp [intOf]; omega
    · obtain rfl : r = 0 := by omega
      have hcv := conv_row (P := Tryz.prog) wr Tryz.underlying22 Tryz.underlying5 Tryz.underlying9 (Row.of_owns HO.out)
      have hyl := owns_length HO.out
      have HYL := Lib.hid hyl
      clear hyl
      go_wp2
      go_ret
      exact ⟨strOfNums ys, k + 1 + j, rfl, by rw [strOfNums_size]; have := HYL.out; omega, by omega, HS.out, HG.out⟩
theorem grown_set (w : World) (a : Addr) (u : Value) : w.grownBy (w.setCell a u) (some a.block) :=
  ⟨rfl, rfl, rfl, by simp, fun k _ hk => Below.heap_setCell _ _ _ k (fun e => hk (by rw [e]))⟩
theorem set_at {w : World} {p : Addr} {u v : Value} (h : w.cell? p = some u) : (w.setCell p v).cell? p = some v := World.cell?_setCell_same _ _ _ h
theorem set_oth {w : World} {b i j : Nat} {v u : Value} (h : i ≠ j) (h2 : w.cell? ⟨b, j, none⟩ = some u) : (w.setCell ⟨b, i, none⟩ v).cell? ⟨b, j, none⟩ = some u := (World.cell?_setCell_other _ _ _ _ (fun e => absurd (congrArg Addr.off e) h)).trans h2
theorem row_kept {w w' : World} {base : Nat} {e : TypeId} {size : Nat} {v : Value} {n : Nat} {xs : List Value} {b : Nat} (h : w.ownsRow base e size v n xs) (hg : w.grownBy w' (some b)) (hne : v.ownBlock ≠ some b) : w'.ownsRow base e size v n xs := h.kept hg (.inr hne)
theorem grown_below {w w' : World} {r : Option Nat} (h : Below w.heap.size w w') : w.grownBy w' r := ⟨h.os, h.tape, h.output, h.size, fun i hi _ => h.block i hi⟩
theorem grown_mix {a b c : World} {x : Option Nat} {row : Option Nat} (h : a.grownBy b x) (hg : b.grownBy c row) (hr : ∀ g, row = some g → a.heap.size ≤ g) : a.grownBy c x :=
  ⟨hg.os.trans h.os, hg.tape.trans h.tape, hg.output.trans h.output, Nat.le_trans h.size hg.size, fun i hi hne => (hg.block i (Nat.lt_of_lt_of_le hi h.size) (by
    intro e
    have := hr i e.symm
    omega)).trans (h.block i hi hne)⟩
structure X5 (w : World) (x : Nat) (v0 v1 v2 v3 v4 : Value) : Prop where
  lt : x < w.heap.size
  c0 : w.cell? ⟨x, 0, none⟩ = some v0
  c1 : w.cell? ⟨x, 1, none⟩ = some v1
  c2 : w.cell? ⟨x, 2, none⟩ = some v2
  c3 : w.cell? ⟨x, 3, none⟩ = some v3
  c4 : w.cell? ⟨x, 4, none⟩ = some v4
  fz : ∀ i, i < 5 → w.frozen? ⟨x, i, none⟩ = false
theorem X5.grown {w w' : World} {x : Nat} {v0 v1 v2 v3 v4 : Value} {row : Option Nat} (h : X5 w x v0 v1 v2 v3 v4) (hg : w.grownBy w' row) (hne : some x ≠ row) : X5 w' x v0 v1 v2 v3 v4 :=
  ⟨Nat.lt_of_lt_of_le h.lt hg.size, hg.cell h.c0 hne, hg.cell h.c1 hne, hg.cell h.c2 hne, hg.cell h.c3 hne, hg.cell h.c4 hne, fun i hi => (hg.frozen_far ⟨x, i, none⟩ h.lt hne).trans (h.fz i hi)⟩
theorem X5.new (w : World) (T : TypeId) (v0 v1 v2 v3 v4 : Value) : X5 (w.alloc (.cells #[v0, v1, v2, v3, v4] T)) w.heap.size v0 v1 v2 v3 v4 :=
  ⟨by simp, by simp, by simp, by simp, by simp, by simp, fun i _ => by simp⟩
theorem X5.set {w : World} {x : Nat} {v0 v1 v2 v3 v4 : Value} (h : X5 w x v0 v1 v2 v3 v4) (i : Nat) (v : Value) (hi : i < 5) : X5 (w.setCell ⟨x, i, none⟩ v) x (if i = 0 then v else v0) (if i = 1 then v else v1) (if i = 2 then v else v2) (if i = 3 then v else v3) (if i = 4 then v else v4) := by
  have key : ∀ (j : Nat) (u : Value), w.cell? ⟨x, j, none⟩ = some u → (w.setCell ⟨x, i, none⟩ v).cell? ⟨x, j, none⟩ = some (if i = j then v else u) := by
    intro j u hu
    by_cases e : i = j
    · subst e
      rw [if_pos rfl]
      exact set_at hu
    · rw [if_neg e]
      exact set_oth e hu
  exact ⟨by simpa using h.lt, key 0 _ h.c0, key 1 _ h.c1, key 2 _ h.c2, key 3 _ h.c3, key 4 _ h.c4, fun k hk => by rw [World.frozen?_setCell]; exact h.fz k hk⟩
theorem X5.fill {w : World} {x : Nat} {v0 v1 v2 v3 v4 : Value} (h : X5 w x v0 v1 v2 v3 v4) (u0 u1 u2 u3 u4 : Value) : X5 (((((w.setCell ⟨x, 0, none⟩ u0).setCell ⟨x, 1, none⟩ u1).setCell ⟨x, 2, none⟩ u2).setCell ⟨x, 3, none⟩ u3).setCell ⟨x, 4, none⟩ u4) x u0 u1 u2 u3 u4 := by
  have := ((((h.set 0 u0 (by decide)).set 1 u1 (by decide)).set 2 u2 (by decide)).set 3 u3 (by decide)).set 4 u4 (by decide)
  simpa using this
theorem flatA_snoc (l : List At) (x : At) : flatA (l ++ [x]) = flatA l ++ [.string x.name, .string x.value] := by
  apply List.ext_getElem?
  intro j
  have hl : (l ++ [x]).length = l.length + 1 := by simp
  have hx : (l ++ [x]).getD l.length dAt = x := by rw [List.getD_eq_getElem?_getD, List.getElem?_append_right (Nat.le_refl _)]; simp
  by_cases h : j < l.length * 2
  · rw [flatA_get _ _ (by omega), List.getElem?_append_left (by rw [flatA_length]; exact h), flatA_get _ _ h]
    have e : (l ++ [x]).getD (j / 2) dAt = l.getD (j / 2) dAt := by rw [List.getD_eq_getElem?_getD, List.getElem?_append_left (by omega), ← List.getD_eq_getElem?_getD]
    rw [e]
  · rw [List.getElem?_append_right (by rw [flatA_length]; omega), flatA_length]
    by_cases h0 : j = l.length * 2
    · subst h0
      rw [flatA_name _ _ (by omega), hx]
      simp
    · by_cases h1 : j = l.length * 2 + 1
      · subst h1
        rw [flatA_value _ _ (by omega), hx]
        simp
      · rw [List.getElem?_eq_none (by rw [flatA_length]; omega), List.getElem?_eq_none (by simp; omega)]
theorem owns_fill {w : World} {base : Nat} {e : TypeId} {size : Nat} {v : Value} {n : Nat} {xs : List Value} (h : w.ownsRow base e size v n xs) (x : Nat) (hne : v.ownBlock ≠ some x) (u0 u1 u2 u3 u4 : Value) : (((((w.setCell ⟨x, 0, none⟩ u0).setCell ⟨x, 1, none⟩ u1).setCell ⟨x, 2, none⟩ u2).setCell ⟨x, 3, none⟩ u3).setCell ⟨x, 4, none⟩ u4).ownsRow base e size v n xs :=
  row_kept (row_kept (row_kept (row_kept (row_kept h (grown_set _ _ _) hne) (grown_set _ _ _) hne) (grown_set _ _ _) hne) (grown_set _ _ _) hne) (grown_set _ _ _) hne
theorem sizes_snoc {es : List At} {x y : ByteArray} (h : ∀ i, (es.getD i dAt).name.size ≤ 60 ∧ (es.getD i dAt).value.size ≤ 60) (hx : x.size ≤ 60) (hy : y.size ≤ 60) : ∀ i, ((es ++ [(⟨x, y⟩ : At)]).getD i dAt).name.size ≤ 60 ∧ ((es ++ [(⟨x, y⟩ : At)]).getD i dAt).value.size ≤ 60 := by
  intro i
  by_cases hi : i < es.length
  · have e : (es ++ [(⟨x, y⟩ : At)]).getD i dAt = es.getD i dAt := by rw [List.getD_eq_getElem?_getD, List.getElem?_append_left hi, ← List.getD_eq_getElem?_getD]
    rw [e]
    exact h i
  · by_cases h2 : i = es.length
    · subst h2
      have e : (es ++ [(⟨x, y⟩ : At)]).getD es.length dAt = ⟨x, y⟩ := by rw [List.getD_eq_getElem?_getD, List.getElem?_append_right (Nat.le_refl _)]; simp
      rw [e]
      exact ⟨hx, hy⟩
    · have e : (es ++ [(⟨x, y⟩ : At)]).getD i dAt = dAt := by rw [List.getD_eq_getElem?_getD, List.getElem?_eq_none (by simp; omega)]; rfl
      rw [e]
      simp [dAt]
theorem attCells (W : World) (x y : ByteArray) (j : Nat) (u : Value) (hj : [Value.string x, Value.string y][j]? = some u) : ((W.alloc (.cells #[.string x, .string y] 52))).cell? (Addr.add ⟨W.heap.size, 0, none⟩ j) = some u := by
  match j, hj with
  | 0, hj => simp at hj; subst hj; simp [Addr.add]
  | 1, hj => simp at hj; subst hj; simp [Addr.add]
theorem GrowIts.far {w w' : World} {B b : Nat} {v : Value} {n : Nat} {l : List It} {A : Nat → Option Addr} {N C : Nat → Nat} (h : GrowIts w B v n l A N C) (hg : w.grownBy w' (some b)) (hb : b < B) : GrowIts w' B v n l A N C := by
  refine ⟨row_kept h.row hg (fun e => by have := (h.row.lt b e).1; omega), fun i hi => ⟨?_, (h.ats i hi).2⟩, h.apart, h.each⟩
  have h1 := (h.ats i hi).1.only (Only.grown hg) fun y hy hne e => by
    have := (h.ats i hi).1.in hy hne
    simp only [Option.some.injEq] at e
    omega
  exact ⟨h1.ats, h1.own.imp id fun ⟨q, g1, g2, g3, g4⟩ => ⟨q, g1, g2, by have := hg.size; omega, g4⟩⟩
theorem itCells (W : World) (v0 v1 v2 v3 v4 : Value) (j : Nat) (u : Value) (hj : [v0, v1, v2, v3, v4][j]? = some u) : ((W.alloc (.cells #[v0, v1, v2, v3, v4] 54))).cell? (Addr.add ⟨W.heap.size, 0, none⟩ j) = some u := by
  match j, hj with
  | 0, hj => simp at hj; subst hj; simp [Addr.add]
  | 1, hj => simp at hj; subst hj; simp [Addr.add]
  | 2, hj => simp at hj; subst hj; simp [Addr.add]
  | 3, hj => simp at hj; subst hj; simp [Addr.add]
  | 4, hj => simp at hj; subst hj; simp [Addr.add]
def RowS (w : World) (v : Value) (ts : List ByteArray) : Prop :=
  (v = .slice none 0 0 ∧ ts = []) ∨ ∃ b o cap, v = .slice (some ⟨b, o, none⟩) ts.length cap ∧ ts.length ≤ cap ∧ cap ≤ maxLen ∧ b < w.heap.size ∧ ∀ i, i < ts.length → w.cell? ⟨b, o + i, none⟩ = some (.string (ts.getD i ByteArray.empty))
theorem RowS.of_owns {w : World} {base : Nat} {e : TypeId} {v : Value} {n : Nat} {ts : List ByteArray} (h : w.ownsRow base e 1 v n (ts.map Value.string)) : RowS w v ts := by
  have hl : ts.length = n := by have := h.1; simpa using this
  subst hl
  rcases h.2 with ⟨hv, hn⟩ | ⟨g, cap, cur, hv, hg, hh, hnc, hm, hs, ht⟩
  · have : ts = [] := List.length_eq_zero_iff.1 hn
    subst this
    exact .inl ⟨hv, rfl⟩
  · subst hv
    have hlt := (h.lt g rfl).2
    refine .inr ⟨g, 0, cap, rfl, hnc, hm, hlt, fun i hi => ?_⟩
    rw [Nat.zero_add, h.cellAt i (by omega), List.getElem?_map, List.getElem?_eq_getElem hi, List.getD_eq_getElem?_getD, List.getElem?_eq_getElem hi]
    rfl
theorem RowS.below {w w' : World} {v : Value} {ts : List ByteArray} (h : RowS w v ts) (hb : Below w.heap.size w w') : RowS w' v ts := by
  rcases h with h | ⟨b, o, cap, hv, h1, h2, h3, h4⟩
  · exact .inl h
  · exact .inr ⟨b, o, cap, hv, h1, h2, Nat.lt_of_lt_of_le h3 hb.size, fun i hi => (hb.cell (by exact h3)).trans (h4 i hi)⟩
theorem strInfo : (Tryz.prog.info? 9).map (fun i => (i.zero, i.size, i.bytes)) = some (some (.string ByteArray.empty), 1, 16) := by kernel_rfl
theorem strCells1 (W : World) (t : ByteArray) (j : Nat) (u : Value) (hj : [Value.string t][j]? = some u) : ((W.alloc (.cells #[.string t] 9))).cell? (Addr.add ⟨W.heap.size, 0, none⟩ j) = some u := by
  match j, hj with
  | 0, hj => simp at hj; subst hj; simp [Addr.add]
theorem ownsDrew {w : World} {base : Nat} {e : TypeId} {size : Nat} {v : Value} {n : Nat} {xs : List Value} (h : w.ownsRow base e size v n xs) : w.drew.ownsRow base e size v n xs := h
theorem grownDrew {w w1 : World} {r : Option Nat} (h : w.drew.grownBy w1 r) : w.grownBy w1 r := ⟨h.os, h.tape, h.output, h.size, h.block⟩
def OwnsStr (w : World) (ts : List ByteArray) (en : Ending) (w' : World) : Prop :=
  ∃ a c, en = .returned (.slice a ts.length c) ∧ w'.ownsRow w.heap.size 9 1 (.slice a ts.length c) ts.length (ts.map Value.string) ∧ Below w.heap.size w w'
theorem step_own_at {P : Program} {ops : Array Oper} {o : Oper} {a : Act} {w : World} {K : Act → World → Prop} {Q : Exit → Act → World → Prop} {E : Prop} (hw : Region.wanted o (yielded ops a.tmps) = true) (s x : Operand) (t : TypeId)
    (ho : o.op = .call { callee := .builtin .append, args := #[s, x], argTypes := #[t, t] })
    (e : TypeId) (i : TypeInfo) (z : Value) (size bytes : Nat) (ht : P.underlying t = some (.slice e)) (hi : P.info? e = some i) (hz : i.zero = some z) (hsize : i.size = size) (hby : i.bytes = bytes) (hzc : z.cells.size = size) (hpos : 0 < size)
    (base : Nat) (v : Value) (n : Nat) (xs : List Value) (hs : a.eval s = v) (hown : w.ownsRow base e size v n xs)
    (ad : Addr) (m c : Nat) (ys : List Value) (hx : a.eval x = .slice (some ad) m c) (hn : ys.length = m * size) (hcells : ∀ j u, ys[j]? = some u → w.cell? (ad.add j) = some u) (h1c : ∀ u ∈ ys, u.oneCell' = true)
    (b1 : n + m ≤ maxLen) (b2 : (n + m) * bytes ≤ 140737488355328) (hbase : base ≤ w.heap.size)
    (h : ∀ v' w', w'.ownsRow base e size v' (n + m) (xs ++ ys) → w.grownBy w' v.ownBlock → (v'.ownBlock = v.ownBlock ∨ v'.ownBlock = some w.heap.size) → K (a.put o.dst v') w') :
    if Region.wanted o (yielded ops a.tmps) = true then Oper.wp P o a w K Q else E := by
  rw [if_pos hw]
  obtain ⟨v', w', hr, h2, h3, h4, h5⟩ := run_append_own_at (P := P) w base t o.type e i z size bytes ht hi hz hsize hby hzc hpos v n xs hown ad m c ys hn hcells h1c b1 b2 hbase
  unfold Oper.wp execOp
  simp only [ho, resolve, invoke, builtin, Sem.run_bind, Sem.run_pure, Result.andThen_ok, List.map_toArray, List.map_cons, List.map_nil, hs, hx, hr]
  exact h v' w' h2 h3 h5
def ShortAts (es : List At) : Prop := ∀ i, (es.getD i dAt).name.size ≤ 60 ∧ (es.getD i dAt).value.size ≤ 60
def AttsDrawn (w : World) (b : Nat) (a : Option Addr) (n c : Nat) (xs : List Int) (k : Nat) (en : Ending) (w' : World) : Prop :=
  ∃ (x : Option Addr) (m q : Nat) (es : List At) (k' : Nat), en = .returned (.slice x m q) ∧ w'.ownsRow w.heap.size 52 2 (.slice x m q) m (flatA es) ∧ m ≤ 5 ∧ es.length = m ∧ ShortAts es ∧ (x = none → q = 0) ∧ k' ≤ k + 40 ∧ Src w' b a n c xs k' ∧ w.grownBy w' (some b)
def WordsAt (w : World) (nb k : Nat) (f : Nat → ByteArray) : Prop := ∀ r, r < k → w.cell? ⟨nb, r, none⟩ = some (.string (f r))
theorem WordsAt.grown {w w' : World} {nb k : Nat} {f : Nat → ByteArray} {row : Option Nat} (h : WordsAt w nb k f) (hg : w.grownBy w' row) (hne : some nb ≠ row) : WordsAt w' nb k f := fun r hr => hg.cell (h r hr) hne
theorem words_at {w w1 : World} {arr : Array Value} {e : TypeId} (hb : Below (w.alloc (.cells arr e)).heap.size (w.alloc (.cells arr e)) w1) (m k : Nat) (hall : (List.range k).all (fun r => isWord m arr[r]?) = true) :
    ∃ f : Nat → ByteArray, WordsAt w1 w.heap.size k f ∧ ∀ r, r < k → (f r).size ≤ m := by
  have h := words_of hb m k hall
  refine ⟨fun r => if hr : r < k then (h r hr).choose else ByteArray.empty, fun r hr => ?_, fun r hr => ?_⟩
  · simp only [hr, dif_pos]
    exact (h r hr).choose_spec.1
  · simp only [hr, dif_pos]
    exact (h r hr).choose_spec.2
theorem lit_atts (w : World) : (w.alloc (.cells #[] 52)).ownsRow w.heap.size 52 2 (.slice (some ⟨w.heap.size, 0, none⟩) 0 0) 0 (flatA []) := by
  have := World.ownsRow_lit (base := w.heap.size) (e := 52) (size := 2) w #[] 0 (Nat.le_refl _) (by unfold maxLen; omega) rfl
  exact this
theorem row_grown {w w' : World} {base : Nat} {e : TypeId} {size : Nat} {v : Value} {n : Nat} {xs : List Value} {b : Nat} (h : w.ownsRow base e size v n xs) (hg : w.grownBy w' (some b)) (hb : b < base) : w'.ownsRow base e size v n xs :=
  row_kept h hg (fun e => by have := (h.lt _ e).1; omega)
set_option maxRecDepth 100000 in
set_option maxHeartbeats 3200000 in
theorem l4DrawAttrs_any (b : Nat) (a : Option Addr) (n c : Nat) (xs : List Int) (k : Nat) (hk : k + 100 < 1000000) (w : World) (h : Src w b a n c xs k) :
    Calls Tryz.prog 123 #[.pointer (some ⟨b, 0, none⟩)] w (AttsDrawn w b a n c xs k) := by
  obtain ⟨i0, hi, hz0, hi1, hz2⟩ := info_parts attrInfo
  unfold AttsDrawn
  have hblt := h.lt
  have HS0 := Lib.hid h
  have KC := Lib.hid (fun (k : Nat) (hk : k < 1000000) (W : World) (h : Src W b a n c xs k) => l1Chance_any b a n c xs k 4 (by decide) (by decide) hk W h)
  have KD := Lib.hid (fun (k : Nat) (hk : k + 6 < 1000000) (W : World) (h : Src W b a n c xs k) => l1DrawText_any b a n c xs k 5 (by decide) (by omega) W h)
  unfold TextDrawn at KD
  simp only [show ((5 : Nat) : Int) = 5 from rfl] at KD
  have HR0 := Lib.hid (lit_atts w)
  clear h
  go_enter Tryz.func123, Tryz.ntmps123
  go_wp2
  generalize hW : (w.alloc (.cells #[] 52)).alloc _ = W1
  obtain ⟨f, hf, hfs⟩ : ∃ f, WordsAt W1 (w.heap.size + 1) 5 f ∧ ∀ r, r < 5 → (f r).size ≤ 60 := by
    rw [← hW]
    have h := words_at (w := w.alloc (.cells #[] 52)) (arr := #[.string ⟨#[97]⟩, .string ⟨#[98]⟩, .string ⟨#[105, 100]⟩, .string ⟨#[116, 111]⟩, .string ⟨#[120, 109, 108, 58, 108, 97, 110, 103]⟩]) (e := 9) (Below.refl _ _) 60 5 (by decide +kernel)
    have e : (w.alloc (.cells #[] 52)).heap.size = w.heap.size + 1 := by simp
    rw [e] at h
    exact h
  have hb1 : Below w.heap.size w W1 := by rw [← hW]; exact below2 w _ _
  have hz1 : w.heap.size + 2 = W1.heap.size := by rw [← hW]; simp
  have HR1 : Hid (W1.ownsRow w.heap.size 52 2 (.slice (some ⟨w.heap.size, 0, none⟩) 0 0) 0 (flatA [])) := Lib.hid (by rw [← hW]; exact owns_below HR0.out (below1 _ _))
  have HS1 := Lib.hid (HS0.out.below hb1)
  have HB1 := Lib.hid hb1
  have HF := Lib.hid hf
  have HFS := Lib.hid hfs
  clear hW hf hfs hb1
  go_loopw [3, 10] (fun v i wr => ∃ (j m q : Nat) (x : Option Addr) (es : List At) (k' : Nat), i = .int .i64 j ∧ j ≤ 5 ∧ v = .slice x m q ∧ m ≤ j ∧ Hid (es.length = m) ∧ ShortAts es ∧ (x = none → q = 0) ∧ k' ≤ k + 8 * j ∧ wr.ownsRow w.heap.size 52 2 (.slice x m q) m (flatA es) ∧ (∀ g, (Value.slice x m q).ownBlock = some g → g ≠ w.heap.size + 1) ∧ Src wr b a n c xs k' ∧ w.grownBy wr (some b) ∧ WordsAt wr (w.heap.size + 1) 5 f ∧ w.heap.size + 2 ≤ wr.heap.size) (fun _ i _ => 5 - (intOf i).toNat)
  case atStart => exact ⟨0, 0, 0, _, [], k, rfl, by omega, rfl, Nat.le_refl _, Lib.hid rfl, fun i => by simp [dAt], fun e => (by cases e), by omega, HR1.out, fun g hg => by simp [Value.ownBlock] at hg; omega, HS1.out, grown_of_below HB1.out _, HF.out, by omega⟩
  case round =>
    obtain ⟨j, m, q, x, es, k', rfl, hj, rfl, hm, HL, hsh, hnil, hk', hrow, hap, hs, hg, hwd, hsz⟩ := hrel
    have HSH := Lib.hid hsh
    have HNIL := Lib.hid hnil
    have HROW := Lib.hid hrow
    have HAP := Lib.hid hap
    have HS := Lib.hid hs
    have HG := Lib.hid hg
    have HWD := Lib.hid hwd
    clear hsh hnil hrow hap hs hg hwd
    by_cases hlt : j < 5
    · have KC1 := Lib.hid (KC.out k' (by omega) wr HS.out)
      have k7 : (j : Int) < 5 := by omega
      go_wp2_with fail
      refine KC1.out.mono ?_
      rintro e w2 ⟨⟨t, rfl⟩, hs2, hg2⟩
      have HS2 := Lib.hid hs2
      have HG2 := Lib.hid (grown_trans_row HG.out hg2)
      have HWD2 := Lib.hid (HWD.out.grown hg2 (by simp; omega))
      have HR2 := Lib.hid (row_grown HROW.out hg2 hblt)
      have hsz2 : w.heap.size + 2 ≤ w2.heap.size := Nat.le_trans hsz hg2.size
      clear hs2 hg2
      cases t
      · go_wp2
        go_roundw
        case rel => exact ⟨j + 1, m, q, x, es, k' + 1, by go_num, by omega, rfl, by omega, HL, HSH.out, HNIL.out, by omega, HR2.out, HAP.out, HS2.out, HG2.out, HWD2.out, hsz2⟩
        case measure => simp [intOf]; omega
      · have d1 := HWD2.out j hlt
        have hnm := HFS.out j hlt
        generalize f j = nm at d1 hnm
        go_wp2
        have HSD := Lib.hid (HS2.out.below (Below.refl w2.heap.size w2).drew)
        have HRD := Lib.hid (ownsDrew HR2.out)
        have hS0 : w2.drew.cell? ⟨w.heap.size + 1, j, none⟩ = some (.string nm) := d1
        have hne : some (w.heap.size + 1) ≠ some b := by simp; omega
        first | (go_region_held3 (fun W => W.cell? ⟨w.heap.size + 1, j, none⟩ = some (.string nm)) (first | assumption | exact ((below1 _ _).cell (World.block_lt_of_cell? _ _ (by assumption))).trans (by assumption))
          (first
            | (go_at_call 64; (with_reducible refine (KD.out _ (by omega) _ HSD.out).mono ?_); rintro e w5 ⟨s, k5, rfl, hs5, hk5, hsr5, hg5⟩; have hS5 := hg5.cell hS0 hne; have HR5 := Lib.hid (row_grown HRD.out hg5 hblt))
            | (refine step_own_at (by rfl) _ _ 49 rfl 52 i0 (.agg #[.string ByteArray.empty, .string ByteArray.empty]) 2 32 Tryz.underlying49 hi hz0 hi1 hz2 rfl (by decide) w.heap.size _ m _ (by rfl) (HR5.out.alloc _) ⟨w5.heap.size, 0, none⟩ 1 1 [.string nm, .string s] (by rfl) rfl (attCells w5 nm s) (by intro v hv; simp at hv; rcases hv with rfl | rfl <;> rfl) (by unfold maxLen; omega) (by omega) (by have h1 : w2.heap.size ≤ w5.heap.size := hg5.size; simp; omega) ?_; intro v' w7 hown' hgr hat; obtain ⟨a8, c8, rfl⟩ := owns_slice hown'; have hS7 := hgr.cell (((below1 w5 _).cell (World.block_lt_of_cell? _ _ hS5)).trans hS5) (fun e => HAP.out _ e.symm rfl)))) | fail "NOHELD"
        have hown8 : w7.ownsRow w.heap.size 52 2 (.slice a8 (m + 1) c8) (m + 1) (flatA (es ++ [⟨nm, s⟩])) := by rw [flatA_snoc]; exact hown'
        have hnil8 : a8 = none → c8 = 0 := by
          intro e
          subst e
          rcases hown'.2 with ⟨hv, h0⟩ | ⟨g, cap, cur, hv, _⟩
          · omega
          · cases hv
        have hws5 : w2.heap.size ≤ w5.heap.size := hg5.size
        have hap8 : ∀ g, (Value.slice a8 (m + 1) c8).ownBlock = some g → g ≠ w.heap.size + 1 := by
          intro g hg
          rcases hat with e | e
          · exact HAP.out g (e ▸ hg)
          · rw [e] at hg
            simp at hg
            omega
        have HG7 := Lib.hid (step_appended (grown_trans_row HG2.out (grownDrew hg5)) (Nat.le_refl _) HR5.out hgr)
        have HS7 := Lib.hid ((hsr5.below (below1 w5 (.cells #[.string nm, .string s] 52))).grown hgr (fun g e => by have := (HR5.out.lt g e).1; omega))
        have HWD5 := HWD2.out.grown (grownDrew hg5) hne
        have HWD7 := Lib.hid ((HWD5.grown (World.grownBy_alloc w5 (.cells #[.string nm, .string s] 52) none) (by simp)).grown hgr (fun e => HAP.out _ e.symm rfl))
        have HR8 := Lib.hid hown8
        have HNIL8 := Lib.hid hnil8
        have HAP8 := Lib.hid hap8
        have HL8 : Hid ((es ++ [(⟨nm, s⟩ : At)]).length = m + 1) := Lib.hid (by rw [List.length_append, HL.out]; rfl)
        have HSH8 : Hid (ShortAts (es ++ [(⟨nm, s⟩ : At)])) := Lib.hid (sizes_snoc HSH.out hnm (by omega))
        have hsz7 : w.heap.size + 2 ≤ w7.heap.size := by have := hgr.size; simp at this; omega
        clear hown' hgr hat hown8 hnil8 hap8 HWD5 hsr5 hg5 hS0 hS5 hS7 d1
        go_wp2
        go_roundw
        case rel => exact ⟨j + 1, m + 1, c8, a8, _, k5, by go_num, by omega, rfl, by omega, HL8, HSH8.out, HNIL8.out, by omega, HR8.out, HAP8.out, HS7.out, HG7.out, HWD7.out, hsz7⟩
        case measure => simp [intOf]; omega
    · obtain rfl : j = 5 := by omega
      go_wp2
      go_ret
      exact ⟨x, m, q, es, k', rfl, HROW.out, hm, HL.out, HSH.out, HNIL.out, by omega, HS.out, HG.out⟩
end Go.Proofs.YtjkmgpomcnplnaaGreatDoor
