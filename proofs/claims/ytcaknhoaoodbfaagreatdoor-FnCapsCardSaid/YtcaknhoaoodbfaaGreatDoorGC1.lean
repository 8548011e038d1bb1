/- Contracts of the laws' draws. -/
import Derived.Test.YtcaknhoaoodbfaaGreatDoorGC0
namespace Go.Proofs.YtcaknhoaoodbfaaGreatDoor
open Go.ChangeShapes Go.WideShapes Go.ChangeAt Go.RowKit
set_option linter.unusedVariables false

/-- A source of draws in block b: a code of n bytes that lies below b, and how far it is. -/
structure Src (w : World) (b : Nat) (a : Option Addr) (n c : Nat) (xs : List Int) (k : Nat) : Prop where
  lt : b < w.heap.size
  c0 : w.cell? ⟨b, 0, none⟩ = some (.slice a n c)
  c1 : w.cell? ⟨b, 1, none⟩ = some (.int .i64 k)
  f1 : w.frozen? ⟨b, 1, none⟩ = false
  len : xs.length = n
  row : n = 0 ∨ ∃ rb ro, a = some ⟨rb, ro, none⟩ ∧ rb < b ∧ ∀ i, i < n → w.cell? ⟨rb, ro + i, none⟩ = some (.int .u8 (xs.getD i 0))
  byte : ∀ i, 0 ≤ xs.getD i 0 ∧ xs.getD i 0 ≤ 255
  size : n ≤ 1048576
  far : k ≤ 1000000

/-- a draw below m (0, if m is below 1): the source has gone on by one; only its block has turned -/
def NextRes (w : World) (b : Nat) (a : Option Addr) (n c : Nat) (xs : List Int) (k : Nat) (m : Int) (en : Ending) (w' : World) : Prop :=
  ∃ r : Nat, en = .returned (.int .i64 r) ∧ (1 ≤ m → (r : Int) < m) ∧ Src w' b a n c xs (k + 1) ∧ w.grownBy w' (some b)

theorem grown_setC (W : World) (B o : Nat) (u : Value) (n : Nat) : W.grownBy ((W.setCell ⟨B, o, none⟩ u).drewN n) (some B) :=
  ⟨rfl, rfl, rfl, by simp [World.setCell], fun k _ hk => Below.heap_setCell _ _ _ k (fun e => hk (by rw [e]))⟩
theorem Src.step {w : World} {b : Nat} {a : Option Addr} {n c : Nat} {xs : List Int} {k : Nat} (h : Src w b a n c xs k) (hk : k < 1000000) (d : Nat) : Src ((w.setCell ⟨b, 1, none⟩ (.int .i64 ((k : Int) + 1))).drewN d) b a n c xs (k + 1) := by
  refine ⟨by simpa [World.setCell] using h.lt, ?_, ?_, ?_, h.len, ?_, h.byte, h.size, by omega⟩
  · show (w.setCell _ _).cell? _ = _
    rw [World.cell?_setCell_other _ _ _ _ (by simp)]
    exact h.c0
  · show (w.setCell _ _).cell? _ = _
    rw [World.cell?_setCell_same' _ _ _ (by rw [h.c1]; rfl)]
    rfl
  · show (w.setCell _ _).frozen? _ = _
    rw [World.frozen?_setCell]
    exact h.f1
  · rcases h.row with e | ⟨rb, ro, ha, hrb, hc⟩
    · exact .inl e
    · refine .inr ⟨rb, ro, ha, hrb, fun i hi => ?_⟩
      show (w.setCell _ _).cell? _ = _
      rw [World.cell?_setCell_other _ _ _ _ (by first | (simp; done) | (intro e; simp at e; omega))]
      exact hc i hi
theorem next_close {w : World} {b : Nat} {a : Option Addr} {n c : Nat} {xs : List Int} {k : Nat} {m : Int} (h : Src w b a n c xs k) (hk : k < 1000000) (d : Nat) (r : Int) (h0 : 0 ≤ r) (h1 : 1 ≤ m → r < m) :
    NextRes w b a n c xs k m (.returned (.int .i64 r)) ((w.setCell ⟨b, 1, none⟩ (.int .i64 ((k : Int) + 1))).drewN d) := by
  obtain ⟨j, rfl⟩ := Int.eq_ofNat_of_zero_le h0
  exact ⟨j, rfl, h1, h.step hk d, grown_setC _ _ _ _ _⟩
theorem wrap64_id {x : Int} (h0 : -9223372036854775808 ≤ x) (h1 : x ≤ 9223372036854775807) : wrap64 x = x := by
  unfold wrap64
  omega
theorem tmod_bounds {x m : Int} (h0 : 0 ≤ x) (hm : 1 ≤ m) : 0 ≤ x.tmod m ∧ x.tmod m < m := ⟨Int.tmod_nonneg _ h0, Int.tmod_lt_of_pos _ (by omega)⟩
theorem div_bounds (k n : Nat) (hk : k < 1000000) : 0 ≤ (k : Int) / (n : Int) ∧ (k : Int) / (n : Int) ≤ 1000000 := by
  have h : (k : Int) / (n : Int) = ((k / n : Nat) : Int) := (Int.natCast_ediv k n).symm
  have h2 := Nat.div_le_self k n
  rw [h]
  generalize k / n = q at h2 ⊢
  omega
theorem draw1 {x : Int} {k n : Nat} (hk : k < 1000000) (hx : 0 ≤ x ∧ x ≤ 255) : ∃ v, wrap64 (x + wrap64 (wrap64 ((k : Int) / (n : Int)) * 37)) = v ∧ 0 ≤ v ∧ v ≤ 37000255 := by
  have hd := div_bounds k n hk
  generalize (k : Int) / (n : Int) = q at hd
  rw [wrap64_id (x := q) (by omega) (by omega), wrap64_id (x := q * 37) (by omega) (by omega), wrap64_id (by omega) (by omega)]
  exact ⟨_, rfl, by omega, by omega⟩

set_option maxRecDepth 100000 in
set_option maxHeartbeats 1600000 in
theorem l1Next_any (b : Nat) (a : Option Addr) (n c : Nat) (xs : List Int) (k : Nat) (m : Int) (hm0 : 1 ≤ m) (hm : m ≤ 1000000000) (hk : k < 1000000) (w : World) (h : Src w b a n c xs k) :
    Calls Tryz.prog 58 #[.pointer (some ⟨b, 0, none⟩), .int .i64 m] w (NextRes w b a n c xs k m) := by
  have HS := Lib.hid h
  have h1 := h.c1
  have h2 := h.f1
  have h0 := h.c0
  have h3 := h.size
  by_cases hn : n = 0
  · have hn0 : ((n : Int) == 0) = true := by rw [beq_iff_eq]; omega
    clear h h3 hn
    go_enter Tryz.func58, Tryz.ntmps58
    go_wp2
    go_ret
    exact next_close HS.out hk 0 _ (Int.emod_nonneg _ (by omega)) (fun _ => Int.emod_lt_of_pos _ (by omega))
  · rcases h.row with e | ⟨rb, ro, rfl, hrb, hcell⟩
    · exact absurd e hn
    · have hn0 : ((n : Int) == 0) = false := by rw [beq_eq_false_iff_ne]; omega
      have hi := hcell (k % n) (Nat.mod_lt _ (by omega))
      have hby := h.byte (k % n)
      have hi1 := hcell ((k + 1) % n) (Nat.mod_lt _ (by omega))
      have hby1 := h.byte ((k + 1) % n)
      have hi2 := hcell ((k + 2) % n) (Nat.mod_lt _ (by omega))
      have hby2 := h.byte ((k + 2) % n)
      generalize xs.getD (k % n) 0 = x at hi hby
      generalize xs.getD ((k + 1) % n) 0 = x1 at hi1 hby1
      generalize xs.getD ((k + 2) % n) 0 = x2 at hi2 hby2
      have hlt : ((k % n : Nat) : Int) < (n : Int) := by have := Nat.mod_lt k (show 0 < n by omega); omega
      have hlt1 : (((k + 1) % n : Nat) : Int) < (n : Int) := by have := Nat.mod_lt (k + 1) (show 0 < n by omega); omega
      have hlt2 : (((k + 2) % n : Nat) : Int) < (n : Int) := by have := Nat.mod_lt (k + 2) (show 0 < n by omega); omega
      obtain ⟨v, hv, v0, v1⟩ := draw1 (n := n) hk hby
      have HV := Lib.hid hv
      have hne : ¬ rb = b := by omega
      clear h hcell hv
      have w1 : IntKind.i64.wrap ((k : Int) + 1) = (k : Int) + 1 := by rw [IntKind.wrap_i64]; omega
      have w2 : IntKind.i64.wrap ((k : Int) + 2) = (k : Int) + 2 := by rw [IntKind.wrap_i64]; omega
      have p1 : (0 : Int) ≤ (k : Int) + 1 := by omega
      have p2 : (0 : Int) ≤ (k : Int) + 2 := by omega
      have t1 : ((k : Int) + 1).tmod (n : Int) = (((k + 1) % n : Nat) : Int) := by rw [Int.tmod_eq_emod_of_nonneg p1]; rfl
      have t2 : ((k : Int) + 2).tmod (n : Int) = (((k + 2) % n : Nat) : Int) := by rw [Int.tmod_eq_emod_of_nonneg p2]; rfl
      have W1 := Lib.hid w1
      have W2 := Lib.hid w2
      have T1 := Lib.hid t1
      have T2 := Lib.hid t2
      generalize (k + 1) % n = j1 at hi1 hlt1 T1
      generalize (k + 2) % n = j2 at hi2 hlt2 T2
      clear w1 w2 t1 t2
      by_cases m1 : m ≤ 200
      · go_enter Tryz.func58, Tryz.ntmps58
        go_wp2
        go_quiet (fail)
        rw [HV.out]
        go_wp2
        go_ret
        exact next_close HS.out hk _ _ (Int.emod_nonneg _ (by omega)) (fun _ => Int.emod_lt_of_pos _ (by omega))
      · by_cases m2 : m ≤ 60000
        · go_enter Tryz.func58, Tryz.ntmps58
          go_wp2
          go_quiet (fail)
          rw [HV.out]
          go_wp2
          have w1 := W1.out
          have t1 := T1.out
          go_quiet (fail)
          clear w1 t1
          go_wp2
          go_ret
          exact next_close HS.out hk _ _ (Int.emod_nonneg _ (by omega)) (fun _ => Int.emod_lt_of_pos _ (by omega))
        · go_enter Tryz.func58, Tryz.ntmps58
          go_wp2
          go_quiet (fail)
          rw [HV.out]
          go_wp2
          have w1 := W1.out
          have t1 := T1.out
          go_quiet (fail)
          clear w1 t1
          have u0 : 0 ≤ v * 251 + x1 * 13 + (k : Int) := by omega
          have u1 : v * 251 + x1 * 13 + (k : Int) ≤ 10000000000 := by omega
          go_wp2
          have w2 := W2.out
          have t2 := T2.out
          go_quiet (fail)
          clear w2 t2
          go_wp2
          go_ret
          exact next_close HS.out hk _ _ (Int.emod_nonneg _ (by omega)) (fun _ => Int.emod_lt_of_pos _ (by omega))

theorem Src.grown {w w' : World} {b : Nat} {a : Option Addr} {n c : Nat} {xs : List Int} {k : Nat} (h : Src w b a n c xs k) {row : Option Nat} (hg : w.grownBy w' row) (hr : ∀ j, row = some j → b < j) : Src w' b a n c xs k := by
  have hb : w'.heap[b]? = w.heap[b]? := hg.block b h.lt (fun e => by have := hr b e.symm; omega)
  refine ⟨Nat.lt_of_lt_of_le h.lt hg.size, (World.cell?_of_block (w := w) hb).trans h.c0, (World.cell?_of_block (w := w) hb).trans h.c1, (World.frozen?_of_block (w := w) hb).trans h.f1, h.len, ?_, h.byte, h.size, h.far⟩
  rcases h.row with e | ⟨rb, ro, ha, hrb, hc⟩
  · exact .inl e
  · refine .inr ⟨rb, ro, ha, hrb, fun i hi => ?_⟩
    have hb2 : w'.heap[rb]? = w.heap[rb]? := hg.block rb (Nat.lt_trans hrb h.lt) (fun e => by have := hr rb e.symm; omega)
    exact (World.cell?_of_block (w := w) hb2).trans (hc i hi)
theorem grown_of_below {w w' : World} (h : Below w.heap.size w w') (row : Option Nat) : w.grownBy w' row := ⟨h.os, h.tape, h.output, h.size, fun i hi _ => h.block i hi⟩
theorem Src.below {w w' : World} {b : Nat} {a : Option Addr} {n c : Nat} {xs : List Int} {k : Nat} (h : Src w b a n c xs k) (hb : Below w.heap.size w w') : Src w' b a n c xs k := h.grown (grown_of_below hb none) (fun _ e => by cases e)
theorem Src.alloc {w : World} {b : Nat} {a : Option Addr} {n c : Nat} {xs : List Int} {k : Nat} (h : Src w b a n c xs k) (o : Obj) : Src (w.alloc o) b a n c xs k := h.below (below1 w o)
theorem Row.grown {w w' : World} {k : IntKind} {v : Value} {xs : List Int} {row : Option Nat} (h : Row w k v xs) (hg : w.grownBy w' row) (hne : ∀ j, row = some j → v.ownBlock ≠ some j) : Row w' k v xs := by
  rcases h with h | ⟨b, o, cap, rfl, h1, h2, h3, h4⟩
  · exact .inl h
  · refine .inr ⟨b, o, cap, rfl, h1, h2, Nat.lt_of_lt_of_le h3 hg.size, fun i hi => ?_⟩
    have hb : w'.heap[b]? = w.heap[b]? := hg.block b h3 (fun e => hne b e.symm rfl)
    exact (World.cell?_of_block (w := w) hb).trans (h4 i hi)

/-- one of L is drawn -/
def PickRes (w : World) (b : Nat) (a : Option Addr) (n c : Nat) (xs : List Int) (k : Nat) (L : List Int) (en : Ending) (w' : World) : Prop :=
  ∃ r : Int, en = .returned (.int .i64 r) ∧ r ∈ L ∧ Src w' b a n c xs (k + 1) ∧ w.grownBy w' (some b)

set_option maxHeartbeats 800000 in
theorem l1Pick_any (b : Nat) (a : Option Addr) (n c : Nat) (xs : List Int) (k : Nat) (lb m : Nat) (L : List Int) (hm : m = L.length) (hm0 : 1 ≤ m) (hm1 : m ≤ 1000) (hk : k < 1000000) (w : World) (h : Src w b a n c xs k)
    (hL : Row w .i64 (.slice (some ⟨lb, 0, none⟩) m m) L) (hne : lb ≠ b) :
    Calls Tryz.prog 110 #[.pointer (some ⟨b, 0, none⟩), .slice (some ⟨lb, 0, none⟩) m m] w (PickRes w b a n c xs k L) := by
  have hmi : (1 : Int) ≤ (m : Int) := by omega
  have K := Lib.hid (l1Next_any b a n c xs k m hmi (by omega) hk w h)
  have HL := Lib.hid hL
  have HM := Lib.hid hm
  clear hm h hL
  go_enter Tryz.func110, Tryz.ntmps110
  go_wp2_with fail
  refine K.out.mono ?_
  rintro e w1 ⟨r, rfl, hr, hs, hg⟩
  have hr1 := hr hmi
  have HR := Lib.hid (HL.out.grown hg (fun j e => by cases e; simp [Value.ownBlock]; exact hne))
  have HS := Lib.hid hs
  have HG := Lib.hid hg
  clear hr hs hg
  rcases HR.out with ⟨hv, _⟩ | ⟨rb, ro, cap, hv, h1, h2, h3, h4⟩
  · simp at hv
  · simp only [Value.slice.injEq, Option.some.injEq, Addr.mk.injEq, and_true] at hv
    obtain ⟨⟨rfl, rfl⟩, _, _⟩ := hv
    have hc := h4 r (by have := HM.out; omega)
    rw [Nat.zero_add] at hc
    have hmem : L.getD r 0 ∈ L := by
      have hlt : r < L.length := by have := HM.out; omega
      rw [List.getD_eq_getElem?_getD, List.getElem?_eq_getElem hlt]
      exact List.getElem_mem hlt
    have HMEM := Lib.hid hmem
    clear hmem h4 h1
    generalize L.getD r 0 = z at hc HMEM
    go_wp2
    go_ret
    exact ⟨z, rfl, HMEM.out, HS.out, HG.out⟩

theorem lit_row (w : World) (e : TypeId) (k : IntKind) (L : List Int) (m : Nat) (hm : m = L.length) (hx : m ≤ maxLen) : Row (w.alloc (.cells (L.map (Value.int k)).toArray e)) k (.slice (some ⟨w.heap.size, 0, none⟩) m m) L :=
  Row.of_owns (lit_owns w e k L m hm hx)
/-- the draws' source: a new block -/
theorem l1Source_any (a : Option Addr) (n c : Nat) (xs : List Int) (w : World) (hl : xs.length = n) (hs : n ≤ 1048576) (hby : ∀ i, 0 ≤ xs.getD i 0 ∧ xs.getD i 0 ≤ 255)
    (hrow : n = 0 ∨ ∃ rb ro, a = some ⟨rb, ro, none⟩ ∧ rb < w.heap.size ∧ ∀ i, i < n → w.cell? ⟨rb, ro + i, none⟩ = some (.int .u8 (xs.getD i 0))) :
    Calls Tryz.prog 51 #[.slice a n c] w fun en w' => en = .returned (.pointer (some ⟨w.heap.size, 0, none⟩)) ∧ Src w' w.heap.size a n c xs 0 ∧ Below w.heap.size w w' := by
  have HR := Lib.hid hrow
  have HB := Lib.hid hby
  clear hrow hby
  go_enter Tryz.func51, Tryz.ntmps51
  go_wp2
  go_ret
  refine ⟨rfl, ⟨by simp, by simp, by simp, by simp, hl, ?_, HB.out, hs, by omega⟩, below1 _ _⟩
  rcases HR.out with e | ⟨rb, ro, ha, hrb, hc⟩
  · exact .inl e
  · exact .inr ⟨rb, ro, ha, hrb, fun i hi => ((below1 w _).cell (p := ⟨rb, ro + i, none⟩) hrb).trans (hc i hi)⟩
end Go.Proofs.YtcaknhoaoodbfaaGreatDoor
