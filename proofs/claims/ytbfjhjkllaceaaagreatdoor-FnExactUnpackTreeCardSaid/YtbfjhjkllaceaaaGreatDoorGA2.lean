/- Texts laid together, part 2. -/
import Derived.Test.YtbfjhjkllaceaaaGreatDoorGA1
import Derived.RangeFuncBox
import Derived.Deep.AppendLies
import Derived.Maps.AppendAt

/- The model's reader of frames: number, text. -/
namespace Go.Proofs.YtbfjhjkllaceaaaGreatDoor
open Go.ChangeShapes Go.WideShapes Go.ChangeAt Go.RowKit
set_option linter.unusedVariables false

/-- what a reader holds: what is ahead, and whether it has met a fault -/
structure Rd where
  xs : List Int
  bad : Bool
/-- a number is read -/
def numV (r : Rd) : Int := if vreadK r.xs = 0 ∨ r.bad = true then 0 else vreadN r.xs
def numR (r : Rd) : Rd := if vreadK r.xs = 0 ∨ r.bad = true then ⟨r.xs, true⟩ else ⟨r.xs.drop (vreadK r.xs), false⟩
/-- a text is read, by its place -/
def txtV (ts : List ByteArray) (r : Rd) : ByteArray := if numV r < ts.length then ts.getD (numV r).toNat ByteArray.empty else ByteArray.empty
def txtR (ts : List ByteArray) (r : Rd) : Rd := if numV r < ts.length then numR r else ⟨(numR r).xs, true⟩
theorem numV_bd (r : Rd) : 0 ≤ numV r ∧ numV r ≤ 9223372036854775807 := by
  unfold numV
  split
  · omega
  · exact vreadN_bd _

/-- a reader in block b: its bytes lie in w0, its texts in a row of its own -/
structure RdAt (w0 w : World) (b : Nat) (r : Rd) (ts : List ByteArray) : Prop where
  lt : b < w.heap.size
  ge : w0.heap.size ≤ b
  below : Below w0.heap.size w0 w
  byte : ∀ i, 0 ≤ r.xs.getD i 0 ∧ r.xs.getD i 0 ≤ 255
  c0 : ∃ a n c, w.cell? ⟨b, 0, none⟩ = some (.slice a n c) ∧ n = r.xs.length ∧ Row w0 .u8 (.slice a n c) r.xs
  c1 : ∃ a n c, w.cell? ⟨b, 1, none⟩ = some (.slice a n c) ∧ w.ownsRow w0.heap.size 9 1 (.slice a n c) n (ts.map Value.string) ∧ (Value.slice a n c).ownBlock ≠ some b
  c2 : w.cell? ⟨b, 2, none⟩ = some (.bool r.bad)
  f0 : w.frozen? ⟨b, 0, none⟩ = false
  f1 : w.frozen? ⟨b, 1, none⟩ = false
  f2 : w.frozen? ⟨b, 2, none⟩ = false
theorem grown_set (w : World) (a : Addr) (u : Value) : w.grownBy (w.setCell a u) (some a.block) :=
  ⟨rfl, rfl, rfl, by simp, fun k _ hk => Below.heap_setCell _ _ _ k (fun e => hk (by rw [e]))⟩
theorem set_at {w : World} {p : Addr} {u v : Value} (h : w.cell? p = some u) : (w.setCell p v).cell? p = some v := World.cell?_setCell_same _ _ _ h
theorem set_oth {w : World} {b i j : Nat} {v u : Value} (h : i ≠ j) (h2 : w.cell? ⟨b, j, none⟩ = some u) : (w.setCell ⟨b, i, none⟩ v).cell? ⟨b, j, none⟩ = some u := (World.cell?_setCell_other _ _ _ _ (fun e => absurd (congrArg Addr.off e) h)).trans h2
theorem cell_oth (w : World) (b i j : Nat) (v : Value) (h : i ≠ j) : (w.setCell ⟨b, i, none⟩ v).cell? ⟨b, j, none⟩ = w.cell? ⟨b, j, none⟩ := World.cell?_setCell_other _ _ _ _ (fun e => absurd (congrArg Addr.off e) h)
theorem row_kept {w w' : World} {base : Nat} {e : TypeId} {size : Nat} {v : Value} {n : Nat} {xs : List Value} {b : Nat} (h : w.ownsRow base e size v n xs) (hg : w.grownBy w' (some b)) (hne : v.ownBlock ≠ some b) : w'.ownsRow base e size v n xs := h.kept hg (.inr hne)
theorem grown_below {w w' : World} {r : Option Nat} (h : Below w.heap.size w w') : w.grownBy w' r := ⟨h.os, h.tape, h.output, h.size, fun i hi _ => h.block i hi⟩
theorem grown_trans' {a b c : World} {r : Option Nat} (h : a.grownBy b r) (k : b.grownBy c r) : a.grownBy c r :=
  ⟨k.os.trans h.os, k.tape.trans h.tape, k.output.trans h.output, Nat.le_trans h.size k.size, fun i hi hne => (k.block i (Nat.lt_of_lt_of_le hi h.size) hne).trans (h.block i hi hne)⟩
theorem RdAt.keep {w0 w w' : World} {b : Nat} {r : Rd} {ts : List ByteArray} (h : RdAt w0 w b r ts) (hb : Below w.heap.size w w') : RdAt w0 w' b r ts := by
  obtain ⟨a, n, c, h1, h2, h3⟩ := h.c0
  obtain ⟨a', n', c', g1, g2, g3⟩ := h.c1
  exact ⟨Nat.lt_of_lt_of_le h.lt hb.size, h.ge, h.below.trans (hb.mono h.below.size), h.byte, ⟨a, n, c, (hb.cell (by exact h.lt)).trans h1, h2, h3⟩,
    ⟨a', n', c', (hb.cell (by exact h.lt)).trans g1, owns_below g2 hb, g3⟩, (hb.cell (by exact h.lt)).trans h.c2, (hb.frozen (by exact h.lt)).trans h.f0, (hb.frozen (by exact h.lt)).trans h.f1, (hb.frozen (by exact h.lt)).trans h.f2⟩
theorem below_setW {w0 w : World} {p : Addr} {u : Value} (h : Below w0.heap.size w0 w) (hp : w0.heap.size ≤ p.block) : Below w0.heap.size w0 (w.setCell p u) := h.setCell hp u
theorem RdAt.setBad {w0 w : World} {b : Nat} {r : Rd} {ts : List ByteArray} (h : RdAt w0 w b r ts) (bad : Bool) : RdAt w0 (w.setCell ⟨b, 2, none⟩ (.bool bad)) b ⟨r.xs, bad⟩ ts := by
  obtain ⟨a, n, c, h1, h2, h3⟩ := h.c0
  obtain ⟨a', n', c', g1, g2, g3⟩ := h.c1
  have hc2 := h.c2
  have f0 := h.f0
  have f1 := h.f1
  have f2 := h.f2
  refine ⟨by simpa using h.lt, h.ge, below_setW h.below h.ge, h.byte, ⟨a, n, c, set_oth (by decide) h1, h2, h3⟩, ⟨a', n', c', set_oth (by decide) g1, row_kept g2 (grown_set _ _ _) g3, g3⟩, set_at hc2, by rw [World.frozen?_setCell]; exact f0, by rw [World.frozen?_setCell]; exact f1, by rw [World.frozen?_setCell]; exact f2⟩
theorem RdAt.setXs {w0 w : World} {b : Nat} {r : Rd} {ts : List ByteArray} (h : RdAt w0 w b r ts) (xs : List Int) (a : Option Addr) (n c : Nat) (hby : ∀ i, 0 ≤ xs.getD i 0 ∧ xs.getD i 0 ≤ 255) (hn : n = xs.length) (hr : Row w0 .u8 (.slice a n c) xs) : RdAt w0 (w.setCell ⟨b, 0, none⟩ (.slice a n c)) b ⟨xs, r.bad⟩ ts := by
  obtain ⟨a0, n0, c0, h1, h2, h3⟩ := h.c0
  obtain ⟨a', n', c', g1, g2, g3⟩ := h.c1
  have hc2 := h.c2
  have f0 := h.f0
  have f1 := h.f1
  have f2 := h.f2
  refine ⟨by simpa using h.lt, h.ge, below_setW h.below h.ge, hby, ⟨a, n, c, set_at h1, hn, hr⟩, ⟨a', n', c', set_oth (by decide) g1, row_kept g2 (grown_set _ _ _) g3, g3⟩, set_oth (by decide) hc2, by rw [World.frozen?_setCell]; exact f0, by rw [World.frozen?_setCell]; exact f1, by rw [World.frozen?_setCell]; exact f2⟩
/-- what is written is new, or in one block -/
theorem grown_mix {a b c : World} {x : Option Nat} {row : Option Nat} (h : a.grownBy b x) (hg : b.grownBy c row) (hr : ∀ g, row = some g → a.heap.size ≤ g) : a.grownBy c x :=
  ⟨hg.os.trans h.os, hg.tape.trans h.tape, hg.output.trans h.output, Nat.le_trans h.size hg.size, fun i hi hne => (hg.block i (Nat.lt_of_lt_of_le hi h.size) (by
    intro e
    have := hr i e.symm
    omega)).trans (h.block i hi hne)⟩
theorem getD_drop {xs : List Int} (h : ∀ i, 0 ≤ xs.getD i 0 ∧ xs.getD i 0 ≤ 255) (k : Nat) : ∀ i, 0 ≤ (xs.drop k).getD i 0 ∧ (xs.drop k).getD i 0 ≤ 255 := by
  intro i
  have := h (k + i)
  rw [List.getD_eq_getElem?_getD] at this ⊢
  rwa [List.getElem?_drop]

/-- a number was read -/
def NumRes (w0 w : World) (b : Nat) (v : Int) (r : Rd) (ts : List ByteArray) (e : Ending) (w' : World) : Prop :=
  e = .returned (.int .i64 v) ∧ RdAt w0 w' b r ts ∧ w.grownBy w' (some b) ∧ w'.cell? ⟨b, 1, none⟩ = w.cell? ⟨b, 1, none⟩

set_option maxRecDepth 100000 in
set_option maxHeartbeats 1600000 in
theorem number_any (w0 : World) (b : Nat) (r : Rd) (ts : List ByteArray) (w : World) (h : RdAt w0 w b r ts) :
    Calls Tryz.prog 43 #[.pointer (some ⟨b, 0, none⟩)] w (NumRes w0 w b (numV r) (numR r) ts) := by
  obtain ⟨a, n, c, hc0, hn, hrow⟩ := h.c0
  have K := Lib.hid (l2Read_any a n c r.xs w hn (hrow.below h.below) h.byte)
  have hkl := (vreadK_le r.xs).1
  unfold ReadRes at K
  unfold NumRes
  have H := Lib.hid h
  have hc2 := h.c2
  have hlt := h.lt
  have HN := Lib.hid hn
  have HROW := Lib.hid hrow
  cases hbad : r.bad
  · rw [hbad] at hc2
    by_cases hk : vreadK r.xs = 0
    · have e1 : numV r = 0 := by unfold numV; rw [if_pos (.inl hk)]
      have e2 : numR r = ⟨r.xs, true⟩ := by unfold numR; rw [if_pos (.inl hk)]
      rw [e1, e2]
      rw [hk] at K
      generalize vreadN r.xs = v at K
      clear e1 e2 h hn hrow hkl hk hbad
      go_enter Tryz.func43, Tryz.ntmps43
      go_wp2_with fail
      refine K.out.mono ?_
      rintro e w1 ⟨rfl, hb1⟩
      have H1 := Lib.hid (H.out.keep hb1)
      have HB1 := Lib.hid hb1
      have f2 := H1.out.f2
      have g2 := H1.out.c2
      have hlt1 := H1.out.lt
      clear hb1 hc0 hc2
      go_wp2
      go_ret
      exact ⟨rfl, H1.out.setBad true, grown_trans' (grown_below HB1.out) (grown_set _ _ _), (cell_oth _ _ _ _ _ (by decide)).trans (HB1.out.cell (by exact hlt))⟩
    · have e1 : numV r = vreadN r.xs := by unfold numV; rw [if_neg (by rw [hbad]; simpa using hk)]
      have e2 : numR r = ⟨r.xs.drop (vreadK r.xs), false⟩ := by unfold numR; rw [if_neg (by rw [hbad]; simpa using hk)]
      rw [e1, e2]
      have hk0 : ((vreadK r.xs : Int) == 0) = false := by rw [beq_eq_false_iff_ne]; omega
      have hk1 : vreadK r.xs ≤ n := by omega
      have HDR := Lib.hid (getD_drop h.byte (vreadK r.xs))
      have HLD : Hid (n - vreadK r.xs = (r.xs.drop (vreadK r.xs)).length) := Lib.hid (by rw [List.length_drop, hn])
      have hok : vreadOk r.xs = true := by
        cases hv : vreadOk r.xs
        · exact absurd (read_none hv).2 hk
        · rfl
      obtain ⟨rb, ro, rfl⟩ := row_some hrow hok
      have hcap : n ≤ c ∧ c ≤ maxLen ∧ rb < w0.heap.size := by
        rcases hrow with ⟨hv, _⟩ | ⟨b', o', cap, hv, g1, g2, g3, g4⟩
        · cases hv
        · simp only [Value.slice.injEq, Option.some.injEq, Addr.mk.injEq] at hv
          obtain ⟨⟨rfl, rfl, _⟩, hn', rfl⟩ := hv
          exact ⟨by omega, g2, g3⟩
      obtain ⟨hnc, hcm, hrb⟩ := hcap
      have HPC : Hid (Row w0 .u8 (.slice (some ⟨rb, ro + vreadK r.xs, none⟩) (n - vreadK r.xs) (c - vreadK r.xs)) (r.xs.drop (vreadK r.xs))) := Lib.hid (by
        have := hrow.piece (vreadK r.xs) (n - vreadK r.xs) (by omega)
        rwa [List.take_of_length_le (by rw [List.length_drop]; omega)] at this)
      have HPE : Hid (c = vreadK r.xs → Row w0 .u8 (.slice (some ⟨rb, ro, none⟩) 0 0) (r.xs.drop (vreadK r.xs))) := Lib.hid (fun hc => by
        have hz : r.xs.drop (vreadK r.xs) = [] := List.drop_eq_nil_of_le (by omega)
        rw [hz]
        exact Row.empty (by decide) hrb)
      have hcm2 := hcm
      unfold maxLen at hcm2
      have HBAD := Lib.hid hbad
      generalize vreadN r.xs = v at K
      generalize vreadK r.xs = k at *
      generalize r.xs.drop k = ys at *
      clear e1 e2 h hn hrow hkl hbad hok
      by_cases hkc : k < c
      · go_enter Tryz.func43, Tryz.ntmps43
        go_wp2_with fail
        refine K.out.mono ?_
        rintro e w1 ⟨rfl, hb1⟩
        have H1 := Lib.hid (H.out.keep hb1)
        have HB1 := Lib.hid hb1
        have g2 := (hb1.cell (p := ⟨b, 2, none⟩) hlt).trans hc2
        have g0 := (hb1.cell (p := ⟨b, 0, none⟩) hlt).trans hc0
        have f0 := H1.out.f0
        have hlt1 := H1.out.lt
        clear hb1 hc0 hc2
        go_wp2
        go_ret
        exact ⟨rfl, by have := H1.out.setXs ys _ _ _ HDR.out HLD.out HPC.out; rwa [HBAD.out] at this, grown_trans' (grown_below HB1.out) (grown_set _ _ _), (cell_oth _ _ _ _ _ (by decide)).trans (HB1.out.cell (by exact hlt))⟩
      · obtain rfl : c = k := by omega
        obtain rfl : n = c := by omega
        have HPE2 := Lib.hid (HPE.out rfl)
        have hn0 : n - n = 0 := by omega
        rw [hn0] at HLD
        go_enter Tryz.func43, Tryz.ntmps43
        go_wp2_with fail
        refine K.out.mono ?_
        rintro e w1 ⟨rfl, hb1⟩
        have H1 := Lib.hid (H.out.keep hb1)
        have HB1 := Lib.hid hb1
        have g2 := (hb1.cell (p := ⟨b, 2, none⟩) hlt).trans hc2
        have g0 := (hb1.cell (p := ⟨b, 0, none⟩) hlt).trans hc0
        have f0 := H1.out.f0
        have hlt1 := H1.out.lt
        clear hb1 hc0 hc2
        go_wp2
        go_ret
        exact ⟨rfl, by have := H1.out.setXs ys _ _ _ HDR.out HLD.out HPE2.out; rwa [HBAD.out] at this, grown_trans' (grown_below HB1.out) (grown_set _ _ _), (cell_oth _ _ _ _ _ (by decide)).trans (HB1.out.cell (by exact hlt))⟩
  · rw [hbad] at hc2
    have e1 : numV r = 0 := by unfold numV; rw [if_pos (.inr hbad)]
    have e2 : numR r = ⟨r.xs, true⟩ := by unfold numR; rw [if_pos (.inr hbad)]
    rw [e1, e2]
    generalize vreadN r.xs = v at K
    generalize vreadK r.xs = k at K hkl
    clear e1 e2 h hn hrow hbad
    by_cases hk : k = 0
    · have hk0 : ((k : Int) == 0) = true := by rw [hk]; rfl
      clear hk
      go_enter Tryz.func43, Tryz.ntmps43
      go_wp2_with fail
      refine K.out.mono ?_
      rintro e w1 ⟨rfl, hb1⟩
      have H1 := Lib.hid (H.out.keep hb1)
      have HB1 := Lib.hid hb1
      have f2 := H1.out.f2
      have g2 := (hb1.cell (p := ⟨b, 2, none⟩) hlt).trans hc2
      have hlt1 := H1.out.lt
      clear hb1 hc0 hc2
      go_wp2
      go_ret
      exact ⟨rfl, H1.out.setBad true, grown_trans' (grown_below HB1.out) (grown_set _ _ _), (cell_oth _ _ _ _ _ (by decide)).trans (HB1.out.cell (by exact hlt))⟩
    · have hk0 : ((k : Int) == 0) = false := by rw [beq_eq_false_iff_ne]; omega
      go_enter Tryz.func43, Tryz.ntmps43
      go_wp2_with fail
      refine K.out.mono ?_
      rintro e w1 ⟨rfl, hb1⟩
      have H1 := Lib.hid (H.out.keep hb1)
      have HB1 := Lib.hid hb1
      have f2 := H1.out.f2
      have g2 := (hb1.cell (p := ⟨b, 2, none⟩) hlt).trans hc2
      have hlt1 := H1.out.lt
      clear hb1 hc0 hc2
      go_wp2
      go_ret
      exact ⟨rfl, H1.out.setBad true, grown_trans' (grown_below HB1.out) (grown_set _ _ _), (cell_oth _ _ _ _ _ (by decide)).trans (HB1.out.cell (by exact hlt))⟩

/-- a text was read -/
def TxtGot (w0 w : World) (b : Nat) (v : ByteArray) (r : Rd) (ts : List ByteArray) (e : Ending) (w' : World) : Prop :=
  e = .returned (.string v) ∧ RdAt w0 w' b r ts ∧ w.grownBy w' (some b) ∧ w'.cell? ⟨b, 1, none⟩ = w.cell? ⟨b, 1, none⟩

set_option maxRecDepth 100000 in
set_option maxHeartbeats 1600000 in
theorem text_any (w0 : World) (b : Nat) (r : Rd) (ts : List ByteArray) (w : World) (h : RdAt w0 w b r ts) :
    Calls Tryz.prog 74 #[.pointer (some ⟨b, 0, none⟩)] w (TxtGot w0 w b (txtV ts r) (txtR ts r) ts) := by
  have K := Lib.hid (number_any w0 b r ts w h)
  have hbd := numV_bd r
  unfold NumRes at K
  unfold TxtGot
  have hlt0 := h.lt
  by_cases hv : numV r < ts.length
  · have e1 : txtV ts r = ts.getD (numV r).toNat ByteArray.empty := by unfold txtV; rw [if_pos hv]
    have e2 : txtR ts r = numR r := by unfold txtR; rw [if_pos hv]
    rw [e1, e2]
    generalize numV r = v at K hbd hv e1 ⊢
    generalize numR r = r' at K e2 ⊢
    clear e1 e2 h
    obtain ⟨N, rfl⟩ : ∃ N : Nat, v = N := ⟨v.toNat, by omega⟩
    rw [Int.toNat_natCast]
    have hN : N < ts.length := by omega
    go_enter Tryz.func74, Tryz.ntmps74
    go_wp2_with fail
    refine K.out.mono ?_
    rintro e w1 ⟨rfl, h1, hg1, hx1⟩
    have HX1 := Lib.hid hx1
    clear hx1
    obtain ⟨aL, nL, cL, g1, g2, g3⟩ := h1.c1
    have hl := ownsS_length g2
    have hlt1 := h1.lt
    have HG1 := Lib.hid hg1
    have H1 := Lib.hid h1
    have hbr : ∃ g, aL = some ⟨g, 0, none⟩ := by
      rcases g2.2 with ⟨hv, h0⟩ | ⟨g, cap, cur, hv, _⟩
      · omega
      · simp only [Value.slice.injEq] at hv
        exact ⟨_, hv.1⟩
    obtain ⟨g, rfl⟩ := hbr
    have hc := g2.cellAt N (by omega)
    rw [List.getElem?_map, List.getElem?_eq_getElem hN, Option.map_some] at hc
    have ht : ts.getD N ByteArray.empty = ts[N] := by rw [List.getD_eq_getElem?_getD, List.getElem?_eq_getElem hN]; rfl
    have HT := Lib.hid ht
    generalize ts[N] = t at hc HT
    have k1 : (N : Int) < (nL : Int) := by omega
    have k2 : N < nL := by omega
    have k3 : (nL : Int) ≤ 9223372036854775807 := by
      rcases g2.2 with ⟨hv, h0⟩ | ⟨g', cap, cur, hv, q1, q2, q3, q4, _⟩
      · omega
      · unfold maxLen at q4; omega
    clear ht hl g2 g3 h1 hg1
    go_wp2
    go_ret
    exact ⟨by rw [HT.out]; rfl, H1.out, HG1.out, HX1.out⟩
  · have e1 : txtV ts r = ByteArray.empty := by unfold txtV; rw [if_neg hv]
    have e2 : txtR ts r = ⟨(numR r).xs, true⟩ := by unfold txtR; rw [if_neg hv]
    rw [e1, e2]
    generalize numV r = v at K hbd hv e1 ⊢
    generalize numR r = r' at K e2 ⊢
    clear e1 e2 h
    go_enter Tryz.func74, Tryz.ntmps74
    go_wp2_with fail
    refine K.out.mono ?_
    rintro e w1 ⟨rfl, h1, hg1, hx1⟩
    have HX1 := Lib.hid hx1
    clear hx1
    obtain ⟨aL, nL, cL, g1, g2, g3⟩ := h1.c1
    have hl := ownsS_length g2
    have hlt1 := h1.lt
    have HG1 := Lib.hid hg1
    have H1 := Lib.hid h1
    have k1 : (nL : Int) ≤ v := by omega
    have q2 := h1.c2
    have q3 := h1.f2
    clear hl g2 g3 h1 hg1 hv
    go_wp2
    go_ret
    exact ⟨rfl, H1.out.setBad true, grown_trans' HG1.out (grown_set _ _ _), (cell_oth _ _ _ _ _ (by decide)).trans HX1.out⟩
end Go.Proofs.YtbfjhjkllaceaaaGreatDoor

/- The model's reader of frames: strings. -/
namespace Go.Proofs.YtbfjhjkllaceaaaGreatDoor
open Go.ChangeShapes Go.WideShapes Go.ChangeAt Go.RowKit
set_option linter.unusedVariables false

/-- texts are read, so many -/
def rdS : Nat → Int → Rd → List ByteArray → Rd × List ByteArray
  | 0, _, r, ts => (r, ts)
  | f + 1, n, r, ts => if 0 < n ∧ r.bad = false then (if ssz r.xs = 0 then (⟨r.xs, true⟩, ts) else rdS f (n - 1) ⟨r.xs.drop (ssz r.xs).toNat, false⟩ (ts ++ [stxt r.xs])) else (r, ts)
theorem rdS_stop {f : Nat} {n : Int} {r : Rd} {ts : List ByteArray} (h : ¬ (0 < n ∧ r.bad = false)) : rdS f n r ts = (r, ts) := by
  cases f with
  | zero => rfl
  | succ f => unfold rdS; rw [if_neg h]
theorem rdS_bad {f : Nat} {n : Int} {r : Rd} {ts : List ByteArray} (h : 0 < n ∧ r.bad = false) (h0 : ssz r.xs = 0) : rdS (f + 1) n r ts = (⟨r.xs, true⟩, ts) := by unfold rdS; rw [if_pos h, if_pos h0]
theorem rdS_go {f : Nat} {n : Int} {r : Rd} {ts : List ByteArray} (h : 0 < n ∧ r.bad = false) (h0 : ssz r.xs ≠ 0) : rdS (f + 1) n r ts = rdS f (n - 1) ⟨r.xs.drop (ssz r.xs).toNat, false⟩ (ts ++ [stxt r.xs]) := by
  conv => lhs; unfold rdS
  rw [if_pos h, if_neg h0]
def lenAt (w : World) (b : Nat) : Nat := match w.cell? ⟨b, 0, none⟩ with | some (.slice _ n _) => n | _ => 0
theorem lenAt_is {w : World} {b : Nat} {a : Option Addr} {n c : Nat} (h : w.cell? ⟨b, 0, none⟩ = some (.slice a n c)) : lenAt w b = n := by unfold lenAt; rw [h]
theorem ssz_bd {xs : List Int} (h : ssz xs ≠ 0) : 1 ≤ ssz xs ∧ ssz xs ≤ xs.length ∧ sOk xs = true := by
  cases hs : sOk xs
  · exact absurd (s_none hs).2 h
  · have h1 := (s_some hs).2
    unfold sOk at hs
    simp only [Bool.and_eq_true, decide_eq_true_eq] at hs
    have h2 := (vreadN_bd xs).1
    have h3 : vreadK xs = lead xs + 1 := by unfold vreadK; rw [hs.1]; rfl
    refine ⟨by omega, by omega, rfl⟩

/-- the list's row is newer than w -/
def NewL (w wr : World) (b : Nat) : Prop := ∀ a n c, wr.cell? ⟨b, 1, none⟩ = some (.slice a n c) → ∀ g, (Value.slice a n c).ownBlock = some g → w.heap.size ≤ g
theorem grown_of_alloc {w w' : World} {o : Obj} {r : Option Nat} (h : (w.alloc o).grownBy w' r) : w.grownBy w' r := (World.grownBy_alloc w o r).trans h
/-- the list has one more -/
theorem RdAt.putList {w0 w w' : World} {b : Nat} {r : Rd} {ts ts2 : List ByteArray} {o : Obj} {aL : Option Addr} {nL cL : Nat} {a4 : Option Addr} {n4 c4 : Nat} (h : RdAt w0 w b r ts) (hne : (Value.slice aL nL cL).ownBlock ≠ some b)
    (hold : w.ownsRow w0.heap.size 9 1 (.slice aL nL cL) nL (ts.map Value.string)) (hnew : w'.ownsRow w0.heap.size 9 1 (.slice a4 n4 c4) n4 (ts2.map Value.string)) (hg : (w.alloc o).grownBy w' (Value.slice aL nL cL).ownBlock)
    (hat : (Value.slice a4 n4 c4).ownBlock = (Value.slice aL nL cL).ownBlock ∨ (Value.slice a4 n4 c4).ownBlock = some (w.alloc o).heap.size) : RdAt w0 (w'.setCell ⟨b, 1, none⟩ (.slice a4 n4 c4)) b r ts2 := by
  have ha := h.keep (below1 w o)
  obtain ⟨a, n, c, h1, h2, h3⟩ := ha.c0
  obtain ⟨a', n', c', g1, g2, g3⟩ := ha.c1
  have hlt := ha.lt
  have hne' : some b ≠ (Value.slice aL nL cL).ownBlock := Ne.symm hne
  have hne4 : (Value.slice a4 n4 c4).ownBlock ≠ some b := by
    rcases hat with e | e
    · rw [e]; exact hne
    · rw [e]
      intro e2
      simp only [Option.some.injEq] at e2
      omega
  have hlt' : b < w'.heap.size := Nat.lt_of_lt_of_le hlt hg.size
  have k0 := hg.cell (a := ⟨b, 0, none⟩) h1 hne'
  have k1 := hg.cell (a := ⟨b, 1, none⟩) g1 hne'
  have k2 := hg.cell (a := ⟨b, 2, none⟩) ha.c2 hne'
  have z0 := (hg.frozen_far ⟨b, 0, none⟩ hlt hne').trans ha.f0
  have z1 := (hg.frozen_far ⟨b, 1, none⟩ hlt hne').trans ha.f1
  have z2 := (hg.frozen_far ⟨b, 2, none⟩ hlt hne').trans ha.f2
  have hb : Below w0.heap.size w0 w' := ha.below.grown hg ha.below.size (fun k hk => (hold.lt k hk).1)
  exact ⟨by simpa using hlt', h.ge, below_setW hb h.ge, h.byte, ⟨a, n, c, set_oth (by decide) k0, h2, h3⟩, ⟨a4, n4, c4, set_at k1, row_kept hnew (grown_set _ _ _) hne4, hne4⟩, set_oth (by decide) k2, by rw [World.frozen?_setCell]; exact z0, by rw [World.frozen?_setCell]; exact z1, by rw [World.frozen?_setCell]; exact z2⟩

set_option maxRecDepth 100000 in
set_option maxHeartbeats 3200000 in
theorem strings_any (w0 : World) (b : Nat) (r : Rd) (w : World) (h : RdAt w0 w b r []) (hnil : w.cell? ⟨b, 1, none⟩ = some (.slice none 0 0)) (hl : r.xs.length ≤ 3000) :
    Calls Tryz.prog 42 #[.pointer (some ⟨b, 0, none⟩)] w fun e w' =>
      e = .returned (.tuple #[]) ∧ RdAt w0 w' b (rdS (r.xs.length + 1) (numV r) (numR r) []).1 (rdS (r.xs.length + 1) (numV r) (numR r) []).2 ∧ w.grownBy w' (some b) := by
  obtain ⟨i0, hi, hz0, hz1, hz2⟩ := info_parts strInfo
  have KN := Lib.hid (number_any w0 b r [] w h)
  unfold NumRes at KN
  have hbd := numV_bd r
  have hln : (numR r).xs.length ≤ r.xs.length := by
    unfold numR
    split
    · exact Nat.le_refl _
    · simp
  generalize numV r = v at KN hbd ⊢
  generalize numR r = r1 at KN hln ⊢
  generalize hF : rdS (r.xs.length + 1) v r1 [] = F
  have HF := Lib.hid hF
  have HLN := Lib.hid hln
  have HL := Lib.hid hl
  generalize r.xs.length = L at *
  clear hF h hln
  go_enter Tryz.func42, Tryz.ntmps42
  go_wp2_with fail
  refine KN.out.mono ?_
  rintro e w1 ⟨rfl, h1, hg1, hx1⟩
  have HNL : Hid (NewL w w1 b) := Lib.hid (by
    intro a n c hc g hg
    rw [hx1, hnil] at hc
    cases hc
    simp [Value.ownBlock] at hg)
  have H1 := Lib.hid h1
  have HG1 := Lib.hid hg1
  clear h1 hg1 hx1 hnil
  go_wp2
  go_loopw [2] (fun v wr => ∃ (f : Nat) (n : Int) (r' : Rd) (ts' : List ByteArray), v = .int .i64 n ∧ (0 ≤ n ∧ n ≤ 9223372036854775807) ∧ r'.xs.length < f ∧ Hid (rdS f n r' ts' = F) ∧ ts'.length + r'.xs.length ≤ L ∧ RdAt w0 wr b r' ts' ∧ w.grownBy wr (some b) ∧ NewL w wr b) (fun _ wr => lenAt wr b)
  case atStart => exact ⟨L + 1, v, r1, [], rfl, hbd, by have := HLN.out; omega, HF, by have := HLN.out; simp; omega, H1.out, HG1.out, HNL.out⟩
  case round =>
    obtain ⟨f, n, r', ts', rfl, hn, hf, HE, htl, hR, hG, hNL⟩ := hrel
    have HR := Lib.hid hR
    have HG := Lib.hid hG
    obtain ⟨a0, n0, c0, q0, hn0, hrow⟩ := hR.c0
    obtain ⟨aL, nL, cL, q1, hown, hne⟩ := hR.c1
    have hnew := hNL _ _ _ q1
    have HNW := Lib.hid hnew
    clear hnew hNL
    have q2 := hR.c2
    have f0 := hR.f0
    have f1 := hR.f1
    have f2 := hR.f2
    have hlt := hR.lt
    have HLA := Lib.hid (lenAt_is q0)
    clear hG
    by_cases hn1 : 0 < n
    · cases hbad : r'.bad
      · rw [hbad] at q2
        obtain ⟨f', rfl⟩ : ∃ f', f = f' + 1 := ⟨f - 1, by omega⟩
        have KT := Lib.hid (l2Text_any a0 n0 c0 r'.xs wr hn0 (hrow.below hR.below) hR.byte)
        unfold TextRes at KT
        have HB := Lib.hid hbad
        by_cases hs : ssz r'.xs = 0
        · have hF := HE.out
          rw [rdS_bad ⟨hn1, hbad⟩ hs] at hF
          have HF2 := Lib.hid hF
          rw [hs] at KT
          generalize stxt r'.xs = T at KT
          clear hR hrow hown hF hs hbad hn0
          go_wp2_with fail
          refine KT.out.mono ?_
          rintro e w2 ⟨rfl, hb2⟩
          have H2 := Lib.hid (HR.out.keep hb2)
          have HB2 := Lib.hid hb2
          have g2 := (hb2.cell (p := ⟨b, 2, none⟩) hlt).trans q2
          have e2 := H2.out.f2
          have hlt2 := H2.out.lt
          clear hb2 q0 q1 q2
          go_wp2
          rw [← HF2.out]
          exact bodyPost_ret (v := .tuple #[]) (by simp [results, Tryz.results42, go_sem]) rfl ⟨rfl, H2.out.setBad true, grown_trans' HG.out (grown_trans' (grown_below HB2.out) (grown_set _ _ _))⟩
        · obtain ⟨s1, s2, hok⟩ := ssz_bd hs
          have hF := HE.out
          rw [rdS_go ⟨hn1, hbad⟩ hs] at hF
          have HF2 := Lib.hid hF
          obtain ⟨k, hk⟩ : ∃ k : Nat, ssz r'.xs = k := ⟨(ssz r'.xs).toNat, by omega⟩
          rw [hk] at KT HF2 s1 s2
          rw [Int.toNat_natCast] at HF2
          have hvo : vreadOk r'.xs = true := by
            unfold sOk at hok
            rw [Bool.and_eq_true] at hok
            exact hok.1
          obtain ⟨rb, ro, rfl⟩ := row_some hrow hvo
          have hcap : n0 ≤ c0 ∧ c0 ≤ maxLen ∧ rb < w0.heap.size := by
            rcases hrow with ⟨hv, _⟩ | ⟨b', o', cap, hv, g1, g2, g3, g4⟩
            · cases hv
            · simp only [Value.slice.injEq, Option.some.injEq, Addr.mk.injEq] at hv
              obtain ⟨⟨rfl, rfl, _⟩, hn', rfl⟩ := hv
              exact ⟨by omega, g2, g3⟩
          obtain ⟨hnc, hcm, hrb⟩ := hcap
          have hkn : k ≤ n0 := by omega
          have hk1 : 1 ≤ k := by omega
          have HDR := Lib.hid (getD_drop hR.byte k)
          have HLD : Hid (n0 - k = (r'.xs.drop k).length) := Lib.hid (by rw [List.length_drop, hn0])
          have HPC : Hid (Row w0 .u8 (.slice (some ⟨rb, ro + k, none⟩) (n0 - k) (c0 - k)) (r'.xs.drop k)) := Lib.hid (by
            have := hrow.piece k (n0 - k) (by omega)
            rwa [List.take_of_length_le (by rw [List.length_drop]; omega)] at this)
          have HPE : Hid (c0 = k → Row w0 .u8 (.slice (some ⟨rb, ro, none⟩) 0 0) (r'.xs.drop k)) := Lib.hid (fun hc => by
            have hz : r'.xs.drop k = [] := List.drop_eq_nil_of_le (by omega)
            rw [hz]
            exact Row.empty (by decide) hrb)
          have hnL : nL ≤ 3000 := by have h1 := ownsS_length hown; have := HL.out; omega
          have HLL := Lib.hid (ownsS_length hown)
          have HTL : Hid ((ts' ++ [stxt r'.xs]).length + (r'.xs.drop k).length ≤ L) := Lib.hid (by rw [List.length_append, List.length_drop]; simp; omega)
          have hfl : (r'.xs.drop k).length < f' := by rw [List.length_drop]; omega
          have HFL := Lib.hid hfl
          have hcm2 := hcm
          unfold maxLen at hcm2
          have hn00 : n0 ≤ 3000 := by have := HL.out; omega
          have hk0 : ((k : Int) == 0) = false := by rw [beq_eq_false_iff_ne]; omega
          generalize stxt r'.xs = T at KT HF2 HTL
          generalize r'.xs.drop k = ys at *
          clear hR hrow hF hs hbad hn0 hok hvo s1 s2 hk hfl htl hf
          by_cases hkc : k < c0
          · go_wp2_with fail
            refine KT.out.mono ?_
            rintro e w2 ⟨rfl, hb2⟩
            have H2 := Lib.hid (HR.out.keep hb2)
            have HB2 := Lib.hid hb2
            have g0 := (hb2.cell (p := ⟨b, 0, none⟩) hlt).trans q0
            have g1 := (hb2.cell (p := ⟨b, 1, none⟩) hlt).trans q1
            have g2 := (hb2.cell (p := ⟨b, 2, none⟩) hlt).trans q2
            have e0 := H2.out.f0
            have e1 := H2.out.f1
            have hlt2 := H2.out.lt
            have H3 := Lib.hid (H2.out.setXs ys _ _ _ HDR.out HLD.out HPC.out)
            have HO2 := Lib.hid (row_kept (owns_below hown hb2) (grown_set w2 ⟨b, 0, none⟩ (.slice (some ⟨rb, ro + k, none⟩) (n0 - k) (c0 - k))) hne)
            clear hb2 q0 q1 q2
            go_wp2_with (at_builtin; refine wpList_append_own_at _ rfl _ _ 33 rfl w0.heap.size 9 i0 (.string ByteArray.empty) 1 16 Tryz.underlying33 hi hz0 hz1 hz2 rfl (by decide) _ nL _ rfl (HO2.out.alloc _) ⟨w2.heap.size, 0, none⟩ 1 1 [.string T] rfl rfl ?c1 ?c2 ?c3 ?c4 ?c5 ?_)
            case c1 => exact fun j u hj => by have := strCells1 (w2.setCell ⟨b, 0, none⟩ (.slice (some ⟨rb, ro + k, none⟩) (n0 - k) (c0 - k))) T j u hj; simpa using this
            case c2 => intro v hv; simp at hv; subst hv; rfl
            case c3 => unfold maxLen; omega
            case c4 => omega
            case c5 => have := H2.out.below.size; simp; omega
            intro v' w3 hown' hgrow _ hat
            obtain ⟨a4, c4, rfl⟩ := owns_slice hown'
            have hown' : w3.ownsRow w0.heap.size 9 1 (.slice a4 (nL + 1) c4) (nL + 1) ((ts' ++ [T]).map Value.string) := by rw [List.map_append]; exact hown'
            have H4 := Lib.hid (H3.out.putList hne HO2.out hown' hgrow (by simpa using hat))
            have h3s := hgrow.size
            simp at h3s
            have p1 := hgrow.cell (a := ⟨b, 1, none⟩) (v := .slice aL nL cL) (by go_simp) (Ne.symm hne)
            have pf := hgrow.frozen_far ⟨b, 1, none⟩ (by simp; omega) (Ne.symm hne)
            have pf1 : w3.frozen? ⟨b, 1, none⟩ = false := by rw [pf]; refine ((below1 _ _).frozen (by simpa using hlt2)).trans ?_; rw [World.frozen?_setCell]; exact e1
            have hlt3 : b < w3.heap.size := by omega
            have HG3 := Lib.hid (grown_trans' HG.out (grown_trans' (grown_below HB2.out) (grown_set w2 ⟨b, 0, none⟩ (.slice (some ⟨rb, ro + k, none⟩) (n0 - k) (c0 - k)))))
            have HLS : Hid (lenAt (w3.setCell ⟨b, 1, none⟩ (.slice a4 (nL + 1) c4)) b = (n0 - k)) := Lib.hid (by obtain ⟨x1, x2, x3, x4, x5, _⟩ := H4.out.c0; rw [lenAt_is x4, x5, ← HLD.out])
            have hws : w.heap.size ≤ w2.heap.size := Nat.le_trans HG.out.size HB2.out.size
            have HNL2 : Hid (NewL w (w3.setCell ⟨b, 1, none⟩ (.slice a4 (nL + 1) c4)) b) := Lib.hid (by
              intro a n c hc g hg
              rw [set_at p1] at hc
              cases hc
              rcases hat with e | e
              · exact HNW.out g (e ▸ hg)
              · rw [e] at hg
                simp at hg
                omega)
            have HGR := Lib.hid (grown_of_alloc hgrow)
            clear hown' hgrow hat pf
            go_wp2
            go_roundw
            case rel => exact ⟨f', n - 1, ⟨ys, false⟩, ts' ++ [T], by go_num, by omega, HFL.out, HF2, HTL.out, by have := H4.out; rwa [HB.out] at this, grown_trans' (grown_mix HG3.out HGR.out (fun g hg => HNW.out g hg)) (grown_set _ _ _), HNL2.out⟩
            case measure => rw [HLS.out, HLA.out]; omega
          · obtain rfl : c0 = k := by omega
            obtain rfl : n0 = c0 := by omega
            have HPE2 := Lib.hid (HPE.out rfl)
            have hnn : n0 - n0 = 0 := by omega
            rw [hnn] at HLD
            go_wp2_with fail
            refine KT.out.mono ?_
            rintro e w2 ⟨rfl, hb2⟩
            have H2 := Lib.hid (HR.out.keep hb2)
            have HB2 := Lib.hid hb2
            have g0 := (hb2.cell (p := ⟨b, 0, none⟩) hlt).trans q0
            have g1 := (hb2.cell (p := ⟨b, 1, none⟩) hlt).trans q1
            have g2 := (hb2.cell (p := ⟨b, 2, none⟩) hlt).trans q2
            have e0 := H2.out.f0
            have e1 := H2.out.f1
            have hlt2 := H2.out.lt
            have H3 := Lib.hid (H2.out.setXs ys _ _ _ HDR.out HLD.out HPE2.out)
            have HO2 := Lib.hid (row_kept (owns_below hown hb2) (grown_set w2 ⟨b, 0, none⟩ (.slice (some ⟨rb, ro, none⟩) 0 0)) hne)
            clear hb2 q0 q1 q2
            go_wp2_with (at_builtin; refine wpList_append_own_at _ rfl _ _ 33 rfl w0.heap.size 9 i0 (.string ByteArray.empty) 1 16 Tryz.underlying33 hi hz0 hz1 hz2 rfl (by decide) _ nL _ rfl (HO2.out.alloc _) ⟨w2.heap.size, 0, none⟩ 1 1 [.string T] rfl rfl ?c1 ?c2 ?c3 ?c4 ?c5 ?_)
            case c1 => exact fun j u hj => by have := strCells1 (w2.setCell ⟨b, 0, none⟩ (.slice (some ⟨rb, ro, none⟩) 0 0)) T j u hj; simpa using this
            case c2 => intro v hv; simp at hv; subst hv; rfl
            case c3 => unfold maxLen; omega
            case c4 => omega
            case c5 => have := H2.out.below.size; simp; omega
            intro v' w3 hown' hgrow _ hat
            obtain ⟨a4, c4, rfl⟩ := owns_slice hown'
            have hown' : w3.ownsRow w0.heap.size 9 1 (.slice a4 (nL + 1) c4) (nL + 1) ((ts' ++ [T]).map Value.string) := by rw [List.map_append]; exact hown'
            have H4 := Lib.hid (H3.out.putList hne HO2.out hown' hgrow (by simpa using hat))
            have h3s := hgrow.size
            simp at h3s
            have p1 := hgrow.cell (a := ⟨b, 1, none⟩) (v := .slice aL nL cL) (by go_simp) (Ne.symm hne)
            have pf := hgrow.frozen_far ⟨b, 1, none⟩ (by simp; omega) (Ne.symm hne)
            have pf1 : w3.frozen? ⟨b, 1, none⟩ = false := by rw [pf]; refine ((below1 _ _).frozen (by simpa using hlt2)).trans ?_; rw [World.frozen?_setCell]; exact e1
            have hlt3 : b < w3.heap.size := by omega
            have HG3 := Lib.hid (grown_trans' HG.out (grown_trans' (grown_below HB2.out) (grown_set w2 ⟨b, 0, none⟩ (.slice (some ⟨rb, ro, none⟩) 0 0))))
            have HLS : Hid (lenAt (w3.setCell ⟨b, 1, none⟩ (.slice a4 (nL + 1) c4)) b = (0)) := Lib.hid (by obtain ⟨x1, x2, x3, x4, x5, _⟩ := H4.out.c0; rw [lenAt_is x4, x5, ← HLD.out])
            have hws : w.heap.size ≤ w2.heap.size := Nat.le_trans HG.out.size HB2.out.size
            have HNL2 : Hid (NewL w (w3.setCell ⟨b, 1, none⟩ (.slice a4 (nL + 1) c4)) b) := Lib.hid (by
              intro a n c hc g hg
              rw [set_at p1] at hc
              cases hc
              rcases hat with e | e
              · exact HNW.out g (e ▸ hg)
              · rw [e] at hg
                simp at hg
                omega)
            have HGR := Lib.hid (grown_of_alloc hgrow)
            clear hown' hgrow hat pf
            go_wp2
            go_roundw
            case rel => exact ⟨f', n - 1, ⟨ys, false⟩, ts' ++ [T], by go_num, by omega, HFL.out, HF2, HTL.out, by have := H4.out; rwa [HB.out] at this, grown_trans' (grown_mix HG3.out HGR.out (fun g hg => HNW.out g hg)) (grown_set _ _ _), HNL2.out⟩
            case measure => rw [HLS.out, HLA.out]; omega
      · rw [hbad] at q2
        have hF := HE.out
        rw [rdS_stop (by rw [hbad]; simp)] at hF
        have HF2 := Lib.hid hF
        clear hR hrow hown hF hn0
        go_wp2
        go_end0
        rw [← HF2.out]
        exact ⟨rfl, HR.out, HG.out⟩
    · have hF := HE.out
      rw [rdS_stop (fun h => hn1 h.1)] at hF
      have HF2 := Lib.hid hF
      clear hR hrow hown hF hn0
      go_wp2
      go_end0
      rw [← HF2.out]
      exact ⟨rfl, HR.out, HG.out⟩
end Go.Proofs.YtbfjhjkllaceaaaGreatDoor

/- What a tree's items are, and how they lie in memory. -/
namespace Go.Proofs.YtbfjhjkllaceaaaGreatDoor
open Go.ChangeShapes Go.WideShapes Go.ChangeAt Go.RowKit
set_option linter.unusedVariables false

structure At where
  name : ByteArray
  value : ByteArray
structure It where
  depth : Int
  text : ByteArray
  space : ByteArray
  name : ByteArray
  attrs : List At
def dAt : At := ⟨ByteArray.empty, ByteArray.empty⟩
def dIt : It := ⟨0, ByteArray.empty, ByteArray.empty, ByteArray.empty, []⟩
theorem At.eq {x y : At} (h1 : x.name = y.name) (h2 : x.value = y.value) : x = y := by cases x; cases y; simp_all
theorem It.eq {x y : It} (h0 : x.depth = y.depth) (h1 : x.text = y.text) (h2 : x.space = y.space) (h3 : x.name = y.name) (h4 : x.attrs = y.attrs) : x = y := by cases x; cases y; simp_all

/-- a slice of attributes that reads as l -/
structure AtsAt (w : World) (a : Option Addr) (n c : Nat) (l : List At) : Prop where
  len : l.length = n
  max : n ≤ 9223372036854775807
  size : ∀ i, (l.getD i dAt).name.size ≤ 9223372036854775807 ∧ (l.getD i dAt).value.size ≤ 9223372036854775807
  row : n = 0 ∨ ∃ b o, a = some ⟨b, o, none⟩ ∧ b < w.heap.size ∧ ∀ i, i < n → w.cell? ⟨b, o + i * 2, none⟩ = some (.string (l.getD i dAt).name) ∧ w.cell? ⟨b, o + i * 2 + 1, none⟩ = some (.string (l.getD i dAt).value)
theorem AtsAt.below {w w' : World} {a : Option Addr} {n c : Nat} {l : List At} (h : AtsAt w a n c l) (hb : Below w.heap.size w w') : AtsAt w' a n c l := by
  refine ⟨h.len, h.max, h.size, ?_⟩
  rcases h.row with e | ⟨b, o, ha, hr, hc⟩
  · exact .inl e
  · exact .inr ⟨b, o, ha, Nat.lt_of_lt_of_le hr hb.size, fun i hi => ⟨(hb.cell (p := ⟨b, o + i * 2, none⟩) hr).trans (hc i hi).1, (hb.cell (p := ⟨b, o + i * 2 + 1, none⟩) hr).trans (hc i hi).2⟩⟩

/-- five cells that read as an item -/
structure ItAt (w : World) (b o : Nat) (x : It) : Prop where
  lt : b < w.heap.size
  wf : -9223372036854775808 ≤ x.depth ∧ x.depth ≤ 9223372036854775807
  size : x.text.size ≤ 9223372036854775807 ∧ x.space.size ≤ 9223372036854775807 ∧ x.name.size ≤ 9223372036854775807
  c0 : w.cell? ⟨b, o, none⟩ = some (.int .i64 x.depth)
  c1 : w.cell? ⟨b, o + 1, none⟩ = some (.string x.text)
  c2 : w.cell? ⟨b, o + 2, none⟩ = some (.string x.space)
  c3 : w.cell? ⟨b, o + 3, none⟩ = some (.string x.name)
  c4 : ∃ a n c, w.cell? ⟨b, o + 4, none⟩ = some (.slice a n c) ∧ AtsAt w a n c x.attrs
theorem ItAt.below {w w' : World} {b o : Nat} {x : It} (h : ItAt w b o x) (hb : Below w.heap.size w w') : ItAt w' b o x := by
  obtain ⟨a, n, c, h4, hat⟩ := h.c4
  exact ⟨Nat.lt_of_lt_of_le h.lt hb.size, h.wf, h.size, (hb.cell (by exact h.lt)).trans h.c0, (hb.cell (by exact h.lt)).trans h.c1, (hb.cell (by exact h.lt)).trans h.c2, (hb.cell (by exact h.lt)).trans h.c3, a, n, c, (hb.cell (by exact h.lt)).trans h4, hat.below hb⟩

/-- a slice of items that reads as l -/
structure ItsAt (w : World) (a : Option Addr) (n c : Nat) (l : List It) : Prop where
  len : l.length = n
  max : n ≤ 9223372036854775807
  row : n = 0 ∨ ∃ b o, a = some ⟨b, o, none⟩ ∧ ∀ i, i < n → ItAt w b (o + i * 5) (l.getD i dIt)
theorem ItsAt.below {w w' : World} {a : Option Addr} {n c : Nat} {l : List It} (h : ItsAt w a n c l) (hb : Below w.heap.size w w') : ItsAt w' a n c l := by
  refine ⟨h.len, h.max, ?_⟩
  rcases h.row with e | ⟨b, o, ha, hc⟩
  · exact .inl e
  · exact .inr ⟨b, o, ha, fun i hi => (hc i hi).below hb⟩

/-- what was measured is small -/
def SmallAt (x : At) : Prop := x.name.size ≤ 1048576 ∧ x.value.size ≤ 1048576
def SmallAts (l : List At) : Prop := l.length ≤ 1048576 ∧ ∀ i, i < l.length → SmallAt (l.getD i dAt)
def SmallIt (x : It) : Prop := (x.text.size ≤ 1048576 ∧ x.space.size ≤ 1048576 ∧ x.name.size ≤ 1048576) ∧ SmallAts x.attrs
def SmallIts (l : List It) : Prop := l.length ≤ 1048576 ∧ ∀ i, i < l.length → SmallIt (l.getD i dIt)
/-- some number is handed back, and only memory is made -/
def SzRes (P : Int → Prop) (w : World) (e : Ending) (w' : World) : Prop := ∃ r : Int, P r ∧ e = .returned (.int .i64 r) ∧ Below w.heap.size w w'
theorem SzRes.mk {P : Int → Prop} {w w' : World} {r : Int} (h : P r) (hb : Below w.heap.size w w') : SzRes P w (.returned (.int .i64 r)) w' := ⟨r, h, rfl, hb⟩
/-- some number is left, or fewer than none -/
def Left (left : Int) (P : Prop) (r : Int) : Prop := r = -1 ∨ (0 ≤ r ∧ r ≤ left ∧ P)
theorem Left.no {left : Int} {P : Prop} : Left left P (-1) := .inl rfl
theorem Left.yes {left r : Int} {P : Prop} (h1 : 0 ≤ r) (h2 : r ≤ left) (h : P) : Left left P r := .inr ⟨h1, h2, h⟩
theorem drew_more {w wr : World} (h : ∃ n, wr = w.drewN n) (m : Nat) : ∃ n, wr.drewN m = w.drewN n := by
  obtain ⟨n, rfl⟩ := h
  exact ⟨_, World.drewN_drewN _ _ _⟩
theorem find_at {α : Type} (l : List α) (d : α) (p : α → Bool) (k : Nat) (hk : k < l.length) (h0 : ∀ j, j < k → p (l.getD j d) = false) (h1 : p (l.getD k d) = true) : l.find? p = some (l.getD k d) := by
  induction l generalizing k with
  | nil => simp at hk
  | cons x r ih =>
    cases k with
    | zero =>
      have hx : p x = true := by simpa using h1
      simp [hx]
    | succ k =>
      have hx : p x = false := by simpa using h0 0 (by omega)
      rw [List.find?_cons, hx]
      simpa using ih k (by simpa using hk) (fun j hj => by simpa using h0 (j + 1) (by omega)) (by simpa using h1)
theorem find_no {α : Type} (l : List α) (d : α) (p : α → Bool) (h0 : ∀ j, j < l.length → p (l.getD j d) = false) : l.find? p = none := by
  rw [List.find?_eq_none]
  intro x hx
  obtain ⟨i, hi, rfl⟩ := List.getElem_of_mem hx
  have := h0 i hi
  rw [List.getD_eq_getElem?_getD, List.getElem?_eq_getElem hi] at this
  simpa using this
theorem ret_n {a b : Nat} (h : a = b) : Ending.returned (.int .i64 (a : Int)) = .returned (.int .i64 (b : Int)) := by rw [h]
end Go.Proofs.YtbfjhjkllaceaaaGreatDoor

/- markText. -/
namespace Go.Proofs.YtbfjhjkllaceaaaGreatDoor
open Go.ChangeShapes Go.WideShapes Go.ChangeAt Go.RowKit
set_option linter.unusedVariables false

/-- k's digits ahead of out -/
def digM (k : Nat) (out : ByteArray) : ByteArray := if h : k = 0 then out else digM (k / 10) (strOfNums [48 + (k : Int) % 10] ++ out)
termination_by k
decreasing_by omega
theorem digM_zero (out : ByteArray) : digM 0 out = out := by rw [digM]; rfl
theorem digM_pos {k : Nat} (h : 0 < k) (out : ByteArray) : digM k out = digM (k / 10) (strOfNums [48 + (k : Int) % 10] ++ out) := by rw [digM, dif_neg (by omega)]
/-- the text of a mark -/
def markT (k : Nat) : ByteArray := { data := #[109] } ++ digM k ByteArray.empty

set_option maxRecDepth 100000 in
set_option maxHeartbeats 1600000 in
theorem markText_any (k : Nat) (h0 : 0 < k) (h1 : k ≤ 1000000000000000000) (w : World) :
    Calls Tryz.prog 76 #[.int .i64 k] w fun e w' => e = .returned (.string (markT k)) ∧ Below w.heap.size w w' := by
  obtain ⟨D, hD⟩ : ∃ D, digM k ByteArray.empty = D := ⟨_, rfl⟩
  unfold markT
  rw [hD]
  have HD := Lib.hid hD
  clear hD
  have k1 : (0 : Int) < (k : Int) := by omega
  go_enter Tryz.func76, Tryz.ntmps76
  go_wp2
  go_loopw [0, 3] (fun v s wr => ∃ (j : Nat) (out : ByteArray), out.size + j ≤ k ∧ v = .int .i64 j ∧ s = .string out ∧ digM j out = D ∧ Below w.heap.size w wr) (fun v _ _ => (intOf v).toNat)
  case atStart => exact ⟨k, ByteArray.empty, by simp, rfl, rfl, HD.out, Below.refl _ _⟩
  case round =>
    obtain ⟨j, out, hj, rfl, rfl, hd, hb⟩ := hrel
    by_cases hj0 : 0 < j
    · have HD2 := Lib.hid ((digM_pos hj0 out).symm.trans hd)
      have HB := Lib.hid hb
      have r0 : (0 : Int) ≤ (j : Int) % 10 := by omega
      have r1 : (j : Int) % 10 < 10 := by omega
      have r2 : (0 : Int) ≤ (j : Int) / 10 := by omega
      have r3 : (j : Int) / 10 ≤ (j : Int) := by omega
      have hcv := fun (c : Int) => conv_row (P := Tryz.prog) (wr.alloc (.cells #[.int .u8 c] 5)) Tryz.underlying22 Tryz.underlying5 Tryz.underlying9 (a := some ⟨wr.heap.size, 0, none⟩) (n := 1) (c := 1) (xs := [c])
        (.inr ⟨wr.heap.size, 0, 1, rfl, by simp, by unfold maxLen; omega, by simp, fun i hi => match i, hi with | 0, _ => by simp⟩)
      have hsz : (strOfNums [48 + (j : Int) % 10]).size ≤ 1 := by rw [strOfNums_size]; simp
      clear hd hb
      go_wp2
      go_roundw
      case rel => exact ⟨j / 10, _, by rw [ByteArray.size_append]; omega, by go_num, rfl, HD2.out, HB.out.trans (((Below.refl _ _).alloc (Nat.le_refl _) _).mono HB.out.size)⟩
      case measure => simp [intOf]; omega
    · obtain rfl : j = 0 := by omega
      rw [digM_zero] at hd
      subst hd
      go_wp2
      go_ret
      exact ⟨rfl, hb⟩
theorem markText_succ (k : Nat) (h1 : k + 1 ≤ 1000000000000000000) (w : World) :
    Calls Tryz.prog 76 #[.int .i64 ((k : Int) + 1)] w fun e w' => e = .returned (.string (markT (k + 1))) ∧ Below w.heap.size w w' := by
  have h := markText_any (k + 1) (by omega) h1 w
  rwa [Int.natCast_add, Int.natCast_one] at h
theorem markText_at (k i : Nat) (h0 : 0 < k + i) (h1 : k + i ≤ 1000000000000000000) (w : World) :
    Calls Tryz.prog 76 #[.int .i64 ((k : Int) + (i : Int))] w fun e w' => e = .returned (.string (markT (k + i))) ∧ Below w.heap.size w w' := by
  have h := markText_any (k + i) h0 h1 w
  rwa [Int.natCast_add] at h
end Go.Proofs.YtbfjhjkllaceaaaGreatDoor

/- Rooms: cells of one's own, attributes and items laid into them. -/
namespace Go.Proofs.YtbfjhjkllaceaaaGreatDoor
open Go.ChangeShapes Go.WideShapes Go.ChangeAt Go.RowKit
set_option linter.unusedVariables false

theorem below3 (w : World) (o1 o2 o3 : Obj) : Below w.heap.size w (((w.alloc o1).alloc o2).alloc o3) := (((Below.refl _ _).alloc (Nat.le_refl _) _).alloc (by simp) _).alloc (by simp; omega) _

theorem attrInfo : (Tryz.prog.info? 73).map (fun i => (i.zero, i.size, i.bytes)) = some (some (.agg #[.string ByteArray.empty, .string ByteArray.empty]), 2, 32) := by kernel_rfl
theorem itemInfo : (Tryz.prog.info? 68).map (fun i => (i.zero, i.size, i.bytes)) = some (some (.agg #[.int .i64 0, .string ByteArray.empty, .string ByteArray.empty, .string ByteArray.empty, .slice none 0 0]), 5, 80) := by kernel_rfl
theorem below_made {w w1 : World} (h : w.grownBy w1 none) : Below w.heap.size w w1 := ⟨h.os, h.tape, h.output, h.size, fun i hi => h.block i hi (by simp)⟩

/-- a new slice of attributes is handed back -/
def AtsRes (w : World) (l : List At) (e : Ending) (w' : World) : Prop := ∃ a n c, e = .returned (.slice a n c) ∧ AtsAt w' a n c l ∧ (∀ x, a = some x → w.heap.size ≤ x.block) ∧ Below w.heap.size w w'

/-- m cells in block b, not frozen -/
def Room (w : World) (b m : Nat) : Prop := b < w.heap.size ∧ ∀ i, i < m → (∃ v, w.cell? ⟨b, i, none⟩ = some v) ∧ w.frozen? ⟨b, i, none⟩ = false
theorem Room.below {w w' : World} {b m : Nat} (h : Room w b m) (hb : Below w.heap.size w w') : Room w' b m :=
  ⟨Nat.lt_of_lt_of_le h.1 hb.size, fun i hi => ⟨(h.2 i hi).1.imp fun v hv => (hb.cell (p := ⟨b, i, none⟩) h.1).trans hv, (hb.frozen (p := ⟨b, i, none⟩) h.1).trans (h.2 i hi).2⟩⟩
theorem room_made {w : World} {base : Nat} {e : TypeId} {size n g cap : Nat} {xs : List Value} (h : w.ownsRow base e size (.slice (some ⟨g, 0, none⟩) n cap) n xs) : Room w g (n * size) := by
  refine ⟨(h.lt g rfl).2, fun i hi => ⟨?_, h.frozenAt i⟩⟩
  rw [h.cellAt i hi]
  have := h.1
  exact ⟨xs[i]'(by omega), List.getElem?_eq_getElem (by omega)⟩

theorem Room.set {w : World} {b m : Nat} (h : Room w b m) (p : Addr) (v : Value) : Room (w.setCell p v) b m :=
  ⟨by simpa using h.1, fun i hi => ⟨by obtain ⟨v', hv⟩ := (h.2 i hi).1; exact cell?_setCell_some hv, by rw [World.frozen?_setCell]; exact (h.2 i hi).2⟩⟩
theorem Room.put {w : World} {b m i : Nat} (h : Room w b m) (hi : i < m) (v : Value) : (w.setCell ⟨b, i, none⟩ v).cell? ⟨b, i, none⟩ = some v := by
  obtain ⟨u, hu⟩ := (h.2 i hi).1
  exact World.cell?_setCell_same _ _ _ hu
theorem set_off {w : World} {b i j : Nat} {v : Value} (h : i ≠ j) : (w.setCell ⟨b, i, none⟩ v).cell? ⟨b, j, none⟩ = w.cell? ⟨b, j, none⟩ := World.cell?_setCell_other _ _ _ _ (fun e => absurd (congrArg Addr.off e) h)
theorem ats_step {w : World} {B j n : Nat} {l : List At} {s t : ByteArray} (hr : Room w B (n * 2)) (hj : j < n) (hs : (l.getD j dAt).name = s) (ht : (l.getD j dAt).value = t)
    (hd : ∀ i, i < j → w.cell? ⟨B, i * 2, none⟩ = some (.string (l.getD i dAt).name) ∧ w.cell? ⟨B, i * 2 + 1, none⟩ = some (.string (l.getD i dAt).value)) :
    ∀ i, i < j + 1 → ((w.setCell ⟨B, j * 2, none⟩ (.string s)).setCell ⟨B, j * 2 + 1, none⟩ (.string t)).cell? ⟨B, i * 2, none⟩ = some (.string (l.getD i dAt).name) ∧ ((w.setCell ⟨B, j * 2, none⟩ (.string s)).setCell ⟨B, j * 2 + 1, none⟩ (.string t)).cell? ⟨B, i * 2 + 1, none⟩ = some (.string (l.getD i dAt).value) := by
  intro i hi
  rcases Nat.lt_or_ge i j with h | h
  · rw [set_off (by omega), set_off (by omega), set_off (by omega), set_off (by omega)]
    exact hd i h
  · obtain rfl : i = j := by omega
    rw [set_off (by omega), hr.put (by omega), hs, (hr.set _ _).put (by omega), ht]
    exact ⟨rfl, rfl⟩

/-- five cells that read as an item, its attributes in another block behind B -/
structure ItNew (w : World) (B o : Nat) (x : It) : Prop where
  lt : B < w.heap.size
  wf : -9223372036854775808 ≤ x.depth ∧ x.depth ≤ 9223372036854775807
  size : x.text.size ≤ 9223372036854775807 ∧ x.space.size ≤ 9223372036854775807 ∧ x.name.size ≤ 9223372036854775807
  c0 : w.cell? ⟨B, o, none⟩ = some (.int .i64 x.depth)
  c1 : w.cell? ⟨B, o + 1, none⟩ = some (.string x.text)
  c2 : w.cell? ⟨B, o + 2, none⟩ = some (.string x.space)
  c3 : w.cell? ⟨B, o + 3, none⟩ = some (.string x.name)
  c4 : ∃ a n c, w.cell? ⟨B, o + 4, none⟩ = some (.slice a n c) ∧ AtsAt w a n c x.attrs ∧ ∀ y, a = some y → B < y.block
theorem ItNew.it {w : World} {B o : Nat} {x : It} (h : ItNew w B o x) : ItAt w B o x := by
  obtain ⟨a, n, c, h4, hat, _⟩ := h.c4
  exact ⟨h.lt, h.wf, h.size, h.c0, h.c1, h.c2, h.c3, a, n, c, h4, hat⟩
theorem ItNew.below {w w' : World} {b o : Nat} {x : It} (h : ItNew w b o x) (hb : Below w.heap.size w w') : ItNew w' b o x := by
  obtain ⟨a, n, c, h4, hat, hs⟩ := h.c4
  exact ⟨Nat.lt_of_lt_of_le h.lt hb.size, h.wf, h.size, (hb.cell (by exact h.lt)).trans h.c0, (hb.cell (by exact h.lt)).trans h.c1, (hb.cell (by exact h.lt)).trans h.c2, (hb.cell (by exact h.lt)).trans h.c3, a, n, c, (hb.cell (by exact h.lt)).trans h4, hat.below hb, hs⟩
theorem AtsAt.set {w : World} {a : Option Addr} {n c : Nat} {l : List At} {B i : Nat} {v : Value} (h : AtsAt w a n c l) (hs : ∀ y, a = some y → B < y.block) : AtsAt (w.setCell ⟨B, i, none⟩ v) a n c l := by
  refine ⟨h.len, h.max, h.size, ?_⟩
  rcases h.row with e | ⟨b, o, ha, hr, hc⟩
  · exact .inl e
  · have hne := hs _ ha
    refine .inr ⟨b, o, ha, by simpa using hr, fun i hi => ⟨?_, ?_⟩⟩
    · rw [World.cell?_setCell_other _ _ _ _ (fun e => by simp only [Addr.mk.injEq] at e; simp only at hne; omega)]; exact (hc i hi).1
    · rw [World.cell?_setCell_other _ _ _ _ (fun e => by simp only [Addr.mk.injEq] at e; simp only at hne; omega)]; exact (hc i hi).2
theorem ItNew.set {w : World} {B o i : Nat} {x : It} {v : Value} (h : ItNew w B o x) (hi : i < o ∨ o + 5 ≤ i) : ItNew (w.setCell ⟨B, i, none⟩ v) B o x := by
  obtain ⟨a, n, c, h4, hat, hs⟩ := h.c4
  refine ⟨by simpa using h.lt, h.wf, h.size, ?_, ?_, ?_, ?_, a, n, c, ?_, hat.set hs, hs⟩
  · rw [set_off (by omega)]; exact h.c0
  · rw [set_off (by omega)]; exact h.c1
  · rw [set_off (by omega)]; exact h.c2
  · rw [set_off (by omega)]; exact h.c3
  · rw [set_off (by omega)]; exact h4

/-- an item by value is handed back, its attributes in new memory -/
def ItRes (w : World) (x : It) (e : Ending) (w' : World) : Prop := ∃ a n c, e = .returned (.agg #[.int .i64 x.depth, .string x.text, .string x.space, .string x.name, .slice a n c]) ∧ AtsAt w' a n c x.attrs ∧ (∀ y, a = some y → w.heap.size ≤ y.block) ∧ Below w.heap.size w w'

/-- a new slice of items is handed back -/
def ItsRes (w : World) (l : List It) (e : Ending) (w' : World) : Prop := ∃ a n c, e = .returned (.slice a n c) ∧ ItsAt w' a n c l ∧ Below w.heap.size w w'
theorem its_step {w : World} {B j n : Nat} {l : List It} {x : It} {a : Option Addr} {m c : Nat} (hr : Room w B (n * 5)) (hj : j < n) (hx : l.getD j dIt = x)
    (hwf : -9223372036854775808 ≤ x.depth ∧ x.depth ≤ 9223372036854775807) (hsz : x.text.size ≤ 9223372036854775807 ∧ x.space.size ≤ 9223372036854775807 ∧ x.name.size ≤ 9223372036854775807)
    (hat : AtsAt w a m c x.attrs) (hs : ∀ y, a = some y → B < y.block) (hd : ∀ i, i < j → ItNew w B (i * 5) (l.getD i dIt)) :
    ∀ i, i < j + 1 → ItNew (((((w.setCell ⟨B, j * 5, none⟩ (.int .i64 x.depth)).setCell ⟨B, j * 5 + 1, none⟩ (.string x.text)).setCell ⟨B, j * 5 + 2, none⟩ (.string x.space)).setCell ⟨B, j * 5 + 3, none⟩ (.string x.name)).setCell ⟨B, j * 5 + 4, none⟩ (.slice a m c)) B (i * 5) (l.getD i dIt) := by
  intro i hi
  rcases Nat.lt_or_ge i j with h | h
  · exact (((((hd i h).set (by omega)).set (by omega)).set (by omega)).set (by omega)).set (by omega)
  · obtain rfl : i = j := by omega
    rw [hx]
    have r1 := hr.set ⟨B, i * 5, none⟩ (.int .i64 x.depth)
    have r2 := r1.set ⟨B, i * 5 + 1, none⟩ (.string x.text)
    have r3 := r2.set ⟨B, i * 5 + 2, none⟩ (.string x.space)
    have r4 := r3.set ⟨B, i * 5 + 3, none⟩ (.string x.name)
    refine ⟨(r4.set _ _).1, hwf, hsz, ?_, ?_, ?_, ?_, a, m, c, ?_, ((((hat.set hs).set hs).set hs).set hs).set hs, hs⟩
    · rw [set_off (by omega), set_off (by omega), set_off (by omega), set_off (by omega)]
      exact hr.put (by omega) _
    · rw [set_off (by omega), set_off (by omega), set_off (by omega)]
      exact r1.put (by omega) _
    · rw [set_off (by omega), set_off (by omega)]
      exact r2.put (by omega) _
    · rw [set_off (by omega)]
      exact r3.put (by omega) _
    · exact r4.put (by omega) _

end Go.Proofs.YtbfjhjkllaceaaaGreatDoor
