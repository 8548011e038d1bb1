/- Items that came in. -/
import Derived.Test.YtppgdbejbhhjlaaGreatDoorGF0
import Derived.Deep.Slices
import Derived.ChangeSame
import Derived.Test.YtppgdbejbhhjlaaGreatDoorGF1
namespace Go.Proofs.YtppgdbejbhhjlaaGreatDoor
open Go.ChangeShapes Go.WideShapes Go.ChangeAt Go.RowKit Go.Deep
set_option linter.unusedVariables false

instance : Inhabited At := ⟨dAt⟩
instance : Inhabited It := ⟨dIt⟩
theorem cellsS : Tryz.prog.cellsOf 9 = 1 := by kernel_rfl
theorem cellsI : Tryz.prog.cellsOf 2 = 1 := by kernel_rfl
theorem cellsA : Tryz.prog.cellsOf 220 = 2 := by kernel_rfl
theorem cellsAs : Tryz.prog.cellsOf 110 = 1 := by kernel_rfl
theorem cellsIt : Tryz.prog.cellsOf 112 = 5 := by kernel_rfl

section
variable {H : Type} {enc : TypeId × Value → H} {w : World} {base : Nat} {spare : Nat → Bool} {held : Bool}

set_option maxRecDepth 100000 in
theorem at_open {n : Nat} {cs : List Value} {x : DataW H × List MemPlace} {a : Addr} (hc : w.cells? base a 2 = some cs) (h : DataW.trod enc Tryz.prog w base spare held n 220 cs = some x) :
    ∃ y : At, (y.name.size ≤ 9223372036854775807 ∧ y.value.size ≤ 9223372036854775807) ∧ w.cell? a = some (.string y.name) ∧ w.cell? (a.add 1) = some (.string y.value) := by
  obtain ⟨_, hl, hcell⟩ := World.cells?_some hc
  obtain ⟨xs, m, _, _, _, hxl, hf⟩ := DataW.trod_struct Tryz.underlying220 h
  match cs, hl with
  | [c0, c1], _ =>
    match xs, hxl with
    | [y0, y1], _ =>
      obtain ⟨fd0, hfd, hty, hof⟩ : ∃ f, (Tryz.prog.fieldsOf 220)[0]? = some f ∧ f.type = 9 ∧ f.offset = 0 := ⟨_, rfl, rfl, rfl⟩
      have f0 := hf 0 _ hfd
      rw [hty, hof] at f0
      clear hfd hty hof
      obtain ⟨fd1, hfd, hty, hof⟩ : ∃ f, (Tryz.prog.fieldsOf 220)[1]? = some f ∧ f.type = 9 ∧ f.offset = 1 := ⟨_, rfl, rfl, rfl⟩
      have f1 := hf 1 _ hfd
      rw [hty, hof] at f1
      clear hfd hty hof
      simp only [cellsS, List.drop_zero, List.take_succ_cons, List.take_zero, List.drop_succ_cons, List.getElem?_cons_zero, List.getElem?_cons_succ] at f0 f1
      obtain ⟨s, hs, _, z0⟩ := DataW.trod_string Tryz.underlying9 f0
      obtain ⟨t, ht, _, z1⟩ := DataW.trod_string Tryz.underlying9 f1
      obtain rfl : c0 = .string s := by simpa using hs
      obtain rfl : c1 = .string t := by simpa using ht
      unfold maxLen at z0 z1
      exact ⟨⟨s, t⟩, ⟨by omega, by omega⟩, by simpa [Addr.add] using hcell 0 (by omega), by simpa using hcell 1 (by omega)⟩

theorem ats_open {n : Nat} {v : Value} {x : DataW H × List MemPlace} (h : DataW.trod enc Tryz.prog w base spare held n 110 [v] = some x) :
    ∃ a n c l, v = .slice a n c ∧ AtsAt w a n c l := by
  rcases open_slice Tryz.underlying110 h with ⟨hcs, _⟩ | ⟨a, len, cap, m, n', D, Pl, hcs, hb, hl, hm, hmm, hx, hi⟩
  · obtain rfl : v = .slice none 0 0 := by simpa using hcs
    exact ⟨none, 0, 0, [], rfl, rfl, by omega, fun i => by simp [dAt], .inl rfl⟩
  · obtain rfl : v = .slice (some a) len cap := by simpa using hcs
    unfold maxLen at hm
    have hlm : len ≤ m := by rw [hmm]; split <;> omega
    obtain ⟨f, hf⟩ := choose_lt (n := len) (p := fun i (y : At) => (y.name.size ≤ 9223372036854775807 ∧ y.value.size ≤ 9223372036854775807) ∧ w.cell? (a.add (i * 2)) = some (.string y.name) ∧ w.cell? ((a.add (i * 2)).add 1) = some (.string y.value)) fun i hi2 => by
      obtain ⟨cs', h1, h2⟩ := hi i (by omega)
      rw [cellsA] at h1
      exact at_open h1 h2
    have hg : ∀ i, i < len → ((List.range len).map f).getD i dAt = f i := fun i hi => by simp [List.getD_eq_getElem?_getD, hi]
    refine ⟨_, _, _, (List.range len).map f, rfl, by simp, by omega, fun i => ?_, ?_⟩
    · by_cases hi2 : i < len
      · rw [hg i hi2]; exact (hf i hi2).1
      · rw [List.getD_eq_getElem?_getD, List.getElem?_eq_none (by simp; omega)]; simp [dAt]
    · by_cases h0 : len = 0
      · exact .inl h0
      · obtain ⟨b, o, s⟩ := a
        have hc := (hf 0 (by omega)).2.1
        have hs : s = none := by simpa [Addr.add] using World.cell?_spot hc
        subst hs
        refine .inr ⟨b, o, rfl, by simpa [Addr.add] using World.block_lt_of_cell? w _ hc, fun i hi2 => ?_⟩
        have := (hf i hi2).2
        rw [Addr.add_lit, Addr.add_lit] at this
        rw [hg i hi2]
        exact this

set_option maxRecDepth 100000 in
theorem it_open {n : Nat} {cs : List Value} {x : DataW H × List MemPlace} {b o : Nat} (hc : w.cells? base ⟨b, o, none⟩ 5 = some cs) (h : DataW.trod enc Tryz.prog w base spare held n 112 cs = some x) :
    ∃ y : It, ItAt w b o y := by
  obtain ⟨_, hl, hcell⟩ := World.cells?_some hc
  obtain ⟨xs, m, _, _, _, hxl, hf⟩ := DataW.trod_struct Tryz.underlying112 h
  match cs, hl with
  | [c0, c1, c2, c3, c4], _ =>
    match xs, hxl with
    | [y0, y1, y2, y3, y4], _ =>
      obtain ⟨fd0, hfd, hty, hof⟩ : ∃ f, (Tryz.prog.fieldsOf 112)[0]? = some f ∧ f.type = 2 ∧ f.offset = 0 := ⟨_, rfl, rfl, rfl⟩
      have f0 := hf 0 _ hfd
      rw [hty, hof] at f0
      clear hfd hty hof
      obtain ⟨fd1, hfd, hty, hof⟩ : ∃ f, (Tryz.prog.fieldsOf 112)[1]? = some f ∧ f.type = 9 ∧ f.offset = 1 := ⟨_, rfl, rfl, rfl⟩
      have f1 := hf 1 _ hfd
      rw [hty, hof] at f1
      clear hfd hty hof
      obtain ⟨fd2, hfd, hty, hof⟩ : ∃ f, (Tryz.prog.fieldsOf 112)[2]? = some f ∧ f.type = 9 ∧ f.offset = 2 := ⟨_, rfl, rfl, rfl⟩
      have f2 := hf 2 _ hfd
      rw [hty, hof] at f2
      clear hfd hty hof
      obtain ⟨fd3, hfd, hty, hof⟩ : ∃ f, (Tryz.prog.fieldsOf 112)[3]? = some f ∧ f.type = 9 ∧ f.offset = 3 := ⟨_, rfl, rfl, rfl⟩
      have f3 := hf 3 _ hfd
      rw [hty, hof] at f3
      clear hfd hty hof
      obtain ⟨fd4, hfd, hty, hof⟩ : ∃ f, (Tryz.prog.fieldsOf 112)[4]? = some f ∧ f.type = 110 ∧ f.offset = 4 := ⟨_, rfl, rfl, rfl⟩
      have f4 := hf 4 _ hfd
      rw [hty, hof] at f4
      clear hfd hty hof
      simp only [cellsS, cellsI, cellsAs, List.drop_zero, List.take_succ_cons, List.take_zero, List.drop_succ_cons, List.getElem?_cons_zero, List.getElem?_cons_succ] at f0 f1 f2 f3 f4
      obtain ⟨d, hd, _, z0⟩ := DataW.trod_int Tryz.underlying2 f0
      obtain ⟨s, hs, _, z1⟩ := DataW.trod_string Tryz.underlying9 f1
      obtain ⟨t, ht, _, z2⟩ := DataW.trod_string Tryz.underlying9 f2
      obtain ⟨u, hu, _, z3⟩ := DataW.trod_string Tryz.underlying9 f3
      obtain ⟨a4, n4, k4, l4, rfl, h4⟩ := ats_open f4
      obtain rfl : c0 = .int .i64 d := by simpa using hd
      obtain rfl : c1 = .string s := by simpa using hs
      obtain rfl : c2 = .string t := by simpa using ht
      obtain rfl : c3 = .string u := by simpa using hu
      unfold maxLen at z1 z2 z3
      simp only [Lit.wf, Bool.and_eq_true, decide_eq_true_eq] at z0
      have g0 : w.cell? ⟨b, o, none⟩ = some (.int .i64 d) := by simpa [Addr.add] using hcell 0 (by omega)
      have g1 : w.cell? ⟨b, o + 1, none⟩ = some (.string s) := by simpa [Addr.add] using hcell 1 (by omega)
      have g2 : w.cell? ⟨b, o + 2, none⟩ = some (.string t) := by simpa [Addr.add] using hcell 2 (by omega)
      have g3 : w.cell? ⟨b, o + 3, none⟩ = some (.string u) := by simpa [Addr.add] using hcell 3 (by omega)
      have g4 : w.cell? ⟨b, o + 4, none⟩ = some (.slice a4 n4 k4) := by simpa [Addr.add] using hcell 4 (by omega)
      exact ⟨⟨d, s, t, u, l4⟩, World.block_lt_of_cell? w _ g0, z0, ⟨by show s.size ≤ _; omega, by show t.size ≤ _; omega, by show u.size ≤ _; omega⟩, g0, g1, g2, g3, _, _, _, g4, h4⟩

set_option maxRecDepth 100000 in
/-- a slice of items that came in reads as some items -/
theorem its_open {n : Nat} {a : Option Addr} {k c : Nat} {x : DataW H × List MemPlace} (h : DataW.trod enc Tryz.prog w base spare held n 50 [.slice a k c] = some x) : ∃ l, ItsAt w a k c l := by
  rcases open_slice Tryz.underlying50 h with ⟨hcs, _⟩ | ⟨a', len, cap, m, n', D, Pl, hcs, hb, hl, hm, hmm, hx, hi⟩
  · simp at hcs
    obtain ⟨rfl, rfl, rfl⟩ := hcs
    exact ⟨[], rfl, by omega, .inl rfl⟩
  · simp at hcs
    obtain ⟨rfl, rfl, rfl⟩ := hcs
    unfold maxLen at hm
    have hlm : k ≤ m := by rw [hmm]; split <;> omega
    by_cases h0 : k = 0
    · subst h0
      exact ⟨[], rfl, by omega, .inl rfl⟩
    · obtain ⟨b, o, s⟩ := a'
      obtain ⟨cs0, h1, _⟩ := hi 0 (by omega)
      rw [cellsIt] at h1
      obtain ⟨_, _, hcell⟩ := World.cells?_some h1
      have hc := hcell 0 (by omega)
      rw [show ((Addr.mk b o s).add (0 * 5)).add 0 = ⟨b, o, s⟩ by simp [Addr.add]] at hc
      have hs : s = none := by
        have hl0 := (World.cells?_some h1).2.1
        rw [List.getElem?_eq_getElem (by omega)] at hc
        simpa using World.cell?_spot hc
      subst hs
      obtain ⟨f, hf⟩ := choose_lt (n := k) (p := fun i (y : It) => ItAt w b (o + i * 5) y) fun i hi2 => by
        obtain ⟨cs', h1, h2⟩ := hi i (by omega)
        rw [cellsIt, Addr.add_lit] at h1
        exact it_open h1 h2
      have hg : ∀ i, i < k → ((List.range k).map f).getD i dIt = f i := fun i hi => by simp [List.getD_eq_getElem?_getD, hi]
      exact ⟨(List.range k).map f, by simp, by omega, .inr ⟨b, o, rfl, fun i hi2 => by rw [hg i hi2]; exact hf i hi2⟩⟩
end
end Go.Proofs.YtppgdbejbhhjlaaGreatDoor

/- A presence that came in. -/
namespace Go.Proofs.YtppgdbejbhhjlaaGreatDoor
open Go.ChangeShapes Go.WideShapes Go.ChangeAt Go.RowKit Go.Deep
set_option linter.unusedVariables false

theorem cellsIts : Tryz.prog.cellsOf 50 = 1 := by kernel_rfl
theorem cellsPr : Tryz.prog.cellsOf 58 = 7 := by kernel_rfl
section
variable {H : Type} {enc : TypeId × Value → H} {w : World} {base : Nat} {spare : Nat → Bool} {held : Bool}

set_option maxRecDepth 100000 in
/-- the cells of a presence that came in -/
theorem pr_open {n : Nat} {cs : List Value} {x : DataW H × List MemPlace} (hl : cs.length = 7) (h : DataW.trod enc Tryz.prog w base spare held n 58 cs = some x) :
    ∃ (p : Pr) (a : Option Addr) (k c : Nat), cs = [.int .i64 p.kind, .string p.sender, .string p.goal, .int .i64 p.shown, .string p.status, .int .i64 p.prio, .slice a k c] ∧ PrSize p ∧ ItsAt w a k c p.more := by
  obtain ⟨xs, m, _, _, _, hxl, hf⟩ := DataW.trod_struct Tryz.underlying58 h
  match cs, hl with
  | [c0, c1, c2, c3, c4, c5, c6], _ =>
    match xs, hxl with
    | [y0, y1, y2, y3, y4, y5, y6], _ =>
      obtain ⟨fd0, hfd, hty, hof⟩ : ∃ f, (Tryz.prog.fieldsOf 58)[0]? = some f ∧ f.type = 2 ∧ f.offset = 0 := ⟨_, rfl, rfl, rfl⟩
      have f0 := hf 0 _ hfd
      rw [hty, hof] at f0
      clear hfd hty hof
      obtain ⟨fd1, hfd, hty, hof⟩ : ∃ f, (Tryz.prog.fieldsOf 58)[1]? = some f ∧ f.type = 9 ∧ f.offset = 1 := ⟨_, rfl, rfl, rfl⟩
      have f1 := hf 1 _ hfd
      rw [hty, hof] at f1
      clear hfd hty hof
      obtain ⟨fd2, hfd, hty, hof⟩ : ∃ f, (Tryz.prog.fieldsOf 58)[2]? = some f ∧ f.type = 9 ∧ f.offset = 2 := ⟨_, rfl, rfl, rfl⟩
      have f2 := hf 2 _ hfd
      rw [hty, hof] at f2
      clear hfd hty hof
      obtain ⟨fd3, hfd, hty, hof⟩ : ∃ f, (Tryz.prog.fieldsOf 58)[3]? = some f ∧ f.type = 2 ∧ f.offset = 3 := ⟨_, rfl, rfl, rfl⟩
      have f3 := hf 3 _ hfd
      rw [hty, hof] at f3
      clear hfd hty hof
      obtain ⟨fd4, hfd, hty, hof⟩ : ∃ f, (Tryz.prog.fieldsOf 58)[4]? = some f ∧ f.type = 9 ∧ f.offset = 4 := ⟨_, rfl, rfl, rfl⟩
      have f4 := hf 4 _ hfd
      rw [hty, hof] at f4
      clear hfd hty hof
      obtain ⟨fd5, hfd, hty, hof⟩ : ∃ f, (Tryz.prog.fieldsOf 58)[5]? = some f ∧ f.type = 2 ∧ f.offset = 5 := ⟨_, rfl, rfl, rfl⟩
      have f5 := hf 5 _ hfd
      rw [hty, hof] at f5
      clear hfd hty hof
      obtain ⟨fd6, hfd, hty, hof⟩ : ∃ f, (Tryz.prog.fieldsOf 58)[6]? = some f ∧ f.type = 50 ∧ f.offset = 6 := ⟨_, rfl, rfl, rfl⟩
      have f6 := hf 6 _ hfd
      rw [hty, hof] at f6
      clear hfd hty hof
      simp only [cellsS, cellsI, cellsIts, List.drop_zero, List.take_succ_cons, List.take_zero, List.drop_succ_cons, List.getElem?_cons_zero, List.getElem?_cons_succ] at f0 f1 f2 f3 f4 f5 f6
      obtain ⟨d0, hd0, _, z0⟩ := DataW.trod_int Tryz.underlying2 f0
      obtain rfl : c0 = .int .i64 d0 := by simpa using hd0
      obtain ⟨d1, hd1, _, z1⟩ := DataW.trod_string Tryz.underlying9 f1
      obtain rfl : c1 = .string d1 := by simpa using hd1
      obtain ⟨d2, hd2, _, z2⟩ := DataW.trod_string Tryz.underlying9 f2
      obtain rfl : c2 = .string d2 := by simpa using hd2
      obtain ⟨d3, hd3, _, z3⟩ := DataW.trod_int Tryz.underlying2 f3
      obtain rfl : c3 = .int .i64 d3 := by simpa using hd3
      obtain ⟨d4, hd4, _, z4⟩ := DataW.trod_string Tryz.underlying9 f4
      obtain rfl : c4 = .string d4 := by simpa using hd4
      obtain ⟨d5, hd5, _, z5⟩ := DataW.trod_int Tryz.underlying2 f5
      obtain rfl : c5 = .int .i64 d5 := by simpa using hd5
      unfold maxLen at z1 z2 z4
      obtain ⟨a6, n6, k6, rfl⟩ : ∃ a n k, c6 = .slice a n k := by
        rcases open_slice Tryz.underlying50 f6 with ⟨hcs, _⟩ | ⟨a', len, cap, m, n', D, Pl, hcs, _⟩
        · exact ⟨none, 0, 0, by simpa using hcs⟩
        · exact ⟨some a', len, cap, by simpa using hcs⟩
      obtain ⟨l, hl⟩ := its_open f6
      exact ⟨⟨d0, d1, d2, d3, d4, d5, l⟩, a6, n6, k6, rfl, ⟨by show d1.size ≤ _; omega, by show d2.size ≤ _; omega, by show d4.size ≤ _; omega⟩, hl⟩
end
end Go.Proofs.YtppgdbejbhhjlaaGreatDoor
