/- A presence that came in. -/
import Derived.Test.YtpafknmfacgccaaDoorPr
import Derived.Test.YtpafknmfacgccaaDoorIn
namespace Go.Proofs.YtpafknmfacgccaaDoor
open Go.ChangeShapes Go.WideShapes Go.ChangeAt Go.RowKit Go.Deep
set_option linter.unusedVariables false

theorem cellsIts : Tryd.prog.cellsOf 36 = 1 := by kernel_rfl
theorem cellsPr : Tryd.prog.cellsOf 38 = 7 := by kernel_rfl
section
variable {H : Type} {enc : TypeId × Value → H} {w : World} {base : Nat} {spare : Nat → Bool} {held : Bool}

set_option maxRecDepth 100000 in
/-- the cells of a presence that came in -/
theorem pr_open {n : Nat} {cs : List Value} {x : DataW H × List MemPlace} (hl : cs.length = 7) (h : DataW.trod enc Tryd.prog w base spare held n 38 cs = some x) :
    ∃ (p : Pr) (a : Option Addr) (k c : Nat), cs = [.int .i64 p.kind, .string p.sender, .string p.goal, .int .i64 p.shown, .string p.status, .int .i64 p.prio, .slice a k c] ∧ PrSize p ∧ ItsAt w a k c p.more := by
  obtain ⟨xs, m, _, _, _, hxl, hf⟩ := DataW.trod_struct Tryd.underlying38 h
  match cs, hl with
  | [c0, c1, c2, c3, c4, c5, c6], _ =>
    match xs, hxl with
    | [y0, y1, y2, y3, y4, y5, y6], _ =>
      obtain ⟨fd0, hfd, hty, hof⟩ : ∃ f, (Tryd.prog.fieldsOf 38)[0]? = some f ∧ f.type = 2 ∧ f.offset = 0 := ⟨_, rfl, rfl, rfl⟩
      have f0 := hf 0 _ hfd
      rw [hty, hof] at f0
      clear hfd hty hof
      obtain ⟨fd1, hfd, hty, hof⟩ : ∃ f, (Tryd.prog.fieldsOf 38)[1]? = some f ∧ f.type = 9 ∧ f.offset = 1 := ⟨_, rfl, rfl, rfl⟩
      have f1 := hf 1 _ hfd
      rw [hty, hof] at f1
      clear hfd hty hof
      obtain ⟨fd2, hfd, hty, hof⟩ : ∃ f, (Tryd.prog.fieldsOf 38)[2]? = some f ∧ f.type = 9 ∧ f.offset = 2 := ⟨_, rfl, rfl, rfl⟩
      have f2 := hf 2 _ hfd
      rw [hty, hof] at f2
      clear hfd hty hof
      obtain ⟨fd3, hfd, hty, hof⟩ : ∃ f, (Tryd.prog.fieldsOf 38)[3]? = some f ∧ f.type = 2 ∧ f.offset = 3 := ⟨_, rfl, rfl, rfl⟩
      have f3 := hf 3 _ hfd
      rw [hty, hof] at f3
      clear hfd hty hof
      obtain ⟨fd4, hfd, hty, hof⟩ : ∃ f, (Tryd.prog.fieldsOf 38)[4]? = some f ∧ f.type = 9 ∧ f.offset = 4 := ⟨_, rfl, rfl, rfl⟩
      have f4 := hf 4 _ hfd
      rw [hty, hof] at f4
      clear hfd hty hof
      obtain ⟨fd5, hfd, hty, hof⟩ : ∃ f, (Tryd.prog.fieldsOf 38)[5]? = some f ∧ f.type = 2 ∧ f.offset = 5 := ⟨_, rfl, rfl, rfl⟩
      have f5 := hf 5 _ hfd
      rw [hty, hof] at f5
      clear hfd hty hof
      obtain ⟨fd6, hfd, hty, hof⟩ : ∃ f, (Tryd.prog.fieldsOf 38)[6]? = some f ∧ f.type = 36 ∧ f.offset = 6 := ⟨_, rfl, rfl, rfl⟩
      have f6 := hf 6 _ hfd
      rw [hty, hof] at f6
      clear hfd hty hof
      simp only [cellsS, cellsI, cellsIts, List.drop_zero, List.take_succ_cons, List.take_zero, List.drop_succ_cons, List.getElem?_cons_zero, List.getElem?_cons_succ] at f0 f1 f2 f3 f4 f5 f6
      obtain ⟨d0, hd0, _, z0⟩ := DataW.trod_int Tryd.underlying2 f0
      obtain rfl : c0 = .int .i64 d0 := by simpa using hd0
      obtain ⟨d1, hd1, _, z1⟩ := DataW.trod_string Tryd.underlying9 f1
      obtain rfl : c1 = .string d1 := by simpa using hd1
      obtain ⟨d2, hd2, _, z2⟩ := DataW.trod_string Tryd.underlying9 f2
      obtain rfl : c2 = .string d2 := by simpa using hd2
      obtain ⟨d3, hd3, _, z3⟩ := DataW.trod_int Tryd.underlying2 f3
      obtain rfl : c3 = .int .i64 d3 := by simpa using hd3
      obtain ⟨d4, hd4, _, z4⟩ := DataW.trod_string Tryd.underlying9 f4
      obtain rfl : c4 = .string d4 := by simpa using hd4
      obtain ⟨d5, hd5, _, z5⟩ := DataW.trod_int Tryd.underlying2 f5
      obtain rfl : c5 = .int .i64 d5 := by simpa using hd5
      unfold maxLen at z1 z2 z4
      obtain ⟨a6, n6, k6, rfl⟩ : ∃ a n k, c6 = .slice a n k := by
        rcases open_slice Tryd.underlying36 f6 with ⟨hcs, _⟩ | ⟨a', len, cap, m, n', D, Pl, hcs, _⟩
        · exact ⟨none, 0, 0, by simpa using hcs⟩
        · exact ⟨some a', len, cap, by simpa using hcs⟩
      obtain ⟨l, hl⟩ := its_open f6
      exact ⟨⟨d0, d1, d2, d3, d4, d5, l⟩, a6, n6, k6, rfl, ⟨by show d1.size ≤ _; omega, by show d2.size ≤ _; omega, by show d4.size ≤ _; omega⟩, hl⟩
end
end Go.Proofs.YtpafknmfacgccaaDoor
