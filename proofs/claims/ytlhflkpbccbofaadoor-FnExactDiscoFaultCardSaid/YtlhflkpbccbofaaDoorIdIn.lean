/- An identity that came in. -/
import Derived.Test.YtlhflkpbccbofaaDoorDis
import Derived.Deep.Slices
import Derived.ChangeSame
namespace Go.Proofs.YtlhflkpbccbofaaDoor
open Go.ChangeShapes Go.WideShapes Go.ChangeAt Go.RowKit Go.Deep
set_option linter.unusedVariables false

theorem cellsSt : Tryd.prog.cellsOf 9 = 1 := by kernel_rfl
theorem cellsIdent : Tryd.prog.cellsOf 35 = 4 := by kernel_rfl
section
variable {H : Type} {enc : TypeId × Value → H} {w : World} {base : Nat} {spare : Nat → Bool} {held : Bool}

set_option maxRecDepth 100000 in
/-- the cells of an identity that came in -/
theorem id_open {n : Nat} {cs : List Value} {x : DataW H × List MemPlace} (hl : cs.length = 4) (h : DataW.trod enc Tryd.prog w base spare held n 35 cs = some x) :
    ∃ p : Ident, cs = [.string p.cat, .string p.kind, .string p.lang, .string p.name] ∧ IdSize p := by
  obtain ⟨xs, m, _, _, _, hxl, hf⟩ := DataW.trod_struct Tryd.underlying35 h
  match cs, hl with
  | [c0, c1, c2, c3], _ =>
    match xs, hxl with
    | [y0, y1, y2, y3], _ =>
      obtain ⟨fd0, hfd, hty, hof⟩ : ∃ f, (Tryd.prog.fieldsOf 35)[0]? = some f ∧ f.type = 9 ∧ f.offset = 0 := ⟨_, rfl, rfl, rfl⟩
      have f0 := hf 0 _ hfd
      rw [hty, hof] at f0
      clear hfd hty hof
      obtain ⟨fd1, hfd, hty, hof⟩ : ∃ f, (Tryd.prog.fieldsOf 35)[1]? = some f ∧ f.type = 9 ∧ f.offset = 1 := ⟨_, rfl, rfl, rfl⟩
      have f1 := hf 1 _ hfd
      rw [hty, hof] at f1
      clear hfd hty hof
      obtain ⟨fd2, hfd, hty, hof⟩ : ∃ f, (Tryd.prog.fieldsOf 35)[2]? = some f ∧ f.type = 9 ∧ f.offset = 2 := ⟨_, rfl, rfl, rfl⟩
      have f2 := hf 2 _ hfd
      rw [hty, hof] at f2
      clear hfd hty hof
      obtain ⟨fd3, hfd, hty, hof⟩ : ∃ f, (Tryd.prog.fieldsOf 35)[3]? = some f ∧ f.type = 9 ∧ f.offset = 3 := ⟨_, rfl, rfl, rfl⟩
      have f3 := hf 3 _ hfd
      rw [hty, hof] at f3
      clear hfd hty hof
      simp only [cellsSt, List.drop_zero, List.take_succ_cons, List.take_zero, List.drop_succ_cons, List.getElem?_cons_zero, List.getElem?_cons_succ] at f0 f1 f2 f3
      obtain ⟨d0, hd0, _, z0⟩ := DataW.trod_string Tryd.underlying9 f0
      obtain rfl : c0 = .string d0 := by simpa using hd0
      obtain ⟨d1, hd1, _, z1⟩ := DataW.trod_string Tryd.underlying9 f1
      obtain rfl : c1 = .string d1 := by simpa using hd1
      obtain ⟨d2, hd2, _, z2⟩ := DataW.trod_string Tryd.underlying9 f2
      obtain rfl : c2 = .string d2 := by simpa using hd2
      obtain ⟨d3, hd3, _, z3⟩ := DataW.trod_string Tryd.underlying9 f3
      obtain rfl : c3 = .string d3 := by simpa using hd3
      unfold maxLen at z0 z1 z2 z3
      exact ⟨⟨d0, d1, d2, d3⟩, rfl, by show d0.size ≤ _; omega, by show d1.size ≤ _; omega, by show d2.size ≤ _; omega, by show d3.size ≤ _; omega⟩
end
end Go.Proofs.YtlhflkpbccbofaaDoor
