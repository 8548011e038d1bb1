/- An identity that came in. -/
import Derived.Test.YtmmicoiiklcakaaDoorGK4
import Derived.Deep.Slices
import Derived.ChangeSame
namespace Go.Proofs.YtmmicoiiklcakaaDoor
open Go.ChangeShapes Go.WideShapes Go.ChangeAt Go.RowKit Go.Deep
set_option linter.unusedVariables false

theorem cellsSt : Tryd.prog.cellsOf 9 = 1 := by kernel_rfl
theorem cellsIdent : Tryd.prog.cellsOf 53 = 4 := by kernel_rfl
section
variable {H : Type} {enc : TypeId × Value → H} {w : World} {base : Nat} {spare : Nat → Bool} {held : Bool}

set_option maxRecDepth 100000 in
/-- the cells of an identity that came in -/
theorem id_open {n : Nat} {cs : List Value} {x : DataW H × List MemPlace} (hl : cs.length = 4) (h : DataW.trod enc Tryd.prog w base spare held n 53 cs = some x) :
    ∃ p : Ident, cs = [.string p.cat, .string p.kind, .string p.lang, .string p.name] ∧ IdSize p := by
  obtain ⟨xs, m, _, _, _, hxl, hf⟩ := DataW.trod_struct Tryd.underlying53 h
  match cs, hl with
  | [c0, c1, c2, c3], _ =>
    match xs, hxl with
    | [y0, y1, y2, y3], _ =>
      obtain ⟨fd0, hfd, hty, hof⟩ : ∃ f, (Tryd.prog.fieldsOf 53)[0]? = some f ∧ f.type = 9 ∧ f.offset = 0 := ⟨_, rfl, rfl, rfl⟩
      have f0 := hf 0 _ hfd
      rw [hty, hof] at f0
      clear hfd hty hof
      obtain ⟨fd1, hfd, hty, hof⟩ : ∃ f, (Tryd.prog.fieldsOf 53)[1]? = some f ∧ f.type = 9 ∧ f.offset = 1 := ⟨_, rfl, rfl, rfl⟩
      have f1 := hf 1 _ hfd
      rw [hty, hof] at f1
      clear hfd hty hof
      obtain ⟨fd2, hfd, hty, hof⟩ : ∃ f, (Tryd.prog.fieldsOf 53)[2]? = some f ∧ f.type = 9 ∧ f.offset = 2 := ⟨_, rfl, rfl, rfl⟩
      have f2 := hf 2 _ hfd
      rw [hty, hof] at f2
      clear hfd hty hof
      obtain ⟨fd3, hfd, hty, hof⟩ : ∃ f, (Tryd.prog.fieldsOf 53)[3]? = some f ∧ f.type = 9 ∧ f.offset = 3 := ⟨_, rfl, rfl, rfl⟩
      have f3 := hf 3 _ hfd
      rw [hty, hof] at f3
      clear hfd hty hof
      simp only [cellsSt, List.drop_zero, List.take_succ_cons, List.take_zero, List.drop_succ_cons, List.getElem?_cons_zero, List.getElem?_cons_succ] at f0 f1 f2 f3
      obtain ⟨d0, hd0, _, z0⟩ := DataW.trod_string Tryd.underlying9 f0
      obtain rfl : c0 = .string d0 := by simpa using hd0
      obtain ⟨d1, hd1, _, z1⟩ := DataW.trod_string Tryd.underlying9 f1
      obtain rfl : c1 = .string d1 := by simpa using hd1
      obtain ⟨d2, hd2, _, z2⟩ := DataW.trod_string Tryd.underlying9 f2
      obtain rfl : c2 = .string d2 := by simpa using hd2
      obtain ⟨d3, hd3, _, z3⟩ := DataW.trod_string Tryd.underlying9 f3
      obtain rfl : c3 = .string d3 := by simpa using hd3
      unfold maxLen at z0 z1 z2 z3
      exact ⟨⟨d0, d1, d2, d3⟩, rfl, by show d0.size ≤ _; omega, by show d1.size ≤ _; omega, by show d2.size ≤ _; omega, by show d3.size ≤ _; omega⟩
end
end Go.Proofs.YtmmicoiiklcakaaDoor

/- A disco that came in. -/
namespace Go.Proofs.YtmmicoiiklcakaaDoor
open Go.ChangeShapes Go.WideShapes Go.ChangeAt Go.RowKit Go.Deep
set_option linter.unusedVariables false

instance : Inhabited Ident := ⟨dId⟩
theorem cellsIds : Tryd.prog.cellsOf 22 = 1 := by kernel_rfl
theorem cellsSts : Tryd.prog.cellsOf 23 = 1 := by kernel_rfl
theorem cellsDis : Tryd.prog.cellsOf 25 = 2 := by kernel_rfl
section
variable {H : Type} {enc : TypeId × Value → H} {w : World} {base : Nat} {spare : Nat → Bool} {held : Bool}

set_option maxRecDepth 100000 in
theorem id_at {n : Nat} {cs : List Value} {x : DataW H × List MemPlace} {b o : Nat} (hc : w.cells? base ⟨b, o, none⟩ 4 = some cs) (h : DataW.trod enc Tryd.prog w base spare held n 53 cs = some x) :
    ∃ y : Ident, IdSize y ∧ IdAt w b o y := by
  obtain ⟨_, hl, hcell⟩ := World.cells?_some hc
  obtain ⟨y, rfl, hs⟩ := id_open hl h
  have g0 : w.cell? ⟨b, o, none⟩ = some (.string y.cat) := by simpa [Addr.add] using hcell 0 (by omega)
  have g1 : w.cell? ⟨b, o + 1, none⟩ = some (.string y.kind) := by simpa [Addr.add] using hcell 1 (by omega)
  have g2 : w.cell? ⟨b, o + 2, none⟩ = some (.string y.lang) := by simpa [Addr.add] using hcell 2 (by omega)
  have g3 : w.cell? ⟨b, o + 3, none⟩ = some (.string y.name) := by simpa [Addr.add] using hcell 3 (by omega)
  exact ⟨y, hs, World.block_lt_of_cell? w _ g0, g0, g1, g2, g3⟩

set_option maxRecDepth 100000 in
theorem ids_open {n : Nat} {v : Value} {x : DataW H × List MemPlace} (h : DataW.trod enc Tryd.prog w base spare held n 22 [v] = some x) :
    ∃ a n c l, v = .slice a n c ∧ IdsSize l ∧ IdsAt w a n c l := by
  rcases open_slice Tryd.underlying22 h with ⟨hcs, _⟩ | ⟨a', k, c, m, n', D, Pl, hcs, hb, hl, hm, hmm, hx, hi⟩
  · obtain rfl : v = .slice none 0 0 := by simpa using hcs
    exact ⟨none, 0, 0, [], rfl, fun i => by simp [IdSize, dId], rfl, by omega, .inl rfl⟩
  · obtain rfl : v = .slice (some a') k c := by simpa using hcs
    unfold maxLen at hm
    have hlm : k ≤ m := by rw [hmm]; split <;> omega
    by_cases h0 : k = 0
    · subst h0
      exact ⟨_, _, _, [], rfl, fun i => by simp [IdSize, dId], rfl, by omega, .inl rfl⟩
    · obtain ⟨b, o, s⟩ := a'
      obtain ⟨cs0, h1, _⟩ := hi 0 (by omega)
      rw [cellsIdent] at h1
      obtain ⟨_, _, hcell⟩ := World.cells?_some h1
      have hc := hcell 0 (by omega)
      rw [show ((Addr.mk b o s).add (0 * 4)).add 0 = ⟨b, o, s⟩ by simp [Addr.add]] at hc
      have hs : s = none := by
        have hl0 := (World.cells?_some h1).2.1
        rw [List.getElem?_eq_getElem (by omega)] at hc
        simpa using World.cell?_spot hc
      subst hs
      obtain ⟨f, hf⟩ := choose_lt (n := k) (p := fun i (y : Ident) => IdSize y ∧ IdAt w b (o + i * 4) y) fun i hi2 => by
        obtain ⟨cs', h1, h2⟩ := hi i (by omega)
        rw [cellsIdent, Addr.add_lit] at h1
        exact id_at h1 h2
      have hg : ∀ i, i < k → ((List.range k).map f).getD i dId = f i := fun i hi => by simp [List.getD_eq_getElem?_getD, hi]
      refine ⟨_, _, _, (List.range k).map f, rfl, fun i => ?_, by simp, by omega, .inr ⟨b, o, rfl, fun i hi2 => by rw [hg i hi2]; exact (hf i hi2).2⟩⟩
      by_cases hi2 : i < k
      · rw [hg i hi2]; exact (hf i hi2).1
      · rw [List.getD_eq_getElem?_getD, List.getElem?_eq_none (by simp; omega)]; simp [IdSize, dId]

set_option maxRecDepth 100000 in
theorem sts_open {n : Nat} {v : Value} {x : DataW H × List MemPlace} (h : DataW.trod enc Tryd.prog w base spare held n 23 [v] = some x) :
    ∃ a n c l, v = .slice a n c ∧ StsSize l ∧ StsAt w a n c l := by
  rcases open_slice Tryd.underlying23 h with ⟨hcs, _⟩ | ⟨a', k, c, m, n', D, Pl, hcs, hb, hl, hm, hmm, hx, hi⟩
  · obtain rfl : v = .slice none 0 0 := by simpa using hcs
    exact ⟨none, 0, 0, [], rfl, fun i => by simp, rfl, by omega, .inl rfl⟩
  · obtain rfl : v = .slice (some a') k c := by simpa using hcs
    unfold maxLen at hm
    have hlm : k ≤ m := by rw [hmm]; split <;> omega
    obtain ⟨f, hf⟩ := choose_lt (n := k) (p := fun i (y : ByteArray) => y.size ≤ 9223372036854775807 ∧ w.cell? (a'.add i) = some (.string y)) fun i hi2 => by
      obtain ⟨cs', h1, h2⟩ := hi i (by omega)
      rw [cellsSt, Nat.mul_one] at h1
      obtain ⟨_, hl1, hcell⟩ := World.cells?_some h1
      obtain ⟨t, ht, _, z⟩ := DataW.trod_string Tryd.underlying9 h2
      unfold maxLen at z
      subst ht
      exact ⟨t, by omega, by simpa [Addr.add] using hcell 0 (by omega)⟩
    have hg : ∀ i, i < k → ((List.range k).map f).getD i ByteArray.empty = f i := fun i hi => by simp [List.getD_eq_getElem?_getD, hi]
    refine ⟨_, _, _, (List.range k).map f, rfl, fun i => ?_, by simp, by omega, ?_⟩
    · by_cases hi2 : i < k
      · rw [hg i hi2]; exact (hf i hi2).1
      · rw [List.getD_eq_getElem?_getD, List.getElem?_eq_none (by simp; omega)]; simp
    · by_cases h0 : k = 0
      · exact .inl h0
      · obtain ⟨b, o, s⟩ := a'
        have hc := (hf 0 (by omega)).2
        have hs : s = none := by simpa [Addr.add] using World.cell?_spot hc
        subst hs
        refine .inr ⟨b, o, rfl, by simpa [Addr.add] using World.block_lt_of_cell? w _ hc, fun i hi2 => ?_⟩
        have := (hf i hi2).2
        rw [Addr.add_lit] at this
        rw [hg i hi2]
        exact this

set_option maxRecDepth 100000 in
/-- the cells of a disco that came in -/
theorem dis_open {n : Nat} {cs : List Value} {x : DataW H × List MemPlace} (hl : cs.length = 2) (h : DataW.trod enc Tryd.prog w base spare held n 25 cs = some x) :
    ∃ (d : Dis) (a1 : Option Addr) (n1 c1 : Nat) (a2 : Option Addr) (n2 c2 : Nat), cs = [.slice a1 n1 c1, .slice a2 n2 c2] ∧ IdsSize d.ids ∧ StsSize d.feats ∧ DisAt w a1 n1 c1 a2 n2 c2 d := by
  obtain ⟨xs, m, _, _, _, hxl, hf⟩ := DataW.trod_struct Tryd.underlying25 h
  match cs, hl with
  | [c0, c1], _ =>
    match xs, hxl with
    | [y0, y1], _ =>
      obtain ⟨fd0, hfd, hty, hof⟩ : ∃ f, (Tryd.prog.fieldsOf 25)[0]? = some f ∧ f.type = 22 ∧ f.offset = 0 := ⟨_, rfl, rfl, rfl⟩
      have f0 := hf 0 _ hfd
      rw [hty, hof] at f0
      clear hfd hty hof
      obtain ⟨fd1, hfd, hty, hof⟩ : ∃ f, (Tryd.prog.fieldsOf 25)[1]? = some f ∧ f.type = 23 ∧ f.offset = 1 := ⟨_, rfl, rfl, rfl⟩
      have f1 := hf 1 _ hfd
      rw [hty, hof] at f1
      clear hfd hty hof
      simp only [cellsIds, cellsSts, List.drop_zero, List.take_succ_cons, List.take_zero, List.drop_succ_cons, List.getElem?_cons_zero, List.getElem?_cons_succ] at f0 f1
      obtain ⟨a1, n1, k1, l1, rfl, hz1, h1⟩ := ids_open f0
      obtain ⟨a2, n2, k2, l2, rfl, hz2, h2⟩ := sts_open f1
      exact ⟨⟨l1, l2⟩, _, _, _, _, _, _, rfl, hz1, hz2, h1, h2⟩
end
end Go.Proofs.YtmmicoiiklcakaaDoor
