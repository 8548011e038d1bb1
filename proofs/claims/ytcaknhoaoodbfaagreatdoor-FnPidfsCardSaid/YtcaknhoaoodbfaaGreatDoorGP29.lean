/- Texts in a tree that has no fault are short (cut out of XSpecPresence). -/
import Derived.Test.YtcaknhoaoodbfaaGreatDoorGP28
import Derived.Test.YtcaknhoaoodbfaaGreatDoorGP11
import Derived.Test.YtcaknhoaoodbfaaGreatDoorGP14
import Derived.Test.YtcaknhoaoodbfaaGreatDoorGP15
import Derived.IntWalk
namespace Go.Proofs.YtcaknhoaoodbfaaGreatDoor
open Go.ChangeShapes Go.WideShapes Go.ChangeAt Go.RowKit
set_option linter.unusedVariables false
theorem text_le {l : List It} (h : treeCode l = 0) {i : Nat} (hi : i < l.length) : (l.getD i dIt).text.size ≤ 60 := by
  have hg := good_item h hi
  cases he : (l.getD i dIt).name.toList.isEmpty
  · rw [item_elem hg he]; decide
  · exact text_size hg he
theorem txtT_le {l : List It} (h : treeCode l = 0) {i : Nat} (hi : i < l.length) : (txtT (textL l i)).size ≤ 60 := by
  cases ht : textL l i with
  | none => decide
  | some t => exact textL_size h hi ht
structure PrMut (w0 w : World) (b : Nat) (p : Pr) (a : Option Addr) (n c : Nat) : Prop where
  is : PrAt w b p a n c
  ge : w0.heap.size ≤ b
  below : Below w0.heap.size w0 w
  fz : ∀ i, w.frozen? ⟨b, i, none⟩ = false
theorem mut_at {w : World} {p : Addr} {u v : Value} (h : w.cell? p = some u) : (w.setCell p v).cell? p = some v := World.cell?_setCell_same _ _ _ h
theorem mut_oth {w : World} {b i j : Nat} {v u : Value} (h : i ≠ j) (h2 : w.cell? ⟨b, j, none⟩ = some u) : (w.setCell ⟨b, i, none⟩ v).cell? ⟨b, j, none⟩ = some u := (World.cell?_setCell_other _ _ _ _ (fun e => absurd (congrArg Addr.off e) h)).trans h2
theorem PrMut.keep {w0 w w' : World} {b : Nat} {p : Pr} {a : Option Addr} {n c : Nat} (h : PrMut w0 w b p a n c) (hb : Below w.heap.size w w') : PrMut w0 w' b p a n c :=
  ⟨h.is.below hb, h.ge, h.below.trans (hb.mono h.below.size), fun i => (hb.frozen (by exact h.is.lt)).trans (h.fz i)⟩
theorem PrMut.back {w0 w : World} {b : Nat} {p q : Pr} {a a' : Option Addr} {n c n' c' : Nat} (h : PrMut w0 w b p a n c) {i : Nat} {v : Value} (hq : PrAt (w.setCell ⟨b, i, none⟩ v) b q a' n' c') : PrMut w0 (w.setCell ⟨b, i, none⟩ v) b q a' n' c' :=
  ⟨hq, h.ge, h.below.setCell h.ge _, fun j => by rw [World.frozen?_setCell]; exact h.fz j⟩
theorem PrMut.setKind {w0 w : World} {b : Nat} {p : Pr} {a : Option Addr} {n c : Nat} (h : PrMut w0 w b p a n c) (v : Int) : PrMut w0 (w.setCell ⟨b, 0, none⟩ (.int .i64 v)) b { p with kind := v } a n c :=
  h.back ⟨by simpa using h.is.lt, mut_at h.is.c0, mut_oth (by decide) h.is.c1, mut_oth (by decide) h.is.c2, mut_oth (by decide) h.is.c3, mut_oth (by decide) h.is.c4, mut_oth (by decide) h.is.c5, mut_oth (by decide) h.is.c6⟩
theorem PrMut.setSender {w0 w : World} {b : Nat} {p : Pr} {a : Option Addr} {n c : Nat} (h : PrMut w0 w b p a n c) (v : ByteArray) : PrMut w0 (w.setCell ⟨b, 1, none⟩ (.string v)) b { p with sender := v } a n c :=
  h.back ⟨by simpa using h.is.lt, mut_oth (by decide) h.is.c0, mut_at h.is.c1, mut_oth (by decide) h.is.c2, mut_oth (by decide) h.is.c3, mut_oth (by decide) h.is.c4, mut_oth (by decide) h.is.c5, mut_oth (by decide) h.is.c6⟩
theorem PrMut.setShown {w0 w : World} {b : Nat} {p : Pr} {a : Option Addr} {n c : Nat} (h : PrMut w0 w b p a n c) (v : Int) : PrMut w0 (w.setCell ⟨b, 3, none⟩ (.int .i64 v)) b { p with shown := v } a n c :=
  h.back ⟨by simpa using h.is.lt, mut_oth (by decide) h.is.c0, mut_oth (by decide) h.is.c1, mut_oth (by decide) h.is.c2, mut_at h.is.c3, mut_oth (by decide) h.is.c4, mut_oth (by decide) h.is.c5, mut_oth (by decide) h.is.c6⟩
theorem PrMut.setStatus {w0 w : World} {b : Nat} {p : Pr} {a : Option Addr} {n c : Nat} (h : PrMut w0 w b p a n c) (v : ByteArray) : PrMut w0 (w.setCell ⟨b, 4, none⟩ (.string v)) b { p with status := v } a n c :=
  h.back ⟨by simpa using h.is.lt, mut_oth (by decide) h.is.c0, mut_oth (by decide) h.is.c1, mut_oth (by decide) h.is.c2, mut_oth (by decide) h.is.c3, mut_at h.is.c4, mut_oth (by decide) h.is.c5, mut_oth (by decide) h.is.c6⟩
theorem PrMut.setPrio {w0 w : World} {b : Nat} {p : Pr} {a : Option Addr} {n c : Nat} (h : PrMut w0 w b p a n c) (v : Int) : PrMut w0 (w.setCell ⟨b, 5, none⟩ (.int .i64 v)) b { p with prio := v } a n c :=
  h.back ⟨by simpa using h.is.lt, mut_oth (by decide) h.is.c0, mut_oth (by decide) h.is.c1, mut_oth (by decide) h.is.c2, mut_oth (by decide) h.is.c3, mut_oth (by decide) h.is.c4, mut_at h.is.c5, mut_oth (by decide) h.is.c6⟩
theorem PrMut.new (w0 w : World) (hb : Below w0.heap.size w0 w) (t : TypeId) (p : Pr) (a : Option Addr) (n c : Nat) : PrMut w0 (w.alloc (.cells #[.int .i64 p.kind, .string p.sender, .string p.goal, .int .i64 p.shown, .string p.status, .int .i64 p.prio, .slice a n c] t)) w.heap.size p a n c :=
  ⟨PrAt.new w t p a n c, hb.size, hb.trans ((below1 w _).mono hb.size), fun i => by simp⟩
set_option maxHeartbeats 800000 in
theorem specPriorityOf_any (n : Int) (w : World) : Calls Tryz.prog 157 #[.int .i64 n] w (Res2 w (prioCode n) (prioVal n)) := by
  unfold prioCode prioVal
  cases h : inB n 0 1000
  · go_enter Tryz.func157, Tryz.ntmps157
    go_wp2_with fail
    refine (l1In_any _ _ _ _).mono ?_
    rw [h]
    rintro e w1 ⟨rfl, rfl⟩
    go_wp2
    exact bodyPost_ret (v := .agg #[.int .i64 3, .int .i64 0]) (by simp [results, Tryz.results157, go_sem]) rfl ⟨rfl, below1 w _⟩
  · have hb : 0 ≤ n ∧ n ≤ 1000 := by simpa [inB] using h
    obtain ⟨h0, h1⟩ := hb
    have k1 : IntKind.i64.wrap (127 * n) = 127 * n := IntWalk.i64_in _ (by omega)
    have k2 : IntKind.i64.wrap (127 * n + 500) = 127 * n + 500 := IntWalk.i64_in _ (by omega)
    have k3 : (127 * n + 500).tdiv 1000 = (127 * n + 500) / 1000 := Int.tdiv_eq_ediv_of_nonneg (by omega)
    have k4 : IntKind.i64.wrap ((127 * n + 500) / 1000) = (127 * n + 500) / 1000 := IntWalk.i64_in _ (by omega)
    simp only [if_true]
    go_enter Tryz.func157, Tryz.ntmps157
    go_wp2_with fail
    refine (l1In_any _ _ _ _).mono ?_
    rw [h]
    rintro e w1 ⟨rfl, rfl⟩
    clear h
    go_wp2
    exact bodyPost_ret (v := .agg #[.int .i64 0, .int .i64 ((127 * n + 500) / 1000)]) (by simp [results, Tryz.results157, go_sem]) rfl ⟨rfl, below1 w _⟩
end Go.Proofs.YtcaknhoaoodbfaaGreatDoor
