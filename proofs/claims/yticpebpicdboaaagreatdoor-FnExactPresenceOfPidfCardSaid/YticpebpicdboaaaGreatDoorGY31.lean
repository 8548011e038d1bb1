/- A presence in a block that is written into (for spec.l7Root, l7Part, l7Presence). -/
import Derived.Test.YticpebpicdboaaaGreatDoorGY0
import Derived.Test.YticpebpicdboaaaGreatDoorGY12
namespace Go.Proofs.YticpebpicdboaaaGreatDoor
open Go.ChangeShapes Go.WideShapes Go.ChangeAt Go.RowKit
set_option linter.unusedVariables false

/-- a presence in block b, made behind w0 -/
structure PrMut (w0 w : World) (b : Nat) (p : Pr) (a : Option Addr) (n c : Nat) : Prop where
  is : PrAt w b p a n c
  ge : w0.heap.size ≤ b
  below : Below w0.heap.size w0 w
  fz : ∀ i, w.frozen? ⟨b, i, none⟩ = false
theorem mut_at {w : World} {p : Addr} {u v : Value} (h : w.cell? p = some u) : (w.setCell p v).cell? p = some v := World.cell?_setCell_same _ _ _ h
theorem mut_oth {w : World} {b i j : Nat} {v u : Value} (h : i ≠ j) (h2 : w.cell? ⟨b, j, none⟩ = some u) : (w.setCell ⟨b, i, none⟩ v).cell? ⟨b, j, none⟩ = some u := (World.cell?_setCell_other _ _ _ _ (fun e => absurd (congrArg Addr.off e) h)).trans h2
theorem PrMut.keep {w0 w w' : World} {b : Nat} {p : Pr} {a : Option Addr} {n c : Nat} (h : PrMut w0 w b p a n c) (hb : Below w.heap.size w w') : PrMut w0 w' b p a n c :=
  ⟨h.is.below hb, h.ge, h.below.trans (hb.mono h.below.size), fun i => (hb.frozen (by exact h.is.lt)).trans (h.fz i)⟩
theorem PrMut.back {w0 w : World} {b : Nat} {p q : Pr} {a a' : Option Addr} {n c n' c' : Nat} (h : PrMut w0 w b p a n c) {i : Nat} {v : Value} (hq : PrAt (w.setCell ⟨b, i, none⟩ v) b q a' n' c') : PrMut w0 (w.setCell ⟨b, i, none⟩ v) b q a' n' c' :=
  ⟨hq, h.ge, h.below.setCell h.ge _, fun j => by rw [World.frozen?_setCell]; exact h.fz j⟩
theorem PrMut.setKind {w0 w : World} {b : Nat} {p : Pr} {a : Option Addr} {n c : Nat} (h : PrMut w0 w b p a n c) (v : Int) : PrMut w0 (w.setCell ⟨b, 0, none⟩ (.int .i64 v)) b { p with kind := v } a n c :=
  h.back ⟨by simpa using h.is.lt, mut_at h.is.c0, mut_oth (by decide) h.is.c1, mut_oth (by decide) h.is.c2, mut_oth (by decide) h.is.c3, mut_oth (by decide) h.is.c4, mut_oth (by decide) h.is.c5, mut_oth (by decide) h.is.c6⟩
theorem PrMut.setSender {w0 w : World} {b : Nat} {p : Pr} {a : Option Addr} {n c : Nat} (h : PrMut w0 w b p a n c) (v : ByteArray) : PrMut w0 (w.setCell ⟨b, 1, none⟩ (.string v)) b { p with sender := v } a n c :=
  h.back ⟨by simpa using h.is.lt, mut_oth (by decide) h.is.c0, mut_at h.is.c1, mut_oth (by decide) h.is.c2, mut_oth (by decide) h.is.c3, mut_oth (by decide) h.is.c4, mut_oth (by decide) h.is.c5, mut_oth (by decide) h.is.c6⟩
theorem PrMut.setGoal {w0 w : World} {b : Nat} {p : Pr} {a : Option Addr} {n c : Nat} (h : PrMut w0 w b p a n c) (v : ByteArray) : PrMut w0 (w.setCell ⟨b, 2, none⟩ (.string v)) b { p with goal := v } a n c :=
  h.back ⟨by simpa using h.is.lt, mut_oth (by decide) h.is.c0, mut_oth (by decide) h.is.c1, mut_at h.is.c2, mut_oth (by decide) h.is.c3, mut_oth (by decide) h.is.c4, mut_oth (by decide) h.is.c5, mut_oth (by decide) h.is.c6⟩
theorem PrMut.setShown {w0 w : World} {b : Nat} {p : Pr} {a : Option Addr} {n c : Nat} (h : PrMut w0 w b p a n c) (v : Int) : PrMut w0 (w.setCell ⟨b, 3, none⟩ (.int .i64 v)) b { p with shown := v } a n c :=
  h.back ⟨by simpa using h.is.lt, mut_oth (by decide) h.is.c0, mut_oth (by decide) h.is.c1, mut_oth (by decide) h.is.c2, mut_at h.is.c3, mut_oth (by decide) h.is.c4, mut_oth (by decide) h.is.c5, mut_oth (by decide) h.is.c6⟩
theorem PrMut.setStatus {w0 w : World} {b : Nat} {p : Pr} {a : Option Addr} {n c : Nat} (h : PrMut w0 w b p a n c) (v : ByteArray) : PrMut w0 (w.setCell ⟨b, 4, none⟩ (.string v)) b { p with status := v } a n c :=
  h.back ⟨by simpa using h.is.lt, mut_oth (by decide) h.is.c0, mut_oth (by decide) h.is.c1, mut_oth (by decide) h.is.c2, mut_oth (by decide) h.is.c3, mut_at h.is.c4, mut_oth (by decide) h.is.c5, mut_oth (by decide) h.is.c6⟩
theorem PrMut.setPrio {w0 w : World} {b : Nat} {p : Pr} {a : Option Addr} {n c : Nat} (h : PrMut w0 w b p a n c) (v : Int) : PrMut w0 (w.setCell ⟨b, 5, none⟩ (.int .i64 v)) b { p with prio := v } a n c :=
  h.back ⟨by simpa using h.is.lt, mut_oth (by decide) h.is.c0, mut_oth (by decide) h.is.c1, mut_oth (by decide) h.is.c2, mut_oth (by decide) h.is.c3, mut_oth (by decide) h.is.c4, mut_at h.is.c5, mut_oth (by decide) h.is.c6⟩
theorem PrMut.setMore {w0 w : World} {b : Nat} {p : Pr} {a : Option Addr} {n c : Nat} (h : PrMut w0 w b p a n c) (a' : Option Addr) (n' c' : Nat) (m : List It) : PrMut w0 (w.setCell ⟨b, 6, none⟩ (.slice a' n' c')) b { p with more := m } a' n' c' :=
  h.back ⟨by simpa using h.is.lt, mut_oth (by decide) h.is.c0, mut_oth (by decide) h.is.c1, mut_oth (by decide) h.is.c2, mut_oth (by decide) h.is.c3, mut_oth (by decide) h.is.c4, mut_oth (by decide) h.is.c5, mut_at h.is.c6⟩
theorem PrMut.new (w0 w : World) (hb : Below w0.heap.size w0 w) (t : TypeId) (p : Pr) (a : Option Addr) (n c : Nat) : PrMut w0 (w.alloc (.cells #[.int .i64 p.kind, .string p.sender, .string p.goal, .int .i64 p.shown, .string p.status, .int .i64 p.prio, .slice a n c] t)) w.heap.size p a n c :=
  ⟨PrAt.new w t p a n c, hb.size, hb.trans ((below1 w _).mono hb.size), fun i => by simp⟩
end Go.Proofs.YticpebpicdboaaaGreatDoor

/- The words of kinds and of shows, in rows. -/
namespace Go.Proofs.YticpebpicdboaaaGreatDoor
open Go.ChangeShapes Go.WideShapes Go.ChangeAt Go.RowKit
set_option linter.unusedVariables false

theorem l7Kinds_any (w : World) : Calls Tryz.prog 86 #[] w fun e w' =>
    e = .returned (.slice (some ⟨w.heap.size, 0, none⟩) 7 7) ∧ w.heap.size < w'.heap.size ∧ Below w.heap.size w w' ∧ w'.cell? ⟨w.heap.size, 0, none⟩ = some (.string ⟨#[]⟩) ∧ w'.cell? ⟨w.heap.size, 1, none⟩ = some (.string ⟨#[117, 110, 97, 118, 97, 105, 108, 97, 98, 108, 101]⟩) ∧ w'.cell? ⟨w.heap.size, 2, none⟩ = some (.string ⟨#[115, 117, 98, 115, 99, 114, 105, 98, 101]⟩) ∧ w'.cell? ⟨w.heap.size, 3, none⟩ = some (.string ⟨#[115, 117, 98, 115, 99, 114, 105, 98, 101, 100]⟩) ∧ w'.cell? ⟨w.heap.size, 4, none⟩ = some (.string ⟨#[117, 110, 115, 117, 98, 115, 99, 114, 105, 98, 101]⟩) ∧ w'.cell? ⟨w.heap.size, 5, none⟩ = some (.string ⟨#[117, 110, 115, 117, 98, 115, 99, 114, 105, 98, 101, 100]⟩) ∧ w'.cell? ⟨w.heap.size, 6, none⟩ = some (.string ⟨#[112, 114, 111, 98, 101]⟩) := by
  go_enter Tryz.func86, Tryz.ntmps86
  go_wp2
  go_ret
  refine ⟨rfl, by simp, below1 _ _, ?_, ?_, ?_, ?_, ?_, ?_, ?_⟩ <;> simp
theorem l7Shows_any (w : World) : Calls Tryz.prog 88 #[] w fun e w' =>
    e = .returned (.slice (some ⟨w.heap.size, 0, none⟩) 5 5) ∧ w.heap.size < w'.heap.size ∧ Below w.heap.size w w' ∧ w'.cell? ⟨w.heap.size, 0, none⟩ = some (.string ⟨#[]⟩) ∧ w'.cell? ⟨w.heap.size, 1, none⟩ = some (.string ⟨#[97, 119, 97, 121]⟩) ∧ w'.cell? ⟨w.heap.size, 2, none⟩ = some (.string ⟨#[99, 104, 97, 116]⟩) ∧ w'.cell? ⟨w.heap.size, 3, none⟩ = some (.string ⟨#[100, 110, 100]⟩) ∧ w'.cell? ⟨w.heap.size, 4, none⟩ = some (.string ⟨#[120, 97]⟩) := by
  go_enter Tryz.func88, Tryz.ntmps88
  go_wp2
  go_ret
  refine ⟨rfl, by simp, below1 _ _, ?_, ?_, ?_, ?_, ?_⟩ <;> simp
theorem l7Kinds_row (w : World) : Calls Tryz.prog 86 #[] w fun e w' => e = .returned (.slice (some ⟨w.heap.size, 0, none⟩) 7 7) ∧ RowS w' (.slice (some ⟨w.heap.size, 0, none⟩) 7 7) kindWs ∧ Below w.heap.size w w' :=
  (l7Kinds_any w).mono fun e w' ⟨he, hz, hb, c0, c1, c2, c3, c4, c5, c6⟩ => ⟨he, kinds_row hz c0 c1 c2 c3 c4 c5 c6, hb⟩
theorem l7Shows_row (w : World) : Calls Tryz.prog 88 #[] w fun e w' => e = .returned (.slice (some ⟨w.heap.size, 0, none⟩) 5 5) ∧ RowS w' (.slice (some ⟨w.heap.size, 0, none⟩) 5 5) showWs ∧ Below w.heap.size w w' :=
  (l7Shows_any w).mono fun e w' ⟨he, hz, hb, c0, c1, c2, c3, c4⟩ => ⟨he, shows_row hz c0 c1 c2 c3 c4, hb⟩
end Go.Proofs.YticpebpicdboaaaGreatDoor
