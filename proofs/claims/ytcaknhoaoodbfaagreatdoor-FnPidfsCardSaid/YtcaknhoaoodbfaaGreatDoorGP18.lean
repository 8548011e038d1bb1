/- spec.l8Asked. -/
import Derived.Test.YtcaknhoaoodbfaaGreatDoorGP14
import Derived.Test.YtcaknhoaoodbfaaGreatDoorGP17
import Derived.Test.YtcaknhoaoodbfaaGreatDoorGP11
import Derived.Test.YtcaknhoaoodbfaaGreatDoorGP0
namespace Go.Proofs.YtcaknhoaoodbfaaGreatDoor
open Go.ChangeShapes Go.WideShapes Go.ChangeAt Go.RowKit
set_option linter.unusedVariables false
set_option maxRecDepth 100000 in
set_option maxHeartbeats 1600000 in
theorem l8Asked_any (b : Nat) (p : Pr) (a : Option Addr) (n c : Nat) (w : World) (hs : SmallPr p) (hP : PrAt w b p a n c) (h : ItsAt w a n c p.more) :
    Calls Tryz.prog 88 #[.pointer (some ⟨b, 0, none⟩)] w fun e w' => e = .returned (.int .i64 (projCode p)) ∧ Below w.heap.size w w' := by
  have K0 := Lib.hid (fun W (hb : Below w.heap.size w W) => specPresenceFault_any p a n c W hs (h.below hb))
  have hsz := hs.texts.1
  have P0 := Lib.hid hP
  have hlt := hP.lt
  unfold projCode
  clear hs hP h
  by_cases hcd : presCode p = 0
  case neg =>
    rw [if_pos hcd]
    generalize presCode p = cd at K0 hcd ⊢
    have q1 : (cd != 0) = true := by rw [bne_iff_ne]; exact hcd
    clear hcd
    obtain ⟨pk, pf, pt, ps, pu, pp, pm⟩ := p
    dsimp only at K0 P0
    have d0 := P0.out.c0
    have d1 := P0.out.c1
    have d2 := P0.out.c2
    have d3 := P0.out.c3
    have d4 := P0.out.c4
    have d5 := P0.out.c5
    have d6 := P0.out.c6
    go_enter Tryz.func88, Tryz.ntmps88
    go_wp2_with fail
    refine (K0.out _ (Below.refl _ _)).mono ?_
    rintro e w1 ⟨rfl, hb⟩
    have HB := Lib.hid hb
    clear hb d0 d1 d2 d3 d4 d5 d6
    go_wp2
    go_ret
    exact ⟨rfl, HB.out⟩
  rw [if_neg (by rw [hcd]; simp)]
  rw [hcd] at K0
  clear hcd
  obtain ⟨pk, pf, pt, ps, pu, pp, pm⟩ := p
  dsimp only at K0 P0 hsz ⊢
  obtain ⟨k1, hk1⟩ : ∃ k1, decide (1 < pk) = k1 := ⟨_, rfl⟩
  obtain ⟨em, hem⟩ : ∃ em, pf.toList.isEmpty = em := ⟨_, rfl⟩
  rw [hk1, hem]
  obtain ⟨rc, hrc⟩ : ∃ rc, (if askB k1 em = true then (7 : Int) else if 55 < pf.size then 2 else 0) = rc := ⟨_, rfl⟩
  rw [hrc]
  have HRC := Lib.hid hrc
  clear hrc
  have cases : (k1 = true ∧ rc = 7) ∨ (k1 = false ∧ em = true ∧ rc = 7) ∨ (k1 = false ∧ em = false ∧ 55 < (pf.size : Int) ∧ rc = 2) ∨ (k1 = false ∧ em = false ∧ ¬ (55 < (pf.size : Int)) ∧ rc = 0) := by
    have h := HRC.out
    cases k1 <;> cases em
    · by_cases h5 : 55 < pf.size
      · exact .inr (.inr (.inl ⟨rfl, rfl, by omega, by rw [← h, if_neg (by decide), if_pos h5]⟩))
      · exact .inr (.inr (.inr ⟨rfl, rfl, by omega, by rw [← h, if_neg (by decide), if_neg h5]⟩))
    · exact .inr (.inl ⟨rfl, rfl, by rw [← h, if_pos (by decide)]⟩)
    · exact .inl ⟨rfl, by rw [← h, if_pos (by decide)]⟩
    · exact .inl ⟨rfl, by rw [← h, if_pos (by decide)]⟩
  clear HRC
  rcases cases with ⟨rfl, rfl⟩ | ⟨rfl, rfl, rfl⟩ | ⟨rfl, rfl, h5, rfl⟩ | ⟨rfl, rfl, h5, rfl⟩
  all_goals
    have d0 := P0.out.c0
    have d1 := P0.out.c1
    have d2 := P0.out.c2
    have d3 := P0.out.c3
    have d4 := P0.out.c4
    have d5 := P0.out.c5
    have d6 := P0.out.c6
    go_enter Tryz.func88, Tryz.ntmps88
    go_wp2_with fail
    refine (K0.out _ (Below.refl _ _)).mono ?_
    rintro e w1 ⟨rfl, hb⟩
    have P1 := P0.out.below hb
    have HB := Lib.hid hb
    clear d0 d1 d2 d3 d4 d5 d6
    have d0 := P1.c0
    have d1 := P1.c1
    have hlt1 := P1.lt
    clear hb P1
    go_wp2
    go_ret
    exact ⟨rfl, HB.out⟩
structure PrrAt (w : World) (b : Nat) (cd : Int) (p : Pr) (a : Option Addr) (n c : Nat) : Prop where
  lt : b < w.heap.size
  c0 : w.cell? ⟨b, 0, none⟩ = some (.int .i64 cd)
  c1 : w.cell? ⟨b, 1, none⟩ = some (.int .i64 p.kind)
  c2 : w.cell? ⟨b, 2, none⟩ = some (.string p.sender)
  c3 : w.cell? ⟨b, 3, none⟩ = some (.string p.goal)
  c4 : w.cell? ⟨b, 4, none⟩ = some (.int .i64 p.shown)
  c5 : w.cell? ⟨b, 5, none⟩ = some (.string p.status)
  c6 : w.cell? ⟨b, 6, none⟩ = some (.int .i64 p.prio)
  c7 : w.cell? ⟨b, 7, none⟩ = some (.slice a n c)
theorem PrrAt.below {w w' : World} {b : Nat} {cd : Int} {p : Pr} {a : Option Addr} {n c : Nat} (h : PrrAt w b cd p a n c) (hb : Below w.heap.size w w') : PrrAt w' b cd p a n c :=
  ⟨Nat.lt_of_lt_of_le h.lt hb.size, (hb.cell (by exact h.lt)).trans h.c0, (hb.cell (by exact h.lt)).trans h.c1, (hb.cell (by exact h.lt)).trans h.c2, (hb.cell (by exact h.lt)).trans h.c3, (hb.cell (by exact h.lt)).trans h.c4, (hb.cell (by exact h.lt)).trans h.c5, (hb.cell (by exact h.lt)).trans h.c6, (hb.cell (by exact h.lt)).trans h.c7⟩
theorem PrrAt.only {P : Nat → Prop} {w w' : World} {b : Nat} {cd : Int} {p : Pr} {a : Option Addr} {n c : Nat} (h : PrrAt w b cd p a n c) (ho : Only P w w') (hn : ¬ P b) : PrrAt w' b cd p a n c :=
  ⟨Nat.lt_of_lt_of_le h.lt ho.size, (ho.cell (by exact h.lt) hn).trans h.c0, (ho.cell (by exact h.lt) hn).trans h.c1, (ho.cell (by exact h.lt) hn).trans h.c2, (ho.cell (by exact h.lt) hn).trans h.c3, (ho.cell (by exact h.lt) hn).trans h.c4, (ho.cell (by exact h.lt) hn).trans h.c5, (ho.cell (by exact h.lt) hn).trans h.c6, (ho.cell (by exact h.lt) hn).trans h.c7⟩
theorem PrrAt.new (w : World) (t : TypeId) (cd : Int) (p : Pr) (a : Option Addr) (n c : Nat) : PrrAt (w.alloc (.cells #[.int .i64 cd, .int .i64 p.kind, .string p.sender, .string p.goal, .int .i64 p.shown, .string p.status, .int .i64 p.prio, .slice a n c] t)) w.heap.size cd p a n c :=
  ⟨by simp, by simp, by simp, by simp, by simp, by simp, by simp, by simp, by simp⟩
def PrrOwn (w : World) (cd : Int) (p : Pr) (e : Ending) (w' : World) : Prop :=
  ∃ (a : Option Addr) (n c : Nat), e = .returned (.agg #[.int .i64 cd, .int .i64 p.kind, .string p.sender, .string p.goal, .int .i64 p.shown, .string p.status, .int .i64 p.prio, .slice a n c]) ∧ OwnIts w' w.heap.size w'.heap.size a n c p.more ∧ Below w.heap.size w w'
theorem OwnIts.nil (w : World) (lo hi : Nat) : OwnIts w lo hi none 0 0 [] := ⟨rfl, by decide, fun i hi => by omega, .inl rfl⟩
end Go.Proofs.YtcaknhoaoodbfaaGreatDoor
