/- spec.l8Project, l8Asked, ProjectionOf. -/
import Derived.Test.YtcaknhoaoodbfaaGreatDoorGP14
import Derived.Test.YtcaknhoaoodbfaaGreatDoorGP17
import Derived.Test.YtcaknhoaoodbfaaGreatDoorGP5
import Derived.Test.YtcaknhoaoodbfaaGreatDoorGP18
import Derived.Deep.RegionHeld3
namespace Go.Proofs.YtcaknhoaoodbfaaGreatDoor
open Go.ChangeShapes Go.WideShapes Go.ChangeAt Go.RowKit
set_option linter.unusedVariables false
set_option linter.unusedSimpArgs false
theorem max0 (x : Int) : maxI x 0 = prioS x := rfl
set_option maxRecDepth 100000 in
set_option maxHeartbeats 1600000 in
theorem l8Project_any (b : Nat) (p : Pr) (a : Option Addr) (n c : Nat) (w : World) (h : PrAt w b p a n c) :
    Calls Tryz.prog 89 #[.pointer (some ⟨b, 0, none⟩)] w fun e w' => e = .returned (.agg #[.int .i64 p.kind, .string p.sender, .string ByteArray.empty, .int .i64 (sharedS p.shown), .string p.status, .int .i64 (prioS p.prio), .slice none 0 0]) ∧ Below w.heap.size w w' := by
  obtain ⟨pk, pf, pt, ps, pu, pp, pm⟩ := p
  have hlt := h.lt
  have d0 := h.c0
  have d1 := h.c1
  have d3 := h.c3
  have d4 := h.c4
  have d5 := h.c5
  have KM := Lib.hid (fun W => l1Max_any pp 0 W)
  rw [max0] at KM
  dsimp only at d0 d1 d3 d4 d5 ⊢
  clear h
  generalize prioS pp = mp at KM ⊢
  obtain ⟨ss, hss⟩ : ∃ ss, sharedS ps = ss := ⟨_, rfl⟩
  rw [hss]
  have cases : (ps = 2 ∧ ss = 0) ∨ ((ps == 2) = false ∧ ps = 4 ∧ ss = 1) ∨ ((ps == 2) = false ∧ (ps == 4) = false ∧ ss = ps) := by
    rw [← hss]
    simp only [beq_eq_false_iff_ne]
    unfold sharedS
    by_cases h2 : ps = 2
    · exact .inl ⟨h2, by rw [if_pos h2]⟩
    · by_cases h4 : ps = 4
      · exact .inr (.inl ⟨h2, h4, by rw [if_neg h2, if_pos h4]⟩)
      · exact .inr (.inr ⟨h2, h4, by rw [if_neg h2, if_neg h4]⟩)
  clear hss
  have hlt0 : b < (w.alloc (.cells #[.int .i64 0, .string ⟨#[]⟩, .string ⟨#[]⟩, .int .i64 0, .string ⟨#[]⟩, .int .i64 0, .slice none 0 0] 26)).heap.size := by simp; omega
  have hB0 := Lib.hid (below1 w (.cells #[.int .i64 0, .string ⟨#[]⟩, .string ⟨#[]⟩, .int .i64 0, .string ⟨#[]⟩, .int .i64 0, .slice none 0 0] 26))
  have hR : w.heap.size < (w.alloc (.cells #[.int .i64 0, .string ⟨#[]⟩, .string ⟨#[]⟩, .int .i64 0, .string ⟨#[]⟩, .int .i64 0, .slice none 0 0] 26)).heap.size := by simp
  have e0 := (hB0.out.cell (p := ⟨b, 0, none⟩) hlt).trans d0
  have e1 := (hB0.out.cell (p := ⟨b, 1, none⟩) hlt).trans d1
  have e3 := (hB0.out.cell (p := ⟨b, 3, none⟩) hlt).trans d3
  have e4 := (hB0.out.cell (p := ⟨b, 4, none⟩) hlt).trans d4
  have e5 := (hB0.out.cell (p := ⟨b, 5, none⟩) hlt).trans d5
  clear d0 d1 d3 d4 d5
  have r0 : (w.alloc (.cells #[.int .i64 0, .string ⟨#[]⟩, .string ⟨#[]⟩, .int .i64 0, .string ⟨#[]⟩, .int .i64 0, .slice none 0 0] 26)).cell? ⟨w.heap.size, 0, none⟩ = some (.int .i64 0) := by simp
  have f0 : (w.alloc (.cells #[.int .i64 0, .string ⟨#[]⟩, .string ⟨#[]⟩, .int .i64 0, .string ⟨#[]⟩, .int .i64 0, .slice none 0 0] 26)).frozen? ⟨w.heap.size, 0, none⟩ = false := by go_simp
  have r1 : (w.alloc (.cells #[.int .i64 0, .string ⟨#[]⟩, .string ⟨#[]⟩, .int .i64 0, .string ⟨#[]⟩, .int .i64 0, .slice none 0 0] 26)).cell? ⟨w.heap.size, 1, none⟩ = some (.string ⟨#[]⟩) := by simp
  have f1 : (w.alloc (.cells #[.int .i64 0, .string ⟨#[]⟩, .string ⟨#[]⟩, .int .i64 0, .string ⟨#[]⟩, .int .i64 0, .slice none 0 0] 26)).frozen? ⟨w.heap.size, 1, none⟩ = false := by go_simp
  have r2 : (w.alloc (.cells #[.int .i64 0, .string ⟨#[]⟩, .string ⟨#[]⟩, .int .i64 0, .string ⟨#[]⟩, .int .i64 0, .slice none 0 0] 26)).cell? ⟨w.heap.size, 2, none⟩ = some (.string ⟨#[]⟩) := by simp
  have f2 : (w.alloc (.cells #[.int .i64 0, .string ⟨#[]⟩, .string ⟨#[]⟩, .int .i64 0, .string ⟨#[]⟩, .int .i64 0, .slice none 0 0] 26)).frozen? ⟨w.heap.size, 2, none⟩ = false := by go_simp
  have r3 : (w.alloc (.cells #[.int .i64 0, .string ⟨#[]⟩, .string ⟨#[]⟩, .int .i64 0, .string ⟨#[]⟩, .int .i64 0, .slice none 0 0] 26)).cell? ⟨w.heap.size, 3, none⟩ = some (.int .i64 0) := by simp
  have f3 : (w.alloc (.cells #[.int .i64 0, .string ⟨#[]⟩, .string ⟨#[]⟩, .int .i64 0, .string ⟨#[]⟩, .int .i64 0, .slice none 0 0] 26)).frozen? ⟨w.heap.size, 3, none⟩ = false := by go_simp
  have r4 : (w.alloc (.cells #[.int .i64 0, .string ⟨#[]⟩, .string ⟨#[]⟩, .int .i64 0, .string ⟨#[]⟩, .int .i64 0, .slice none 0 0] 26)).cell? ⟨w.heap.size, 4, none⟩ = some (.string ⟨#[]⟩) := by simp
  have f4 : (w.alloc (.cells #[.int .i64 0, .string ⟨#[]⟩, .string ⟨#[]⟩, .int .i64 0, .string ⟨#[]⟩, .int .i64 0, .slice none 0 0] 26)).frozen? ⟨w.heap.size, 4, none⟩ = false := by go_simp
  have r5 : (w.alloc (.cells #[.int .i64 0, .string ⟨#[]⟩, .string ⟨#[]⟩, .int .i64 0, .string ⟨#[]⟩, .int .i64 0, .slice none 0 0] 26)).cell? ⟨w.heap.size, 5, none⟩ = some (.int .i64 0) := by simp
  have f5 : (w.alloc (.cells #[.int .i64 0, .string ⟨#[]⟩, .string ⟨#[]⟩, .int .i64 0, .string ⟨#[]⟩, .int .i64 0, .slice none 0 0] 26)).frozen? ⟨w.heap.size, 5, none⟩ = false := by go_simp
  have r6 : (w.alloc (.cells #[.int .i64 0, .string ⟨#[]⟩, .string ⟨#[]⟩, .int .i64 0, .string ⟨#[]⟩, .int .i64 0, .slice none 0 0] 26)).cell? ⟨w.heap.size, 6, none⟩ = some (.slice none 0 0) := by simp
  have f6 : (w.alloc (.cells #[.int .i64 0, .string ⟨#[]⟩, .string ⟨#[]⟩, .int .i64 0, .string ⟨#[]⟩, .int .i64 0, .slice none 0 0] 26)).frozen? ⟨w.heap.size, 6, none⟩ = false := by go_simp
  go_enter Tryz.func89, Tryz.ntmps89
  go_wp2_with fail
  generalize w.alloc (.cells #[.int .i64 0, .string ⟨#[]⟩, .string ⟨#[]⟩, .int .i64 0, .string ⟨#[]⟩, .int .i64 0, .slice none 0 0] 26) = W0 at hlt0 hB0 hR e0 e1 e3 e4 e5 r0 f0 r1 f1 r2 f2 r3 f3 r4 f4 r5 f5 r6 f6 ⊢
  have HC : Hid (∀ W, Below W0.heap.size W0 W → (Below W0.heap.size W0 W ∧ W.cell? ⟨b, 0, none⟩ = some (.int .i64 pk) ∧ W.cell? ⟨b, 1, none⟩ = some (.string pf) ∧ W.cell? ⟨b, 3, none⟩ = some (.int .i64 ps) ∧ W.cell? ⟨b, 4, none⟩ = some (.string pu) ∧ W.cell? ⟨b, 5, none⟩ = some (.int .i64 pp))) := Lib.hid fun W hb => ⟨hb, (hb.cell (by exact hlt0)).trans e0, (hb.cell (by exact hlt0)).trans e1, (hb.cell (by exact hlt0)).trans e3, (hb.cell (by exact hlt0)).trans e4, (hb.cell (by exact hlt0)).trans e5⟩
  have hS0 := HC.out W0.drew (Below.refl _ _).drew
  have HRC : Hid (∀ W, Below W0.heap.size W0 W → (W.cell? ⟨w.heap.size, 0, none⟩ = some (.int .i64 0) ∧ W.frozen? ⟨w.heap.size, 0, none⟩ = false ∧ W.cell? ⟨w.heap.size, 1, none⟩ = some (.string ⟨#[]⟩) ∧ W.frozen? ⟨w.heap.size, 1, none⟩ = false ∧ W.cell? ⟨w.heap.size, 2, none⟩ = some (.string ⟨#[]⟩) ∧ W.frozen? ⟨w.heap.size, 2, none⟩ = false ∧ W.cell? ⟨w.heap.size, 3, none⟩ = some (.int .i64 0) ∧ W.frozen? ⟨w.heap.size, 3, none⟩ = false ∧ W.cell? ⟨w.heap.size, 4, none⟩ = some (.string ⟨#[]⟩) ∧ W.frozen? ⟨w.heap.size, 4, none⟩ = false ∧ W.cell? ⟨w.heap.size, 5, none⟩ = some (.int .i64 0) ∧ W.frozen? ⟨w.heap.size, 5, none⟩ = false ∧ W.cell? ⟨w.heap.size, 6, none⟩ = some (.slice none 0 0) ∧ W.frozen? ⟨w.heap.size, 6, none⟩ = false)) := Lib.hid fun W hb => ⟨(hb.cell (by exact hR)).trans r0, (hb.frozen (by exact hR)).trans f0, (hb.cell (by exact hR)).trans r1, (hb.frozen (by exact hR)).trans f1, (hb.cell (by exact hR)).trans r2, (hb.frozen (by exact hR)).trans f2, (hb.cell (by exact hR)).trans r3, (hb.frozen (by exact hR)).trans f3, (hb.cell (by exact hR)).trans r4, (hb.frozen (by exact hR)).trans f4, (hb.cell (by exact hR)).trans r5, (hb.frozen (by exact hR)).trans f5, (hb.cell (by exact hR)).trans r6, (hb.frozen (by exact hR)).trans f6⟩
  clear e0 e1 e3 e4 e5 r0 f0 r1 f1 r2 f2 r3 f3 r4 f4 r5 f5 r6 f6
  (go_region_held3 (fun W => Below W0.heap.size W0 W ∧ W.cell? ⟨b, 0, none⟩ = some (.int .i64 pk) ∧ W.cell? ⟨b, 1, none⟩ = some (.string pf) ∧ W.cell? ⟨b, 3, none⟩ = some (.int .i64 ps) ∧ W.cell? ⟨b, 4, none⟩ = some (.string pu) ∧ W.cell? ⟨b, 5, none⟩ = some (.int .i64 pp)) (first | with_reducible assumption | with_reducible exact HC.out _ hbr | with_reducible exact HC.out _ (below1 _ _).drew)
      (first
        | (go_at_call 154; refine (KM.out _).mono ?_; rintro e w1 ⟨rfl, rfl⟩; have hbr := And.left (by with_reducible assumption))))
  all_goals
    obtain ⟨hb1, c0, c1, c3, c4, c5⟩ := HC.out (W0.alloc (.cells #[.int .i64 pk, .string pf, .string ⟨#[]⟩, .int .i64 ps, .string pu, .int .i64 mp, .slice none 0 0] 26)).drew (below1 _ _).drew
    clear hb1 hbr hS0
    have hne : w.heap.size ≠ W0.heap.size := by omega
    rcases cases with ⟨rfl, e⟩ | ⟨q1, rfl, e⟩ | ⟨q1, q2, e⟩
    · have E := Lib.hid e
      clear e
      have HB1 := Lib.hid (below_then hB0.out (below1 W0 (.cells #[.int .i64 pk, .string pf, .string ⟨#[]⟩, .int .i64 0, .string pu, .int .i64 mp, .slice none 0 0] 26)).drew)
      obtain ⟨r0, f0, r1, f1, r2, f2, r3, f3, r4, f4, r5, f5, r6, f6⟩ := HRC.out W0 (Below.refl _ _)
      clear HRC HC
      go_wp2
      refine bodyPost_ret (v := .agg #[.int .i64 pk, .string pf, .string ⟨#[]⟩, .int .i64 0, .string pu, .int .i64 mp, .slice none 0 0]) (by simp [results, Tryz.results89, go_sem, hR, hne, r0, r1, r2, r3, r4, r5, r6]) rfl ⟨by rw [E.out]; rfl, ?_⟩
      refine Below.drew (Below.alloc ?_ ?_ _)
      · exact ((((((hB0.out.setCell (Nat.le_refl _) _).setCell (Nat.le_refl _) _).setCell (Nat.le_refl _) _).setCell (Nat.le_refl _) _).setCell (Nat.le_refl _) _).setCell (Nat.le_refl _) _).setCell (Nat.le_refl _) _
      · simp; omega
    · have E := Lib.hid e
      clear e
      have HB1 := Lib.hid (below_then hB0.out (below1 W0 (.cells #[.int .i64 pk, .string pf, .string ⟨#[]⟩, .int .i64 1, .string pu, .int .i64 mp, .slice none 0 0] 26)).drew)
      obtain ⟨r0, f0, r1, f1, r2, f2, r3, f3, r4, f4, r5, f5, r6, f6⟩ := HRC.out W0 (Below.refl _ _)
      clear HRC HC
      go_wp2
      refine bodyPost_ret (v := .agg #[.int .i64 pk, .string pf, .string ⟨#[]⟩, .int .i64 1, .string pu, .int .i64 mp, .slice none 0 0]) (by simp [results, Tryz.results89, go_sem, hR, hne, r0, r1, r2, r3, r4, r5, r6]) rfl ⟨by rw [E.out]; rfl, ?_⟩
      refine Below.drew (Below.alloc ?_ ?_ _)
      · exact ((((((hB0.out.setCell (Nat.le_refl _) _).setCell (Nat.le_refl _) _).setCell (Nat.le_refl _) _).setCell (Nat.le_refl _) _).setCell (Nat.le_refl _) _).setCell (Nat.le_refl _) _).setCell (Nat.le_refl _) _
      · simp; omega
    · have E := Lib.hid e
      clear e
      have HB1 := Lib.hid (below_then hB0.out (below1 W0 (.cells #[.int .i64 pk, .string pf, .string ⟨#[]⟩, .int .i64 ps, .string pu, .int .i64 mp, .slice none 0 0] 26)).drew)
      obtain ⟨r0, f0, r1, f1, r2, f2, r3, f3, r4, f4, r5, f5, r6, f6⟩ := HRC.out W0 (Below.refl _ _)
      clear HRC HC
      go_wp2
      refine bodyPost_ret (v := .agg #[.int .i64 pk, .string pf, .string ⟨#[]⟩, .int .i64 ps, .string pu, .int .i64 mp, .slice none 0 0]) (by simp [results, Tryz.results89, go_sem, hR, hne, r0, r1, r2, r3, r4, r5, r6]) rfl ⟨by rw [E.out]; rfl, ?_⟩
      refine Below.drew (Below.alloc ?_ ?_ _)
      · exact ((((((hB0.out.setCell (Nat.le_refl _) _).setCell (Nat.le_refl _) _).setCell (Nat.le_refl _) _).setCell (Nat.le_refl _) _).setCell (Nat.le_refl _) _).setCell (Nat.le_refl _) _).setCell (Nat.le_refl _) _
      · simp; omega
end Go.Proofs.YtcaknhoaoodbfaaGreatDoor
