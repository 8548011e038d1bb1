/- impl.sharedShow, impl.ProjectionOf. -/
import Derived.Test.YtcaknhoaoodbfaaGreatDoorGP14
import Derived.Test.YtcaknhoaoodbfaaGreatDoorGP35
import Derived.Test.YtcaknhoaoodbfaaGreatDoorGP18
import Derived.Deep.RegionHeld3
namespace Go.Proofs.YtcaknhoaoodbfaaGreatDoor
open Go.ChangeShapes Go.WideShapes Go.ChangeAt Go.RowKit
set_option linter.unusedVariables false
theorem sharedShow_any (n : Int) (w : World) :
    Calls Tryz.prog 85 #[.int .i64 n] w fun e w' => e = .returned (.int .i64 (sharedS n)) ∧ w' = w := by
  have cases : (n = 2 ∧ sharedS n = 0) ∨ ((n == 2) = false ∧ n = 4 ∧ sharedS n = 1) ∨ ((n == 2) = false ∧ (n == 4) = false ∧ sharedS n = n) := by
    simp only [beq_eq_false_iff_ne]
    unfold sharedS
    by_cases h2 : n = 2
    · exact .inl ⟨h2, by rw [if_pos h2]⟩
    · by_cases h4 : n = 4
      · exact .inr (.inl ⟨h2, h4, by rw [if_neg h2, if_pos h4]⟩)
      · exact .inr (.inr ⟨h2, h4, by rw [if_neg h2, if_neg h4]⟩)
  rcases cases with ⟨rfl, e⟩ | ⟨q1, rfl, e⟩ | ⟨q1, q2, e⟩
  all_goals
    rw [e]
    clear e
    go_enter Tryz.func85, Tryz.ntmps85
    go_wp2
    go_ret
    exact ⟨rfl, rfl⟩
theorem off8 {W : World} {R : Nat} {x0 x1 x2 x3 x4 x5 x6 x7 : Value} {p : Addr} {v : Value} (h : W.cell? p = some v) (hn : p.block ≠ R) :
    ((((((((W.setCell ⟨R, 0, none⟩ x0).setCell ⟨R, 1, none⟩ x1).setCell ⟨R, 2, none⟩ x2).setCell ⟨R, 3, none⟩ x3).setCell ⟨R, 4, none⟩ x4).setCell ⟨R, 5, none⟩ x5).setCell ⟨R, 6, none⟩ x6).setCell ⟨R, 7, none⟩ x7).drew.cell? p = some v := by
  have ho := (((((((Only.set (P := fun i => i = R) W ⟨R, 0, none⟩ x0 rfl).trans (Only.set (P := fun i => i = R) _ ⟨R, 1, none⟩ x1 rfl)).trans (Only.set (P := fun i => i = R) _ ⟨R, 2, none⟩ x2 rfl)).trans (Only.set (P := fun i => i = R) _ ⟨R, 3, none⟩ x3 rfl)).trans (Only.set (P := fun i => i = R) _ ⟨R, 4, none⟩ x4 rfl)).trans (Only.set (P := fun i => i = R) _ ⟨R, 5, none⟩ x5 rfl)).trans (Only.set (P := fun i => i = R) _ ⟨R, 6, none⟩ x6 rfl)).trans (Only.set (P := fun i => i = R) _ ⟨R, 7, none⟩ x7 rfl)
  have hd : ∀ V : World, V.drew.cell? p = V.cell? p := fun _ => rfl
  rw [hd]
  exact (ho.cell (World.block_lt_of_cell? W _ h) hn).trans h
theorem off8s {W : World} {R : Nat} {x0 x1 x2 x3 x4 x5 x6 x7 : Value} {p q r s u : Addr} {v1 v2 v3 v4 v5 : Value} (h : W.cell? p = some v1 ∧ W.cell? q = some v2 ∧ W.cell? r = some v3 ∧ W.cell? s = some v4 ∧ W.cell? u = some v5) (h1 : p.block ≠ R) (h2 : q.block ≠ R) (h3 : r.block ≠ R) (h4 : s.block ≠ R) (h5 : u.block ≠ R) :
    ((((((((W.setCell ⟨R, 0, none⟩ x0).setCell ⟨R, 1, none⟩ x1).setCell ⟨R, 2, none⟩ x2).setCell ⟨R, 3, none⟩ x3).setCell ⟨R, 4, none⟩ x4).setCell ⟨R, 5, none⟩ x5).setCell ⟨R, 6, none⟩ x6).setCell ⟨R, 7, none⟩ x7).drew.cell? p = some v1 ∧ ((((((((W.setCell ⟨R, 0, none⟩ x0).setCell ⟨R, 1, none⟩ x1).setCell ⟨R, 2, none⟩ x2).setCell ⟨R, 3, none⟩ x3).setCell ⟨R, 4, none⟩ x4).setCell ⟨R, 5, none⟩ x5).setCell ⟨R, 6, none⟩ x6).setCell ⟨R, 7, none⟩ x7).drew.cell? q = some v2 ∧ ((((((((W.setCell ⟨R, 0, none⟩ x0).setCell ⟨R, 1, none⟩ x1).setCell ⟨R, 2, none⟩ x2).setCell ⟨R, 3, none⟩ x3).setCell ⟨R, 4, none⟩ x4).setCell ⟨R, 5, none⟩ x5).setCell ⟨R, 6, none⟩ x6).setCell ⟨R, 7, none⟩ x7).drew.cell? r = some v3 ∧ ((((((((W.setCell ⟨R, 0, none⟩ x0).setCell ⟨R, 1, none⟩ x1).setCell ⟨R, 2, none⟩ x2).setCell ⟨R, 3, none⟩ x3).setCell ⟨R, 4, none⟩ x4).setCell ⟨R, 5, none⟩ x5).setCell ⟨R, 6, none⟩ x6).setCell ⟨R, 7, none⟩ x7).drew.cell? s = some v4 ∧ ((((((((W.setCell ⟨R, 0, none⟩ x0).setCell ⟨R, 1, none⟩ x1).setCell ⟨R, 2, none⟩ x2).setCell ⟨R, 3, none⟩ x3).setCell ⟨R, 4, none⟩ x4).setCell ⟨R, 5, none⟩ x5).setCell ⟨R, 6, none⟩ x6).setCell ⟨R, 7, none⟩ x7).drew.cell? u = some v5 :=
  ⟨off8 h.1 h1, off8 h.2.1 h2, off8 h.2.2.1 h3, off8 h.2.2.2.1 h4, off8 h.2.2.2.2 h5⟩
set_option maxRecDepth 100000 in
set_option maxHeartbeats 3200000 in
theorem implProjectionOf_any (p : Pr) (a : Option Addr) (n c lo hi : Nat) (w : World) (hT : Tabs w) (hsm : SmallPr p) (h : OwnIts w lo hi a n c p.more) :
    Calls Tryz.prog 33 #[.agg #[.int .i64 p.kind, .string p.sender, .string p.goal, .int .i64 p.shown, .string p.status, .int .i64 p.prio, .slice a n c]] w (PrrOwn w (projCode p) (projT p)) := by
  have hp : PrSize p := ⟨by have := hsm.texts; omega, by have := hsm.texts; omega, by have := hsm.texts; omega⟩
  have K0 := Lib.hid (fun W (hb : Below w.heap.size w W) => implPresenceFault_any p a n c W (tabs_kept hT hb) hp (h.its.below hb))
  have P0 := Lib.hid ((PrAt.new w 26 p a n c).below (below1 _ (.cells #[.int .i64 0, .int .i64 0, .string ⟨#[]⟩, .string ⟨#[]⟩, .int .i64 0, .string ⟨#[]⟩, .int .i64 0, .slice none 0 0] 33)))
  have KS := Lib.hid (fun W => sharedShow_any p.shown W)
  have hs1 := hp.s1
  unfold projT projCode PrrOwn proj
  clear hT hp h hsm
  by_cases hcd : presCode p = 0
  case neg =>
    rw [if_pos hcd, if_neg hcd]
    unfold zeroPr
    generalize presCode p = cd at K0 hcd ⊢
    have q1 : (cd != 0) = true := by rw [bne_iff_ne]; exact hcd
    clear hcd
    obtain ⟨pk, pf, pt, ps, pu, pp, pm⟩ := p
    dsimp only at K0 P0 KS ⊢
    have d0 := P0.out.c0
    have d1 := P0.out.c1
    have d2 := P0.out.c2
    have d3 := P0.out.c3
    have d4 := P0.out.c4
    have d5 := P0.out.c5
    have d6 := P0.out.c6
    go_enter Tryz.func33, Tryz.ntmps33
    go_wp2_with fail
    refine (K0.out _ (below2 _ _ _)).mono ?_
    rintro e w1 ⟨rfl, hb⟩
    obtain ⟨hc, hf⟩ := bcell hb
    have HB := Lib.hid hb
    have hz := hb.size
    simp at hz
    clear hb d0 d1 d2 d3 d4 d5 d6
    go_wp2
    refine bodyPost_ret (v := .agg #[.int .i64 cd, .int .i64 0, .string ⟨#[]⟩, .string ⟨#[]⟩, .int .i64 0, .string ⟨#[]⟩, .int .i64 0, .slice none 0 0]) (by simp [results, Tryz.results33, go_sem, hc]) rfl ⟨_, _, _, rfl, OwnIts.nil _ _ _, ?_⟩
    exact (((((((((below_then (below2 w _ _) HB.out).setCell (by simp) _).setCell (by simp) _).setCell (by simp) _).setCell (by simp) _).setCell (by simp) _).setCell (by simp) _).setCell (by simp) _).setCell (by simp) _)
  have hkd := presCode_kind hcd
  rw [if_neg (by rw [hcd]; simp)]
  rw [hcd] at K0
  clear hcd
  unfold zeroPr
  obtain ⟨pk, pf, pt, ps, pu, pp, pm⟩ := p
  dsimp only at K0 P0 KS hs1 hkd ⊢
  generalize sharedS ps = ss at KS ⊢
  obtain ⟨mp, hmp⟩ : ∃ mp, prioS pp = mp := ⟨_, rfl⟩
  rw [hmp]
  have hmx : max pp 0 = mp := by rw [← hmp]; unfold prioS; split <;> omega
  clear hmp
  obtain ⟨k1, hk1⟩ : ∃ k1, decide (1 < pk) = k1 := ⟨_, rfl⟩
  obtain ⟨em, hem⟩ : ∃ em, pf.toList.isEmpty = em := ⟨_, rfl⟩
  rw [hk1, hem]
  obtain ⟨rc, hrc⟩ : ∃ rc, (if askB k1 em = true then (7 : Int) else if 55 < pf.size then 2 else 0) = rc := ⟨_, rfl⟩
  rw [hrc]
  have HRC := Lib.hid hrc
  clear hrc
  have cases : (k1 = true ∧ rc = 7) ∨ (k1 = false ∧ em = true ∧ rc = 7) ∨ (k1 = false ∧ em = false ∧ 55 < (pf.size : Int) ∧ rc = 2) ∨ (k1 = false ∧ em = false ∧ ¬ (55 < (pf.size : Int)) ∧ rc = 0) := by
    have h := HRC.out
    cases k1 <;> cases em
    · by_cases h5 : 55 < pf.size
      · exact .inr (.inr (.inl ⟨rfl, rfl, by omega, by rw [← h, if_neg (by decide), if_pos h5]⟩))
      · exact .inr (.inr (.inr ⟨rfl, rfl, by omega, by rw [← h, if_neg (by decide), if_neg h5]⟩))
    · exact .inr (.inl ⟨rfl, rfl, by rw [← h, if_pos (by decide)]⟩)
    · exact .inl ⟨rfl, by rw [← h, if_pos (by decide)]⟩
    · exact .inl ⟨rfl, by rw [← h, if_pos (by decide)]⟩
  clear HRC
  have hk : (pk = 0 ∧ k1 = false) ∨ ((pk == 0) = false ∧ pk = 1 ∧ k1 = false) ∨ ((pk == 0) = false ∧ (pk == 1) = false ∧ k1 = true) := by
    rw [← hk1]
    simp only [beq_eq_false_iff_ne, decide_eq_true_eq, decide_eq_false_iff_not]
    omega
  clear hk1 hkd
  rcases cases with ⟨hk1, rfl⟩ | ⟨hk1, rfl, rfl⟩ | ⟨hk1, rfl, h5, rfl⟩ | ⟨hk1, rfl, h5, rfl⟩
  · rw [if_neg (by decide)]
    obtain ⟨q0, q1⟩ : (pk != 0) = true ∧ (pk != 1) = true := by
      rcases hk with ⟨_, e⟩ | ⟨_, _, e⟩ | ⟨e0, e1, _⟩
      · rw [hk1] at e; cases e
      · rw [hk1] at e; cases e
      · exact ⟨by rw [bne, e0]; rfl, by rw [bne, e1]; rfl⟩
    clear hk hk1
    all_goals
      have d0 := P0.out.c0
      have d1 := P0.out.c1
      have d2 := P0.out.c2
      have d3 := P0.out.c3
      have d4 := P0.out.c4
      have d5 := P0.out.c5
      have d6 := P0.out.c6
      go_enter Tryz.func33, Tryz.ntmps33
      go_wp2_with fail
      refine (K0.out _ (below2 _ _ _)).mono ?_
      rintro e w1 ⟨rfl, hb⟩
      have P1 := P0.out.below hb
      obtain ⟨hc, hf⟩ := bcell hb
      have HB := Lib.hid hb
      have hz := hb.size
      simp at hz
      clear d0 d1 d2 d3 d4 d5 d6 hb
      have d0 := P1.c0
      have d1 := P1.c1
      have d3 := P1.c3
      have d4 := P1.c4
      have d5 := P1.c5
      clear P1
      go_wp2
      refine bodyPost_ret (v := .agg #[.int .i64 7, .int .i64 0, .string ⟨#[]⟩, .string ⟨#[]⟩, .int .i64 0, .string ⟨#[]⟩, .int .i64 0, .slice none 0 0]) (by simp [results, Tryz.results33, go_sem, hc]) rfl ⟨_, _, _, rfl, OwnIts.nil _ _ _, ?_⟩
      exact (((((((((below_then (below2 w _ _) HB.out).setCell (by simp) _).setCell (by simp) _).setCell (by simp) _).setCell (by simp) _).setCell (by simp) _).setCell (by simp) _).setCell (by simp) _).setCell (by simp) _)
  · rw [if_neg (by decide)]
    rcases hk with ⟨rfl, e⟩ | ⟨q0, rfl, e⟩ | ⟨q0, q1, e⟩
    rotate_left 2
    · rw [hk1] at e; cases e
    all_goals
      clear e hk1
      have d0 := P0.out.c0
      have d1 := P0.out.c1
      have d2 := P0.out.c2
      have d3 := P0.out.c3
      have d4 := P0.out.c4
      have d5 := P0.out.c5
      have d6 := P0.out.c6
      go_enter Tryz.func33, Tryz.ntmps33
      go_wp2_with fail
      refine (K0.out _ (below2 _ _ _)).mono ?_
      rintro e w1 ⟨rfl, hb⟩
      have P1 := P0.out.below hb
      obtain ⟨hc, hf⟩ := bcell hb
      have HB := Lib.hid hb
      have hz := hb.size
      simp at hz
      clear d0 d1 d2 d3 d4 d5 d6 hb
      have d0 := P1.c0
      have d1 := P1.c1
      have d3 := P1.c3
      have d4 := P1.c4
      have d5 := P1.c5
      clear P1
      go_wp2
      refine bodyPost_ret (v := .agg #[.int .i64 7, .int .i64 0, .string ⟨#[]⟩, .string ⟨#[]⟩, .int .i64 0, .string ⟨#[]⟩, .int .i64 0, .slice none 0 0]) (by simp [results, Tryz.results33, go_sem, hc]) rfl ⟨_, _, _, rfl, OwnIts.nil _ _ _, ?_⟩
      exact (((((((((below_then (below2 w _ _) HB.out).setCell (by simp) _).setCell (by simp) _).setCell (by simp) _).setCell (by simp) _).setCell (by simp) _).setCell (by simp) _).setCell (by simp) _).setCell (by simp) _)
  · rw [if_neg (by decide)]
    rcases hk with ⟨rfl, e⟩ | ⟨q0, rfl, e⟩ | ⟨q0, q1, e⟩
    rotate_left 2
    · rw [hk1] at e; cases e
    all_goals
      clear e hk1
      have d0 := P0.out.c0
      have d1 := P0.out.c1
      have d2 := P0.out.c2
      have d3 := P0.out.c3
      have d4 := P0.out.c4
      have d5 := P0.out.c5
      have d6 := P0.out.c6
      go_enter Tryz.func33, Tryz.ntmps33
      go_wp2_with fail
      refine (K0.out _ (below2 _ _ _)).mono ?_
      rintro e w1 ⟨rfl, hb⟩
      have P1 := P0.out.below hb
      obtain ⟨hc, hf⟩ := bcell hb
      have HB := Lib.hid hb
      have hz := hb.size
      simp at hz
      clear d0 d1 d2 d3 d4 d5 d6 hb
      have d0 := P1.c0
      have d1 := P1.c1
      have d3 := P1.c3
      have d4 := P1.c4
      have d5 := P1.c5
      clear P1
      go_wp2
      refine bodyPost_ret (v := .agg #[.int .i64 2, .int .i64 0, .string ⟨#[]⟩, .string ⟨#[]⟩, .int .i64 0, .string ⟨#[]⟩, .int .i64 0, .slice none 0 0]) (by simp [results, Tryz.results33, go_sem, hc]) rfl ⟨_, _, _, rfl, OwnIts.nil _ _ _, ?_⟩
      exact (((((((((below_then (below2 w _ _) HB.out).setCell (by simp) _).setCell (by simp) _).setCell (by simp) _).setCell (by simp) _).setCell (by simp) _).setCell (by simp) _).setCell (by simp) _).setCell (by simp) _)
  · rw [if_pos rfl]
    rcases hk with ⟨rfl, e⟩ | ⟨q0, rfl, e⟩ | ⟨q0, q1, e⟩
    rotate_left 2
    · rw [hk1] at e; cases e
    · clear e hk1
      have d0 := P0.out.c0
      have d1 := P0.out.c1
      have d2 := P0.out.c2
      have d3 := P0.out.c3
      have d4 := P0.out.c4
      have d5 := P0.out.c5
      have d6 := P0.out.c6
      go_enter Tryz.func33, Tryz.ntmps33
      go_wp2_with fail
      refine (K0.out _ (below2 _ _ _)).mono ?_
      rintro e w1 ⟨rfl, hb⟩
      have P1 := P0.out.below hb
      obtain ⟨hc, hf⟩ := bcell hb
      have HB := Lib.hid hb
      have hz := hb.size
      simp at hz
      clear d0 d1 d2 d3 d4 d5 d6 hb
      have d0 := P1.c0
      have d1 := P1.c1
      have d3 := P1.c3
      have d4 := P1.c4
      have d5 := P1.c5
      clear P1
      go_wp2_with fail
      have hn : ∀ i, (⟨w.heap.size, i, none⟩ : Addr).block ≠ w.heap.size + 1 := fun i => by show w.heap.size ≠ _; omega
      have hS0 : w1.drew.cell? ⟨w.heap.size, 0, none⟩ = some (.int .i64 0) ∧ w1.drew.cell? ⟨w.heap.size, 1, none⟩ = some (.string pf) ∧ w1.drew.cell? ⟨w.heap.size, 3, none⟩ = some (.int .i64 ps) ∧ w1.drew.cell? ⟨w.heap.size, 4, none⟩ = some (.string pu) ∧ w1.drew.cell? ⟨w.heap.size, 5, none⟩ = some (.int .i64 pp) := ⟨d0, d1, d3, d4, d5⟩
      go_region_held3 (fun W => W.cell? ⟨w.heap.size, 0, none⟩ = some (.int .i64 0) ∧ W.cell? ⟨w.heap.size, 1, none⟩ = some (.string pf) ∧ W.cell? ⟨w.heap.size, 3, none⟩ = some (.int .i64 ps) ∧ W.cell? ⟨w.heap.size, 4, none⟩ = some (.string pu) ∧ W.cell? ⟨w.heap.size, 5, none⟩ = some (.int .i64 pp)) (first | with_reducible assumption | exact off8s ⟨d0, d1, d3, d4, d5⟩ (hn 0) (hn 1) (hn 3) (hn 4) (hn 5))
        (first
          | (go_at_call 85; refine (KS.out _).mono ?_; rintro e w2 ⟨rfl, rfl⟩))
      all_goals
        go_wp2
        refine bodyPost_ret (v := .agg #[.int .i64 0, .int .i64 0, .string pf, .string ⟨#[]⟩, .int .i64 ss, .string pu, .int .i64 mp, .slice none 0 0]) (by simp [results, Tryz.results33, go_sem, hc]) rfl ⟨_, _, _, rfl, OwnIts.nil _ _ _, ?_⟩
        exact ((((((((((below_then (below2 w _ _) HB.out).setCell (by simp) _).setCell (by simp) _).setCell (by simp) _).setCell (by simp) _).setCell (by simp) _).setCell (by simp) _).setCell (by simp) _).setCell (by simp) _)).drew
    · clear e hk1
      have d0 := P0.out.c0
      have d1 := P0.out.c1
      have d2 := P0.out.c2
      have d3 := P0.out.c3
      have d4 := P0.out.c4
      have d5 := P0.out.c5
      have d6 := P0.out.c6
      go_enter Tryz.func33, Tryz.ntmps33
      go_wp2_with fail
      refine (K0.out _ (below2 _ _ _)).mono ?_
      rintro e w1 ⟨rfl, hb⟩
      have P1 := P0.out.below hb
      obtain ⟨hc, hf⟩ := bcell hb
      have HB := Lib.hid hb
      have hz := hb.size
      simp at hz
      clear d0 d1 d2 d3 d4 d5 d6 hb
      have d0 := P1.c0
      have d1 := P1.c1
      have d3 := P1.c3
      have d4 := P1.c4
      have d5 := P1.c5
      clear P1
      go_wp2_with fail
      have hn : ∀ i, (⟨w.heap.size, i, none⟩ : Addr).block ≠ w.heap.size + 1 := fun i => by show w.heap.size ≠ _; omega
      have hS0 : w1.drew.cell? ⟨w.heap.size, 0, none⟩ = some (.int .i64 1) ∧ w1.drew.cell? ⟨w.heap.size, 1, none⟩ = some (.string pf) ∧ w1.drew.cell? ⟨w.heap.size, 3, none⟩ = some (.int .i64 ps) ∧ w1.drew.cell? ⟨w.heap.size, 4, none⟩ = some (.string pu) ∧ w1.drew.cell? ⟨w.heap.size, 5, none⟩ = some (.int .i64 pp) := ⟨d0, d1, d3, d4, d5⟩
      go_region_held3 (fun W => W.cell? ⟨w.heap.size, 0, none⟩ = some (.int .i64 1) ∧ W.cell? ⟨w.heap.size, 1, none⟩ = some (.string pf) ∧ W.cell? ⟨w.heap.size, 3, none⟩ = some (.int .i64 ps) ∧ W.cell? ⟨w.heap.size, 4, none⟩ = some (.string pu) ∧ W.cell? ⟨w.heap.size, 5, none⟩ = some (.int .i64 pp)) (first | with_reducible assumption | exact off8s ⟨d0, d1, d3, d4, d5⟩ (hn 0) (hn 1) (hn 3) (hn 4) (hn 5))
        (first
          | (go_at_call 85; refine (KS.out _).mono ?_; rintro e w2 ⟨rfl, rfl⟩))
      all_goals
        go_wp2
        refine bodyPost_ret (v := .agg #[.int .i64 0, .int .i64 1, .string pf, .string ⟨#[]⟩, .int .i64 ss, .string pu, .int .i64 mp, .slice none 0 0]) (by simp [results, Tryz.results33, go_sem, hc]) rfl ⟨_, _, _, rfl, OwnIts.nil _ _ _, ?_⟩
        exact ((((((((((below_then (below2 w _ _) HB.out).setCell (by simp) _).setCell (by simp) _).setCell (by simp) _).setCell (by simp) _).setCell (by simp) _).setCell (by simp) _).setCell (by simp) _).setCell (by simp) _)).drew
end Go.Proofs.YtcaknhoaoodbfaaGreatDoor
