/- impl.sharedShow, impl.ProjectionOf. -/
import Derived.Test.YticpebpicdboaaaGreatDoorGY8
import Derived.Test.YticpebpicdboaaaGreatDoorGY42
import Derived.Test.YticpebpicdboaaaGreatDoorGY29
import Derived.Deep.RegionHeld3
import Derived.Test.YticpebpicdboaaaGreatDoorGY39
import Derived.Test.YticpebpicdboaaaGreatDoorGY30
import Derived.Test.YticpebpicdboaaaGreatDoorGY14
import Derived.Test.YticpebpicdboaaaGreatDoorGY19
namespace Go.Proofs.YticpebpicdboaaaGreatDoor
open Go.ChangeShapes Go.WideShapes Go.ChangeAt Go.RowKit
set_option linter.unusedVariables false

theorem sharedShow_any (n : Int) (w : World) :
    Calls Tryz.prog 100 #[.int .i64 n] w fun e w' => e = .returned (.int .i64 (sharedS n)) ∧ w' = w := by
  have cases : (n = 2 ∧ sharedS n = 0) ∨ ((n == 2) = false ∧ n = 4 ∧ sharedS n = 1) ∨ ((n == 2) = false ∧ (n == 4) = false ∧ sharedS n = n) := by
    simp only [beq_eq_false_iff_ne]
    unfold sharedS
    by_cases h2 : n = 2
    · exact .inl ⟨h2, by rw [if_pos h2]⟩
    · by_cases h4 : n = 4
      · exact .inr (.inl ⟨h2, h4, by rw [if_neg h2, if_pos h4]⟩)
      · exact .inr (.inr ⟨h2, h4, by rw [if_neg h2, if_neg h4]⟩)
  rcases cases with ⟨rfl, e⟩ | ⟨q1, rfl, e⟩ | ⟨q1, q2, e⟩
  all_goals
    rw [e]
    clear e
    go_enter Tryz.func100, Tryz.ntmps100
    go_wp2
    go_ret
    exact ⟨rfl, rfl⟩
theorem off8 {W : World} {R : Nat} {x0 x1 x2 x3 x4 x5 x6 x7 : Value} {p : Addr} {v : Value} (h : W.cell? p = some v) (hn : p.block ≠ R) :
    ((((((((W.setCell ⟨R, 0, none⟩ x0).setCell ⟨R, 1, none⟩ x1).setCell ⟨R, 2, none⟩ x2).setCell ⟨R, 3, none⟩ x3).setCell ⟨R, 4, none⟩ x4).setCell ⟨R, 5, none⟩ x5).setCell ⟨R, 6, none⟩ x6).setCell ⟨R, 7, none⟩ x7).drew.cell? p = some v := by
  have ho := (((((((Only.set (P := fun i => i = R) W ⟨R, 0, none⟩ x0 rfl).trans (Only.set (P := fun i => i = R) _ ⟨R, 1, none⟩ x1 rfl)).trans (Only.set (P := fun i => i = R) _ ⟨R, 2, none⟩ x2 rfl)).trans (Only.set (P := fun i => i = R) _ ⟨R, 3, none⟩ x3 rfl)).trans (Only.set (P := fun i => i = R) _ ⟨R, 4, none⟩ x4 rfl)).trans (Only.set (P := fun i => i = R) _ ⟨R, 5, none⟩ x5 rfl)).trans (Only.set (P := fun i => i = R) _ ⟨R, 6, none⟩ x6 rfl)).trans (Only.set (P := fun i => i = R) _ ⟨R, 7, none⟩ x7 rfl)
  have hd : ∀ V : World, V.drew.cell? p = V.cell? p := fun _ => rfl
  rw [hd]
  exact (ho.cell (World.block_lt_of_cell? W _ h) hn).trans h
theorem off8s {W : World} {R : Nat} {x0 x1 x2 x3 x4 x5 x6 x7 : Value} {p q r s u : Addr} {v1 v2 v3 v4 v5 : Value} (h : W.cell? p = some v1 ∧ W.cell? q = some v2 ∧ W.cell? r = some v3 ∧ W.cell? s = some v4 ∧ W.cell? u = some v5) (h1 : p.block ≠ R) (h2 : q.block ≠ R) (h3 : r.block ≠ R) (h4 : s.block ≠ R) (h5 : u.block ≠ R) :
    ((((((((W.setCell ⟨R, 0, none⟩ x0).setCell ⟨R, 1, none⟩ x1).setCell ⟨R, 2, none⟩ x2).setCell ⟨R, 3, none⟩ x3).setCell ⟨R, 4, none⟩ x4).setCell ⟨R, 5, none⟩ x5).setCell ⟨R, 6, none⟩ x6).setCell ⟨R, 7, none⟩ x7).drew.cell? p = some v1 ∧ ((((((((W.setCell ⟨R, 0, none⟩ x0).setCell ⟨R, 1, none⟩ x1).setCell ⟨R, 2, none⟩ x2).setCell ⟨R, 3, none⟩ x3).setCell ⟨R, 4, none⟩ x4).setCell ⟨R, 5, none⟩ x5).setCell ⟨R, 6, none⟩ x6).setCell ⟨R, 7, none⟩ x7).drew.cell? q = some v2 ∧ ((((((((W.setCell ⟨R, 0, none⟩ x0).setCell ⟨R, 1, none⟩ x1).setCell ⟨R, 2, none⟩ x2).setCell ⟨R, 3, none⟩ x3).setCell ⟨R, 4, none⟩ x4).setCell ⟨R, 5, none⟩ x5).setCell ⟨R, 6, none⟩ x6).setCell ⟨R, 7, none⟩ x7).drew.cell? r = some v3 ∧ ((((((((W.setCell ⟨R, 0, none⟩ x0).setCell ⟨R, 1, none⟩ x1).setCell ⟨R, 2, none⟩ x2).setCell ⟨R, 3, none⟩ x3).setCell ⟨R, 4, none⟩ x4).setCell ⟨R, 5, none⟩ x5).setCell ⟨R, 6, none⟩ x6).setCell ⟨R, 7, none⟩ x7).drew.cell? s = some v4 ∧ ((((((((W.setCell ⟨R, 0, none⟩ x0).setCell ⟨R, 1, none⟩ x1).setCell ⟨R, 2, none⟩ x2).setCell ⟨R, 3, none⟩ x3).setCell ⟨R, 4, none⟩ x4).setCell ⟨R, 5, none⟩ x5).setCell ⟨R, 6, none⟩ x6).setCell ⟨R, 7, none⟩ x7).drew.cell? u = some v5 :=
  ⟨off8 h.1 h1, off8 h.2.1 h2, off8 h.2.2.1 h3, off8 h.2.2.2.1 h4, off8 h.2.2.2.2 h5⟩
set_option maxRecDepth 100000 in
set_option maxHeartbeats 3200000 in
theorem implProjectionOf_any (p : Pr) (a : Option Addr) (n c lo hi : Nat) (w : World) (hT : Tabs w) (hsm : SmallPr p) (h : OwnIts w lo hi a n c p.more) :
    Calls Tryz.prog 36 #[.agg #[.int .i64 p.kind, .string p.sender, .string p.goal, .int .i64 p.shown, .string p.status, .int .i64 p.prio, .slice a n c]] w (PrrOwn w (projCode p) (projT p)) := by
  have hp : PrSize p := ⟨by have := hsm.texts; omega, by have := hsm.texts; omega, by have := hsm.texts; omega⟩
  have K0 := Lib.hid (fun W (hb : Below w.heap.size w W) => implPresenceFault_any p a n c W (tabs_kept hT hb) hp (h.its.below hb))
  have P0 := Lib.hid ((PrAt.new w 26 p a n c).below (below1 _ (.cells #[.int .i64 0, .int .i64 0, .string ⟨#[]⟩, .string ⟨#[]⟩, .int .i64 0, .string ⟨#[]⟩, .int .i64 0, .slice none 0 0] 33)))
  have KS := Lib.hid (fun W => sharedShow_any p.shown W)
  have hs1 := hp.s1
  unfold projT projCode PrrOwn proj
  clear hT hp h hsm
  by_cases hcd : presCode p = 0
  case neg =>
    rw [if_pos hcd, if_neg hcd]
    unfold zeroPr
    generalize presCode p = cd at K0 hcd ⊢
    have q1 : (cd != 0) = true := by rw [bne_iff_ne]; exact hcd
    clear hcd
    obtain ⟨pk, pf, pt, ps, pu, pp, pm⟩ := p
    dsimp only at K0 P0 KS ⊢
    have d0 := P0.out.c0
    have d1 := P0.out.c1
    have d2 := P0.out.c2
    have d3 := P0.out.c3
    have d4 := P0.out.c4
    have d5 := P0.out.c5
    have d6 := P0.out.c6
    go_enter Tryz.func36, Tryz.ntmps36
    go_wp2_with fail
    refine (K0.out _ (below2 _ _ _)).mono ?_
    rintro e w1 ⟨rfl, hb⟩
    obtain ⟨hc, hf⟩ := bcell hb
    have HB := Lib.hid hb
    have hz := hb.size
    simp at hz
    clear hb d0 d1 d2 d3 d4 d5 d6
    go_wp2
    refine bodyPost_ret (v := .agg #[.int .i64 cd, .int .i64 0, .string ⟨#[]⟩, .string ⟨#[]⟩, .int .i64 0, .string ⟨#[]⟩, .int .i64 0, .slice none 0 0]) (by simp [results, Tryz.results36, go_sem, hc]) rfl ⟨_, _, _, rfl, OwnIts.nil _ _ _, ?_⟩
    exact (((((((((below_then (below2 w _ _) HB.out).setCell (by simp) _).setCell (by simp) _).setCell (by simp) _).setCell (by simp) _).setCell (by simp) _).setCell (by simp) _).setCell (by simp) _).setCell (by simp) _)
  have hkd := presCode_kind hcd
  rw [if_neg (by rw [hcd]; simp)]
  rw [hcd] at K0
  clear hcd
  unfold zeroPr
  obtain ⟨pk, pf, pt, ps, pu, pp, pm⟩ := p
  dsimp only at K0 P0 KS hs1 hkd ⊢
  generalize sharedS ps = ss at KS ⊢
  obtain ⟨mp, hmp⟩ : ∃ mp, prioS pp = mp := ⟨_, rfl⟩
  rw [hmp]
  have hmx : max pp 0 = mp := by rw [← hmp]; unfold prioS; split <;> omega
  clear hmp
  obtain ⟨k1, hk1⟩ : ∃ k1, decide (1 < pk) = k1 := ⟨_, rfl⟩
  obtain ⟨em, hem⟩ : ∃ em, pf.toList.isEmpty = em := ⟨_, rfl⟩
  rw [hk1, hem]
  obtain ⟨rc, hrc⟩ : ∃ rc, (if askB k1 em = true then (7 : Int) else if 55 < pf.size then 2 else 0) = rc := ⟨_, rfl⟩
  rw [hrc]
  have HRC := Lib.hid hrc
  clear hrc
  have cases : (k1 = true ∧ rc = 7) ∨ (k1 = false ∧ em = true ∧ rc = 7) ∨ (k1 = false ∧ em = false ∧ 55 < (pf.size : Int) ∧ rc = 2) ∨ (k1 = false ∧ em = false ∧ ¬ (55 < (pf.size : Int)) ∧ rc = 0) := by
    have h := HRC.out
    cases k1 <;> cases em
    · by_cases h5 : 55 < pf.size
      · exact .inr (.inr (.inl ⟨rfl, rfl, by omega, by rw [← h, if_neg (by decide), if_pos h5]⟩))
      · exact .inr (.inr (.inr ⟨rfl, rfl, by omega, by rw [← h, if_neg (by decide), if_neg h5]⟩))
    · exact .inr (.inl ⟨rfl, rfl, by rw [← h, if_pos (by decide)]⟩)
    · exact .inl ⟨rfl, by rw [← h, if_pos (by decide)]⟩
    · exact .inl ⟨rfl, by rw [← h, if_pos (by decide)]⟩
  clear HRC
  have hk : (pk = 0 ∧ k1 = false) ∨ ((pk == 0) = false ∧ pk = 1 ∧ k1 = false) ∨ ((pk == 0) = false ∧ (pk == 1) = false ∧ k1 = true) := by
    rw [← hk1]
    simp only [beq_eq_false_iff_ne, decide_eq_true_eq, decide_eq_false_iff_not]
    omega
  clear hk1 hkd
  rcases cases with ⟨hk1, rfl⟩ | ⟨hk1, rfl, rfl⟩ | ⟨hk1, rfl, h5, rfl⟩ | ⟨hk1, rfl, h5, rfl⟩
  · rw [if_neg (by decide)]
    obtain ⟨q0, q1⟩ : (pk != 0) = true ∧ (pk != 1) = true := by
      rcases hk with ⟨_, e⟩ | ⟨_, _, e⟩ | ⟨e0, e1, _⟩
      · rw [hk1] at e; cases e
      · rw [hk1] at e; cases e
      · exact ⟨by rw [bne, e0]; rfl, by rw [bne, e1]; rfl⟩
    clear hk hk1
    all_goals
      have d0 := P0.out.c0
      have d1 := P0.out.c1
      have d2 := P0.out.c2
      have d3 := P0.out.c3
      have d4 := P0.out.c4
      have d5 := P0.out.c5
      have d6 := P0.out.c6
      go_enter Tryz.func36, Tryz.ntmps36
      go_wp2_with fail
      refine (K0.out _ (below2 _ _ _)).mono ?_
      rintro e w1 ⟨rfl, hb⟩
      have P1 := P0.out.below hb
      obtain ⟨hc, hf⟩ := bcell hb
      have HB := Lib.hid hb
      have hz := hb.size
      simp at hz
      clear d0 d1 d2 d3 d4 d5 d6 hb
      have d0 := P1.c0
      have d1 := P1.c1
      have d3 := P1.c3
      have d4 := P1.c4
      have d5 := P1.c5
      clear P1
      go_wp2
      refine bodyPost_ret (v := .agg #[.int .i64 7, .int .i64 0, .string ⟨#[]⟩, .string ⟨#[]⟩, .int .i64 0, .string ⟨#[]⟩, .int .i64 0, .slice none 0 0]) (by simp [results, Tryz.results36, go_sem, hc]) rfl ⟨_, _, _, rfl, OwnIts.nil _ _ _, ?_⟩
      exact (((((((((below_then (below2 w _ _) HB.out).setCell (by simp) _).setCell (by simp) _).setCell (by simp) _).setCell (by simp) _).setCell (by simp) _).setCell (by simp) _).setCell (by simp) _).setCell (by simp) _)
  · rw [if_neg (by decide)]
    rcases hk with ⟨rfl, e⟩ | ⟨q0, rfl, e⟩ | ⟨q0, q1, e⟩
    rotate_left 2
    · rw [hk1] at e; cases e
    all_goals
      clear e hk1
      have d0 := P0.out.c0
      have d1 := P0.out.c1
      have d2 := P0.out.c2
      have d3 := P0.out.c3
      have d4 := P0.out.c4
      have d5 := P0.out.c5
      have d6 := P0.out.c6
      go_enter Tryz.func36, Tryz.ntmps36
      go_wp2_with fail
      refine (K0.out _ (below2 _ _ _)).mono ?_
      rintro e w1 ⟨rfl, hb⟩
      have P1 := P0.out.below hb
      obtain ⟨hc, hf⟩ := bcell hb
      have HB := Lib.hid hb
      have hz := hb.size
      simp at hz
      clear d0 d1 d2 d3 d4 d5 d6 hb
      have d0 := P1.c0
      have d1 := P1.c1
      have d3 := P1.c3
      have d4 := P1.c4
      have d5 := P1.c5
      clear P1
      go_wp2
      refine bodyPost_ret (v := .agg #[.int .i64 7, .int .i64 0, .string ⟨#[]⟩, .string ⟨#[]⟩, .int .i64 0, .string ⟨#[]⟩, .int .i64 0, .slice none 0 0]) (by simp [results, Tryz.results36, go_sem, hc]) rfl ⟨_, _, _, rfl, OwnIts.nil _ _ _, ?_⟩
      exact (((((((((below_then (below2 w _ _) HB.out).setCell (by simp) _).setCell (by simp) _).setCell (by simp) _).setCell (by simp) _).setCell (by simp) _).setCell (by simp) _).setCell (by simp) _).setCell (by simp) _)
  · rw [if_neg (by decide)]
    rcases hk with ⟨rfl, e⟩ | ⟨q0, rfl, e⟩ | ⟨q0, q1, e⟩
    rotate_left 2
    · rw [hk1] at e; cases e
    all_goals
      clear e hk1
      have d0 := P0.out.c0
      have d1 := P0.out.c1
      have d2 := P0.out.c2
      have d3 := P0.out.c3
      have d4 := P0.out.c4
      have d5 := P0.out.c5
      have d6 := P0.out.c6
      go_enter Tryz.func36, Tryz.ntmps36
      go_wp2_with fail
      refine (K0.out _ (below2 _ _ _)).mono ?_
      rintro e w1 ⟨rfl, hb⟩
      have P1 := P0.out.below hb
      obtain ⟨hc, hf⟩ := bcell hb
      have HB := Lib.hid hb
      have hz := hb.size
      simp at hz
      clear d0 d1 d2 d3 d4 d5 d6 hb
      have d0 := P1.c0
      have d1 := P1.c1
      have d3 := P1.c3
      have d4 := P1.c4
      have d5 := P1.c5
      clear P1
      go_wp2
      refine bodyPost_ret (v := .agg #[.int .i64 2, .int .i64 0, .string ⟨#[]⟩, .string ⟨#[]⟩, .int .i64 0, .string ⟨#[]⟩, .int .i64 0, .slice none 0 0]) (by simp [results, Tryz.results36, go_sem, hc]) rfl ⟨_, _, _, rfl, OwnIts.nil _ _ _, ?_⟩
      exact (((((((((below_then (below2 w _ _) HB.out).setCell (by simp) _).setCell (by simp) _).setCell (by simp) _).setCell (by simp) _).setCell (by simp) _).setCell (by simp) _).setCell (by simp) _).setCell (by simp) _)
  · rw [if_pos rfl]
    rcases hk with ⟨rfl, e⟩ | ⟨q0, rfl, e⟩ | ⟨q0, q1, e⟩
    rotate_left 2
    · rw [hk1] at e; cases e
    · clear e hk1
      have d0 := P0.out.c0
      have d1 := P0.out.c1
      have d2 := P0.out.c2
      have d3 := P0.out.c3
      have d4 := P0.out.c4
      have d5 := P0.out.c5
      have d6 := P0.out.c6
      go_enter Tryz.func36, Tryz.ntmps36
      go_wp2_with fail
      refine (K0.out _ (below2 _ _ _)).mono ?_
      rintro e w1 ⟨rfl, hb⟩
      have P1 := P0.out.below hb
      obtain ⟨hc, hf⟩ := bcell hb
      have HB := Lib.hid hb
      have hz := hb.size
      simp at hz
      clear d0 d1 d2 d3 d4 d5 d6 hb
      have d0 := P1.c0
      have d1 := P1.c1
      have d3 := P1.c3
      have d4 := P1.c4
      have d5 := P1.c5
      clear P1
      go_wp2_with fail
      have hn : ∀ i, (⟨w.heap.size, i, none⟩ : Addr).block ≠ w.heap.size + 1 := fun i => by show w.heap.size ≠ _; omega
      have hS0 : w1.drew.cell? ⟨w.heap.size, 0, none⟩ = some (.int .i64 0) ∧ w1.drew.cell? ⟨w.heap.size, 1, none⟩ = some (.string pf) ∧ w1.drew.cell? ⟨w.heap.size, 3, none⟩ = some (.int .i64 ps) ∧ w1.drew.cell? ⟨w.heap.size, 4, none⟩ = some (.string pu) ∧ w1.drew.cell? ⟨w.heap.size, 5, none⟩ = some (.int .i64 pp) := ⟨d0, d1, d3, d4, d5⟩
      go_region_held3 (fun W => W.cell? ⟨w.heap.size, 0, none⟩ = some (.int .i64 0) ∧ W.cell? ⟨w.heap.size, 1, none⟩ = some (.string pf) ∧ W.cell? ⟨w.heap.size, 3, none⟩ = some (.int .i64 ps) ∧ W.cell? ⟨w.heap.size, 4, none⟩ = some (.string pu) ∧ W.cell? ⟨w.heap.size, 5, none⟩ = some (.int .i64 pp)) (first | with_reducible assumption | exact off8s ⟨d0, d1, d3, d4, d5⟩ (hn 0) (hn 1) (hn 3) (hn 4) (hn 5))
        (first
          | (go_at_call 100; refine (KS.out _).mono ?_; rintro e w2 ⟨rfl, rfl⟩))
      all_goals
        go_wp2
        refine bodyPost_ret (v := .agg #[.int .i64 0, .int .i64 0, .string pf, .string ⟨#[]⟩, .int .i64 ss, .string pu, .int .i64 mp, .slice none 0 0]) (by simp [results, Tryz.results36, go_sem, hc]) rfl ⟨_, _, _, rfl, OwnIts.nil _ _ _, ?_⟩
        exact ((((((((((below_then (below2 w _ _) HB.out).setCell (by simp) _).setCell (by simp) _).setCell (by simp) _).setCell (by simp) _).setCell (by simp) _).setCell (by simp) _).setCell (by simp) _).setCell (by simp) _)).drew
    · clear e hk1
      have d0 := P0.out.c0
      have d1 := P0.out.c1
      have d2 := P0.out.c2
      have d3 := P0.out.c3
      have d4 := P0.out.c4
      have d5 := P0.out.c5
      have d6 := P0.out.c6
      go_enter Tryz.func36, Tryz.ntmps36
      go_wp2_with fail
      refine (K0.out _ (below2 _ _ _)).mono ?_
      rintro e w1 ⟨rfl, hb⟩
      have P1 := P0.out.below hb
      obtain ⟨hc, hf⟩ := bcell hb
      have HB := Lib.hid hb
      have hz := hb.size
      simp at hz
      clear d0 d1 d2 d3 d4 d5 d6 hb
      have d0 := P1.c0
      have d1 := P1.c1
      have d3 := P1.c3
      have d4 := P1.c4
      have d5 := P1.c5
      clear P1
      go_wp2_with fail
      have hn : ∀ i, (⟨w.heap.size, i, none⟩ : Addr).block ≠ w.heap.size + 1 := fun i => by show w.heap.size ≠ _; omega
      have hS0 : w1.drew.cell? ⟨w.heap.size, 0, none⟩ = some (.int .i64 1) ∧ w1.drew.cell? ⟨w.heap.size, 1, none⟩ = some (.string pf) ∧ w1.drew.cell? ⟨w.heap.size, 3, none⟩ = some (.int .i64 ps) ∧ w1.drew.cell? ⟨w.heap.size, 4, none⟩ = some (.string pu) ∧ w1.drew.cell? ⟨w.heap.size, 5, none⟩ = some (.int .i64 pp) := ⟨d0, d1, d3, d4, d5⟩
      go_region_held3 (fun W => W.cell? ⟨w.heap.size, 0, none⟩ = some (.int .i64 1) ∧ W.cell? ⟨w.heap.size, 1, none⟩ = some (.string pf) ∧ W.cell? ⟨w.heap.size, 3, none⟩ = some (.int .i64 ps) ∧ W.cell? ⟨w.heap.size, 4, none⟩ = some (.string pu) ∧ W.cell? ⟨w.heap.size, 5, none⟩ = some (.int .i64 pp)) (first | with_reducible assumption | exact off8s ⟨d0, d1, d3, d4, d5⟩ (hn 0) (hn 1) (hn 3) (hn 4) (hn 5))
        (first
          | (go_at_call 100; refine (KS.out _).mono ?_; rintro e w2 ⟨rfl, rfl⟩))
      all_goals
        go_wp2
        refine bodyPost_ret (v := .agg #[.int .i64 0, .int .i64 1, .string pf, .string ⟨#[]⟩, .int .i64 ss, .string pu, .int .i64 mp, .slice none 0 0]) (by simp [results, Tryz.results36, go_sem, hc]) rfl ⟨_, _, _, rfl, OwnIts.nil _ _ _, ?_⟩
        exact ((((((((((below_then (below2 w _ _) HB.out).setCell (by simp) _).setCell (by simp) _).setCell (by simp) _).setCell (by simp) _).setCell (by simp) _).setCell (by simp) _).setCell (by simp) _).setCell (by simp) _)).drew
end Go.Proofs.YticpebpicdboaaaGreatDoor

/- impl.PidfOf. -/
namespace Go.Proofs.YticpebpicdboaaaGreatDoor
open Go.ChangeShapes Go.WideShapes Go.ChangeAt Go.RowKit
set_option linter.unusedVariables false

set_option maxRecDepth 100000 in
set_option maxHeartbeats 3200000 in
theorem implPidfOf_any (p : Pr) (a : Option Addr) (n c lo hi : Nat) (w : World) (hT : Tabs w) (hPw : Pows w) (hs : SmallPr p) (h : OwnIts w lo hi a n c p.more) :
    Calls Tryz.prog 34 #[.agg #[.int .i64 p.kind, .string p.sender, .string p.goal, .int .i64 p.shown, .string p.status, .int .i64 p.prio, .slice a n c]] w (TreeOwn w (projCode p) (pidfT p)) := by
  have P0 := Lib.hid ((PrAt.new w 26 p a n c).below (below1 _ (.cells #[.int .i64 0, .slice none 0 0] 29)))
  have K0 := Lib.hid (fun W (hb : Below w.heap.size w W) => implProjectionOf_any p a n c lo hi W (tabs_kept hT hb) hs (h.below hb))
  have hq := projT_small hs
  have HW := Lib.hid (fun h0 i hi => pidf_wide p hs h0 i hi)
  have HLN := Lib.hid (pidf_len p)
  have HPW := Lib.hid (fun W (hb : Below w.heap.size w W) => hPw.below hb)
  have HGQ := Lib.hid (projT_good p)
  unfold TreeOwn
  unfold PrrOwn at K0
  clear hs h hT hPw
  by_cases hcd : projCode p = 0
  · have hpt : pidfT p = pidfL (projT p) := by unfold pidfT projT; rw [if_pos hcd, if_pos hcd]
    rw [hpt] at HW HLN ⊢
    rw [hcd] at K0 ⊢
    have HW := Lib.hid (fun i hi => HW.out hcd i hi)
    clear hpt
    clear hcd
    obtain ⟨pk, pf, pt, ps, pu, pp, pm⟩ := p
    generalize projT ⟨pk, pf, pt, ps, pu, pp, pm⟩ = q at K0 hq HW HLN HGQ ⊢
    have KT := Lib.hid (fun W (hP : Pows W) x m k => pidfItems_any q x m k W hq HGQ.out.1 HGQ.out.2 hP)
    unfold GrewRes at KT
    clear HGQ
    generalize pidfL q = L at KT HW HLN ⊢
    obtain ⟨qk, qf, qt, qs, qu, qp, qm⟩ := q
    dsimp only at K0 P0 hq KT
    have d0 := P0.out.c0
    have d1 := P0.out.c1
    have d2 := P0.out.c2
    have d3 := P0.out.c3
    have d4 := P0.out.c4
    have d5 := P0.out.c5
    have d6 := P0.out.c6
    go_enter Tryz.func34, Tryz.ntmps34
    go_wp2_with fail
    refine (K0.out _ (below2 _ _ _)).mono ?_
    rintro e w1 ⟨a1, n1, c1, rfl, h1, hb⟩
    have HB1 := Lib.hid hb
    have hz1 := hb.size
    simp at hz1
    clear h1 d0 d1 d2 d3 d4 d5 d6 hb
    go_wp2_with fail
    refine (KT.out _ (HPW.out _ (below_then (below_then (below2 w _ _) HB1.out) (below1 _ _))) _ _ _).mono ?_
    rintro e w2 ⟨a2, n2, c2, A2, N2, C2, rfl, hg, hb2⟩
    have hlen := hg.len
    have hn2 : n2 ≤ 11 := by have := HLN.out; omega
    have own2 := Lib.hid (hg.own (by omega) (fun i hi => HW.out i (by omega)))
    have hb := below_then (below_then HB1.out (below1 w1 (.cells #[.int .i64 0, .int .i64 qk, .string qf, .string qt, .int .i64 qs, .string qu, .int .i64 qp, .slice a1 n1 c1] 33))) hb2
    obtain ⟨hc, hf⟩ := bcell hb
    have hz2 : w1.heap.size + 1 ≤ w2.heap.size := by have := hb2.size; simpa using this
    have HB := Lib.hid hb
    have hz := hb.size
    simp at hz
    clear hg hlen hb2 hb
    go_wp2
    refine bodyPost_ret (v := .agg #[.int .i64 0, .slice a2 n2 c2]) (by simp [results, Tryz.results34, go_sem, hc]) rfl ⟨_, _, _, rfl, ?_, ?_⟩
    · have st : ∀ (W : World) (i : Nat) (v : Value), OwnIts W (w1.heap.size + 1) w2.heap.size a2 n2 c2 L → OwnIts (W.setCell ⟨w.heap.size + 1, i, none⟩ v) (w1.heap.size + 1) w2.heap.size a2 n2 c2 L := fun W i v h =>
        h.only (Only.set (P := fun i => i = w.heap.size + 1) W ⟨w.heap.size + 1, i, none⟩ v rfl) fun i hlo hhi he => by omega
      have h0 := own2.out
      rw [show ∀ o, (w1.alloc o).heap.size = w1.heap.size + 1 from fun o => by simp] at h0
      exact (st _ 1 _ (st _ 0 _ h0)).mono (by omega) (by simp)
    · exact (((below_then (below2 w _ _) HB.out).setCell (by simp) _).setCell (by simp) _)
  · have hpt : pidfT p = [] := by unfold pidfT; rw [if_neg hcd]
    rw [hpt]
    generalize projCode p = cd at K0 hcd ⊢
    generalize projT p = q at K0
    have q1 : (cd != 0) = true := by rw [bne_iff_ne]; exact hcd
    clear hcd hpt HW HLN hq
    obtain ⟨pk, pf, pt, ps, pu, pp, pm⟩ := p
    obtain ⟨qk, qf, qt, qs, qu, qp, qm⟩ := q
    dsimp only at K0 P0
    have d0 := P0.out.c0
    have d1 := P0.out.c1
    have d2 := P0.out.c2
    have d3 := P0.out.c3
    have d4 := P0.out.c4
    have d5 := P0.out.c5
    have d6 := P0.out.c6
    go_enter Tryz.func34, Tryz.ntmps34
    go_wp2_with fail
    refine (K0.out _ (below2 _ _ _)).mono ?_
    rintro e w1 ⟨a1, n1, c1, rfl, h1, hb⟩
    have hb := below_then hb (below1 w1 (.cells #[.int .i64 cd, .int .i64 qk, .string qf, .string qt, .int .i64 qs, .string qu, .int .i64 qp, .slice a1 n1 c1] 33))
    obtain ⟨hc, hf⟩ := bcell hb
    have HB := Lib.hid hb
    have hz := hb.size
    simp at hz
    clear h1 d0 d1 d2 d3 d4 d5 d6 hb
    go_wp2
    refine bodyPost_ret (v := .agg #[.int .i64 cd, .slice none 0 0]) (by simp [results, Tryz.results34, go_sem, hc]) rfl ⟨_, _, _, rfl, ⟨rfl, by omega, fun i hi => by omega, .inl rfl⟩, ?_⟩
    exact (((below_then (below2 w _ _) HB.out).setCell (by simp) _).setCell (by simp) _)
end Go.Proofs.YticpebpicdboaaaGreatDoor

/- slices.Equal over attributes, sameItems, slices.EqualFunc over items, impl.SameTrees. -/
namespace Go.Proofs.YticpebpicdboaaaGreatDoor
open Go.ChangeShapes Go.WideShapes Go.ChangeAt Go.RowKit
set_option linter.unusedVariables false

set_option maxRecDepth 100000 in
set_option maxHeartbeats 1600000 in
theorem equalAttrs_any (a a' : Option Addr) (n n' c c' : Nat) (l l' : List At) (w : World) (bb : Bool) (hbb : bb = true ↔ l = l') (h : AtsAt w a n c l) (h' : AtsAt w a' n' c' l') :
    Calls Tryz.prog 233 #[.slice a n c, .slice a' n' c'] w fun e w' => e = .returned (.bool bb) ∧ ∃ n, w' = w.drewN n := by
  have hm := h.max
  have hm' := h'.max
  have HR := Lib.hid h.row
  have HR' := Lib.hid h'.row
  have HL := Lib.hid h.len
  have HL' := Lib.hid h'.len
  have HBB := Lib.hid hbb
  clear h h' hbb
  by_cases hnn : n = n'
  · subst hnn
    go_enter Tryz.func233, Tryz.ntmps233
    go_wp2
    go_loopw [13] (fun i wr => ∃ k : Nat, k ≤ n ∧ i = .int .i64 k ∧ l.take k = l'.take k ∧ ∃ n, wr = w.drewN n) (fun i _ => n - (intOf i).toNat)
    case atStart => exact ⟨0, Nat.zero_le _, rfl, rfl, 0, rfl⟩
    case round =>
      obtain ⟨k, hk, rfl, ht, hw⟩ := hrel
      have HW := Lib.hid hw
      have HT := Lib.hid ht
      clear ht hw
      by_cases hlt : k < n
      · rcases HR.out with e0 | ⟨b4, o4, rfl, h3, h4⟩
        · omega
        rcases HR'.out with e0 | ⟨b5, o5, rfl, h3', h4'⟩
        · omega
        have hbw : Below w.heap.size w wr := by obtain ⟨nd, rfl⟩ := HW.out; exact below_drewN (Below.refl _ _) nd
        have f0 := (hbw.cell (p := ⟨b4, o4 + k * 2, none⟩) h3).trans (h4 k hlt).1
        have f1 := (hbw.cell (p := ⟨b4, o4 + k * 2 + 1, none⟩) h3).trans (h4 k hlt).2
        have g0 := (hbw.cell (p := ⟨b5, o5 + k * 2, none⟩) h3').trans (h4' k hlt).1
        have g1 := (hbw.cell (p := ⟨b5, o5 + k * 2 + 1, none⟩) h3').trans (h4' k hlt).2
        clear h4 h4' hbw
        have k1 : (k : Int) < (n : Int) := by omega
        have HE : Hid (l.getD k dAt = l'.getD k dAt → l.take (k + 1) = l'.take (k + 1)) := Lib.hid fun e => by
          rw [take_snocD (by have := HL.out; omega), take_snocD (l := l') (by have := HL'.out; omega), HT.out, e]
        have HN : Hid (l.getD k dAt ≠ l'.getD k dAt → bb = false) := Lib.hid fun e => by
          rw [Bool.eq_false_iff]
          intro hb
          exact e (by rw [HBB.out.1 hb])
        obtain ⟨p, hp⟩ : ∃ p, l.getD k dAt = p := ⟨_, rfl⟩
        obtain ⟨q, hq⟩ : ∃ q, l'.getD k dAt = q := ⟨_, rfl⟩
        rw [hp] at f0 f1 HE HN
        rw [hq] at g0 g1 HE HN
        have HP := Lib.hid hp
        have HQ := Lib.hid hq
        clear hp hq
        obtain ⟨ps, pt⟩ := p
        obtain ⟨qs, qt⟩ := q
        dsimp only at f0 f1 g0 g1
        by_cases hne : ps = qs ∧ pt = qt
        · obtain ⟨rfl, rfl⟩ := hne
          have hfr := neqAttr ps pt ps pt true true (by simp) (by simp)
          go_wp2_with fail
          go_quiet (fail)
          go_wp2
          go_roundw
          case rel => exact ⟨k + 1, by omega, by go_num, HE.out trivial, drew_more HW.out _⟩
          case measure => simp [intOf]; omega
        · have hfr : ∀ w, (binOp .neq 75 (.agg #[.string ps, .string pt]) (.agg #[.string qs, .string qt])).run Tryz.prog w = .ok (.bool true) w := by
            intro W
            by_cases h1 : ps = qs
            · rw [neqAttr ps pt qs qt true false (by rw [h1]; simp) (toList_ne fun e => hne ⟨h1, e⟩)]; rfl
            · rw [neqAttr ps pt qs qt false _ (toList_ne h1) rfl]; rfl
          have HF := HN.out fun e => hne (by rw [At.mk.injEq] at e; exact e)
          subst HF
          clear hne HN HE
          go_wp2_with fail
          go_quiet (fail)
          go_wp2
          go_ret
          exact ⟨rfl, drew_more HW.out _⟩
      · obtain rfl : k = n := by omega
        have HF : bb = true := HBB.out.2 (by
          have := HT.out
          rw [List.take_of_length_le (by have := HL.out; omega), List.take_of_length_le (by have := HL'.out; omega)] at this
          exact this)
        subst HF
        go_wp2
        go_ret
        exact ⟨rfl, HW.out⟩
  · have HF : bb = false := by
      rw [Bool.eq_false_iff]
      exact fun hb => hnn (by rw [← HL.out, ← HL'.out, HBB.out.1 hb])
    subst HF
    have q1 : ((n : Int) != (n' : Int)) = true := by rw [bne_iff_ne]; omega
    have q2 : ((n : Int) == (n' : Int)) = false := by rw [beq_eq_false_iff_ne]; omega
    clear hnn
    go_enter Tryz.func233, Tryz.ntmps233
    go_wp2
    go_ret
    exact ⟨rfl, 0, rfl⟩

/-- what the equality of two items hangs on, field by field -/
theorem it_ne {x y : It} (bb : Bool) (hbb : bb = true ↔ x = y) (h : x ≠ y) : bb = false := by rw [Bool.eq_false_iff]; exact fun e => h (hbb.1 e)

set_option maxRecDepth 100000 in
set_option maxHeartbeats 1600000 in
theorem sameItems_any (x y : It) (a a' : Option Addr) (n n' c c' : Nat) (w : World) (bb : Bool) (hbb : bb = true ↔ x = y) (h : AtsAt w a n c x.attrs) (h' : AtsAt w a' n' c' y.attrs) :
    Calls Tryz.prog 155 #[.agg #[.int .i64 x.depth, .string x.text, .string x.space, .string x.name, .slice a n c], .agg #[.int .i64 y.depth, .string y.text, .string y.space, .string y.name, .slice a' n' c']] w fun e w' => e = .returned (.bool bb) ∧ Below w.heap.size w w' := by
  have HBB := Lib.hid hbb
  have K := Lib.hid (fun cc hcc W (hb : Below w.heap.size w W) => equalAttrs_any a a' n n' c c' x.attrs y.attrs W cc hcc (h.below hb) (h'.below hb))
  clear h h' hbb
  obtain ⟨xd, xt, xs, xn, xa⟩ := x
  obtain ⟨yd, yt, ys, yn, ya⟩ := y
  dsimp only at K ⊢
  by_cases hd : xd = yd
  · subst hd
    have q0 : (xd == xd) = true := by simp
    by_cases ht : xt = yt
    · subst ht
      by_cases hs : xs = ys
      · subst hs
        by_cases hn : xn = yn
        · subst hn
          have K2 := Lib.hid (K.out bb ⟨fun e => by have := HBB.out.1 e; rw [It.mk.injEq] at this; exact this.2.2.2.2, fun e => HBB.out.2 (by rw [e])⟩)
          go_enter Tryz.func155, Tryz.ntmps155
          go_wp2_with (go_at_call 233; refine (K2.out _ (below2 _ _ _)).mono ?_; rintro e w1 ⟨rfl, nd, rfl⟩)
          go_ret
          exact ⟨rfl, below_drewN (below2 _ _ _) _⟩
        · have q1 := toList_ne hn
          have HF := it_ne bb HBB.out (fun e => hn (by rw [It.mk.injEq] at e; exact e.2.2.2.1))
          subst HF
          clear hn
          go_enter Tryz.func155, Tryz.ntmps155
          go_wp2
          go_ret
          exact ⟨rfl, below2 _ _ _⟩
      · have q1 := toList_ne hs
        have HF := it_ne bb HBB.out (fun e => hs (by rw [It.mk.injEq] at e; exact e.2.2.1))
        subst HF
        clear hs
        go_enter Tryz.func155, Tryz.ntmps155
        go_wp2
        go_ret
        exact ⟨rfl, below2 _ _ _⟩
    · have q1 := toList_ne ht
      have HF := it_ne bb HBB.out (fun e => ht (by rw [It.mk.injEq] at e; exact e.2.1))
      subst HF
      clear ht
      go_enter Tryz.func155, Tryz.ntmps155
      go_wp2
      go_ret
      exact ⟨rfl, below2 _ _ _⟩
  · have q1 : (xd == yd) = false := by simpa using hd
    have HF := it_ne bb HBB.out (fun e => hd (by rw [It.mk.injEq] at e; exact e.1))
    subst HF
    clear hd
    go_enter Tryz.func155, Tryz.ntmps155
    go_wp2
    go_ret
    exact ⟨rfl, below2 _ _ _⟩
end Go.Proofs.YticpebpicdboaaaGreatDoor

/- slices.EqualFunc over items, impl.SameTrees. -/
namespace Go.Proofs.YticpebpicdboaaaGreatDoor
open Go.ChangeShapes Go.WideShapes Go.ChangeAt Go.RowKit
set_option linter.unusedVariables false

set_option maxRecDepth 100000 in
set_option maxHeartbeats 1600000 in
theorem equalFunc_any (a a' : Option Addr) (n n' c c' : Nat) (l l' : List It) (w : World) (bb : Bool) (hbb : bb = true ↔ l = l') (h : ItsAt w a n c l) (h' : ItsAt w a' n' c' l') :
    Calls Tryz.prog 154 #[.slice a n c, .slice a' n' c', .func (.func 155) #[] #[]] w fun e w' => e = .returned (.bool bb) ∧ Below w.heap.size w w' := by
  have hm := h.max
  have hm' := h'.max
  have HR := Lib.hid h.row
  have HR' := Lib.hid h'.row
  have HL := Lib.hid h.len
  have HL' := Lib.hid h'.len
  have HBB := Lib.hid hbb
  clear h h' hbb
  by_cases hnn : n = n'
  · subst hnn
    go_enter Tryz.func154, Tryz.ntmps154
    go_wp2
    go_loopw [17] (fun i wr => ∃ k : Nat, k ≤ n ∧ i = .int .i64 k ∧ l.take k = l'.take k ∧ Below w.heap.size w wr) (fun i _ => n - (intOf i).toNat)
    case atStart => exact ⟨0, Nat.zero_le _, rfl, rfl, Below.refl _ _⟩
    case round =>
      obtain ⟨k, hk, rfl, ht, hb⟩ := hrel
      have HT := Lib.hid ht
      clear ht
      by_cases hlt : k < n
      · rcases HR.out with e0 | ⟨b, o, rfl, h4⟩
        · omega
        rcases HR'.out with e0 | ⟨b', o', rfl, h4'⟩
        · omega
        have hi := (h4 k hlt).below hb
        have hi' := (h4' k hlt).below hb
        have d0 := hi.c0
        have d1 := hi.c1
        have d2 := hi.c2
        have d3 := hi.c3
        obtain ⟨a4, n4, c4, d4, hat⟩ := hi.c4
        have e0 := hi'.c0
        have e1 := hi'.c1
        have e2 := hi'.c2
        have e3 := hi'.c3
        obtain ⟨a5, n5, c5, e4, hat'⟩ := hi'.c4
        have hbl := hi.lt
        have hbl' := hi'.lt
        have k1 : (k : Int) < (n : Int) := by omega
        have HE : Hid (l.getD k dIt = l'.getD k dIt → l.take (k + 1) = l'.take (k + 1)) := Lib.hid fun e => by
          rw [take_snocI (by have := HL.out; omega), take_snocI (l := l') (by have := HL'.out; omega), HT.out, e]
        have HN : Hid (l.getD k dIt ≠ l'.getD k dIt → bb = false) := Lib.hid fun e => by
          rw [Bool.eq_false_iff]
          intro hb
          exact e (by rw [HBB.out.1 hb])
        have K := Lib.hid (fun cc hcc W (hb' : Below wr.heap.size wr W) => sameItems_any (l.getD k dIt) (l'.getD k dIt) a4 a5 n4 n5 c4 c5 W cc hcc (hat.below hb') (hat'.below hb'))
        clear hi hi' hat hat' h4 h4'
        generalize l.getD k dIt = x at d0 d1 d2 d3 K HE HN
        generalize l'.getD k dIt = y at e0 e1 e2 e3 K HE HN
        have HB := Lib.hid hb
        clear hb
        obtain ⟨xd, xt, xs, xn, xa⟩ := x
        obtain ⟨yd, yt, ys, yn, ya⟩ := y
        dsimp only at d0 d1 d2 d3 e0 e1 e2 e3 K
        by_cases hne : (⟨xd, xt, xs, xn, xa⟩ : It) = ⟨yd, yt, ys, yn, ya⟩
        · have HE2 := Lib.hid (HE.out hne)
          have K2 := Lib.hid (K.out true (iff_of_true rfl hne))
          clear HE HN K hne
          go_wp2_with (go_at_call 155; refine (K2.out _ (below2 _ _ _)).mono ?_; rintro e w2 ⟨rfl, hb2⟩)
          go_roundw
          case rel => exact ⟨k + 1, by omega, by go_num, HE2.out, below_then HB.out (below_then (below2 _ _ _) hb2)⟩
          case measure => simp [intOf]; omega
        · have HF := HN.out hne
          subst HF
          have K2 := Lib.hid (K.out false (iff_of_false (by decide) hne))
          clear HE HN K hne
          go_wp2_with (go_at_call 155; refine (K2.out _ (below2 _ _ _)).mono ?_; rintro e w2 ⟨rfl, hb2⟩)
          go_ret
          exact ⟨rfl, below_then HB.out (below_then (below2 _ _ _) hb2)⟩
      · obtain rfl : k = n := by omega
        have HF : bb = true := HBB.out.2 (by
          have := HT.out
          rw [List.take_of_length_le (by have := HL.out; omega), List.take_of_length_le (by have := HL'.out; omega)] at this
          exact this)
        subst HF
        go_wp2
        go_ret
        exact ⟨rfl, hb⟩
  · have HF : bb = false := by
      rw [Bool.eq_false_iff]
      exact fun hb => hnn (by rw [← HL.out, ← HL'.out, HBB.out.1 hb])
    subst HF
    have q1 : ((n : Int) != (n' : Int)) = true := by rw [bne_iff_ne]; omega
    have q2 : ((n : Int) == (n' : Int)) = false := by rw [beq_eq_false_iff_ne]; omega
    clear hnn
    go_enter Tryz.func154, Tryz.ntmps154
    go_wp2
    go_ret
    exact ⟨rfl, Below.refl _ _⟩

theorem implSameTrees_any (a a' : Option Addr) (n n' c c' : Nat) (l l' : List It) (w : World) (bb : Bool) (hbb : bb = true ↔ l = l') (h : ItsAt w a n c l) (h' : ItsAt w a' n' c' l') :
    Calls Tryz.prog 79 #[.slice a n c, .slice a' n' c'] w fun e w' => e = .returned (.bool bb) ∧ Below w.heap.size w w' := by
  have K := Lib.hid (fun W (hb : Below w.heap.size w W) => equalFunc_any a a' n n' c c' l l' W bb hbb (h.below hb) (h'.below hb))
  clear h h' hbb
  go_enter Tryz.func79, Tryz.ntmps79
  go_wp2_with fail
  refine (K.out _ (Below.refl _ _)).mono ?_
  rintro e w1 ⟨rfl, hb⟩
  go_wp2
  go_ret
  exact ⟨rfl, hb⟩
end Go.Proofs.YticpebpicdboaaaGreatDoor
