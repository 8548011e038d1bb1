/- The program's turn. -/
import Derived.Test.YtcaknhoaoodbfaaGreatDoorGC36
import Derived.StillTailTactics
namespace Go.Proofs.YtcaknhoaoodbfaaGreatDoor
open Go.ChangeShapes Go.WideShapes Go.ChangeAt Go.RowKit
set_option linter.unusedVariables false

theorem step_sum (r m e w f k : Int) (hm : m = (f + k) % 4294967296) : IntKind.u32.wrap (IntKind.u32.wrap (IntKind.u32.wrap (r + m) + e) + w) = (r + f + e + k + w) % 4294967296 := by
  subst hm
  simp only [IntKind.wrap_u32']
  omega
theorem held5 {w0 W W' : World} {p0 p1 p2 p3 p4 : Addr} {v0 v1 v2 v3 v4 : Value} (hb : Below W.heap.size W W')
    (h : Below w0.heap.size w0 W ∧ W.cell? p0 = some v0 ∧ W.cell? p1 = some v1 ∧ W.cell? p2 = some v2 ∧ W.cell? p3 = some v3 ∧ W.cell? p4 = some v4) :
    Below w0.heap.size w0 W' ∧ W'.cell? p0 = some v0 ∧ W'.cell? p1 = some v1 ∧ W'.cell? p2 = some v2 ∧ W'.cell? p3 = some v3 ∧ W'.cell? p4 = some v4 := by
  obtain ⟨h0, h1, h2, h3, h4, h5⟩ := h
  have k : ∀ {p : Addr} {v : Value}, W.cell? p = some v → W'.cell? p = some v := fun h => (hb.cell (World.block_lt_of_cell? W _ h)).trans h
  exact ⟨below_then h0 hb, k h1, k h2, k h3, k h4, k h5⟩

/-- five cells written one after the other -/
theorem five_set {W : World} {R : Nat} {x0 x1 x2 x3 x4 y0 y1 y2 y3 y4 : Value} (h0 : W.cell? ⟨R, 0, none⟩ = some y0) (h1 : W.cell? ⟨R, 1, none⟩ = some y1) (h2 : W.cell? ⟨R, 2, none⟩ = some y2) (h3 : W.cell? ⟨R, 3, none⟩ = some y3) (h4 : W.cell? ⟨R, 4, none⟩ = some y4) :
    (W.setCell ⟨R, 0, none⟩ x0).cell? ⟨R, 0, none⟩ = some x0 ∧ ((W.setCell ⟨R, 0, none⟩ x0).setCell ⟨R, 1, none⟩ x1).cell? ⟨R, 1, none⟩ = some x1 ∧ (((W.setCell ⟨R, 0, none⟩ x0).setCell ⟨R, 1, none⟩ x1).setCell ⟨R, 2, none⟩ x2).cell? ⟨R, 2, none⟩ = some x2 ∧
    ((((W.setCell ⟨R, 0, none⟩ x0).setCell ⟨R, 1, none⟩ x1).setCell ⟨R, 2, none⟩ x2).setCell ⟨R, 3, none⟩ x3).cell? ⟨R, 3, none⟩ = some x3 ∧ (((((W.setCell ⟨R, 0, none⟩ x0).setCell ⟨R, 1, none⟩ x1).setCell ⟨R, 2, none⟩ x2).setCell ⟨R, 3, none⟩ x3).setCell ⟨R, 4, none⟩ x4).cell? ⟨R, 4, none⟩ = some x4 := by
  have off : ∀ (V : World) (i j : Nat) (u v : Value), i ≠ j → V.cell? ⟨R, j, none⟩ = some v → (V.setCell ⟨R, i, none⟩ u).cell? ⟨R, j, none⟩ = some v := fun V i j u v hn h => by
    rw [World.cell?_setCell_other _ _ _ _ (fun e => hn (congrArg Addr.off e))]; exact h
  refine ⟨World.cell?_setCell_same _ _ _ h0, World.cell?_setCell_same _ _ _ (off _ 0 1 _ _ (by decide) h1), World.cell?_setCell_same _ _ _ (off _ 1 2 _ _ (by decide) (off _ 0 2 _ _ (by decide) h2)), World.cell?_setCell_same _ _ _ (off _ 2 3 _ _ (by decide) (off _ 1 3 _ _ (by decide) (off _ 0 3 _ _ (by decide) h3))), World.cell?_setCell_same _ _ _ (off _ 3 4 _ _ (by decide) (off _ 2 4 _ _ (by decide) (off _ 1 4 _ _ (by decide) (off _ 0 4 _ _ (by decide) h4))))⟩

set_option maxRecDepth 100000 in
set_option maxHeartbeats 3200000 in
theorem turn_any (t : Nat) (ht : t < 80) (s : St5) (hs : s.In) (x : Int) (hx : In32 x) (w : World) :
    Calls Tryz.prog 214 #[aggS s, .int .i64 t, .int .u32 x] w fun e w' => e = .returned (aggS (stepT t s x)) ∧ Below w.heap.size w w' := by
  have K5 := Lib.hid (fun W => rot_any s.a 5 (.inr (.inl rfl)) hs.1 W)
  have K30 := Lib.hid (fun W => rot_any s.b 30 (.inr (.inr rfl)) hs.2.1 W)
  have KM := Lib.hid (fun W => mixed_any t ht s hs W)
  have HM := Lib.hid (step_sum (rotI s.a 5) ((mixF t s.b s.c s.d + mixK t) % 4294967296) s.e x (mixF t s.b s.c s.d) (mixK t) rfl)
  have hR := rotI_in s.a 5
  have hR3 := rotI_in s.b 30
  have hmm := mod_in (mixF t s.b s.c s.d + mixK t)
  unfold stepT aggS
  generalize hnew : (rotI s.a 5 + mixF t s.b s.c s.d + s.e + mixK t + x) % 4294967296 = nw at HM
  clear hnew
  obtain ⟨⟨a0, a1⟩, ⟨b0, b1⟩, ⟨c0, c1⟩, ⟨d0, d1⟩, ⟨e0, e1⟩⟩ := hs
  obtain ⟨x0, x1⟩ := hx
  generalize (mixF t s.b s.c s.d + mixK t) % 4294967296 = mm at KM HM hmm
  generalize rotI s.a 5 = ra at K5 HM hR
  generalize rotI s.b 30 = rb at K30 hR3 ⊢
  obtain ⟨a, b, c, d, e⟩ := s
  unfold aggS at KM
  dsimp only at *
  obtain ⟨r0, r1⟩ := hR
  obtain ⟨r2, r3⟩ := hR3
  obtain ⟨m0, m1⟩ := hmm
  go_enter Tryz.func214, Tryz.ntmps214
  go_wp2_with fail
  have hB0 : Below w.heap.size w ((w.alloc (.cells #[.int .u32 a, .int .u32 b, .int .u32 c, .int .u32 d, .int .u32 e] 189)).alloc (.cells #[.int .u32 0, .int .u32 0, .int .u32 0, .int .u32 0, .int .u32 0] 189)) := below2 _ _ _
  have z0 : w.heap.size + 1 < ((w.alloc (.cells #[.int .u32 a, .int .u32 b, .int .u32 c, .int .u32 d, .int .u32 e] 189)).alloc (.cells #[.int .u32 0, .int .u32 0, .int .u32 0, .int .u32 0, .int .u32 0] 189)).heap.size := by simp
  have k0 : ∀ i u, (#[Value.int .u32 a, .int .u32 b, .int .u32 c, .int .u32 d, .int .u32 e])[i]? = some u → ((w.alloc (.cells #[.int .u32 a, .int .u32 b, .int .u32 c, .int .u32 d, .int .u32 e] 189)).alloc (.cells #[.int .u32 0, .int .u32 0, .int .u32 0, .int .u32 0, .int .u32 0] 189)).cell? ⟨w.heap.size, i, none⟩ = some u := fun i u hu => by simpa using hu
  have k1 : ∀ i u, (#[Value.int .u32 0, .int .u32 0, .int .u32 0, .int .u32 0, .int .u32 0])[i]? = some u → ((w.alloc (.cells #[.int .u32 a, .int .u32 b, .int .u32 c, .int .u32 d, .int .u32 e] 189)).alloc (.cells #[.int .u32 0, .int .u32 0, .int .u32 0, .int .u32 0, .int .u32 0] 189)).cell? ⟨w.heap.size + 1, i, none⟩ = some u := fun i u hu => by simpa using hu
  have k2 : ∀ i, i < 5 → ((w.alloc (.cells #[.int .u32 a, .int .u32 b, .int .u32 c, .int .u32 d, .int .u32 e] 189)).alloc (.cells #[.int .u32 0, .int .u32 0, .int .u32 0, .int .u32 0, .int .u32 0] 189)).frozen? ⟨w.heap.size + 1, i, none⟩ = false := fun i hi => by simp
  generalize ((w.alloc (.cells #[.int .u32 a, .int .u32 b, .int .u32 c, .int .u32 d, .int .u32 e] 189)).alloc (.cells #[.int .u32 0, .int .u32 0, .int .u32 0, .int .u32 0, .int .u32 0] 189)) = W0 at *
  have g0 := k0 0 _ rfl
  have g1 := k0 1 _ rfl
  have g2 := k0 2 _ rfl
  have g3 := k0 3 _ rfl
  have g4 := k0 4 _ rfl
  have HK1 := Lib.hid k1
  have HK2 := Lib.hid k2
  have HB0 := Lib.hid hB0
  clear k0 k1 k2 hB0
  have hS0 : Below W0.heap.size W0 W0.drew ∧ W0.drew.cell? ⟨w.heap.size, 0, none⟩ = some (.int .u32 a) ∧ W0.drew.cell? ⟨w.heap.size, 1, none⟩ = some (.int .u32 b) ∧ W0.drew.cell? ⟨w.heap.size, 2, none⟩ = some (.int .u32 c) ∧ W0.drew.cell? ⟨w.heap.size, 3, none⟩ = some (.int .u32 d) ∧ W0.drew.cell? ⟨w.heap.size, 4, none⟩ = some (.int .u32 e) := ⟨(Below.refl _ _).drew, g0, g1, g2, g3, g4⟩
  first | (go_region_held3 (fun W => Below W0.heap.size W0 W ∧ W.cell? ⟨w.heap.size, 0, none⟩ = some (.int .u32 a) ∧ W.cell? ⟨w.heap.size, 1, none⟩ = some (.int .u32 b) ∧ W.cell? ⟨w.heap.size, 2, none⟩ = some (.int .u32 c) ∧ W.cell? ⟨w.heap.size, 3, none⟩ = some (.int .u32 d) ∧ W.cell? ⟨w.heap.size, 4, none⟩ = some (.int .u32 e)) (first | assumption | exact held5 hbr (by assumption))
    (first
      | (go_at_call 230; refine (K5.out _).mono ?_; rintro e1 w1 ⟨rfl, rfl⟩)
      | (go_at_call 231; refine (KM.out _).mono ?_; rintro e1 w1 ⟨rfl, hbr⟩))) | fail
  have hbw : Below W0.heap.size W0 w1 := And.left (by assumption)
  obtain ⟨hc1, hf1⟩ := bcell hbw
  have h0 : w1.cell? ⟨w.heap.size, 0, none⟩ = some (.int .u32 a) := (hc1 _ _ (by omega)).trans g0
  have h1 : w1.cell? ⟨w.heap.size, 1, none⟩ = some (.int .u32 b) := (hc1 _ _ (by omega)).trans g1
  have h2 : w1.cell? ⟨w.heap.size, 2, none⟩ = some (.int .u32 c) := (hc1 _ _ (by omega)).trans g2
  have h3 : w1.cell? ⟨w.heap.size, 3, none⟩ = some (.int .u32 d) := (hc1 _ _ (by omega)).trans g3
  have y0 : w1.cell? ⟨w.heap.size + 1, 0, none⟩ = some (.int .u32 0) := (hc1 _ _ (by omega)).trans (HK1.out 0 _ rfl)
  have y1 : w1.cell? ⟨w.heap.size + 1, 1, none⟩ = some (.int .u32 0) := (hc1 _ _ (by omega)).trans (HK1.out 1 _ rfl)
  have y2 : w1.cell? ⟨w.heap.size + 1, 2, none⟩ = some (.int .u32 0) := (hc1 _ _ (by omega)).trans (HK1.out 2 _ rfl)
  have y3 : w1.cell? ⟨w.heap.size + 1, 3, none⟩ = some (.int .u32 0) := (hc1 _ _ (by omega)).trans (HK1.out 3 _ rfl)
  have y4 : w1.cell? ⟨w.heap.size + 1, 4, none⟩ = some (.int .u32 0) := (hc1 _ _ (by omega)).trans (HK1.out 4 _ rfl)
  have f0 : w1.frozen? ⟨w.heap.size + 1, 0, none⟩ = false := (hf1 _ _ (by omega)).trans (HK2.out 0 (by omega))
  have f1 : w1.frozen? ⟨w.heap.size + 1, 1, none⟩ = false := (hf1 _ _ (by omega)).trans (HK2.out 1 (by omega))
  have f2 : w1.frozen? ⟨w.heap.size + 1, 2, none⟩ = false := (hf1 _ _ (by omega)).trans (HK2.out 2 (by omega))
  have f3 : w1.frozen? ⟨w.heap.size + 1, 3, none⟩ = false := (hf1 _ _ (by omega)).trans (HK2.out 3 (by omega))
  have f4 : w1.frozen? ⟨w.heap.size + 1, 4, none⟩ = false := (hf1 _ _ (by omega)).trans (HK2.out 4 (by omega))
  have hz : w.heap.size + 1 < w1.heap.size := Nat.lt_of_lt_of_le z0 hbw.size
  have HBW := Lib.hid (HB0.out.trans (hbw.mono (by omega)))
  clear hc1 hf1 hbw hS0 g0 g1 g2 g3 g4 HK1 HK2 HB0 K5 KM
  rw [HM.out]
  clear HM
  go_wp2
  refine wp_region_still_tail 11 (by kernel_rfl) (by kernel_rfl) ?_
  simp only [List.take_succ_cons, List.take_zero, List.drop_succ_cons, List.drop_zero]
  repeat still_step
  still_call (K30.out _)
  repeat still_step
  refine wpStill_nil ?_
  change wpList _ _ _ _ _ w1.drew
  obtain ⟨s0, s1, s2, s3, s4⟩ := five_set (x0 := .int .u32 nw) (x1 := .int .u32 a) (x2 := .int .u32 rb) (x3 := .int .u32 c) (x4 := .int .u32 d) y0 y1 y2 y3 y4
  go_wp2
  exact bodyPost_ret (v := .agg #[.int .u32 nw, .int .u32 a, .int .u32 rb, .int .u32 c, .int .u32 d]) (by simp [results, Tryz.results214, go_sem, s0, s1, s2, s3, s4]) rfl ⟨rfl, ((((HBW.out.drew.setCell (by simp) _).setCell (by simp) _).setCell (by simp) _).setCell (by simp) _).setCell (by simp) _⟩
end Go.Proofs.YtcaknhoaoodbfaaGreatDoor
