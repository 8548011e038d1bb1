/- spec.DrawSamePresences. -/
import Derived.Test.YtjkmgpomcnplnaaGreatDoorGS21
import Derived.Test.YtjkmgpomcnplnaaGreatDoorGS8
namespace Go.Proofs.YtjkmgpomcnplnaaGreatDoor
open Go.ChangeShapes Go.WideShapes Go.ChangeAt Go.RowKit
set_option linter.unusedVariables false
set_option linter.unusedSimpArgs false
set_option maxRecDepth 100000 in
set_option maxHeartbeats 3000000 in
theorem drawSamePresences_any (a : Option Addr) (n c : Nat) (xs : List Int) (w : World) (h : CodeAt w a n c xs) :
    Calls Tryz.prog 9 #[.slice a n c] w (TopTwo w) := by
  have HC := Lib.hid h
  obtain ⟨i0, hi0, hz0, hi1, hz2⟩ := info_parts itemInfo
  clear h
  have b01 := below1 w (.cells #[.int .i64 0, .string ⟨#[]⟩, .string ⟨#[]⟩, .int .i64 0, .string ⟨#[]⟩, .int .i64 0, .slice none 0 0] 26)
  have b02 := below1 (w.alloc (.cells #[.int .i64 0, .string ⟨#[]⟩, .string ⟨#[]⟩, .int .i64 0, .string ⟨#[]⟩, .int .i64 0, .slice none 0 0] 26)) (.cells #[.int .i64 0, .string ⟨#[]⟩, .string ⟨#[]⟩, .int .i64 0, .string ⟨#[]⟩, .int .i64 0, .slice none 0 0] 26)
  have hb0 := below_then b01 b02
  have RA := Lib.hid ((X7.new w 26 (.int .i64 0) (.string ⟨#[]⟩) (.string ⟨#[]⟩) (.int .i64 0) (.string ⟨#[]⟩) (.int .i64 0) (.slice none 0 0)).below b02)
  have RB0 := X7.new (w.alloc (.cells #[.int .i64 0, .string ⟨#[]⟩, .string ⟨#[]⟩, .int .i64 0, .string ⟨#[]⟩, .int .i64 0, .slice none 0 0] 26)) 26 (.int .i64 0) (.string ⟨#[]⟩) (.string ⟨#[]⟩) (.int .i64 0) (.string ⟨#[]⟩) (.int .i64 0) (.slice none 0 0)
  have hsz1 : (w.alloc (.cells #[.int .i64 0, .string ⟨#[]⟩, .string ⟨#[]⟩, .int .i64 0, .string ⟨#[]⟩, .int .i64 0, .slice none 0 0] 26)).heap.size = w.heap.size + 1 := by simp
  rw [hsz1] at RB0
  have RB := Lib.hid RB0
  clear RB0
  have KS := source_any (HC.out.below hb0)
  have hzz : ((w.alloc (.cells #[.int .i64 0, .string ⟨#[]⟩, .string ⟨#[]⟩, .int .i64 0, .string ⟨#[]⟩, .int .i64 0, .slice none 0 0] 26)).alloc (.cells #[.int .i64 0, .string ⟨#[]⟩, .string ⟨#[]⟩, .int .i64 0, .string ⟨#[]⟩, .int .i64 0, .slice none 0 0] 26)).heap.size = w.heap.size + 2 := by simp
  have HZZ := Lib.hid hzz
  clear hzz
  go_enter Tryz.func9, Tryz.ntmps9
  go_wp2_with fail
  try simp only [hsz1]
  clear b01 b02 hsz1
  generalize (w.alloc (.cells #[.int .i64 0, .string ⟨#[]⟩, .string ⟨#[]⟩, .int .i64 0, .string ⟨#[]⟩, .int .i64 0, .slice none 0 0] 26)).alloc (.cells #[.int .i64 0, .string ⟨#[]⟩, .string ⟨#[]⟩, .int .i64 0, .string ⟨#[]⟩, .int .i64 0, .slice none 0 0] 26) = w0 at *
  refine KS.mono ?_
  clear KS
  rintro e w1 ⟨rfl, hs, hb⟩
  have RA1 := Lib.hid (RA.out.below hb)
  have RB1 := Lib.hid (RB.out.below hb)
  have HB1 := Lib.hid (below_then hb0 hb)
  have KD := l7Draw_any w0.heap.size a n c xs 0 (by decide) w1 hs
  unfold PrDrawn at KD
  have hz1 := hs.lt
  have hw1 := hb.size
  clear hs hb hb0 RA RB
  generalize w0.heap.size = b at KD hz1 hw1 HZZ ⊢
  go_wp2_with fail
  refine KD.mono ?_
  clear KD
  rintro e V ⟨⟨yk, yf, yt, ys, yu, yp, l⟩, x, m, q, A, N, C, k1, rfl, hG, hm8, hPD, hk1, hs1, hg1⟩
  dsimp only at hG
  have bA := below1 V (.cells #[.int .i64 yk, .string yf, .string yt, .int .i64 ys, .string yu, .int .i64 yp, .slice (some x) m q] 26)
  have bB := below1 (V.alloc (.cells #[.int .i64 yk, .string yf, .string yt, .int .i64 ys, .string yu, .int .i64 yp, .slice (some x) m q] 26)) (.cells #[.int .i64 yk, .string yf, .string yt, .int .i64 ys, .string yu, .int .i64 yp, .slice (some x) m q] 26)
  have XB0 := X7.new (V.alloc (.cells #[.int .i64 yk, .string yf, .string yt, .int .i64 ys, .string yu, .int .i64 yp, .slice (some x) m q] 26)) 26 (.int .i64 yk) (.string yf) (.string yt) (.int .i64 ys) (.string yu) (.int .i64 yp) (.slice (some x) m q)
  rw [show (V.alloc (.cells #[.int .i64 yk, .string yf, .string yt, .int .i64 ys, .string yu, .int .i64 yp, .slice (some x) m q] 26)).heap.size = V.heap.size + 1 by simp] at XB0
  have bAB := below_then bA bB
  have hzV := hg1.size
  have EE : Hid (E2 w V ((V.alloc (.cells #[.int .i64 yk, .string yf, .string yt, .int .i64 ys, .string yu, .int .i64 yp, .slice (some x) m q] 26)).alloc (.cells #[.int .i64 yk, .string yf, .string yt, .int .i64 ys, .string yu, .int .i64 yp, .slice (some x) m q] 26)) w1.heap.size b a n c xs k1 V.heap.size (V.heap.size + 1) (.int .i64 yk) (.string yf) (.string yt) (.int .i64 ys) (.string yu) (.int .i64 yp) (.slice (some x) m q) (.int .i64 yk) (.string yf) (.string yt) (.int .i64 ys) (.string yu) (.int .i64 yp) (.slice (some x) m q)) := Lib.hid
    ⟨by have := HZZ.out; omega, by omega, by omega, (RA1.out.grown hg1 (by have := HZZ.out; intro e; injection e with e; omega)).below bAB, (RB1.out.grown hg1 (by have := HZZ.out; intro e; injection e with e; omega)).below bAB, (X7.new V 26 (.int .i64 yk) (.string yf) (.string yt) (.int .i64 ys) (.string yu) (.int .i64 yp) (.slice (some x) m q)).below bB, XB0, hs1.below bAB, below_then (below_step HB1.out hg1 (by have := HZZ.out; omega)) bAB, ⟨by omega, by omega⟩, (Only.below bAB)⟩
  have G3 := Lib.hid hG
  have KA := specAllG_any w1.heap.size V.heap.size (some x) m q 0 l _ (fun i _ => by have h5 : 0 ≤ (l.getD i dIt).depth ∧ (l.getD i dIt).depth ≤ 6 := (hPD.more i).depth; omega) (by decide) (fun i _ => by have h5 : (l.getD i dIt).attrs.length ≤ 5 := (hPD.more i).few; omega) ((hPD.own hG).below bAB)
  unfold ItsGrowS at KA
  have HP := Lib.hid hPD
  have hz3 : V.heap.size + 2 ≤ ((V.alloc (.cells #[.int .i64 yk, .string yf, .string yt, .int .i64 ys, .string yu, .int .i64 yp, .slice (some x) m q] 26)).alloc (.cells #[.int .i64 yk, .string yf, .string yt, .int .i64 ys, .string yu, .int .i64 yp, .slice (some x) m q] 26)).heap.size := by simp
  have d0 := EE.out.ba.c0
  have d1 := EE.out.ba.c1
  have d6 := EE.out.ba.c6
  clear hs1 hg1 RA1 RB1 HB1 hG bA bB bAB hPD XB0 d0 d1 d6
  go_wp2_with fail
  try simp only [World.size_alloc]
  generalize (V.alloc (.cells #[.int .i64 yk, .string yf, .string yt, .int .i64 ys, .string yu, .int .i64 yp, .slice (some x) m q] 26)).alloc (.cells #[.int .i64 yk, .string yf, .string yt, .int .i64 ys, .string yu, .int .i64 yp, .slice (some x) m q] 26) = V3 at *
  refine KA.mono ?_
  clear KA
  rintro e V4 ⟨x2, m2, q2, A2, N2, C2, rfl, hG2, hb4⟩
  have E4 := Lib.hid (EE.out.below hb4)
  have hz4 := hb4.size
  have lx := E4.out.bb.lt
  have c6 := E4.out.bb.c6
  have f6 := E4.out.bb.fz 6 (by decide)
  have E5 : Hid (E2 w V (V4.setCell ⟨V.heap.size + 1, 6, none⟩ (.slice (some x2) m2 q2)) w1.heap.size b a n c xs k1 V.heap.size (V.heap.size + 1) (.int .i64 yk) (.string yf) (.string yt) (.int .i64 ys) (.string yu) (.int .i64 yp) (.slice (some x) m q) (.int .i64 yk) (.string yf) (.string yt) (.int .i64 ys) (.string yu) (.int .i64 yp) (.slice (some x2) m2 q2)) := Lib.hid (E4.out.set 6 (.slice (some x2) m2 q2) (by decide) ⟨rfl, rfl, rfl, rfl, rfl, rfl, rfl⟩)
  have hst := Only.set (P := fun i => i = V.heap.size + 1) V4 ⟨V.heap.size + 1, 6, none⟩ (.slice (some x2) m2 q2) rfl
  have H5 := Lib.hid (hG2.onlyP hst (fun i h1 h2 hp => by omega))
  have KN := Lib.hid (fun (k : Nat) (m : Int) (hm0 : 1 ≤ m) (hm : m ≤ 1000000000) (hk : k < 1000000) (W : World) (h : Src W b a n c xs k) => l1Next_any b a n c xs k m hm0 hm hk W h)
  unfold NextRes at KN
  clear hst hG2 hb4 E4
  go_wp2_with fail
  generalize V4.setCell ⟨V.heap.size + 1, 6, none⟩ (.slice (some x2) m2 q2) = V5 at *
  refine (KN.out k1 4 (by decide) (by decide) (by omega) _ E5.out.src).mono ?_
  rintro e V6 ⟨t, rfl, ht, hs, hg⟩
  have E6 := Lib.hid (E5.out.call hs hg)
  have H6 := Lib.hid (H5.out.onlyP (Only.grown hg) (fun i h1 _ h2 => by simp only [Option.some.injEq] at h2; omega))
  have hV6 : V3.heap.size ≤ V6.heap.size := by have := (H6.out.row.lt _ rfl); omega
  have hm2 : m2 ≤ 60 := by have h1 := H6.out.len; rw [movedTo_length] at h1; omega
  have HDR := Lib.hid (drawn_moved HP.out.more m)
  have htn : (0 : Int) ≤ (t : Int) := by omega
  clear hs hg E5 H5 EE ht c6 f6 lx
  generalize (t : Int) = tt at htn ⊢
  have c2 := E6.out.bb.c2
  have c6 := E6.out.bb.c6
  have f2 := E6.out.bb.fz 2 (by decide)
  have f6 := E6.out.bb.fz 6 (by decide)
  have lx := E6.out.bb.lt
  have hbV := E6.out.h2
  have hbB := E6.out.h4.1
  have hyt : yt.size ≤ 61 := HP.out.goal
  by_cases t0 : tt = 0
  · subst t0
    have E7 : Hid (E2 w V (V6.setCell ⟨V.heap.size + 1, 2, none⟩ (.string (yt ++ ⟨#[113]⟩))) w1.heap.size b a n c xs (k1 + 1) V.heap.size (V.heap.size + 1) (.int .i64 yk) (.string yf) (.string yt) (.int .i64 ys) (.string yu) (.int .i64 yp) (.slice (some x) m q) (.int .i64 yk) (.string yf) (.string (yt ++ ⟨#[113]⟩)) (.int .i64 ys) (.string yu) (.int .i64 yp) (.slice (some x2) m2 q2)) := Lib.hid (E6.out.set 2 (.string (yt ++ ⟨#[113]⟩)) (by decide) ⟨rfl, rfl, rfl, rfl, rfl, rfl, rfl⟩)
    have H7 := Lib.hid (H6.out.onlyP (Only.set (P := fun i => i = V.heap.size + 1) V6 ⟨V.heap.size + 1, 2, none⟩ (.string (yt ++ ⟨#[113]⟩)) rfl) (fun i h1 h2 hp => by omega))
    clear E6 H6
    go_upto_region 10 with fail
    generalize V6.setCell ⟨V.heap.size + 1, 2, none⟩ (.string (yt ++ ⟨#[113]⟩)) = V7 at *
    clear c2 c6 f2 f6 lx
    have hdw := (Below.refl V7.heap.size V7).drew
    have E8 := Lib.hid (E7.out.below hdw)
    have H8 := Lib.hid (H7.out.below hdw)
    clear hdw
    refine wp_region_noPanic ?_
    refine wp_region_held_drew (S := (fun W => (W.cell? ⟨V.heap.size, 0, none⟩ = some (.int .i64 yk) ∧ W.cell? ⟨V.heap.size, 1, none⟩ = some (.string yf) ∧ W.cell? ⟨V.heap.size, 2, none⟩ = some (.string yt) ∧ W.cell? ⟨V.heap.size, 3, none⟩ = some (.int .i64 ys) ∧ W.cell? ⟨V.heap.size, 4, none⟩ = some (.string yu) ∧ W.cell? ⟨V.heap.size, 5, none⟩ = some (.int .i64 yp) ∧ W.cell? ⟨V.heap.size, 6, none⟩ = some (.slice (some x) m q)) ∧ (W.cell? ⟨(V.heap.size + 1), 0, none⟩ = some (.int .i64 yk) ∧ W.cell? ⟨(V.heap.size + 1), 1, none⟩ = some (.string yf) ∧ W.cell? ⟨(V.heap.size + 1), 2, none⟩ = some (.string (yt ++ ⟨#[113]⟩)) ∧ W.cell? ⟨(V.heap.size + 1), 3, none⟩ = some (.int .i64 ys) ∧ W.cell? ⟨(V.heap.size + 1), 4, none⟩ = some (.string yu) ∧ W.cell? ⟨(V.heap.size + 1), 5, none⟩ = some (.int .i64 yp) ∧ W.cell? ⟨(V.heap.size + 1), 6, none⟩ = some (.slice (some x2) m2 q2)))) (by kernel_rfl) ?_ (fun hHeld => ?_)
    · exact ⟨⟨E8.out.ba.c0, E8.out.ba.c1, E8.out.ba.c2, E8.out.ba.c3, E8.out.ba.c4, E8.out.ba.c5, E8.out.ba.c6⟩, ⟨E8.out.bb.c0, E8.out.bb.c1, E8.out.bb.c2, E8.out.bb.c3, E8.out.bb.c4, E8.out.bb.c5, E8.out.bb.c6⟩⟩
    generalize V7.drew = V8 at *
    have k1a := E8.out.h1
    have k2a := E8.out.h2
    have k3a := E8.out.h3
    have G8 := Lib.hid (G3.out.onlyP E8.out.on (fun i h1 h2 hp => by omega))
    have la := E8.out.ba.lt
    have lb := E8.out.bb.lt
    refine wpAnyH_take (i := 0) (oi := _) (v := ?_) rfl (by kernel_rfl) (by kernel_rfl) (by kernel_rfl) (fun _ _ _ h => h) (Or.inl ⟨by rfl, ?_⟩) (by with_reducible assumption) ?_
    rotate_left
    · intro Wz hSw
      obtain ⟨⟨s0, s1, s2, s3, s4, s5, s6⟩, ⟨t0, t1, t2, t3, t4, t5, t6⟩⟩ := hSw
      go_simp
      all_goals (with_reducible rfl)
    try simp only [Act.put, List.getElem_toArray, List.getElem_cons_zero, List.getElem_cons_succ, List.setIfInBounds_toArray, List.set_cons_zero, List.set_cons_succ]
    refine wpAnyH_take (i := 1) (oi := _) (v := ?_) rfl (by kernel_rfl) (by kernel_rfl) (by kernel_rfl) (fun _ _ _ h => h) (Or.inl ⟨by rfl, ?_⟩) (by with_reducible assumption) ?_
    rotate_left
    · intro Wz hSw
      obtain ⟨⟨s0, s1, s2, s3, s4, s5, s6⟩, ⟨t0, t1, t2, t3, t4, t5, t6⟩⟩ := hSw
      go_simp
      all_goals (with_reducible rfl)
    try simp only [Act.put, List.getElem_toArray, List.getElem_cons_zero, List.getElem_cons_succ, List.setIfInBounds_toArray, List.set_cons_zero, List.set_cons_succ]
    refine wpAnyH_ready (rs := [2]) (by kernel_rfl) (by simp) ?_
    refine AllReadyH.cons (o := _) rfl (fun K hK => ?_) AllReadyH.nil
    have e0 := E8.out.ra.c0
    have e1 := E8.out.ra.c1
    have e2 := E8.out.ra.c2
    have e3 := E8.out.ra.c3
    have e4 := E8.out.ra.c4
    have e5 := E8.out.ra.c5
    have e6 := E8.out.ra.c6
    have g0 := E8.out.ra.fz 0 (by decide)
    have g1 := E8.out.ra.fz 1 (by decide)
    have g2 := E8.out.ra.fz 2 (by decide)
    have g3 := E8.out.ra.fz 3 (by decide)
    have g4 := E8.out.ra.fz 4 (by decide)
    have g5 := E8.out.ra.fz 5 (by decide)
    have g6 := E8.out.ra.fz 6 (by decide)
    have lr := E8.out.ra.lt
    have ba1 := E8.out.ba.offFill (y := w.heap.size) (by omega) (.int .i64 yk) (.string yf) (.string yt) (.int .i64 ys) (.string yu) (.int .i64 yp) (.slice (some x) m q)
    have bb1 := E8.out.bb.offFill (y := w.heap.size) (by omega) (.int .i64 yk) (.string yf) (.string yt) (.int .i64 ys) (.string yu) (.int .i64 yp) (.slice (some x) m q)
    have ra1 := E8.out.ra.fill (.int .i64 yk) (.string yf) (.string yt) (.int .i64 ys) (.string yu) (.int .i64 yp) (.slice (some x) m q)
    have rb1 := E8.out.rb.offFill (y := w.heap.size) (by omega) (.int .i64 yk) (.string yf) (.string yt) (.int .i64 ys) (.string yu) (.int .i64 yp) (.slice (some x) m q)
    have G9 := Lib.hid (G8.out.onlyP (only_fill7 V8 w.heap.size (.int .i64 yk) (.string yf) (.string yt) (.int .i64 ys) (.string yu) (.int .i64 yp) (.slice (some x) m q)) (fun i h1 h2 hp => by omega))
    have H9 := Lib.hid (H8.out.onlyP (only_fill7 V8 w.heap.size (.int .i64 yk) (.string yf) (.string yt) (.int .i64 ys) (.string yu) (.int .i64 yp) (.slice (some x) m q)) (fun i h1 h2 hp => by omega))
    have B9 := Lib.hid (below_fill7 E8.out.bel w.heap.size (by omega) (.int .i64 yk) (.string yf) (.string yt) (.int .i64 ys) (.string yu) (.int .i64 yp) (.slice (some x) m q))
    have hS1 : ((((((((V8.setCell ⟨w.heap.size, 0, none⟩ (.int .i64 yk)).setCell ⟨w.heap.size, 1, none⟩ (.string yf)).setCell ⟨w.heap.size, 2, none⟩ (.string yt)).setCell ⟨w.heap.size, 3, none⟩ (.int .i64 ys)).setCell ⟨w.heap.size, 4, none⟩ (.string yu)).setCell ⟨w.heap.size, 5, none⟩ (.int .i64 yp)).setCell ⟨w.heap.size, 6, none⟩ (.slice (some x) m q)).cell? ⟨V.heap.size, 0, none⟩ = some (.int .i64 yk) ∧ (((((((V8.setCell ⟨w.heap.size, 0, none⟩ (.int .i64 yk)).setCell ⟨w.heap.size, 1, none⟩ (.string yf)).setCell ⟨w.heap.size, 2, none⟩ (.string yt)).setCell ⟨w.heap.size, 3, none⟩ (.int .i64 ys)).setCell ⟨w.heap.size, 4, none⟩ (.string yu)).setCell ⟨w.heap.size, 5, none⟩ (.int .i64 yp)).setCell ⟨w.heap.size, 6, none⟩ (.slice (some x) m q)).cell? ⟨V.heap.size, 1, none⟩ = some (.string yf) ∧ (((((((V8.setCell ⟨w.heap.size, 0, none⟩ (.int .i64 yk)).setCell ⟨w.heap.size, 1, none⟩ (.string yf)).setCell ⟨w.heap.size, 2, none⟩ (.string yt)).setCell ⟨w.heap.size, 3, none⟩ (.int .i64 ys)).setCell ⟨w.heap.size, 4, none⟩ (.string yu)).setCell ⟨w.heap.size, 5, none⟩ (.int .i64 yp)).setCell ⟨w.heap.size, 6, none⟩ (.slice (some x) m q)).cell? ⟨V.heap.size, 2, none⟩ = some (.string yt) ∧ (((((((V8.setCell ⟨w.heap.size, 0, none⟩ (.int .i64 yk)).setCell ⟨w.heap.size, 1, none⟩ (.string yf)).setCell ⟨w.heap.size, 2, none⟩ (.string yt)).setCell ⟨w.heap.size, 3, none⟩ (.int .i64 ys)).setCell ⟨w.heap.size, 4, none⟩ (.string yu)).setCell ⟨w.heap.size, 5, none⟩ (.int .i64 yp)).setCell ⟨w.heap.size, 6, none⟩ (.slice (some x) m q)).cell? ⟨V.heap.size, 3, none⟩ = some (.int .i64 ys) ∧ (((((((V8.setCell ⟨w.heap.size, 0, none⟩ (.int .i64 yk)).setCell ⟨w.heap.size, 1, none⟩ (.string yf)).setCell ⟨w.heap.size, 2, none⟩ (.string yt)).setCell ⟨w.heap.size, 3, none⟩ (.int .i64 ys)).setCell ⟨w.heap.size, 4, none⟩ (.string yu)).setCell ⟨w.heap.size, 5, none⟩ (.int .i64 yp)).setCell ⟨w.heap.size, 6, none⟩ (.slice (some x) m q)).cell? ⟨V.heap.size, 4, none⟩ = some (.string yu) ∧ (((((((V8.setCell ⟨w.heap.size, 0, none⟩ (.int .i64 yk)).setCell ⟨w.heap.size, 1, none⟩ (.string yf)).setCell ⟨w.heap.size, 2, none⟩ (.string yt)).setCell ⟨w.heap.size, 3, none⟩ (.int .i64 ys)).setCell ⟨w.heap.size, 4, none⟩ (.string yu)).setCell ⟨w.heap.size, 5, none⟩ (.int .i64 yp)).setCell ⟨w.heap.size, 6, none⟩ (.slice (some x) m q)).cell? ⟨V.heap.size, 5, none⟩ = some (.int .i64 yp) ∧ (((((((V8.setCell ⟨w.heap.size, 0, none⟩ (.int .i64 yk)).setCell ⟨w.heap.size, 1, none⟩ (.string yf)).setCell ⟨w.heap.size, 2, none⟩ (.string yt)).setCell ⟨w.heap.size, 3, none⟩ (.int .i64 ys)).setCell ⟨w.heap.size, 4, none⟩ (.string yu)).setCell ⟨w.heap.size, 5, none⟩ (.int .i64 yp)).setCell ⟨w.heap.size, 6, none⟩ (.slice (some x) m q)).cell? ⟨V.heap.size, 6, none⟩ = some (.slice (some x) m q)) ∧ ((((((((V8.setCell ⟨w.heap.size, 0, none⟩ (.int .i64 yk)).setCell ⟨w.heap.size, 1, none⟩ (.string yf)).setCell ⟨w.heap.size, 2, none⟩ (.string yt)).setCell ⟨w.heap.size, 3, none⟩ (.int .i64 ys)).setCell ⟨w.heap.size, 4, none⟩ (.string yu)).setCell ⟨w.heap.size, 5, none⟩ (.int .i64 yp)).setCell ⟨w.heap.size, 6, none⟩ (.slice (some x) m q)).cell? ⟨(V.heap.size + 1), 0, none⟩ = some (.int .i64 yk) ∧ (((((((V8.setCell ⟨w.heap.size, 0, none⟩ (.int .i64 yk)).setCell ⟨w.heap.size, 1, none⟩ (.string yf)).setCell ⟨w.heap.size, 2, none⟩ (.string yt)).setCell ⟨w.heap.size, 3, none⟩ (.int .i64 ys)).setCell ⟨w.heap.size, 4, none⟩ (.string yu)).setCell ⟨w.heap.size, 5, none⟩ (.int .i64 yp)).setCell ⟨w.heap.size, 6, none⟩ (.slice (some x) m q)).cell? ⟨(V.heap.size + 1), 1, none⟩ = some (.string yf) ∧ (((((((V8.setCell ⟨w.heap.size, 0, none⟩ (.int .i64 yk)).setCell ⟨w.heap.size, 1, none⟩ (.string yf)).setCell ⟨w.heap.size, 2, none⟩ (.string yt)).setCell ⟨w.heap.size, 3, none⟩ (.int .i64 ys)).setCell ⟨w.heap.size, 4, none⟩ (.string yu)).setCell ⟨w.heap.size, 5, none⟩ (.int .i64 yp)).setCell ⟨w.heap.size, 6, none⟩ (.slice (some x) m q)).cell? ⟨(V.heap.size + 1), 2, none⟩ = some (.string (yt ++ ⟨#[113]⟩)) ∧ (((((((V8.setCell ⟨w.heap.size, 0, none⟩ (.int .i64 yk)).setCell ⟨w.heap.size, 1, none⟩ (.string yf)).setCell ⟨w.heap.size, 2, none⟩ (.string yt)).setCell ⟨w.heap.size, 3, none⟩ (.int .i64 ys)).setCell ⟨w.heap.size, 4, none⟩ (.string yu)).setCell ⟨w.heap.size, 5, none⟩ (.int .i64 yp)).setCell ⟨w.heap.size, 6, none⟩ (.slice (some x) m q)).cell? ⟨(V.heap.size + 1), 3, none⟩ = some (.int .i64 ys) ∧ (((((((V8.setCell ⟨w.heap.size, 0, none⟩ (.int .i64 yk)).setCell ⟨w.heap.size, 1, none⟩ (.string yf)).setCell ⟨w.heap.size, 2, none⟩ (.string yt)).setCell ⟨w.heap.size, 3, none⟩ (.int .i64 ys)).setCell ⟨w.heap.size, 4, none⟩ (.string yu)).setCell ⟨w.heap.size, 5, none⟩ (.int .i64 yp)).setCell ⟨w.heap.size, 6, none⟩ (.slice (some x) m q)).cell? ⟨(V.heap.size + 1), 4, none⟩ = some (.string yu) ∧ (((((((V8.setCell ⟨w.heap.size, 0, none⟩ (.int .i64 yk)).setCell ⟨w.heap.size, 1, none⟩ (.string yf)).setCell ⟨w.heap.size, 2, none⟩ (.string yt)).setCell ⟨w.heap.size, 3, none⟩ (.int .i64 ys)).setCell ⟨w.heap.size, 4, none⟩ (.string yu)).setCell ⟨w.heap.size, 5, none⟩ (.int .i64 yp)).setCell ⟨w.heap.size, 6, none⟩ (.slice (some x) m q)).cell? ⟨(V.heap.size + 1), 5, none⟩ = some (.int .i64 yp) ∧ (((((((V8.setCell ⟨w.heap.size, 0, none⟩ (.int .i64 yk)).setCell ⟨w.heap.size, 1, none⟩ (.string yf)).setCell ⟨w.heap.size, 2, none⟩ (.string yt)).setCell ⟨w.heap.size, 3, none⟩ (.int .i64 ys)).setCell ⟨w.heap.size, 4, none⟩ (.string yu)).setCell ⟨w.heap.size, 5, none⟩ (.int .i64 yp)).setCell ⟨w.heap.size, 6, none⟩ (.slice (some x) m q)).cell? ⟨(V.heap.size + 1), 6, none⟩ = some (.slice (some x2) m2 q2)) := ⟨⟨ba1.c0, ba1.c1, ba1.c2, ba1.c3, ba1.c4, ba1.c5, ba1.c6⟩, ⟨bb1.c0, bb1.c1, bb1.c2, bb1.c3, bb1.c4, bb1.c5, bb1.c6⟩⟩
    go_simp
    refine hK.out _ _ ?_ (fun hHeld => ?_)
    · exact hS1
    clear hK K
    try simp only [Act.put, List.getElem_toArray, List.getElem_cons_zero, List.getElem_cons_succ, List.setIfInBounds_toArray, List.set_cons_zero, List.set_cons_succ]
    clear e0 e1 e2 e3 e4 e5 e6 g0 g1 g2 g3 g4 g5 g6 lr E8 H8 G8
    generalize (((((((V8.setCell ⟨w.heap.size, 0, none⟩ (.int .i64 yk)).setCell ⟨w.heap.size, 1, none⟩ (.string yf)).setCell ⟨w.heap.size, 2, none⟩ (.string yt)).setCell ⟨w.heap.size, 3, none⟩ (.int .i64 ys)).setCell ⟨w.heap.size, 4, none⟩ (.string yu)).setCell ⟨w.heap.size, 5, none⟩ (.int .i64 yp)).setCell ⟨w.heap.size, 6, none⟩ (.slice (some x) m q)) = V9 at *
    refine wpAnyH_ready (rs := [3]) (by kernel_rfl) (by simp) ?_
    refine AllReadyH.cons (o := _) rfl (fun K hK => ?_) AllReadyH.nil
    have e0 := rb1.c0
    have e1 := rb1.c1
    have e2 := rb1.c2
    have e3 := rb1.c3
    have e4 := rb1.c4
    have e5 := rb1.c5
    have e6 := rb1.c6
    have g0 := rb1.fz 0 (by decide)
    have g1 := rb1.fz 1 (by decide)
    have g2 := rb1.fz 2 (by decide)
    have g3 := rb1.fz 3 (by decide)
    have g4 := rb1.fz 4 (by decide)
    have g5 := rb1.fz 5 (by decide)
    have g6 := rb1.fz 6 (by decide)
    have lr := rb1.lt
    have ba2 := ba1.offFill (y := (w.heap.size + 1)) (by omega) (.int .i64 yk) (.string yf) (.string (yt ++ ⟨#[113]⟩)) (.int .i64 ys) (.string yu) (.int .i64 yp) (.slice (some x2) m2 q2)
    have bb2 := bb1.offFill (y := (w.heap.size + 1)) (by omega) (.int .i64 yk) (.string yf) (.string (yt ++ ⟨#[113]⟩)) (.int .i64 ys) (.string yu) (.int .i64 yp) (.slice (some x2) m2 q2)
    have rb2 := rb1.fill (.int .i64 yk) (.string yf) (.string (yt ++ ⟨#[113]⟩)) (.int .i64 ys) (.string yu) (.int .i64 yp) (.slice (some x2) m2 q2)
    have ra2 := ra1.offFill (y := (w.heap.size + 1)) (by omega) (.int .i64 yk) (.string yf) (.string (yt ++ ⟨#[113]⟩)) (.int .i64 ys) (.string yu) (.int .i64 yp) (.slice (some x2) m2 q2)
    have G10 := Lib.hid (G9.out.onlyP (only_fill7 V9 (w.heap.size + 1) (.int .i64 yk) (.string yf) (.string (yt ++ ⟨#[113]⟩)) (.int .i64 ys) (.string yu) (.int .i64 yp) (.slice (some x2) m2 q2)) (fun i h1 h2 hp => by omega))
    have H10 := Lib.hid (H9.out.onlyP (only_fill7 V9 (w.heap.size + 1) (.int .i64 yk) (.string yf) (.string (yt ++ ⟨#[113]⟩)) (.int .i64 ys) (.string yu) (.int .i64 yp) (.slice (some x2) m2 q2)) (fun i h1 h2 hp => by omega))
    have B10 := Lib.hid (below_fill7 B9.out (w.heap.size + 1) (by omega) (.int .i64 yk) (.string yf) (.string (yt ++ ⟨#[113]⟩)) (.int .i64 ys) (.string yu) (.int .i64 yp) (.slice (some x2) m2 q2))
    have hS2 : ((((((((V9.setCell ⟨(w.heap.size + 1), 0, none⟩ (.int .i64 yk)).setCell ⟨(w.heap.size + 1), 1, none⟩ (.string yf)).setCell ⟨(w.heap.size + 1), 2, none⟩ (.string (yt ++ ⟨#[113]⟩))).setCell ⟨(w.heap.size + 1), 3, none⟩ (.int .i64 ys)).setCell ⟨(w.heap.size + 1), 4, none⟩ (.string yu)).setCell ⟨(w.heap.size + 1), 5, none⟩ (.int .i64 yp)).setCell ⟨(w.heap.size + 1), 6, none⟩ (.slice (some x2) m2 q2)).cell? ⟨V.heap.size, 0, none⟩ = some (.int .i64 yk) ∧ (((((((V9.setCell ⟨(w.heap.size + 1), 0, none⟩ (.int .i64 yk)).setCell ⟨(w.heap.size + 1), 1, none⟩ (.string yf)).setCell ⟨(w.heap.size + 1), 2, none⟩ (.string (yt ++ ⟨#[113]⟩))).setCell ⟨(w.heap.size + 1), 3, none⟩ (.int .i64 ys)).setCell ⟨(w.heap.size + 1), 4, none⟩ (.string yu)).setCell ⟨(w.heap.size + 1), 5, none⟩ (.int .i64 yp)).setCell ⟨(w.heap.size + 1), 6, none⟩ (.slice (some x2) m2 q2)).cell? ⟨V.heap.size, 1, none⟩ = some (.string yf) ∧ (((((((V9.setCell ⟨(w.heap.size + 1), 0, none⟩ (.int .i64 yk)).setCell ⟨(w.heap.size + 1), 1, none⟩ (.string yf)).setCell ⟨(w.heap.size + 1), 2, none⟩ (.string (yt ++ ⟨#[113]⟩))).setCell ⟨(w.heap.size + 1), 3, none⟩ (.int .i64 ys)).setCell ⟨(w.heap.size + 1), 4, none⟩ (.string yu)).setCell ⟨(w.heap.size + 1), 5, none⟩ (.int .i64 yp)).setCell ⟨(w.heap.size + 1), 6, none⟩ (.slice (some x2) m2 q2)).cell? ⟨V.heap.size, 2, none⟩ = some (.string yt) ∧ (((((((V9.setCell ⟨(w.heap.size + 1), 0, none⟩ (.int .i64 yk)).setCell ⟨(w.heap.size + 1), 1, none⟩ (.string yf)).setCell ⟨(w.heap.size + 1), 2, none⟩ (.string (yt ++ ⟨#[113]⟩))).setCell ⟨(w.heap.size + 1), 3, none⟩ (.int .i64 ys)).setCell ⟨(w.heap.size + 1), 4, none⟩ (.string yu)).setCell ⟨(w.heap.size + 1), 5, none⟩ (.int .i64 yp)).setCell ⟨(w.heap.size + 1), 6, none⟩ (.slice (some x2) m2 q2)).cell? ⟨V.heap.size, 3, none⟩ = some (.int .i64 ys) ∧ (((((((V9.setCell ⟨(w.heap.size + 1), 0, none⟩ (.int .i64 yk)).setCell ⟨(w.heap.size + 1), 1, none⟩ (.string yf)).setCell ⟨(w.heap.size + 1), 2, none⟩ (.string (yt ++ ⟨#[113]⟩))).setCell ⟨(w.heap.size + 1), 3, none⟩ (.int .i64 ys)).setCell ⟨(w.heap.size + 1), 4, none⟩ (.string yu)).setCell ⟨(w.heap.size + 1), 5, none⟩ (.int .i64 yp)).setCell ⟨(w.heap.size + 1), 6, none⟩ (.slice (some x2) m2 q2)).cell? ⟨V.heap.size, 4, none⟩ = some (.string yu) ∧ (((((((V9.setCell ⟨(w.heap.size + 1), 0, none⟩ (.int .i64 yk)).setCell ⟨(w.heap.size + 1), 1, none⟩ (.string yf)).setCell ⟨(w.heap.size + 1), 2, none⟩ (.string (yt ++ ⟨#[113]⟩))).setCell ⟨(w.heap.size + 1), 3, none⟩ (.int .i64 ys)).setCell ⟨(w.heap.size + 1), 4, none⟩ (.string yu)).setCell ⟨(w.heap.size + 1), 5, none⟩ (.int .i64 yp)).setCell ⟨(w.heap.size + 1), 6, none⟩ (.slice (some x2) m2 q2)).cell? ⟨V.heap.size, 5, none⟩ = some (.int .i64 yp) ∧ (((((((V9.setCell ⟨(w.heap.size + 1), 0, none⟩ (.int .i64 yk)).setCell ⟨(w.heap.size + 1), 1, none⟩ (.string yf)).setCell ⟨(w.heap.size + 1), 2, none⟩ (.string (yt ++ ⟨#[113]⟩))).setCell ⟨(w.heap.size + 1), 3, none⟩ (.int .i64 ys)).setCell ⟨(w.heap.size + 1), 4, none⟩ (.string yu)).setCell ⟨(w.heap.size + 1), 5, none⟩ (.int .i64 yp)).setCell ⟨(w.heap.size + 1), 6, none⟩ (.slice (some x2) m2 q2)).cell? ⟨V.heap.size, 6, none⟩ = some (.slice (some x) m q)) ∧ ((((((((V9.setCell ⟨(w.heap.size + 1), 0, none⟩ (.int .i64 yk)).setCell ⟨(w.heap.size + 1), 1, none⟩ (.string yf)).setCell ⟨(w.heap.size + 1), 2, none⟩ (.string (yt ++ ⟨#[113]⟩))).setCell ⟨(w.heap.size + 1), 3, none⟩ (.int .i64 ys)).setCell ⟨(w.heap.size + 1), 4, none⟩ (.string yu)).setCell ⟨(w.heap.size + 1), 5, none⟩ (.int .i64 yp)).setCell ⟨(w.heap.size + 1), 6, none⟩ (.slice (some x2) m2 q2)).cell? ⟨(V.heap.size + 1), 0, none⟩ = some (.int .i64 yk) ∧ (((((((V9.setCell ⟨(w.heap.size + 1), 0, none⟩ (.int .i64 yk)).setCell ⟨(w.heap.size + 1), 1, none⟩ (.string yf)).setCell ⟨(w.heap.size + 1), 2, none⟩ (.string (yt ++ ⟨#[113]⟩))).setCell ⟨(w.heap.size + 1), 3, none⟩ (.int .i64 ys)).setCell ⟨(w.heap.size + 1), 4, none⟩ (.string yu)).setCell ⟨(w.heap.size + 1), 5, none⟩ (.int .i64 yp)).setCell ⟨(w.heap.size + 1), 6, none⟩ (.slice (some x2) m2 q2)).cell? ⟨(V.heap.size + 1), 1, none⟩ = some (.string yf) ∧ (((((((V9.setCell ⟨(w.heap.size + 1), 0, none⟩ (.int .i64 yk)).setCell ⟨(w.heap.size + 1), 1, none⟩ (.string yf)).setCell ⟨(w.heap.size + 1), 2, none⟩ (.string (yt ++ ⟨#[113]⟩))).setCell ⟨(w.heap.size + 1), 3, none⟩ (.int .i64 ys)).setCell ⟨(w.heap.size + 1), 4, none⟩ (.string yu)).setCell ⟨(w.heap.size + 1), 5, none⟩ (.int .i64 yp)).setCell ⟨(w.heap.size + 1), 6, none⟩ (.slice (some x2) m2 q2)).cell? ⟨(V.heap.size + 1), 2, none⟩ = some (.string (yt ++ ⟨#[113]⟩)) ∧ (((((((V9.setCell ⟨(w.heap.size + 1), 0, none⟩ (.int .i64 yk)).setCell ⟨(w.heap.size + 1), 1, none⟩ (.string yf)).setCell ⟨(w.heap.size + 1), 2, none⟩ (.string (yt ++ ⟨#[113]⟩))).setCell ⟨(w.heap.size + 1), 3, none⟩ (.int .i64 ys)).setCell ⟨(w.heap.size + 1), 4, none⟩ (.string yu)).setCell ⟨(w.heap.size + 1), 5, none⟩ (.int .i64 yp)).setCell ⟨(w.heap.size + 1), 6, none⟩ (.slice (some x2) m2 q2)).cell? ⟨(V.heap.size + 1), 3, none⟩ = some (.int .i64 ys) ∧ (((((((V9.setCell ⟨(w.heap.size + 1), 0, none⟩ (.int .i64 yk)).setCell ⟨(w.heap.size + 1), 1, none⟩ (.string yf)).setCell ⟨(w.heap.size + 1), 2, none⟩ (.string (yt ++ ⟨#[113]⟩))).setCell ⟨(w.heap.size + 1), 3, none⟩ (.int .i64 ys)).setCell ⟨(w.heap.size + 1), 4, none⟩ (.string yu)).setCell ⟨(w.heap.size + 1), 5, none⟩ (.int .i64 yp)).setCell ⟨(w.heap.size + 1), 6, none⟩ (.slice (some x2) m2 q2)).cell? ⟨(V.heap.size + 1), 4, none⟩ = some (.string yu) ∧ (((((((V9.setCell ⟨(w.heap.size + 1), 0, none⟩ (.int .i64 yk)).setCell ⟨(w.heap.size + 1), 1, none⟩ (.string yf)).setCell ⟨(w.heap.size + 1), 2, none⟩ (.string (yt ++ ⟨#[113]⟩))).setCell ⟨(w.heap.size + 1), 3, none⟩ (.int .i64 ys)).setCell ⟨(w.heap.size + 1), 4, none⟩ (.string yu)).setCell ⟨(w.heap.size + 1), 5, none⟩ (.int .i64 yp)).setCell ⟨(w.heap.size + 1), 6, none⟩ (.slice (some x2) m2 q2)).cell? ⟨(V.heap.size + 1), 5, none⟩ = some (.int .i64 yp) ∧ (((((((V9.setCell ⟨(w.heap.size + 1), 0, none⟩ (.int .i64 yk)).setCell ⟨(w.heap.size + 1), 1, none⟩ (.string yf)).setCell ⟨(w.heap.size + 1), 2, none⟩ (.string (yt ++ ⟨#[113]⟩))).setCell ⟨(w.heap.size + 1), 3, none⟩ (.int .i64 ys)).setCell ⟨(w.heap.size + 1), 4, none⟩ (.string yu)).setCell ⟨(w.heap.size + 1), 5, none⟩ (.int .i64 yp)).setCell ⟨(w.heap.size + 1), 6, none⟩ (.slice (some x2) m2 q2)).cell? ⟨(V.heap.size + 1), 6, none⟩ = some (.slice (some x2) m2 q2)) := ⟨⟨ba2.c0, ba2.c1, ba2.c2, ba2.c3, ba2.c4, ba2.c5, ba2.c6⟩, ⟨bb2.c0, bb2.c1, bb2.c2, bb2.c3, bb2.c4, bb2.c5, bb2.c6⟩⟩
    go_simp
    refine hK.out _ _ ?_ (fun hHeld => ?_)
    · exact hS2
    clear hK K
    try simp only [Act.put, List.getElem_toArray, List.getElem_cons_zero, List.getElem_cons_succ, List.setIfInBounds_toArray, List.set_cons_zero, List.set_cons_succ]
    clear e0 e1 e2 e3 e4 e5 e6 g0 g1 g2 g3 g4 g5 g6 lr G9 H9 B9 hS1 hS2 ba1 bb1 ra1 rb1
    generalize (((((((V9.setCell ⟨(w.heap.size + 1), 0, none⟩ (.int .i64 yk)).setCell ⟨(w.heap.size + 1), 1, none⟩ (.string yf)).setCell ⟨(w.heap.size + 1), 2, none⟩ (.string (yt ++ ⟨#[113]⟩))).setCell ⟨(w.heap.size + 1), 3, none⟩ (.int .i64 ys)).setCell ⟨(w.heap.size + 1), 4, none⟩ (.string yu)).setCell ⟨(w.heap.size + 1), 5, none⟩ (.int .i64 yp)).setCell ⟨(w.heap.size + 1), 6, none⟩ (.slice (some x2) m2 q2)) = V10 at *
    refine wpAnyH_done (by kernel_rfl) ?_ _
    refine NoPanic.normal ?_
    have y0 := ra2.c0
    have y1 := ra2.c1
    have y2 := ra2.c2
    have y3 := ra2.c3
    have y4 := ra2.c4
    have y5 := ra2.c5
    have y6 := ra2.c6
    have z0 := rb2.c0
    have z1 := rb2.c1
    have z2 := rb2.c2
    have z3 := rb2.c3
    have z4 := rb2.c4
    have z5 := rb2.c5
    have z6 := rb2.c6
    have la2 := ra2.lt
    have lb2 := rb2.lt
    have O1 := Lib.hid ((HP.out.own G10.out).mono (lo' := w.heap.size) (hi' := V10.heap.size) (by omega) (Nat.le_refl _))
    have O2 := Lib.hid ((H10.out.own (by omega) (drawn_sizes HDR.out _)).mono (lo' := w.heap.size) (hi' := V10.heap.size) (by omega) (Nat.le_refl _))
    clear G10 H10 ba2 bb2 ra2 rb2
    go_wp2
    exact bodyPost_ret (v := .tuple #[.agg #[.int .i64 yk, .string yf, .string yt, .int .i64 ys, .string yu, .int .i64 yp, .slice (some x) m q], .agg #[.int .i64 yk, .string yf, .string (yt ++ ⟨#[113]⟩), .int .i64 ys, .string yu, .int .i64 yp, .slice (some x2) m2 q2]]) (by simp [results, Tryz.results9, go_sem, y0, y1, y2, y3, y4, y5, y6, z0, z1, z2, z3, z4, z5, z6]) rfl ⟨⟨yk, yf, yt, ys, yu, yp, l⟩, ⟨yk, yf, yt ++ ⟨#[113]⟩, ys, yu, yp, movedTo l 0 m 0⟩, some x, some x2, m, q, m2, q2, rfl, O1.out, O2.out, B10.out⟩
  by_cases t1 : tt = 1
  · subst t1
    go_wp2_with (at_builtin; refine wpList_append_own_at _ rfl _ _ 24 rfl V3.heap.size 54 i0 (.agg #[.int .i64 0, .string ByteArray.empty, .string ByteArray.empty, .string ByteArray.empty, .slice none 0 0]) 5 80 Tryz.underlying24 hi0 hz0 hi1 hz2 rfl (by decide) _ m2 _ rfl (H6.out.row.alloc _) ⟨V6.heap.size, 0, none⟩ 1 1 [.int .i64 0, .string ⟨#[]⟩, .string ⟨#[]⟩, .string ⟨#[113]⟩, .slice none 0 0] rfl rfl ?c1 ?c2 ?c3 ?c4 ?c5 ?_)
    case c1 => exact fun j u hj => itemCells V6 _ _ _ _ _ j u hj
    case c2 => intro v hv; simp at hv; rcases hv with rfl | rfl | rfl | rfl | rfl <;> rfl
    case c3 => unfold maxLen; omega
    case c4 => omega
    case c5 => simp; omega
    intro v' w7 hown hgr _ hat
    obtain ⟨a7, c7, rfl⟩ := owns_slice hown
    have H7 := Lib.hid (H6.out.snoc (x := ⟨0, ⟨#[]⟩, ⟨#[]⟩, ⟨#[113]⟩, []⟩) (below1 V6 (.cells #[.int .i64 0, .string ⟨#[]⟩, .string ⟨#[]⟩, .string ⟨#[113]⟩, .slice none 0 0] 54)) (bareAts _ _ _) (fun _ => rfl) hV6 hown hgr (hat.imp id fun e => ⟨V6.heap.size + 1, by simpa using e, by simp⟩))
    have E7 := Lib.hid ((E6.out.below (below1 V6 (.cells #[.int .i64 0, .string ⟨#[]⟩, .string ⟨#[]⟩, .string ⟨#[113]⟩, .slice none 0 0] 54))).row (g := x2.block) hgr (by have := (H6.out.row.lt _ rfl).1; omega))
    have HD2 := Lib.hid (drawn_snoc HDR.out (x := ⟨0, ⟨#[]⟩, ⟨#[]⟩, ⟨#[113]⟩, []⟩) ⟨⟨by decide, by decide⟩, ⟨by decide, by decide, by decide⟩, by decide, fun i => by simp [dAt]⟩)
    have hw7 : V3.heap.size ≤ w7.heap.size := by have := hgr.size; simp at this; omega
    clear hown hgr hat c2 c6 f2 f6 lx E6 H6
    have c6 := E7.out.bb.c6
    have f6 := E7.out.bb.fz 6 (by decide)
    have lx := E7.out.bb.lt
    have E9 : Hid (E2 w V (w7.setCell ⟨V.heap.size + 1, 6, none⟩ (.slice a7 (m2 + 1) c7)) w1.heap.size b a n c xs (k1 + 1) V.heap.size (V.heap.size + 1) (.int .i64 yk) (.string yf) (.string yt) (.int .i64 ys) (.string yu) (.int .i64 yp) (.slice (some x) m q) (.int .i64 yk) (.string yf) (.string yt) (.int .i64 ys) (.string yu) (.int .i64 yp) (.slice a7 (m2 + 1) c7)) := Lib.hid (E7.out.set 6 (.slice a7 (m2 + 1) c7) (by decide) ⟨rfl, rfl, rfl, rfl, rfl, rfl, rfl⟩)
    have H9 := Lib.hid (H7.out.onlyP (Only.set (P := fun i => i = V.heap.size + 1) w7 ⟨V.heap.size + 1, 6, none⟩ (.slice a7 (m2 + 1) c7) rfl) (fun i h1 h2 hp => by omega))
    clear E7 H7
    go_upto_region 10 with fail
    generalize w7.setCell ⟨V.heap.size + 1, 6, none⟩ (.slice a7 (m2 + 1) c7) = V7 at *
    clear c6 f6 lx
    have hdw := (Below.refl V7.heap.size V7).drew
    have E8 := Lib.hid (E9.out.below hdw)
    have H8 := Lib.hid (H9.out.below hdw)
    clear hdw
    refine wp_region_noPanic ?_
    refine wp_region_held_drew (S := (fun W => (W.cell? ⟨V.heap.size, 0, none⟩ = some (.int .i64 yk) ∧ W.cell? ⟨V.heap.size, 1, none⟩ = some (.string yf) ∧ W.cell? ⟨V.heap.size, 2, none⟩ = some (.string yt) ∧ W.cell? ⟨V.heap.size, 3, none⟩ = some (.int .i64 ys) ∧ W.cell? ⟨V.heap.size, 4, none⟩ = some (.string yu) ∧ W.cell? ⟨V.heap.size, 5, none⟩ = some (.int .i64 yp) ∧ W.cell? ⟨V.heap.size, 6, none⟩ = some (.slice (some x) m q)) ∧ (W.cell? ⟨(V.heap.size + 1), 0, none⟩ = some (.int .i64 yk) ∧ W.cell? ⟨(V.heap.size + 1), 1, none⟩ = some (.string yf) ∧ W.cell? ⟨(V.heap.size + 1), 2, none⟩ = some (.string yt) ∧ W.cell? ⟨(V.heap.size + 1), 3, none⟩ = some (.int .i64 ys) ∧ W.cell? ⟨(V.heap.size + 1), 4, none⟩ = some (.string yu) ∧ W.cell? ⟨(V.heap.size + 1), 5, none⟩ = some (.int .i64 yp) ∧ W.cell? ⟨(V.heap.size + 1), 6, none⟩ = some (.slice a7 (m2 + 1) c7)))) (by kernel_rfl) ?_ (fun hHeld => ?_)
    · exact ⟨⟨E8.out.ba.c0, E8.out.ba.c1, E8.out.ba.c2, E8.out.ba.c3, E8.out.ba.c4, E8.out.ba.c5, E8.out.ba.c6⟩, ⟨E8.out.bb.c0, E8.out.bb.c1, E8.out.bb.c2, E8.out.bb.c3, E8.out.bb.c4, E8.out.bb.c5, E8.out.bb.c6⟩⟩
    generalize V7.drew = V8 at *
    have k1a := E8.out.h1
    have k2a := E8.out.h2
    have k3a := E8.out.h3
    have G8 := Lib.hid (G3.out.onlyP E8.out.on (fun i h1 h2 hp => by omega))
    have la := E8.out.ba.lt
    have lb := E8.out.bb.lt
    refine wpAnyH_take (i := 0) (oi := _) (v := ?_) rfl (by kernel_rfl) (by kernel_rfl) (by kernel_rfl) (fun _ _ _ h => h) (Or.inl ⟨by rfl, ?_⟩) (by with_reducible assumption) ?_
    rotate_left
    · intro Wz hSw
      obtain ⟨⟨s0, s1, s2, s3, s4, s5, s6⟩, ⟨t0, t1, t2, t3, t4, t5, t6⟩⟩ := hSw
      go_simp
      all_goals (with_reducible rfl)
    try simp only [Act.put, List.getElem_toArray, List.getElem_cons_zero, List.getElem_cons_succ, List.setIfInBounds_toArray, List.set_cons_zero, List.set_cons_succ]
    refine wpAnyH_take (i := 1) (oi := _) (v := ?_) rfl (by kernel_rfl) (by kernel_rfl) (by kernel_rfl) (fun _ _ _ h => h) (Or.inl ⟨by rfl, ?_⟩) (by with_reducible assumption) ?_
    rotate_left
    · intro Wz hSw
      obtain ⟨⟨s0, s1, s2, s3, s4, s5, s6⟩, ⟨t0, t1, t2, t3, t4, t5, t6⟩⟩ := hSw
      go_simp
      all_goals (with_reducible rfl)
    try simp only [Act.put, List.getElem_toArray, List.getElem_cons_zero, List.getElem_cons_succ, List.setIfInBounds_toArray, List.set_cons_zero, List.set_cons_succ]
    refine wpAnyH_ready (rs := [2]) (by kernel_rfl) (by simp) ?_
    refine AllReadyH.cons (o := _) rfl (fun K hK => ?_) AllReadyH.nil
    have e0 := E8.out.ra.c0
    have e1 := E8.out.ra.c1
    have e2 := E8.out.ra.c2
    have e3 := E8.out.ra.c3
    have e4 := E8.out.ra.c4
    have e5 := E8.out.ra.c5
    have e6 := E8.out.ra.c6
    have g0 := E8.out.ra.fz 0 (by decide)
    have g1 := E8.out.ra.fz 1 (by decide)
    have g2 := E8.out.ra.fz 2 (by decide)
    have g3 := E8.out.ra.fz 3 (by decide)
    have g4 := E8.out.ra.fz 4 (by decide)
    have g5 := E8.out.ra.fz 5 (by decide)
    have g6 := E8.out.ra.fz 6 (by decide)
    have lr := E8.out.ra.lt
    have ba1 := E8.out.ba.offFill (y := w.heap.size) (by omega) (.int .i64 yk) (.string yf) (.string yt) (.int .i64 ys) (.string yu) (.int .i64 yp) (.slice (some x) m q)
    have bb1 := E8.out.bb.offFill (y := w.heap.size) (by omega) (.int .i64 yk) (.string yf) (.string yt) (.int .i64 ys) (.string yu) (.int .i64 yp) (.slice (some x) m q)
    have ra1 := E8.out.ra.fill (.int .i64 yk) (.string yf) (.string yt) (.int .i64 ys) (.string yu) (.int .i64 yp) (.slice (some x) m q)
    have rb1 := E8.out.rb.offFill (y := w.heap.size) (by omega) (.int .i64 yk) (.string yf) (.string yt) (.int .i64 ys) (.string yu) (.int .i64 yp) (.slice (some x) m q)
    have G9 := Lib.hid (G8.out.onlyP (only_fill7 V8 w.heap.size (.int .i64 yk) (.string yf) (.string yt) (.int .i64 ys) (.string yu) (.int .i64 yp) (.slice (some x) m q)) (fun i h1 h2 hp => by omega))
    have H9 := Lib.hid (H8.out.onlyP (only_fill7 V8 w.heap.size (.int .i64 yk) (.string yf) (.string yt) (.int .i64 ys) (.string yu) (.int .i64 yp) (.slice (some x) m q)) (fun i h1 h2 hp => by omega))
    have B9 := Lib.hid (below_fill7 E8.out.bel w.heap.size (by omega) (.int .i64 yk) (.string yf) (.string yt) (.int .i64 ys) (.string yu) (.int .i64 yp) (.slice (some x) m q))
    have hS1 : ((((((((V8.setCell ⟨w.heap.size, 0, none⟩ (.int .i64 yk)).setCell ⟨w.heap.size, 1, none⟩ (.string yf)).setCell ⟨w.heap.size, 2, none⟩ (.string yt)).setCell ⟨w.heap.size, 3, none⟩ (.int .i64 ys)).setCell ⟨w.heap.size, 4, none⟩ (.string yu)).setCell ⟨w.heap.size, 5, none⟩ (.int .i64 yp)).setCell ⟨w.heap.size, 6, none⟩ (.slice (some x) m q)).cell? ⟨V.heap.size, 0, none⟩ = some (.int .i64 yk) ∧ (((((((V8.setCell ⟨w.heap.size, 0, none⟩ (.int .i64 yk)).setCell ⟨w.heap.size, 1, none⟩ (.string yf)).setCell ⟨w.heap.size, 2, none⟩ (.string yt)).setCell ⟨w.heap.size, 3, none⟩ (.int .i64 ys)).setCell ⟨w.heap.size, 4, none⟩ (.string yu)).setCell ⟨w.heap.size, 5, none⟩ (.int .i64 yp)).setCell ⟨w.heap.size, 6, none⟩ (.slice (some x) m q)).cell? ⟨V.heap.size, 1, none⟩ = some (.string yf) ∧ (((((((V8.setCell ⟨w.heap.size, 0, none⟩ (.int .i64 yk)).setCell ⟨w.heap.size, 1, none⟩ (.string yf)).setCell ⟨w.heap.size, 2, none⟩ (.string yt)).setCell ⟨w.heap.size, 3, none⟩ (.int .i64 ys)).setCell ⟨w.heap.size, 4, none⟩ (.string yu)).setCell ⟨w.heap.size, 5, none⟩ (.int .i64 yp)).setCell ⟨w.heap.size, 6, none⟩ (.slice (some x) m q)).cell? ⟨V.heap.size, 2, none⟩ = some (.string yt) ∧ (((((((V8.setCell ⟨w.heap.size, 0, none⟩ (.int .i64 yk)).setCell ⟨w.heap.size, 1, none⟩ (.string yf)).setCell ⟨w.heap.size, 2, none⟩ (.string yt)).setCell ⟨w.heap.size, 3, none⟩ (.int .i64 ys)).setCell ⟨w.heap.size, 4, none⟩ (.string yu)).setCell ⟨w.heap.size, 5, none⟩ (.int .i64 yp)).setCell ⟨w.heap.size, 6, none⟩ (.slice (some x) m q)).cell? ⟨V.heap.size, 3, none⟩ = some (.int .i64 ys) ∧ (((((((V8.setCell ⟨w.heap.size, 0, none⟩ (.int .i64 yk)).setCell ⟨w.heap.size, 1, none⟩ (.string yf)).setCell ⟨w.heap.size, 2, none⟩ (.string yt)).setCell ⟨w.heap.size, 3, none⟩ (.int .i64 ys)).setCell ⟨w.heap.size, 4, none⟩ (.string yu)).setCell ⟨w.heap.size, 5, none⟩ (.int .i64 yp)).setCell ⟨w.heap.size, 6, none⟩ (.slice (some x) m q)).cell? ⟨V.heap.size, 4, none⟩ = some (.string yu) ∧ (((((((V8.setCell ⟨w.heap.size, 0, none⟩ (.int .i64 yk)).setCell ⟨w.heap.size, 1, none⟩ (.string yf)).setCell ⟨w.heap.size, 2, none⟩ (.string yt)).setCell ⟨w.heap.size, 3, none⟩ (.int .i64 ys)).setCell ⟨w.heap.size, 4, none⟩ (.string yu)).setCell ⟨w.heap.size, 5, none⟩ (.int .i64 yp)).setCell ⟨w.heap.size, 6, none⟩ (.slice (some x) m q)).cell? ⟨V.heap.size, 5, none⟩ = some (.int .i64 yp) ∧ (((((((V8.setCell ⟨w.heap.size, 0, none⟩ (.int .i64 yk)).setCell ⟨w.heap.size, 1, none⟩ (.string yf)).setCell ⟨w.heap.size, 2, none⟩ (.string yt)).setCell ⟨w.heap.size, 3, none⟩ (.int .i64 ys)).setCell ⟨w.heap.size, 4, none⟩ (.string yu)).setCell ⟨w.heap.size, 5, none⟩ (.int .i64 yp)).setCell ⟨w.heap.size, 6, none⟩ (.slice (some x) m q)).cell? ⟨V.heap.size, 6, none⟩ = some (.slice (some x) m q)) ∧ ((((((((V8.setCell ⟨w.heap.size, 0, none⟩ (.int .i64 yk)).setCell ⟨w.heap.size, 1, none⟩ (.string yf)).setCell ⟨w.heap.size, 2, none⟩ (.string yt)).setCell ⟨w.heap.size, 3, none⟩ (.int .i64 ys)).setCell ⟨w.heap.size, 4, none⟩ (.string yu)).setCell ⟨w.heap.size, 5, none⟩ (.int .i64 yp)).setCell ⟨w.heap.size, 6, none⟩ (.slice (some x) m q)).cell? ⟨(V.heap.size + 1), 0, none⟩ = some (.int .i64 yk) ∧ (((((((V8.setCell ⟨w.heap.size, 0, none⟩ (.int .i64 yk)).setCell ⟨w.heap.size, 1, none⟩ (.string yf)).setCell ⟨w.heap.size, 2, none⟩ (.string yt)).setCell ⟨w.heap.size, 3, none⟩ (.int .i64 ys)).setCell ⟨w.heap.size, 4, none⟩ (.string yu)).setCell ⟨w.heap.size, 5, none⟩ (.int .i64 yp)).setCell ⟨w.heap.size, 6, none⟩ (.slice (some x) m q)).cell? ⟨(V.heap.size + 1), 1, none⟩ = some (.string yf) ∧ (((((((V8.setCell ⟨w.heap.size, 0, none⟩ (.int .i64 yk)).setCell ⟨w.heap.size, 1, none⟩ (.string yf)).setCell ⟨w.heap.size, 2, none⟩ (.string yt)).setCell ⟨w.heap.size, 3, none⟩ (.int .i64 ys)).setCell ⟨w.heap.size, 4, none⟩ (.string yu)).setCell ⟨w.heap.size, 5, none⟩ (.int .i64 yp)).setCell ⟨w.heap.size, 6, none⟩ (.slice (some x) m q)).cell? ⟨(V.heap.size + 1), 2, none⟩ = some (.string yt) ∧ (((((((V8.setCell ⟨w.heap.size, 0, none⟩ (.int .i64 yk)).setCell ⟨w.heap.size, 1, none⟩ (.string yf)).setCell ⟨w.heap.size, 2, none⟩ (.string yt)).setCell ⟨w.heap.size, 3, none⟩ (.int .i64 ys)).setCell ⟨w.heap.size, 4, none⟩ (.string yu)).setCell ⟨w.heap.size, 5, none⟩ (.int .i64 yp)).setCell ⟨w.heap.size, 6, none⟩ (.slice (some x) m q)).cell? ⟨(V.heap.size + 1), 3, none⟩ = some (.int .i64 ys) ∧ (((((((V8.setCell ⟨w.heap.size, 0, none⟩ (.int .i64 yk)).setCell ⟨w.heap.size, 1, none⟩ (.string yf)).setCell ⟨w.heap.size, 2, none⟩ (.string yt)).setCell ⟨w.heap.size, 3, none⟩ (.int .i64 ys)).setCell ⟨w.heap.size, 4, none⟩ (.string yu)).setCell ⟨w.heap.size, 5, none⟩ (.int .i64 yp)).setCell ⟨w.heap.size, 6, none⟩ (.slice (some x) m q)).cell? ⟨(V.heap.size + 1), 4, none⟩ = some (.string yu) ∧ (((((((V8.setCell ⟨w.heap.size, 0, none⟩ (.int .i64 yk)).setCell ⟨w.heap.size, 1, none⟩ (.string yf)).setCell ⟨w.heap.size, 2, none⟩ (.string yt)).setCell ⟨w.heap.size, 3, none⟩ (.int .i64 ys)).setCell ⟨w.heap.size, 4, none⟩ (.string yu)).setCell ⟨w.heap.size, 5, none⟩ (.int .i64 yp)).setCell ⟨w.heap.size, 6, none⟩ (.slice (some x) m q)).cell? ⟨(V.heap.size + 1), 5, none⟩ = some (.int .i64 yp) ∧ (((((((V8.setCell ⟨w.heap.size, 0, none⟩ (.int .i64 yk)).setCell ⟨w.heap.size, 1, none⟩ (.string yf)).setCell ⟨w.heap.size, 2, none⟩ (.string yt)).setCell ⟨w.heap.size, 3, none⟩ (.int .i64 ys)).setCell ⟨w.heap.size, 4, none⟩ (.string yu)).setCell ⟨w.heap.size, 5, none⟩ (.int .i64 yp)).setCell ⟨w.heap.size, 6, none⟩ (.slice (some x) m q)).cell? ⟨(V.heap.size + 1), 6, none⟩ = some (.slice a7 (m2 + 1) c7)) := ⟨⟨ba1.c0, ba1.c1, ba1.c2, ba1.c3, ba1.c4, ba1.c5, ba1.c6⟩, ⟨bb1.c0, bb1.c1, bb1.c2, bb1.c3, bb1.c4, bb1.c5, bb1.c6⟩⟩
    go_simp
    refine hK.out _ _ ?_ (fun hHeld => ?_)
    · exact hS1
    clear hK K
    try simp only [Act.put, List.getElem_toArray, List.getElem_cons_zero, List.getElem_cons_succ, List.setIfInBounds_toArray, List.set_cons_zero, List.set_cons_succ]
    clear e0 e1 e2 e3 e4 e5 e6 g0 g1 g2 g3 g4 g5 g6 lr E8 H8 G8
    generalize (((((((V8.setCell ⟨w.heap.size, 0, none⟩ (.int .i64 yk)).setCell ⟨w.heap.size, 1, none⟩ (.string yf)).setCell ⟨w.heap.size, 2, none⟩ (.string yt)).setCell ⟨w.heap.size, 3, none⟩ (.int .i64 ys)).setCell ⟨w.heap.size, 4, none⟩ (.string yu)).setCell ⟨w.heap.size, 5, none⟩ (.int .i64 yp)).setCell ⟨w.heap.size, 6, none⟩ (.slice (some x) m q)) = V9 at *
    refine wpAnyH_ready (rs := [3]) (by kernel_rfl) (by simp) ?_
    refine AllReadyH.cons (o := _) rfl (fun K hK => ?_) AllReadyH.nil
    have e0 := rb1.c0
    have e1 := rb1.c1
    have e2 := rb1.c2
    have e3 := rb1.c3
    have e4 := rb1.c4
    have e5 := rb1.c5
    have e6 := rb1.c6
    have g0 := rb1.fz 0 (by decide)
    have g1 := rb1.fz 1 (by decide)
    have g2 := rb1.fz 2 (by decide)
    have g3 := rb1.fz 3 (by decide)
    have g4 := rb1.fz 4 (by decide)
    have g5 := rb1.fz 5 (by decide)
    have g6 := rb1.fz 6 (by decide)
    have lr := rb1.lt
    have ba2 := ba1.offFill (y := (w.heap.size + 1)) (by omega) (.int .i64 yk) (.string yf) (.string yt) (.int .i64 ys) (.string yu) (.int .i64 yp) (.slice a7 (m2 + 1) c7)
    have bb2 := bb1.offFill (y := (w.heap.size + 1)) (by omega) (.int .i64 yk) (.string yf) (.string yt) (.int .i64 ys) (.string yu) (.int .i64 yp) (.slice a7 (m2 + 1) c7)
    have rb2 := rb1.fill (.int .i64 yk) (.string yf) (.string yt) (.int .i64 ys) (.string yu) (.int .i64 yp) (.slice a7 (m2 + 1) c7)
    have ra2 := ra1.offFill (y := (w.heap.size + 1)) (by omega) (.int .i64 yk) (.string yf) (.string yt) (.int .i64 ys) (.string yu) (.int .i64 yp) (.slice a7 (m2 + 1) c7)
    have G10 := Lib.hid (G9.out.onlyP (only_fill7 V9 (w.heap.size + 1) (.int .i64 yk) (.string yf) (.string yt) (.int .i64 ys) (.string yu) (.int .i64 yp) (.slice a7 (m2 + 1) c7)) (fun i h1 h2 hp => by omega))
    have H10 := Lib.hid (H9.out.onlyP (only_fill7 V9 (w.heap.size + 1) (.int .i64 yk) (.string yf) (.string yt) (.int .i64 ys) (.string yu) (.int .i64 yp) (.slice a7 (m2 + 1) c7)) (fun i h1 h2 hp => by omega))
    have B10 := Lib.hid (below_fill7 B9.out (w.heap.size + 1) (by omega) (.int .i64 yk) (.string yf) (.string yt) (.int .i64 ys) (.string yu) (.int .i64 yp) (.slice a7 (m2 + 1) c7))
    have hS2 : ((((((((V9.setCell ⟨(w.heap.size + 1), 0, none⟩ (.int .i64 yk)).setCell ⟨(w.heap.size + 1), 1, none⟩ (.string yf)).setCell ⟨(w.heap.size + 1), 2, none⟩ (.string yt)).setCell ⟨(w.heap.size + 1), 3, none⟩ (.int .i64 ys)).setCell ⟨(w.heap.size + 1), 4, none⟩ (.string yu)).setCell ⟨(w.heap.size + 1), 5, none⟩ (.int .i64 yp)).setCell ⟨(w.heap.size + 1), 6, none⟩ (.slice a7 (m2 + 1) c7)).cell? ⟨V.heap.size, 0, none⟩ = some (.int .i64 yk) ∧ (((((((V9.setCell ⟨(w.heap.size + 1), 0, none⟩ (.int .i64 yk)).setCell ⟨(w.heap.size + 1), 1, none⟩ (.string yf)).setCell ⟨(w.heap.size + 1), 2, none⟩ (.string yt)).setCell ⟨(w.heap.size + 1), 3, none⟩ (.int .i64 ys)).setCell ⟨(w.heap.size + 1), 4, none⟩ (.string yu)).setCell ⟨(w.heap.size + 1), 5, none⟩ (.int .i64 yp)).setCell ⟨(w.heap.size + 1), 6, none⟩ (.slice a7 (m2 + 1) c7)).cell? ⟨V.heap.size, 1, none⟩ = some (.string yf) ∧ (((((((V9.setCell ⟨(w.heap.size + 1), 0, none⟩ (.int .i64 yk)).setCell ⟨(w.heap.size + 1), 1, none⟩ (.string yf)).setCell ⟨(w.heap.size + 1), 2, none⟩ (.string yt)).setCell ⟨(w.heap.size + 1), 3, none⟩ (.int .i64 ys)).setCell ⟨(w.heap.size + 1), 4, none⟩ (.string yu)).setCell ⟨(w.heap.size + 1), 5, none⟩ (.int .i64 yp)).setCell ⟨(w.heap.size + 1), 6, none⟩ (.slice a7 (m2 + 1) c7)).cell? ⟨V.heap.size, 2, none⟩ = some (.string yt) ∧ (((((((V9.setCell ⟨(w.heap.size + 1), 0, none⟩ (.int .i64 yk)).setCell ⟨(w.heap.size + 1), 1, none⟩ (.string yf)).setCell ⟨(w.heap.size + 1), 2, none⟩ (.string yt)).setCell ⟨(w.heap.size + 1), 3, none⟩ (.int .i64 ys)).setCell ⟨(w.heap.size + 1), 4, none⟩ (.string yu)).setCell ⟨(w.heap.size + 1), 5, none⟩ (.int .i64 yp)).setCell ⟨(w.heap.size + 1), 6, none⟩ (.slice a7 (m2 + 1) c7)).cell? ⟨V.heap.size, 3, none⟩ = some (.int .i64 ys) ∧ (((((((V9.setCell ⟨(w.heap.size + 1), 0, none⟩ (.int .i64 yk)).setCell ⟨(w.heap.size + 1), 1, none⟩ (.string yf)).setCell ⟨(w.heap.size + 1), 2, none⟩ (.string yt)).setCell ⟨(w.heap.size + 1), 3, none⟩ (.int .i64 ys)).setCell ⟨(w.heap.size + 1), 4, none⟩ (.string yu)).setCell ⟨(w.heap.size + 1), 5, none⟩ (.int .i64 yp)).setCell ⟨(w.heap.size + 1), 6, none⟩ (.slice a7 (m2 + 1) c7)).cell? ⟨V.heap.size, 4, none⟩ = some (.string yu) ∧ (((((((V9.setCell ⟨(w.heap.size + 1), 0, none⟩ (.int .i64 yk)).setCell ⟨(w.heap.size + 1), 1, none⟩ (.string yf)).setCell ⟨(w.heap.size + 1), 2, none⟩ (.string yt)).setCell ⟨(w.heap.size + 1), 3, none⟩ (.int .i64 ys)).setCell ⟨(w.heap.size + 1), 4, none⟩ (.string yu)).setCell ⟨(w.heap.size + 1), 5, none⟩ (.int .i64 yp)).setCell ⟨(w.heap.size + 1), 6, none⟩ (.slice a7 (m2 + 1) c7)).cell? ⟨V.heap.size, 5, none⟩ = some (.int .i64 yp) ∧ (((((((V9.setCell ⟨(w.heap.size + 1), 0, none⟩ (.int .i64 yk)).setCell ⟨(w.heap.size + 1), 1, none⟩ (.string yf)).setCell ⟨(w.heap.size + 1), 2, none⟩ (.string yt)).setCell ⟨(w.heap.size + 1), 3, none⟩ (.int .i64 ys)).setCell ⟨(w.heap.size + 1), 4, none⟩ (.string yu)).setCell ⟨(w.heap.size + 1), 5, none⟩ (.int .i64 yp)).setCell ⟨(w.heap.size + 1), 6, none⟩ (.slice a7 (m2 + 1) c7)).cell? ⟨V.heap.size, 6, none⟩ = some (.slice (some x) m q)) ∧ ((((((((V9.setCell ⟨(w.heap.size + 1), 0, none⟩ (.int .i64 yk)).setCell ⟨(w.heap.size + 1), 1, none⟩ (.string yf)).setCell ⟨(w.heap.size + 1), 2, none⟩ (.string yt)).setCell ⟨(w.heap.size + 1), 3, none⟩ (.int .i64 ys)).setCell ⟨(w.heap.size + 1), 4, none⟩ (.string yu)).setCell ⟨(w.heap.size + 1), 5, none⟩ (.int .i64 yp)).setCell ⟨(w.heap.size + 1), 6, none⟩ (.slice a7 (m2 + 1) c7)).cell? ⟨(V.heap.size + 1), 0, none⟩ = some (.int .i64 yk) ∧ (((((((V9.setCell ⟨(w.heap.size + 1), 0, none⟩ (.int .i64 yk)).setCell ⟨(w.heap.size + 1), 1, none⟩ (.string yf)).setCell ⟨(w.heap.size + 1), 2, none⟩ (.string yt)).setCell ⟨(w.heap.size + 1), 3, none⟩ (.int .i64 ys)).setCell ⟨(w.heap.size + 1), 4, none⟩ (.string yu)).setCell ⟨(w.heap.size + 1), 5, none⟩ (.int .i64 yp)).setCell ⟨(w.heap.size + 1), 6, none⟩ (.slice a7 (m2 + 1) c7)).cell? ⟨(V.heap.size + 1), 1, none⟩ = some (.string yf) ∧ (((((((V9.setCell ⟨(w.heap.size + 1), 0, none⟩ (.int .i64 yk)).setCell ⟨(w.heap.size + 1), 1, none⟩ (.string yf)).setCell ⟨(w.heap.size + 1), 2, none⟩ (.string yt)).setCell ⟨(w.heap.size + 1), 3, none⟩ (.int .i64 ys)).setCell ⟨(w.heap.size + 1), 4, none⟩ (.string yu)).setCell ⟨(w.heap.size + 1), 5, none⟩ (.int .i64 yp)).setCell ⟨(w.heap.size + 1), 6, none⟩ (.slice a7 (m2 + 1) c7)).cell? ⟨(V.heap.size + 1), 2, none⟩ = some (.string yt) ∧ (((((((V9.setCell ⟨(w.heap.size + 1), 0, none⟩ (.int .i64 yk)).setCell ⟨(w.heap.size + 1), 1, none⟩ (.string yf)).setCell ⟨(w.heap.size + 1), 2, none⟩ (.string yt)).setCell ⟨(w.heap.size + 1), 3, none⟩ (.int .i64 ys)).setCell ⟨(w.heap.size + 1), 4, none⟩ (.string yu)).setCell ⟨(w.heap.size + 1), 5, none⟩ (.int .i64 yp)).setCell ⟨(w.heap.size + 1), 6, none⟩ (.slice a7 (m2 + 1) c7)).cell? ⟨(V.heap.size + 1), 3, none⟩ = some (.int .i64 ys) ∧ (((((((V9.setCell ⟨(w.heap.size + 1), 0, none⟩ (.int .i64 yk)).setCell ⟨(w.heap.size + 1), 1, none⟩ (.string yf)).setCell ⟨(w.heap.size + 1), 2, none⟩ (.string yt)).setCell ⟨(w.heap.size + 1), 3, none⟩ (.int .i64 ys)).setCell ⟨(w.heap.size + 1), 4, none⟩ (.string yu)).setCell ⟨(w.heap.size + 1), 5, none⟩ (.int .i64 yp)).setCell ⟨(w.heap.size + 1), 6, none⟩ (.slice a7 (m2 + 1) c7)).cell? ⟨(V.heap.size + 1), 4, none⟩ = some (.string yu) ∧ (((((((V9.setCell ⟨(w.heap.size + 1), 0, none⟩ (.int .i64 yk)).setCell ⟨(w.heap.size + 1), 1, none⟩ (.string yf)).setCell ⟨(w.heap.size + 1), 2, none⟩ (.string yt)).setCell ⟨(w.heap.size + 1), 3, none⟩ (.int .i64 ys)).setCell ⟨(w.heap.size + 1), 4, none⟩ (.string yu)).setCell ⟨(w.heap.size + 1), 5, none⟩ (.int .i64 yp)).setCell ⟨(w.heap.size + 1), 6, none⟩ (.slice a7 (m2 + 1) c7)).cell? ⟨(V.heap.size + 1), 5, none⟩ = some (.int .i64 yp) ∧ (((((((V9.setCell ⟨(w.heap.size + 1), 0, none⟩ (.int .i64 yk)).setCell ⟨(w.heap.size + 1), 1, none⟩ (.string yf)).setCell ⟨(w.heap.size + 1), 2, none⟩ (.string yt)).setCell ⟨(w.heap.size + 1), 3, none⟩ (.int .i64 ys)).setCell ⟨(w.heap.size + 1), 4, none⟩ (.string yu)).setCell ⟨(w.heap.size + 1), 5, none⟩ (.int .i64 yp)).setCell ⟨(w.heap.size + 1), 6, none⟩ (.slice a7 (m2 + 1) c7)).cell? ⟨(V.heap.size + 1), 6, none⟩ = some (.slice a7 (m2 + 1) c7)) := ⟨⟨ba2.c0, ba2.c1, ba2.c2, ba2.c3, ba2.c4, ba2.c5, ba2.c6⟩, ⟨bb2.c0, bb2.c1, bb2.c2, bb2.c3, bb2.c4, bb2.c5, bb2.c6⟩⟩
    go_simp
    refine hK.out _ _ ?_ (fun hHeld => ?_)
    · exact hS2
    clear hK K
    try simp only [Act.put, List.getElem_toArray, List.getElem_cons_zero, List.getElem_cons_succ, List.setIfInBounds_toArray, List.set_cons_zero, List.set_cons_succ]
    clear e0 e1 e2 e3 e4 e5 e6 g0 g1 g2 g3 g4 g5 g6 lr G9 H9 B9 hS1 hS2 ba1 bb1 ra1 rb1
    generalize (((((((V9.setCell ⟨(w.heap.size + 1), 0, none⟩ (.int .i64 yk)).setCell ⟨(w.heap.size + 1), 1, none⟩ (.string yf)).setCell ⟨(w.heap.size + 1), 2, none⟩ (.string yt)).setCell ⟨(w.heap.size + 1), 3, none⟩ (.int .i64 ys)).setCell ⟨(w.heap.size + 1), 4, none⟩ (.string yu)).setCell ⟨(w.heap.size + 1), 5, none⟩ (.int .i64 yp)).setCell ⟨(w.heap.size + 1), 6, none⟩ (.slice a7 (m2 + 1) c7)) = V10 at *
    refine wpAnyH_done (by kernel_rfl) ?_ _
    refine NoPanic.normal ?_
    have y0 := ra2.c0
    have y1 := ra2.c1
    have y2 := ra2.c2
    have y3 := ra2.c3
    have y4 := ra2.c4
    have y5 := ra2.c5
    have y6 := ra2.c6
    have z0 := rb2.c0
    have z1 := rb2.c1
    have z2 := rb2.c2
    have z3 := rb2.c3
    have z4 := rb2.c4
    have z5 := rb2.c5
    have z6 := rb2.c6
    have la2 := ra2.lt
    have lb2 := rb2.lt
    have O1 := Lib.hid ((HP.out.own G10.out).mono (lo' := w.heap.size) (hi' := V10.heap.size) (by omega) (Nat.le_refl _))
    have O2 := Lib.hid ((H10.out.own (by omega) (drawn_sizes HD2.out _)).mono (lo' := w.heap.size) (hi' := V10.heap.size) (by omega) (Nat.le_refl _))
    clear G10 H10 ba2 bb2 ra2 rb2
    go_wp2
    exact bodyPost_ret (v := .tuple #[.agg #[.int .i64 yk, .string yf, .string yt, .int .i64 ys, .string yu, .int .i64 yp, .slice (some x) m q], .agg #[.int .i64 yk, .string yf, .string yt, .int .i64 ys, .string yu, .int .i64 yp, .slice a7 (m2 + 1) c7]]) (by simp [results, Tryz.results9, go_sem, y0, y1, y2, y3, y4, y5, y6, z0, z1, z2, z3, z4, z5, z6]) rfl ⟨⟨yk, yf, yt, ys, yu, yp, l⟩, ⟨yk, yf, yt, ys, yu, yp, movedTo l 0 m 0 ++ [⟨0, ⟨#[]⟩, ⟨#[]⟩, ⟨#[113]⟩, []⟩]⟩, some x, a7, m, q, (m2 + 1), c7, rfl, O1.out, O2.out, B10.out⟩
  clear c2 c6 f2 f6 lx
  go_upto_region 10 with fail
  have hdw := (Below.refl V6.heap.size V6).drew
  have E8 := Lib.hid (E6.out.below hdw)
  have H8 := Lib.hid (H6.out.below hdw)
  clear hdw
  refine wp_region_noPanic ?_
  refine wp_region_held_drew (S := (fun W => (W.cell? ⟨V.heap.size, 0, none⟩ = some (.int .i64 yk) ∧ W.cell? ⟨V.heap.size, 1, none⟩ = some (.string yf) ∧ W.cell? ⟨V.heap.size, 2, none⟩ = some (.string yt) ∧ W.cell? ⟨V.heap.size, 3, none⟩ = some (.int .i64 ys) ∧ W.cell? ⟨V.heap.size, 4, none⟩ = some (.string yu) ∧ W.cell? ⟨V.heap.size, 5, none⟩ = some (.int .i64 yp) ∧ W.cell? ⟨V.heap.size, 6, none⟩ = some (.slice (some x) m q)) ∧ (W.cell? ⟨(V.heap.size + 1), 0, none⟩ = some (.int .i64 yk) ∧ W.cell? ⟨(V.heap.size + 1), 1, none⟩ = some (.string yf) ∧ W.cell? ⟨(V.heap.size + 1), 2, none⟩ = some (.string yt) ∧ W.cell? ⟨(V.heap.size + 1), 3, none⟩ = some (.int .i64 ys) ∧ W.cell? ⟨(V.heap.size + 1), 4, none⟩ = some (.string yu) ∧ W.cell? ⟨(V.heap.size + 1), 5, none⟩ = some (.int .i64 yp) ∧ W.cell? ⟨(V.heap.size + 1), 6, none⟩ = some (.slice (some x2) m2 q2)))) (by kernel_rfl) ?_ (fun hHeld => ?_)
  · exact ⟨⟨E8.out.ba.c0, E8.out.ba.c1, E8.out.ba.c2, E8.out.ba.c3, E8.out.ba.c4, E8.out.ba.c5, E8.out.ba.c6⟩, ⟨E8.out.bb.c0, E8.out.bb.c1, E8.out.bb.c2, E8.out.bb.c3, E8.out.bb.c4, E8.out.bb.c5, E8.out.bb.c6⟩⟩
  generalize V6.drew = V8 at *
  have k1a := E8.out.h1
  have k2a := E8.out.h2
  have k3a := E8.out.h3
  have G8 := Lib.hid (G3.out.onlyP E8.out.on (fun i h1 h2 hp => by omega))
  have la := E8.out.ba.lt
  have lb := E8.out.bb.lt
  refine wpAnyH_take (i := 0) (oi := _) (v := ?_) rfl (by kernel_rfl) (by kernel_rfl) (by kernel_rfl) (fun _ _ _ h => h) (Or.inl ⟨by rfl, ?_⟩) (by with_reducible assumption) ?_
  rotate_left
  · intro Wz hSw
    obtain ⟨⟨s0, s1, s2, s3, s4, s5, s6⟩, ⟨t0, t1, t2, t3, t4, t5, t6⟩⟩ := hSw
    go_simp
    all_goals (with_reducible rfl)
  try simp only [Act.put, List.getElem_toArray, List.getElem_cons_zero, List.getElem_cons_succ, List.setIfInBounds_toArray, List.set_cons_zero, List.set_cons_succ]
  refine wpAnyH_take (i := 1) (oi := _) (v := ?_) rfl (by kernel_rfl) (by kernel_rfl) (by kernel_rfl) (fun _ _ _ h => h) (Or.inl ⟨by rfl, ?_⟩) (by with_reducible assumption) ?_
  rotate_left
  · intro Wz hSw
    obtain ⟨⟨s0, s1, s2, s3, s4, s5, s6⟩, ⟨t0, t1, t2, t3, t4, t5, t6⟩⟩ := hSw
    go_simp
    all_goals (with_reducible rfl)
  try simp only [Act.put, List.getElem_toArray, List.getElem_cons_zero, List.getElem_cons_succ, List.setIfInBounds_toArray, List.set_cons_zero, List.set_cons_succ]
  refine wpAnyH_ready (rs := [2]) (by kernel_rfl) (by simp) ?_
  refine AllReadyH.cons (o := _) rfl (fun K hK => ?_) AllReadyH.nil
  have e0 := E8.out.ra.c0
  have e1 := E8.out.ra.c1
  have e2 := E8.out.ra.c2
  have e3 := E8.out.ra.c3
  have e4 := E8.out.ra.c4
  have e5 := E8.out.ra.c5
  have e6 := E8.out.ra.c6
  have g0 := E8.out.ra.fz 0 (by decide)
  have g1 := E8.out.ra.fz 1 (by decide)
  have g2 := E8.out.ra.fz 2 (by decide)
  have g3 := E8.out.ra.fz 3 (by decide)
  have g4 := E8.out.ra.fz 4 (by decide)
  have g5 := E8.out.ra.fz 5 (by decide)
  have g6 := E8.out.ra.fz 6 (by decide)
  have lr := E8.out.ra.lt
  have ba1 := E8.out.ba.offFill (y := w.heap.size) (by omega) (.int .i64 yk) (.string yf) (.string yt) (.int .i64 ys) (.string yu) (.int .i64 yp) (.slice (some x) m q)
  have bb1 := E8.out.bb.offFill (y := w.heap.size) (by omega) (.int .i64 yk) (.string yf) (.string yt) (.int .i64 ys) (.string yu) (.int .i64 yp) (.slice (some x) m q)
  have ra1 := E8.out.ra.fill (.int .i64 yk) (.string yf) (.string yt) (.int .i64 ys) (.string yu) (.int .i64 yp) (.slice (some x) m q)
  have rb1 := E8.out.rb.offFill (y := w.heap.size) (by omega) (.int .i64 yk) (.string yf) (.string yt) (.int .i64 ys) (.string yu) (.int .i64 yp) (.slice (some x) m q)
  have G9 := Lib.hid (G8.out.onlyP (only_fill7 V8 w.heap.size (.int .i64 yk) (.string yf) (.string yt) (.int .i64 ys) (.string yu) (.int .i64 yp) (.slice (some x) m q)) (fun i h1 h2 hp => by omega))
  have H9 := Lib.hid (H8.out.onlyP (only_fill7 V8 w.heap.size (.int .i64 yk) (.string yf) (.string yt) (.int .i64 ys) (.string yu) (.int .i64 yp) (.slice (some x) m q)) (fun i h1 h2 hp => by omega))
  have B9 := Lib.hid (below_fill7 E8.out.bel w.heap.size (by omega) (.int .i64 yk) (.string yf) (.string yt) (.int .i64 ys) (.string yu) (.int .i64 yp) (.slice (some x) m q))
  have hS1 : ((((((((V8.setCell ⟨w.heap.size, 0, none⟩ (.int .i64 yk)).setCell ⟨w.heap.size, 1, none⟩ (.string yf)).setCell ⟨w.heap.size, 2, none⟩ (.string yt)).setCell ⟨w.heap.size, 3, none⟩ (.int .i64 ys)).setCell ⟨w.heap.size, 4, none⟩ (.string yu)).setCell ⟨w.heap.size, 5, none⟩ (.int .i64 yp)).setCell ⟨w.heap.size, 6, none⟩ (.slice (some x) m q)).cell? ⟨V.heap.size, 0, none⟩ = some (.int .i64 yk) ∧ (((((((V8.setCell ⟨w.heap.size, 0, none⟩ (.int .i64 yk)).setCell ⟨w.heap.size, 1, none⟩ (.string yf)).setCell ⟨w.heap.size, 2, none⟩ (.string yt)).setCell ⟨w.heap.size, 3, none⟩ (.int .i64 ys)).setCell ⟨w.heap.size, 4, none⟩ (.string yu)).setCell ⟨w.heap.size, 5, none⟩ (.int .i64 yp)).setCell ⟨w.heap.size, 6, none⟩ (.slice (some x) m q)).cell? ⟨V.heap.size, 1, none⟩ = some (.string yf) ∧ (((((((V8.setCell ⟨w.heap.size, 0, none⟩ (.int .i64 yk)).setCell ⟨w.heap.size, 1, none⟩ (.string yf)).setCell ⟨w.heap.size, 2, none⟩ (.string yt)).setCell ⟨w.heap.size, 3, none⟩ (.int .i64 ys)).setCell ⟨w.heap.size, 4, none⟩ (.string yu)).setCell ⟨w.heap.size, 5, none⟩ (.int .i64 yp)).setCell ⟨w.heap.size, 6, none⟩ (.slice (some x) m q)).cell? ⟨V.heap.size, 2, none⟩ = some (.string yt) ∧ (((((((V8.setCell ⟨w.heap.size, 0, none⟩ (.int .i64 yk)).setCell ⟨w.heap.size, 1, none⟩ (.string yf)).setCell ⟨w.heap.size, 2, none⟩ (.string yt)).setCell ⟨w.heap.size, 3, none⟩ (.int .i64 ys)).setCell ⟨w.heap.size, 4, none⟩ (.string yu)).setCell ⟨w.heap.size, 5, none⟩ (.int .i64 yp)).setCell ⟨w.heap.size, 6, none⟩ (.slice (some x) m q)).cell? ⟨V.heap.size, 3, none⟩ = some (.int .i64 ys) ∧ (((((((V8.setCell ⟨w.heap.size, 0, none⟩ (.int .i64 yk)).setCell ⟨w.heap.size, 1, none⟩ (.string yf)).setCell ⟨w.heap.size, 2, none⟩ (.string yt)).setCell ⟨w.heap.size, 3, none⟩ (.int .i64 ys)).setCell ⟨w.heap.size, 4, none⟩ (.string yu)).setCell ⟨w.heap.size, 5, none⟩ (.int .i64 yp)).setCell ⟨w.heap.size, 6, none⟩ (.slice (some x) m q)).cell? ⟨V.heap.size, 4, none⟩ = some (.string yu) ∧ (((((((V8.setCell ⟨w.heap.size, 0, none⟩ (.int .i64 yk)).setCell ⟨w.heap.size, 1, none⟩ (.string yf)).setCell ⟨w.heap.size, 2, none⟩ (.string yt)).setCell ⟨w.heap.size, 3, none⟩ (.int .i64 ys)).setCell ⟨w.heap.size, 4, none⟩ (.string yu)).setCell ⟨w.heap.size, 5, none⟩ (.int .i64 yp)).setCell ⟨w.heap.size, 6, none⟩ (.slice (some x) m q)).cell? ⟨V.heap.size, 5, none⟩ = some (.int .i64 yp) ∧ (((((((V8.setCell ⟨w.heap.size, 0, none⟩ (.int .i64 yk)).setCell ⟨w.heap.size, 1, none⟩ (.string yf)).setCell ⟨w.heap.size, 2, none⟩ (.string yt)).setCell ⟨w.heap.size, 3, none⟩ (.int .i64 ys)).setCell ⟨w.heap.size, 4, none⟩ (.string yu)).setCell ⟨w.heap.size, 5, none⟩ (.int .i64 yp)).setCell ⟨w.heap.size, 6, none⟩ (.slice (some x) m q)).cell? ⟨V.heap.size, 6, none⟩ = some (.slice (some x) m q)) ∧ ((((((((V8.setCell ⟨w.heap.size, 0, none⟩ (.int .i64 yk)).setCell ⟨w.heap.size, 1, none⟩ (.string yf)).setCell ⟨w.heap.size, 2, none⟩ (.string yt)).setCell ⟨w.heap.size, 3, none⟩ (.int .i64 ys)).setCell ⟨w.heap.size, 4, none⟩ (.string yu)).setCell ⟨w.heap.size, 5, none⟩ (.int .i64 yp)).setCell ⟨w.heap.size, 6, none⟩ (.slice (some x) m q)).cell? ⟨(V.heap.size + 1), 0, none⟩ = some (.int .i64 yk) ∧ (((((((V8.setCell ⟨w.heap.size, 0, none⟩ (.int .i64 yk)).setCell ⟨w.heap.size, 1, none⟩ (.string yf)).setCell ⟨w.heap.size, 2, none⟩ (.string yt)).setCell ⟨w.heap.size, 3, none⟩ (.int .i64 ys)).setCell ⟨w.heap.size, 4, none⟩ (.string yu)).setCell ⟨w.heap.size, 5, none⟩ (.int .i64 yp)).setCell ⟨w.heap.size, 6, none⟩ (.slice (some x) m q)).cell? ⟨(V.heap.size + 1), 1, none⟩ = some (.string yf) ∧ (((((((V8.setCell ⟨w.heap.size, 0, none⟩ (.int .i64 yk)).setCell ⟨w.heap.size, 1, none⟩ (.string yf)).setCell ⟨w.heap.size, 2, none⟩ (.string yt)).setCell ⟨w.heap.size, 3, none⟩ (.int .i64 ys)).setCell ⟨w.heap.size, 4, none⟩ (.string yu)).setCell ⟨w.heap.size, 5, none⟩ (.int .i64 yp)).setCell ⟨w.heap.size, 6, none⟩ (.slice (some x) m q)).cell? ⟨(V.heap.size + 1), 2, none⟩ = some (.string yt) ∧ (((((((V8.setCell ⟨w.heap.size, 0, none⟩ (.int .i64 yk)).setCell ⟨w.heap.size, 1, none⟩ (.string yf)).setCell ⟨w.heap.size, 2, none⟩ (.string yt)).setCell ⟨w.heap.size, 3, none⟩ (.int .i64 ys)).setCell ⟨w.heap.size, 4, none⟩ (.string yu)).setCell ⟨w.heap.size, 5, none⟩ (.int .i64 yp)).setCell ⟨w.heap.size, 6, none⟩ (.slice (some x) m q)).cell? ⟨(V.heap.size + 1), 3, none⟩ = some (.int .i64 ys) ∧ (((((((V8.setCell ⟨w.heap.size, 0, none⟩ (.int .i64 yk)).setCell ⟨w.heap.size, 1, none⟩ (.string yf)).setCell ⟨w.heap.size, 2, none⟩ (.string yt)).setCell ⟨w.heap.size, 3, none⟩ (.int .i64 ys)).setCell ⟨w.heap.size, 4, none⟩ (.string yu)).setCell ⟨w.heap.size, 5, none⟩ (.int .i64 yp)).setCell ⟨w.heap.size, 6, none⟩ (.slice (some x) m q)).cell? ⟨(V.heap.size + 1), 4, none⟩ = some (.string yu) ∧ (((((((V8.setCell ⟨w.heap.size, 0, none⟩ (.int .i64 yk)).setCell ⟨w.heap.size, 1, none⟩ (.string yf)).setCell ⟨w.heap.size, 2, none⟩ (.string yt)).setCell ⟨w.heap.size, 3, none⟩ (.int .i64 ys)).setCell ⟨w.heap.size, 4, none⟩ (.string yu)).setCell ⟨w.heap.size, 5, none⟩ (.int .i64 yp)).setCell ⟨w.heap.size, 6, none⟩ (.slice (some x) m q)).cell? ⟨(V.heap.size + 1), 5, none⟩ = some (.int .i64 yp) ∧ (((((((V8.setCell ⟨w.heap.size, 0, none⟩ (.int .i64 yk)).setCell ⟨w.heap.size, 1, none⟩ (.string yf)).setCell ⟨w.heap.size, 2, none⟩ (.string yt)).setCell ⟨w.heap.size, 3, none⟩ (.int .i64 ys)).setCell ⟨w.heap.size, 4, none⟩ (.string yu)).setCell ⟨w.heap.size, 5, none⟩ (.int .i64 yp)).setCell ⟨w.heap.size, 6, none⟩ (.slice (some x) m q)).cell? ⟨(V.heap.size + 1), 6, none⟩ = some (.slice (some x2) m2 q2)) := ⟨⟨ba1.c0, ba1.c1, ba1.c2, ba1.c3, ba1.c4, ba1.c5, ba1.c6⟩, ⟨bb1.c0, bb1.c1, bb1.c2, bb1.c3, bb1.c4, bb1.c5, bb1.c6⟩⟩
  go_simp
  refine hK.out _ _ ?_ (fun hHeld => ?_)
  · exact hS1
  clear hK K
  try simp only [Act.put, List.getElem_toArray, List.getElem_cons_zero, List.getElem_cons_succ, List.setIfInBounds_toArray, List.set_cons_zero, List.set_cons_succ]
  clear e0 e1 e2 e3 e4 e5 e6 g0 g1 g2 g3 g4 g5 g6 lr E8 H8 G8
  generalize (((((((V8.setCell ⟨w.heap.size, 0, none⟩ (.int .i64 yk)).setCell ⟨w.heap.size, 1, none⟩ (.string yf)).setCell ⟨w.heap.size, 2, none⟩ (.string yt)).setCell ⟨w.heap.size, 3, none⟩ (.int .i64 ys)).setCell ⟨w.heap.size, 4, none⟩ (.string yu)).setCell ⟨w.heap.size, 5, none⟩ (.int .i64 yp)).setCell ⟨w.heap.size, 6, none⟩ (.slice (some x) m q)) = V9 at *
  refine wpAnyH_ready (rs := [3]) (by kernel_rfl) (by simp) ?_
  refine AllReadyH.cons (o := _) rfl (fun K hK => ?_) AllReadyH.nil
  have e0 := rb1.c0
  have e1 := rb1.c1
  have e2 := rb1.c2
  have e3 := rb1.c3
  have e4 := rb1.c4
  have e5 := rb1.c5
  have e6 := rb1.c6
  have g0 := rb1.fz 0 (by decide)
  have g1 := rb1.fz 1 (by decide)
  have g2 := rb1.fz 2 (by decide)
  have g3 := rb1.fz 3 (by decide)
  have g4 := rb1.fz 4 (by decide)
  have g5 := rb1.fz 5 (by decide)
  have g6 := rb1.fz 6 (by decide)
  have lr := rb1.lt
  have ba2 := ba1.offFill (y := (w.heap.size + 1)) (by omega) (.int .i64 yk) (.string yf) (.string yt) (.int .i64 ys) (.string yu) (.int .i64 yp) (.slice (some x2) m2 q2)
  have bb2 := bb1.offFill (y := (w.heap.size + 1)) (by omega) (.int .i64 yk) (.string yf) (.string yt) (.int .i64 ys) (.string yu) (.int .i64 yp) (.slice (some x2) m2 q2)
  have rb2 := rb1.fill (.int .i64 yk) (.string yf) (.string yt) (.int .i64 ys) (.string yu) (.int .i64 yp) (.slice (some x2) m2 q2)
  have ra2 := ra1.offFill (y := (w.heap.size + 1)) (by omega) (.int .i64 yk) (.string yf) (.string yt) (.int .i64 ys) (.string yu) (.int .i64 yp) (.slice (some x2) m2 q2)
  have G10 := Lib.hid (G9.out.onlyP (only_fill7 V9 (w.heap.size + 1) (.int .i64 yk) (.string yf) (.string yt) (.int .i64 ys) (.string yu) (.int .i64 yp) (.slice (some x2) m2 q2)) (fun i h1 h2 hp => by omega))
  have H10 := Lib.hid (H9.out.onlyP (only_fill7 V9 (w.heap.size + 1) (.int .i64 yk) (.string yf) (.string yt) (.int .i64 ys) (.string yu) (.int .i64 yp) (.slice (some x2) m2 q2)) (fun i h1 h2 hp => by omega))
  have B10 := Lib.hid (below_fill7 B9.out (w.heap.size + 1) (by omega) (.int .i64 yk) (.string yf) (.string yt) (.int .i64 ys) (.string yu) (.int .i64 yp) (.slice (some x2) m2 q2))
  have hS2 : ((((((((V9.setCell ⟨(w.heap.size + 1), 0, none⟩ (.int .i64 yk)).setCell ⟨(w.heap.size + 1), 1, none⟩ (.string yf)).setCell ⟨(w.heap.size + 1), 2, none⟩ (.string yt)).setCell ⟨(w.heap.size + 1), 3, none⟩ (.int .i64 ys)).setCell ⟨(w.heap.size + 1), 4, none⟩ (.string yu)).setCell ⟨(w.heap.size + 1), 5, none⟩ (.int .i64 yp)).setCell ⟨(w.heap.size + 1), 6, none⟩ (.slice (some x2) m2 q2)).cell? ⟨V.heap.size, 0, none⟩ = some (.int .i64 yk) ∧ (((((((V9.setCell ⟨(w.heap.size + 1), 0, none⟩ (.int .i64 yk)).setCell ⟨(w.heap.size + 1), 1, none⟩ (.string yf)).setCell ⟨(w.heap.size + 1), 2, none⟩ (.string yt)).setCell ⟨(w.heap.size + 1), 3, none⟩ (.int .i64 ys)).setCell ⟨(w.heap.size + 1), 4, none⟩ (.string yu)).setCell ⟨(w.heap.size + 1), 5, none⟩ (.int .i64 yp)).setCell ⟨(w.heap.size + 1), 6, none⟩ (.slice (some x2) m2 q2)).cell? ⟨V.heap.size, 1, none⟩ = some (.string yf) ∧ (((((((V9.setCell ⟨(w.heap.size + 1), 0, none⟩ (.int .i64 yk)).setCell ⟨(w.heap.size + 1), 1, none⟩ (.string yf)).setCell ⟨(w.heap.size + 1), 2, none⟩ (.string yt)).setCell ⟨(w.heap.size + 1), 3, none⟩ (.int .i64 ys)).setCell ⟨(w.heap.size + 1), 4, none⟩ (.string yu)).setCell ⟨(w.heap.size + 1), 5, none⟩ (.int .i64 yp)).setCell ⟨(w.heap.size + 1), 6, none⟩ (.slice (some x2) m2 q2)).cell? ⟨V.heap.size, 2, none⟩ = some (.string yt) ∧ (((((((V9.setCell ⟨(w.heap.size + 1), 0, none⟩ (.int .i64 yk)).setCell ⟨(w.heap.size + 1), 1, none⟩ (.string yf)).setCell ⟨(w.heap.size + 1), 2, none⟩ (.string yt)).setCell ⟨(w.heap.size + 1), 3, none⟩ (.int .i64 ys)).setCell ⟨(w.heap.size + 1), 4, none⟩ (.string yu)).setCell ⟨(w.heap.size + 1), 5, none⟩ (.int .i64 yp)).setCell ⟨(w.heap.size + 1), 6, none⟩ (.slice (some x2) m2 q2)).cell? ⟨V.heap.size, 3, none⟩ = some (.int .i64 ys) ∧ (((((((V9.setCell ⟨(w.heap.size + 1), 0, none⟩ (.int .i64 yk)).setCell ⟨(w.heap.size + 1), 1, none⟩ (.string yf)).setCell ⟨(w.heap.size + 1), 2, none⟩ (.string yt)).setCell ⟨(w.heap.size + 1), 3, none⟩ (.int .i64 ys)).setCell ⟨(w.heap.size + 1), 4, none⟩ (.string yu)).setCell ⟨(w.heap.size + 1), 5, none⟩ (.int .i64 yp)).setCell ⟨(w.heap.size + 1), 6, none⟩ (.slice (some x2) m2 q2)).cell? ⟨V.heap.size, 4, none⟩ = some (.string yu) ∧ (((((((V9.setCell ⟨(w.heap.size + 1), 0, none⟩ (.int .i64 yk)).setCell ⟨(w.heap.size + 1), 1, none⟩ (.string yf)).setCell ⟨(w.heap.size + 1), 2, none⟩ (.string yt)).setCell ⟨(w.heap.size + 1), 3, none⟩ (.int .i64 ys)).setCell ⟨(w.heap.size + 1), 4, none⟩ (.string yu)).setCell ⟨(w.heap.size + 1), 5, none⟩ (.int .i64 yp)).setCell ⟨(w.heap.size + 1), 6, none⟩ (.slice (some x2) m2 q2)).cell? ⟨V.heap.size, 5, none⟩ = some (.int .i64 yp) ∧ (((((((V9.setCell ⟨(w.heap.size + 1), 0, none⟩ (.int .i64 yk)).setCell ⟨(w.heap.size + 1), 1, none⟩ (.string yf)).setCell ⟨(w.heap.size + 1), 2, none⟩ (.string yt)).setCell ⟨(w.heap.size + 1), 3, none⟩ (.int .i64 ys)).setCell ⟨(w.heap.size + 1), 4, none⟩ (.string yu)).setCell ⟨(w.heap.size + 1), 5, none⟩ (.int .i64 yp)).setCell ⟨(w.heap.size + 1), 6, none⟩ (.slice (some x2) m2 q2)).cell? ⟨V.heap.size, 6, none⟩ = some (.slice (some x) m q)) ∧ ((((((((V9.setCell ⟨(w.heap.size + 1), 0, none⟩ (.int .i64 yk)).setCell ⟨(w.heap.size + 1), 1, none⟩ (.string yf)).setCell ⟨(w.heap.size + 1), 2, none⟩ (.string yt)).setCell ⟨(w.heap.size + 1), 3, none⟩ (.int .i64 ys)).setCell ⟨(w.heap.size + 1), 4, none⟩ (.string yu)).setCell ⟨(w.heap.size + 1), 5, none⟩ (.int .i64 yp)).setCell ⟨(w.heap.size + 1), 6, none⟩ (.slice (some x2) m2 q2)).cell? ⟨(V.heap.size + 1), 0, none⟩ = some (.int .i64 yk) ∧ (((((((V9.setCell ⟨(w.heap.size + 1), 0, none⟩ (.int .i64 yk)).setCell ⟨(w.heap.size + 1), 1, none⟩ (.string yf)).setCell ⟨(w.heap.size + 1), 2, none⟩ (.string yt)).setCell ⟨(w.heap.size + 1), 3, none⟩ (.int .i64 ys)).setCell ⟨(w.heap.size + 1), 4, none⟩ (.string yu)).setCell ⟨(w.heap.size + 1), 5, none⟩ (.int .i64 yp)).setCell ⟨(w.heap.size + 1), 6, none⟩ (.slice (some x2) m2 q2)).cell? ⟨(V.heap.size + 1), 1, none⟩ = some (.string yf) ∧ (((((((V9.setCell ⟨(w.heap.size + 1), 0, none⟩ (.int .i64 yk)).setCell ⟨(w.heap.size + 1), 1, none⟩ (.string yf)).setCell ⟨(w.heap.size + 1), 2, none⟩ (.string yt)).setCell ⟨(w.heap.size + 1), 3, none⟩ (.int .i64 ys)).setCell ⟨(w.heap.size + 1), 4, none⟩ (.string yu)).setCell ⟨(w.heap.size + 1), 5, none⟩ (.int .i64 yp)).setCell ⟨(w.heap.size + 1), 6, none⟩ (.slice (some x2) m2 q2)).cell? ⟨(V.heap.size + 1), 2, none⟩ = some (.string yt) ∧ (((((((V9.setCell ⟨(w.heap.size + 1), 0, none⟩ (.int .i64 yk)).setCell ⟨(w.heap.size + 1), 1, none⟩ (.string yf)).setCell ⟨(w.heap.size + 1), 2, none⟩ (.string yt)).setCell ⟨(w.heap.size + 1), 3, none⟩ (.int .i64 ys)).setCell ⟨(w.heap.size + 1), 4, none⟩ (.string yu)).setCell ⟨(w.heap.size + 1), 5, none⟩ (.int .i64 yp)).setCell ⟨(w.heap.size + 1), 6, none⟩ (.slice (some x2) m2 q2)).cell? ⟨(V.heap.size + 1), 3, none⟩ = some (.int .i64 ys) ∧ (((((((V9.setCell ⟨(w.heap.size + 1), 0, none⟩ (.int .i64 yk)).setCell ⟨(w.heap.size + 1), 1, none⟩ (.string yf)).setCell ⟨(w.heap.size + 1), 2, none⟩ (.string yt)).setCell ⟨(w.heap.size + 1), 3, none⟩ (.int .i64 ys)).setCell ⟨(w.heap.size + 1), 4, none⟩ (.string yu)).setCell ⟨(w.heap.size + 1), 5, none⟩ (.int .i64 yp)).setCell ⟨(w.heap.size + 1), 6, none⟩ (.slice (some x2) m2 q2)).cell? ⟨(V.heap.size + 1), 4, none⟩ = some (.string yu) ∧ (((((((V9.setCell ⟨(w.heap.size + 1), 0, none⟩ (.int .i64 yk)).setCell ⟨(w.heap.size + 1), 1, none⟩ (.string yf)).setCell ⟨(w.heap.size + 1), 2, none⟩ (.string yt)).setCell ⟨(w.heap.size + 1), 3, none⟩ (.int .i64 ys)).setCell ⟨(w.heap.size + 1), 4, none⟩ (.string yu)).setCell ⟨(w.heap.size + 1), 5, none⟩ (.int .i64 yp)).setCell ⟨(w.heap.size + 1), 6, none⟩ (.slice (some x2) m2 q2)).cell? ⟨(V.heap.size + 1), 5, none⟩ = some (.int .i64 yp) ∧ (((((((V9.setCell ⟨(w.heap.size + 1), 0, none⟩ (.int .i64 yk)).setCell ⟨(w.heap.size + 1), 1, none⟩ (.string yf)).setCell ⟨(w.heap.size + 1), 2, none⟩ (.string yt)).setCell ⟨(w.heap.size + 1), 3, none⟩ (.int .i64 ys)).setCell ⟨(w.heap.size + 1), 4, none⟩ (.string yu)).setCell ⟨(w.heap.size + 1), 5, none⟩ (.int .i64 yp)).setCell ⟨(w.heap.size + 1), 6, none⟩ (.slice (some x2) m2 q2)).cell? ⟨(V.heap.size + 1), 6, none⟩ = some (.slice (some x2) m2 q2)) := ⟨⟨ba2.c0, ba2.c1, ba2.c2, ba2.c3, ba2.c4, ba2.c5, ba2.c6⟩, ⟨bb2.c0, bb2.c1, bb2.c2, bb2.c3, bb2.c4, bb2.c5, bb2.c6⟩⟩
  go_simp
  refine hK.out _ _ ?_ (fun hHeld => ?_)
  · exact hS2
  clear hK K
  try simp only [Act.put, List.getElem_toArray, List.getElem_cons_zero, List.getElem_cons_succ, List.setIfInBounds_toArray, List.set_cons_zero, List.set_cons_succ]
  clear e0 e1 e2 e3 e4 e5 e6 g0 g1 g2 g3 g4 g5 g6 lr G9 H9 B9 hS1 hS2 ba1 bb1 ra1 rb1
  generalize (((((((V9.setCell ⟨(w.heap.size + 1), 0, none⟩ (.int .i64 yk)).setCell ⟨(w.heap.size + 1), 1, none⟩ (.string yf)).setCell ⟨(w.heap.size + 1), 2, none⟩ (.string yt)).setCell ⟨(w.heap.size + 1), 3, none⟩ (.int .i64 ys)).setCell ⟨(w.heap.size + 1), 4, none⟩ (.string yu)).setCell ⟨(w.heap.size + 1), 5, none⟩ (.int .i64 yp)).setCell ⟨(w.heap.size + 1), 6, none⟩ (.slice (some x2) m2 q2)) = V10 at *
  refine wpAnyH_done (by kernel_rfl) ?_ _
  refine NoPanic.normal ?_
  have y0 := ra2.c0
  have y1 := ra2.c1
  have y2 := ra2.c2
  have y3 := ra2.c3
  have y4 := ra2.c4
  have y5 := ra2.c5
  have y6 := ra2.c6
  have z0 := rb2.c0
  have z1 := rb2.c1
  have z2 := rb2.c2
  have z3 := rb2.c3
  have z4 := rb2.c4
  have z5 := rb2.c5
  have z6 := rb2.c6
  have la2 := ra2.lt
  have lb2 := rb2.lt
  have O1 := Lib.hid ((HP.out.own G10.out).mono (lo' := w.heap.size) (hi' := V10.heap.size) (by omega) (Nat.le_refl _))
  have O2 := Lib.hid ((H10.out.own (by omega) (drawn_sizes HDR.out _)).mono (lo' := w.heap.size) (hi' := V10.heap.size) (by omega) (Nat.le_refl _))
  clear G10 H10 ba2 bb2 ra2 rb2
  go_wp2
  exact bodyPost_ret (v := .tuple #[.agg #[.int .i64 yk, .string yf, .string yt, .int .i64 ys, .string yu, .int .i64 yp, .slice (some x) m q], .agg #[.int .i64 yk, .string yf, .string yt, .int .i64 ys, .string yu, .int .i64 yp, .slice (some x2) m2 q2]]) (by simp [results, Tryz.results9, go_sem, y0, y1, y2, y3, y4, y5, y6, z0, z1, z2, z3, z4, z5, z6]) rfl ⟨⟨yk, yf, yt, ys, yu, yp, l⟩, ⟨yk, yf, yt, ys, yu, yp, movedTo l 0 m 0⟩, some x, some x2, m, q, m2, q2, rfl, O1.out, O2.out, B10.out⟩
end Go.Proofs.YtjkmgpomcnplnaaGreatDoor
