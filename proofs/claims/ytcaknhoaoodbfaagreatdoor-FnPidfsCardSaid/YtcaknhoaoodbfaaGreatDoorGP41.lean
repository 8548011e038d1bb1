/- spec.PresenceOfPidf. -/
import Derived.Test.YtcaknhoaoodbfaaGreatDoorGP31
import Derived.Test.YtcaknhoaoodbfaaGreatDoorGP38
import Derived.Test.YtcaknhoaoodbfaaGreatDoorGP29
import Derived.Test.YtcaknhoaoodbfaaGreatDoorGP17
import Derived.Test.YtcaknhoaoodbfaaGreatDoorGP18
import Derived.Test.YtcaknhoaoodbfaaGreatDoorGP40
import Derived.Test.YtcaknhoaoodbfaaGreatDoorGP30
import Derived.Test.YtcaknhoaoodbfaaGreatDoorGP19
import Derived.Test.YtcaknhoaoodbfaaGreatDoorGP24
import Derived.Test.YtcaknhoaoodbfaaGreatDoorGP11
namespace Go.Proofs.YtcaknhoaoodbfaaGreatDoor
open Go.ChangeShapes Go.WideShapes Go.ChangeAt Go.RowKit
set_option linter.unusedVariables false
set_option linter.unusedSimpArgs false
theorem pof_bad {l : List It} (h : treeCode l ≠ 0) : pofCode l = treeCode l ∧ pofVal l = dPr := by
  unfold pofCode pofVal
  rw [if_pos h, if_pos h]
  exact ⟨rfl, rfl⟩
theorem pof_no {l : List It} (h : treeCode l = 0) (h2 : ¬ Tells l (guessM l)) : pofCode l = 1 ∧ pofVal l = dPr := by
  unfold pofCode pofVal
  have hn : ¬ (treeCode l ≠ 0) := by simp [h]
  rw [if_neg hn, if_neg h2, if_neg hn, if_neg h2]
  exact ⟨rfl, rfl⟩
theorem pof_yes {l : List It} (h : treeCode l = 0) (h2 : Tells l (guessM l)) : pofCode l = 0 ∧ pofVal l = guessM l := by
  unfold pofCode pofVal
  have hn : ¬ (treeCode l ≠ 0) := by simp [h]
  rw [if_neg hn, if_pos h2, if_neg hn, if_pos h2]
  exact ⟨rfl, rfl⟩
theorem pidf_reads {g : Pr} (hs : SmallPr g) (h0 : projCode g = 0) (h1 : proj g = g) {w : World} {B : Nat} {a : Option Addr} {n c : Nat} {A : Nat → Option Addr} {N C : Nat → Nat} (h : GrowIts w B (.slice a n c) n (pidfL g) A N C) : ItsAt w a n c (pidfL g) := by
  have e : pidfT g = pidfL g := by unfold pidfT; rw [if_pos h0, h1]
  have hl := h.len
  have h11 := pidf_len g
  rw [e] at h11
  refine (h.own (by omega) (fun i hi => ?_)).its
  have := pidf_wide g hs h0 i (by rw [e]; omega)
  rw [e] at this
  exact this
def Cells7 (W : World) (b : Nat) (x0 x1 x2 x3 x4 x5 x6 : Value) : Prop := W.cell? ⟨b, 0, none⟩ = some x0 ∧ W.cell? ⟨b, 1, none⟩ = some x1 ∧ W.cell? ⟨b, 2, none⟩ = some x2 ∧ W.cell? ⟨b, 3, none⟩ = some x3 ∧ W.cell? ⟨b, 4, none⟩ = some x4 ∧ W.cell? ⟨b, 5, none⟩ = some x5 ∧ W.cell? ⟨b, 6, none⟩ = some x6
theorem held7h {w0 W W' : World} {b : Nat} {x0 x1 x2 x3 x4 x5 x6 : Value} (hb : Below W.heap.size W W')
    (h : Below w0.heap.size w0 W ∧ W.cell? ⟨b, 0, none⟩ = some x0 ∧ W.cell? ⟨b, 1, none⟩ = some x1 ∧ W.cell? ⟨b, 2, none⟩ = some x2 ∧ W.cell? ⟨b, 3, none⟩ = some x3 ∧ W.cell? ⟨b, 4, none⟩ = some x4 ∧ W.cell? ⟨b, 5, none⟩ = some x5 ∧ W.cell? ⟨b, 6, none⟩ = some x6) :
    Below w0.heap.size w0 W' ∧ W'.cell? ⟨b, 0, none⟩ = some x0 ∧ W'.cell? ⟨b, 1, none⟩ = some x1 ∧ W'.cell? ⟨b, 2, none⟩ = some x2 ∧ W'.cell? ⟨b, 3, none⟩ = some x3 ∧ W'.cell? ⟨b, 4, none⟩ = some x4 ∧ W'.cell? ⟨b, 5, none⟩ = some x5 ∧ W'.cell? ⟨b, 6, none⟩ = some x6 := by
  obtain ⟨h0, h1, h2, h3, h4, h5, h6, h7⟩ := h
  have k : ∀ o v, W.cell? ⟨b, o, none⟩ = some v → W'.cell? ⟨b, o, none⟩ = some v := fun o v h => (hb.cell (World.block_lt_of_cell? W _ h)).trans h
  exact ⟨below_then h0 hb, k _ _ h1, k _ _ h2, k _ _ h3, k _ _ h4, k _ _ h5, k _ _ h6, k _ _ h7⟩
theorem prat_of {W : World} {b : Nat} {gk gs gp : Int} {gf gt gu : ByteArray} {gm : List It}
    (h : W.cell? ⟨b, 0, none⟩ = some (.int .i64 gk) ∧ W.cell? ⟨b, 1, none⟩ = some (.string gf) ∧ W.cell? ⟨b, 2, none⟩ = some (.string gt) ∧ W.cell? ⟨b, 3, none⟩ = some (.int .i64 gs) ∧ W.cell? ⟨b, 4, none⟩ = some (.string gu) ∧ W.cell? ⟨b, 5, none⟩ = some (.int .i64 gp) ∧ W.cell? ⟨b, 6, none⟩ = some (.slice none 0 0)) : PrAt W b ⟨gk, gf, gt, gs, gu, gp, gm⟩ none 0 0 :=
  ⟨World.block_lt_of_cell? W _ h.1, h.1, h.2.1, h.2.2.1, h.2.2.2.1, h.2.2.2.2.1, h.2.2.2.2.2.1, h.2.2.2.2.2.2⟩
set_option maxRecDepth 100000 in
set_option maxHeartbeats 6400000 in
theorem specPresenceOfPidf_any (lo hi : Nat) (a : Option Addr) (n c : Nat) (l : List It) (w : World) (hs : SmallIts l) (h : OwnIts w lo hi a n c l) :
    Calls Tryz.prog 38 #[.slice a n c] w (PrrOwn w (pofCode l) (pofVal l)) := by
  have hits := h.its
  have KT := Lib.hid (fun W (hb : Below w.heap.size w W) => specTreeFault_any a n c l W hs (hits.below hb))
  have HB0 := Lib.hid (fun o => below1 w o)
  by_cases hc : treeCode l = 0
  case neg =>
    obtain ⟨e1, e2⟩ := pof_bad hc
    rw [e1, e2]
    generalize treeCode l = cd at hc KT ⊢
    have h0b : (cd != 0) = true := by rw [bne_iff_ne]; exact hc
    clear e1 e2 h hs hits
    go_enter Tryz.func38, Tryz.ntmps38
    go_wp2_with fail
    refine (KT.out _ (HB0.out _)).mono ?_
    rintro e w1 ⟨rfl, hb1⟩
    obtain ⟨hc1, hf1⟩ := bcell hb1
    have HB1 := Lib.hid hb1
    clear hb1
    go_wp2
    exact bodyPost_ret (v := .agg #[.int .i64 cd, .int .i64 0, .string ⟨#[]⟩, .string ⟨#[]⟩, .int .i64 0, .string ⟨#[]⟩, .int .i64 0, .slice none 0 0]) (by simp [results, Tryz.results38, go_sem, hc1]) rfl (prr_code _ _ _ (below8 (below_then (HB0.out _) HB1.out) (Nat.le_refl _) _ _ _ _ _ _ _ _))
  have KG := Lib.hid (fun W (hb : Below w.heap.size w W) => l8Guess_any a n c l W hc (hits.below hb))
  have HITS := Lib.hid (fun W (hb : Below w.heap.size w W) => hits.below hb)
  have hok := guessM_ok hc
  have hsm := hok.small
  have hgm := hok.2.2
  unfold GuessRes at KG
  rw [hc] at KT
  have hno := pof_no hc
  have hyes := pof_yes hc
  generalize guessM l = g at KG hsm hgm hno hyes hok
  generalize pofCode l = pc at hno hyes ⊢
  generalize pofVal l = pv at hno hyes ⊢
  obtain ⟨gk, gf, gt, gs, gu, gp, gm⟩ := g
  have HNO : Hid (¬ Tells l ⟨gk, gf, gt, gs, gu, gp, gm⟩ → pc = 1 ∧ pv = dPr) := Lib.hid hno
  have HYES : Hid (Tells l ⟨gk, gf, gt, gs, gu, gp, gm⟩ → pc = 0 ∧ pv = ⟨gk, gf, gt, gs, gu, gp, gm⟩) := Lib.hid hyes
  have hnil : ∀ W : World, ItsAt W none 0 0 gm := fun W => by rw [show gm = [] from hgm]; exact (OwnIts.nil W 0 0).its
  have KA := Lib.hid (fun b W (hP : PrAt W b ⟨gk, gf, gt, gs, gu, gp, gm⟩ none 0 0) => l8Asked_any b ⟨gk, gf, gt, gs, gu, gp, gm⟩ none 0 0 W hsm hP (hnil W))
  have KP := Lib.hid (fun b W (hP : PrAt W b ⟨gk, gf, gt, gs, gu, gp, gm⟩ none 0 0) => l8Project_any b ⟨gk, gf, gt, gs, gu, gp, gm⟩ none 0 0 W hP)
  have KR := Lib.hid (fun b W (hP : PrAt W b ⟨gk, gf, gt, gs, gu, gp, gm⟩ none 0 0) => l8Tree_any b 0 ⟨gk, gf, gt, gs, gu, gp, gm⟩ W (by have := hok.1.s1; dsimp only at this ⊢; omega) (by decide) ⟨hP.lt, hP.c0, by simpa using hP.c1, by simpa using hP.c3, by simpa using hP.c4, by simpa using hP.c5⟩)
  have KSP := Lib.hid (fun W (bb : Bool) (hbb : bb = true ↔ (⟨gk, gf, ByteArray.empty, sharedS gs, gu, prioS gp, []⟩ : Pr) = ⟨gk, gf, gt, gs, gu, gp, gm⟩) => specSamePresences_any ⟨gk, gf, ByteArray.empty, sharedS gs, gu, prioS gp, []⟩ ⟨gk, gf, gt, gs, gu, gp, gm⟩ none none 0 0 0 0 W bb hbb (OwnIts.nil W 0 0).its (hnil W))
  have HRD := Lib.hid (fun h0 h1 W B a n c A N C hg => pidf_reads hsm h0 h1 (w := W) (B := B) (a := a) (n := n) (c := c) (A := A) (N := N) (C := C) hg)
  have KST := Lib.hid (fun W a' n' c' (bb : Bool) (hbb : bb = true ↔ pidfL ⟨gk, gf, gt, gs, gu, gp, gm⟩ = l) (h1 : ItsAt W a' n' c' (pidfL ⟨gk, gf, gt, gs, gu, gp, gm⟩)) (h2 : ItsAt W a n c l) => specSameTrees_any a' a n' n c' c (pidfL ⟨gk, gf, gt, gs, gu, gp, gm⟩) l W bb hbb h1 h2)
  have HPE : Hid (proj ⟨gk, gf, gt, gs, gu, gp, gm⟩ = ⟨gk, gf, ByteArray.empty, sharedS gs, gu, prioS gp, []⟩) := Lib.hid rfl
  unfold GrewRes at KR
  have HGM : Hid (gm = []) := Lib.hid hgm
  (try dsimp only at KG)
  (try dsimp only at KA)
  (try dsimp only at KP)
  (try dsimp only at KSP)
  clear h hs hits hok hsm hgm hno hyes hc hnil
  go_enter Tryz.func38, Tryz.ntmps38
  go_wp2_with fail
  refine (KT.out _ (HB0.out _)).mono ?_
  rintro e w1 ⟨rfl, hb1⟩
  have HB1 := Lib.hid hb1
  clear hb1
  go_wp2_with fail
  refine (KG.out _ (below_then (HB0.out _) HB1.out)).mono ?_
  rintro e w2 ⟨rfl, hb2⟩
  have HA3 := Lib.hid (below_then (below_then HB1.out hb2) (below1 w2 (.cells #[.int .i64 gk, .string gf, .string gt, .int .i64 gs, .string gu, .int .i64 gp, .slice none 0 0] 26)))
  have HW3 := Lib.hid (below_then (HB0.out _) HA3.out)
  have hP := PrAt.new w2 26 ⟨gk, gf, gt, gs, gu, gp, gm⟩ none 0 0
  clear hb2 HB1 KT KG
  go_wp2_with fail
  generalize w2.alloc (.cells #[.int .i64 gk, .string gf, .string gt, .int .i64 gs, .string gu, .int .i64 gp, .slice none 0 0] 26) = w3 at hP HA3 HW3 ⊢
  have hS0 : Below w3.heap.size w3 w3.drew ∧ w3.drew.cell? ⟨w2.heap.size, 0, none⟩ = some (.int .i64 gk) ∧ w3.drew.cell? ⟨w2.heap.size, 1, none⟩ = some (.string gf) ∧ w3.drew.cell? ⟨w2.heap.size, 2, none⟩ = some (.string gt) ∧ w3.drew.cell? ⟨w2.heap.size, 3, none⟩ = some (.int .i64 gs) ∧ w3.drew.cell? ⟨w2.heap.size, 4, none⟩ = some (.string gu) ∧ w3.drew.cell? ⟨w2.heap.size, 5, none⟩ = some (.int .i64 gp) ∧ w3.drew.cell? ⟨w2.heap.size, 6, none⟩ = some (.slice none 0 0) := ⟨(Below.refl _ _).drew, hP.c0, hP.c1, hP.c2, hP.c3, hP.c4, hP.c5, hP.c6⟩
  clear hP
  by_cases h0 : projCode ⟨gk, gf, gt, gs, gu, gp, gm⟩ = 0
  case neg =>
    obtain ⟨rfl, rfl⟩ := HNO.out fun h => h0 h.1
    generalize projCode ⟨gk, gf, gt, gs, gu, gp, gm⟩ = cd at KA h0
    have q0 : (cd != 0) = true := by rw [bne_iff_ne]; exact h0
    -- by hand
    refine wp_region_noPanic ?_
    refine wp_region_held_drew (S := (fun W => Below w3.heap.size w3 W ∧ W.cell? ⟨w2.heap.size, 0, none⟩ = some (.int .i64 gk) ∧ W.cell? ⟨w2.heap.size, 1, none⟩ = some (.string gf) ∧ W.cell? ⟨w2.heap.size, 2, none⟩ = some (.string gt) ∧ W.cell? ⟨w2.heap.size, 3, none⟩ = some (.int .i64 gs) ∧ W.cell? ⟨w2.heap.size, 4, none⟩ = some (.string gu) ∧ W.cell? ⟨w2.heap.size, 5, none⟩ = some (.int .i64 gp) ∧ W.cell? ⟨w2.heap.size, 6, none⟩ = some (.slice none 0 0))) (by kernel_rfl) ?_ (fun hHeld => ?_)
    · exact hS0
    refine wpAnyH_ready (rs := [0]) (by kernel_rfl) (by simp) ?_
    refine AllReadyH.cons (o := _) rfl (fun K hK => ?_) AllReadyH.nil
    go_simp
    refine (KA.out _ _ (prat_of (And.right (by with_reducible assumption)))).mono ?_
    rintro e wa ⟨rfl, hbr⟩
    go_wp2_with fail
    refine hK.out _ _ ?_ (fun hHeld => ?_)
    · exact held7h hbr (by with_reducible assumption)
    clear hK K
    try simp only [Act.put, List.getElem_toArray, List.getElem_cons_zero, List.getElem_cons_succ, List.setIfInBounds_toArray, List.set_cons_zero, List.set_cons_succ]
    refine wpAnyH_take (i := 1) (oi := _) (v := ?_) rfl (by kernel_rfl) (by kernel_rfl) (by kernel_rfl) (fun _ _ _ h => h) (Or.inl ⟨by rfl, ?_⟩) (by with_reducible assumption) ?_
    rotate_left
    · intro w hSw
      (try dsimp only at hSw)
      go_simp
      all_goals (with_reducible rfl)
    try simp only [Act.put, List.getElem_toArray, List.getElem_cons_zero, List.getElem_cons_succ, List.setIfInBounds_toArray, List.set_cons_zero, List.set_cons_succ]
    refine wpAnyH_take (i := 2) (oi := _) (v := ?_) rfl (by kernel_rfl) (by kernel_rfl) (by kernel_rfl) (fun _ _ _ h => h) (Or.inl ⟨by rfl, ?_⟩) (by with_reducible assumption) ?_
    rotate_left
    · intro w hSw
      (try dsimp only at hSw)
      go_simp
      all_goals (with_reducible rfl)
    try simp only [Act.put, List.getElem_toArray, List.getElem_cons_zero, List.getElem_cons_succ, List.setIfInBounds_toArray, List.set_cons_zero, List.set_cons_succ]
    refine wpAnyH_take (i := 4) (oi := _) (v := undef) rfl (by kernel_rfl) (by kernel_rfl) (by kernel_rfl) (fun _ _ _ h => h) (Or.inr ⟨by rfl, rfl⟩) (by with_reducible assumption) ?_
    try simp only [Act.put, List.getElem_toArray, List.getElem_cons_zero, List.getElem_cons_succ, List.setIfInBounds_toArray, List.set_cons_zero, List.set_cons_succ]
    refine wpAnyH_ready (rs := [3]) (by kernel_rfl) (by simp) ?_
    refine AllReadyH.cons (o := _) rfl (fun K hK => ?_) AllReadyH.nil
    go_simp
    refine hK.out _ _ ?_ (fun hHeld => ?_)
    · with_reducible assumption
    clear hK K
    try simp only [Act.put, List.getElem_toArray, List.getElem_cons_zero, List.getElem_cons_succ, List.setIfInBounds_toArray, List.set_cons_zero, List.set_cons_succ]
    refine wpAnyH_ready (rs := [5]) (by kernel_rfl) (by simp) ?_
    refine AllReadyH.cons (o := _) rfl (fun K hK => ?_) AllReadyH.nil
    go_simp
    refine hK.out _ _ ?_ (fun hHeld => ?_)
    · with_reducible assumption
    clear hK K
    try simp only [Act.put, List.getElem_toArray, List.getElem_cons_zero, List.getElem_cons_succ, List.setIfInBounds_toArray, List.set_cons_zero, List.set_cons_succ]
    refine wpAnyH_take (i := 6) (oi := _) (v := undef) rfl (by kernel_rfl) (by kernel_rfl) (by kernel_rfl) (fun _ _ _ h => h) (Or.inr ⟨by rfl, rfl⟩) (by with_reducible assumption) ?_
    try simp only [Act.put, List.getElem_toArray, List.getElem_cons_zero, List.getElem_cons_succ, List.setIfInBounds_toArray, List.set_cons_zero, List.set_cons_succ]
    refine wpAnyH_take (i := 7) (oi := _) (v := ?_) rfl (by kernel_rfl) (by kernel_rfl) (by kernel_rfl) (fun _ _ _ h => h) (Or.inl ⟨by rfl, ?_⟩) (by with_reducible assumption) ?_
    rotate_left
    · intro w hSw
      (try dsimp only at hSw)
      go_simp
      all_goals (with_reducible rfl)
    try simp only [Act.put, List.getElem_toArray, List.getElem_cons_zero, List.getElem_cons_succ, List.setIfInBounds_toArray, List.set_cons_zero, List.set_cons_succ]
    refine wpAnyH_take (i := 8) (oi := _) (v := ?_) rfl (by kernel_rfl) (by kernel_rfl) (by kernel_rfl) (fun _ _ _ h => h) (Or.inl ⟨by rfl, ?_⟩) (by with_reducible assumption) ?_
    rotate_left
    · intro w hSw
      (try dsimp only at hSw)
      go_simp
      all_goals (with_reducible rfl)
    try simp only [Act.put, List.getElem_toArray, List.getElem_cons_zero, List.getElem_cons_succ, List.setIfInBounds_toArray, List.set_cons_zero, List.set_cons_succ]
    refine wpAnyH_take (i := 10) (oi := _) (v := undef) rfl (by kernel_rfl) (by kernel_rfl) (by kernel_rfl) (fun _ _ _ h => h) (Or.inr ⟨by rfl, rfl⟩) (by with_reducible assumption) ?_
    try simp only [Act.put, List.getElem_toArray, List.getElem_cons_zero, List.getElem_cons_succ, List.setIfInBounds_toArray, List.set_cons_zero, List.set_cons_succ]
    refine wpAnyH_ready (rs := [9]) (by kernel_rfl) (by simp) ?_
    refine AllReadyH.cons (o := _) rfl (fun K hK => ?_) AllReadyH.nil
    go_simp
    refine hK.out _ _ ?_ (fun hHeld => ?_)
    · with_reducible assumption
    clear hK K
    try simp only [Act.put, List.getElem_toArray, List.getElem_cons_zero, List.getElem_cons_succ, List.setIfInBounds_toArray, List.set_cons_zero, List.set_cons_succ]
    refine wpAnyH_ready (rs := [11]) (by kernel_rfl) (by simp) ?_
    refine AllReadyH.cons (o := _) rfl (fun K hK => ?_) AllReadyH.nil
    go_simp
    refine hK.out _ _ ?_ (fun hHeld => ?_)
    · with_reducible assumption
    clear hK K
    try simp only [Act.put, List.getElem_toArray, List.getElem_cons_zero, List.getElem_cons_succ, List.setIfInBounds_toArray, List.set_cons_zero, List.set_cons_succ]
    refine wpAnyH_take (i := 12) (oi := _) (v := undef) rfl (by kernel_rfl) (by kernel_rfl) (by kernel_rfl) (fun _ _ _ h => h) (Or.inr ⟨by rfl, rfl⟩) (by with_reducible assumption) ?_
    try simp only [Act.put, List.getElem_toArray, List.getElem_cons_zero, List.getElem_cons_succ, List.setIfInBounds_toArray, List.set_cons_zero, List.set_cons_succ]
    refine wpAnyH_take (i := 13) (oi := _) (v := ?_) rfl (by kernel_rfl) (by kernel_rfl) (by kernel_rfl) (fun _ _ _ h => h) (Or.inl ⟨by rfl, ?_⟩) (by with_reducible assumption) ?_
    rotate_left
    · intro w hSw
      (try dsimp only at hSw)
      go_simp
      all_goals (with_reducible rfl)
    try simp only [Act.put, List.getElem_toArray, List.getElem_cons_zero, List.getElem_cons_succ, List.setIfInBounds_toArray, List.set_cons_zero, List.set_cons_succ]
    refine wpAnyH_done (by kernel_rfl) ?_ _
    refine NoPanic.normal ?_
    have hB9 : Below w3.heap.size w3 (wa) := And.left (by assumption)
    have hb9 := HA3.out.trans (hB9.mono HA3.out.size)
    obtain ⟨hc1, hf1⟩ := bcell hb9
    have HB9 := Lib.hid (below_then (HB0.out _) hb9)
    clear hb9 hB9 hS0
    go_wp2
    exact bodyPost_ret (v := .agg #[.int .i64 1, .int .i64 0, .string ⟨#[]⟩, .string ⟨#[]⟩, .int .i64 0, .string ⟨#[]⟩, .int .i64 0, .slice none 0 0]) (by simp [results, Tryz.results38, go_sem, hc1]) rfl (prr_code _ _ _ (below8 HB9.out (Nat.le_refl _) _ _ _ _ _ _ _ _))
  by_cases h1 : proj ⟨gk, gf, gt, gs, gu, gp, gm⟩ = ⟨gk, gf, gt, gs, gu, gp, gm⟩
  case neg =>
    obtain ⟨rfl, rfl⟩ := HNO.out fun h => h1 h.2.1
    have KSB := Lib.hid (fun W => KSP.out W false (by rw [← HPE.out]; exact ⟨fun h => (by cases h), fun h => absurd h h1⟩))
    rw [h0] at KA
    -- by hand
    refine wp_region_noPanic ?_
    refine wp_region_held_drew (S := (fun W => Below w3.heap.size w3 W ∧ W.cell? ⟨w2.heap.size, 0, none⟩ = some (.int .i64 gk) ∧ W.cell? ⟨w2.heap.size, 1, none⟩ = some (.string gf) ∧ W.cell? ⟨w2.heap.size, 2, none⟩ = some (.string gt) ∧ W.cell? ⟨w2.heap.size, 3, none⟩ = some (.int .i64 gs) ∧ W.cell? ⟨w2.heap.size, 4, none⟩ = some (.string gu) ∧ W.cell? ⟨w2.heap.size, 5, none⟩ = some (.int .i64 gp) ∧ W.cell? ⟨w2.heap.size, 6, none⟩ = some (.slice none 0 0))) (by kernel_rfl) ?_ (fun hHeld => ?_)
    · exact hS0
    refine wpAnyH_ready (rs := [0]) (by kernel_rfl) (by simp) ?_
    refine AllReadyH.cons (o := _) rfl (fun K hK => ?_) AllReadyH.nil
    go_simp
    refine (KA.out _ _ (prat_of (And.right (by with_reducible assumption)))).mono ?_
    rintro e wa ⟨rfl, hbr⟩
    go_wp2_with fail
    refine hK.out _ _ ?_ (fun hHeld => ?_)
    · exact held7h hbr (by with_reducible assumption)
    clear hK K
    try simp only [Act.put, List.getElem_toArray, List.getElem_cons_zero, List.getElem_cons_succ, List.setIfInBounds_toArray, List.set_cons_zero, List.set_cons_succ]
    refine wpAnyH_take (i := 1) (oi := _) (v := ?_) rfl (by kernel_rfl) (by kernel_rfl) (by kernel_rfl) (fun _ _ _ h => h) (Or.inl ⟨by rfl, ?_⟩) (by with_reducible assumption) ?_
    rotate_left
    · intro w hSw
      (try dsimp only at hSw)
      go_simp
      all_goals (with_reducible rfl)
    try simp only [Act.put, List.getElem_toArray, List.getElem_cons_zero, List.getElem_cons_succ, List.setIfInBounds_toArray, List.set_cons_zero, List.set_cons_succ]
    refine wpAnyH_take (i := 2) (oi := _) (v := ?_) rfl (by kernel_rfl) (by kernel_rfl) (by kernel_rfl) (fun _ _ _ h => h) (Or.inl ⟨by rfl, ?_⟩) (by with_reducible assumption) ?_
    rotate_left
    · intro w hSw
      (try dsimp only at hSw)
      go_simp
      all_goals (with_reducible rfl)
    try simp only [Act.put, List.getElem_toArray, List.getElem_cons_zero, List.getElem_cons_succ, List.setIfInBounds_toArray, List.set_cons_zero, List.set_cons_succ]
    refine wpAnyH_take (i := 4) (oi := _) (v := ?_) rfl (by kernel_rfl) (by kernel_rfl) (by kernel_rfl) (fun _ _ _ h => h) (Or.inl ⟨by rfl, ?_⟩) (by with_reducible assumption) ?_
    rotate_left
    · intro w hSw
      (try dsimp only at hSw)
      go_simp
      all_goals (with_reducible rfl)
    try simp only [Act.put, List.getElem_toArray, List.getElem_cons_zero, List.getElem_cons_succ, List.setIfInBounds_toArray, List.set_cons_zero, List.set_cons_succ]
    refine wpAnyH_ready (rs := [3]) (by kernel_rfl) (by simp) ?_
    refine AllReadyH.cons (o := _) rfl (fun K hK => ?_) AllReadyH.nil
    go_simp
    refine (KP.out _ _ (prat_of (And.right (by with_reducible assumption)))).mono ?_
    rintro e wb ⟨rfl, hbr⟩
    go_wp2_with fail
    refine hK.out _ _ ?_ (fun hHeld => ?_)
    · exact held7h hbr (by with_reducible assumption)
    clear hK K
    try simp only [Act.put, List.getElem_toArray, List.getElem_cons_zero, List.getElem_cons_succ, List.setIfInBounds_toArray, List.set_cons_zero, List.set_cons_succ]
    refine wpAnyH_ready (rs := [5]) (by kernel_rfl) (by simp) ?_
    refine AllReadyH.cons (o := _) rfl (fun K hK => ?_) AllReadyH.nil
    go_simp
    refine (KSB.out _).mono ?_
    rintro e wc ⟨rfl, hbr⟩
    go_wp2_with fail
    refine hK.out _ _ ?_ (fun hHeld => ?_)
    · exact held7h hbr (by with_reducible assumption)
    clear hK K
    try simp only [Act.put, List.getElem_toArray, List.getElem_cons_zero, List.getElem_cons_succ, List.setIfInBounds_toArray, List.set_cons_zero, List.set_cons_succ]
    refine wpAnyH_take (i := 6) (oi := _) (v := ?_) rfl (by kernel_rfl) (by kernel_rfl) (by kernel_rfl) (fun _ _ _ h => h) (Or.inl ⟨by rfl, ?_⟩) (by with_reducible assumption) ?_
    rotate_left
    · intro w hSw
      (try dsimp only at hSw)
      go_simp
      all_goals (with_reducible rfl)
    try simp only [Act.put, List.getElem_toArray, List.getElem_cons_zero, List.getElem_cons_succ, List.setIfInBounds_toArray, List.set_cons_zero, List.set_cons_succ]
    refine wpAnyH_take (i := 7) (oi := _) (v := ?_) rfl (by kernel_rfl) (by kernel_rfl) (by kernel_rfl) (fun _ _ _ h => h) (Or.inl ⟨by rfl, ?_⟩) (by with_reducible assumption) ?_
    rotate_left
    · intro w hSw
      (try dsimp only at hSw)
      go_simp
      all_goals (with_reducible rfl)
    try simp only [Act.put, List.getElem_toArray, List.getElem_cons_zero, List.getElem_cons_succ, List.setIfInBounds_toArray, List.set_cons_zero, List.set_cons_succ]
    refine wpAnyH_take (i := 8) (oi := _) (v := ?_) rfl (by kernel_rfl) (by kernel_rfl) (by kernel_rfl) (fun _ _ _ h => h) (Or.inl ⟨by rfl, ?_⟩) (by with_reducible assumption) ?_
    rotate_left
    · intro w hSw
      (try dsimp only at hSw)
      go_simp
      all_goals (with_reducible rfl)
    try simp only [Act.put, List.getElem_toArray, List.getElem_cons_zero, List.getElem_cons_succ, List.setIfInBounds_toArray, List.set_cons_zero, List.set_cons_succ]
    refine wpAnyH_take (i := 10) (oi := _) (v := undef) rfl (by kernel_rfl) (by kernel_rfl) (by kernel_rfl) (fun _ _ _ h => h) (Or.inr ⟨by rfl, rfl⟩) (by with_reducible assumption) ?_
    try simp only [Act.put, List.getElem_toArray, List.getElem_cons_zero, List.getElem_cons_succ, List.setIfInBounds_toArray, List.set_cons_zero, List.set_cons_succ]
    refine wpAnyH_ready (rs := [9]) (by kernel_rfl) (by simp) ?_
    refine AllReadyH.cons (o := _) rfl (fun K hK => ?_) AllReadyH.nil
    go_simp
    refine hK.out _ _ ?_ (fun hHeld => ?_)
    · with_reducible assumption
    clear hK K
    try simp only [Act.put, List.getElem_toArray, List.getElem_cons_zero, List.getElem_cons_succ, List.setIfInBounds_toArray, List.set_cons_zero, List.set_cons_succ]
    refine wpAnyH_ready (rs := [11]) (by kernel_rfl) (by simp) ?_
    refine AllReadyH.cons (o := _) rfl (fun K hK => ?_) AllReadyH.nil
    go_simp
    refine hK.out _ _ ?_ (fun hHeld => ?_)
    · with_reducible assumption
    clear hK K
    try simp only [Act.put, List.getElem_toArray, List.getElem_cons_zero, List.getElem_cons_succ, List.setIfInBounds_toArray, List.set_cons_zero, List.set_cons_succ]
    refine wpAnyH_take (i := 12) (oi := _) (v := undef) rfl (by kernel_rfl) (by kernel_rfl) (by kernel_rfl) (fun _ _ _ h => h) (Or.inr ⟨by rfl, rfl⟩) (by with_reducible assumption) ?_
    try simp only [Act.put, List.getElem_toArray, List.getElem_cons_zero, List.getElem_cons_succ, List.setIfInBounds_toArray, List.set_cons_zero, List.set_cons_succ]
    refine wpAnyH_take (i := 13) (oi := _) (v := ?_) rfl (by kernel_rfl) (by kernel_rfl) (by kernel_rfl) (fun _ _ _ h => h) (Or.inl ⟨by rfl, ?_⟩) (by with_reducible assumption) ?_
    rotate_left
    · intro w hSw
      (try dsimp only at hSw)
      go_simp
      all_goals (with_reducible rfl)
    try simp only [Act.put, List.getElem_toArray, List.getElem_cons_zero, List.getElem_cons_succ, List.setIfInBounds_toArray, List.set_cons_zero, List.set_cons_succ]
    refine wpAnyH_done (by kernel_rfl) ?_ _
    refine NoPanic.normal ?_
    have hB9 : Below w3.heap.size w3 (wc) := And.left (by assumption)
    have hb9 := HA3.out.trans (hB9.mono HA3.out.size)
    obtain ⟨hc1, hf1⟩ := bcell hb9
    have HB9 := Lib.hid (below_then (HB0.out _) hb9)
    clear hb9 hB9 hS0
    go_wp2
    exact bodyPost_ret (v := .agg #[.int .i64 1, .int .i64 0, .string ⟨#[]⟩, .string ⟨#[]⟩, .int .i64 0, .string ⟨#[]⟩, .int .i64 0, .slice none 0 0]) (by simp [results, Tryz.results38, go_sem, hc1]) rfl (prr_code _ _ _ (below8 HB9.out (Nat.le_refl _) _ _ _ _ _ _ _ _))
  have KSB := Lib.hid (fun W => KSP.out W true (by rw [← HPE.out]; exact ⟨fun _ => h1, fun _ => rfl⟩))
  rw [h0] at KA
  by_cases h2 : pidfL ⟨gk, gf, gt, gs, gu, gp, gm⟩ = l
  case neg =>
    obtain ⟨rfl, rfl⟩ := HNO.out fun h => h2 h.2.2
    have KSU := Lib.hid (fun W a1 n1 c1 k1 k2 => KST.out W a1 n1 c1 false ⟨fun h => (by cases h), fun h => absurd h h2⟩ k1 k2)
    -- by hand
    refine wp_region_noPanic ?_
    refine wp_region_held_drew (S := (fun W => Below w3.heap.size w3 W ∧ W.cell? ⟨w2.heap.size, 0, none⟩ = some (.int .i64 gk) ∧ W.cell? ⟨w2.heap.size, 1, none⟩ = some (.string gf) ∧ W.cell? ⟨w2.heap.size, 2, none⟩ = some (.string gt) ∧ W.cell? ⟨w2.heap.size, 3, none⟩ = some (.int .i64 gs) ∧ W.cell? ⟨w2.heap.size, 4, none⟩ = some (.string gu) ∧ W.cell? ⟨w2.heap.size, 5, none⟩ = some (.int .i64 gp) ∧ W.cell? ⟨w2.heap.size, 6, none⟩ = some (.slice none 0 0))) (by kernel_rfl) ?_ (fun hHeld => ?_)
    · exact hS0
    refine wpAnyH_ready (rs := [0]) (by kernel_rfl) (by simp) ?_
    refine AllReadyH.cons (o := _) rfl (fun K hK => ?_) AllReadyH.nil
    go_simp
    refine (KA.out _ _ (prat_of (And.right (by with_reducible assumption)))).mono ?_
    rintro e wa ⟨rfl, hbr⟩
    go_wp2_with fail
    refine hK.out _ _ ?_ (fun hHeld => ?_)
    · exact held7h hbr (by with_reducible assumption)
    clear hK K
    try simp only [Act.put, List.getElem_toArray, List.getElem_cons_zero, List.getElem_cons_succ, List.setIfInBounds_toArray, List.set_cons_zero, List.set_cons_succ]
    refine wpAnyH_take (i := 1) (oi := _) (v := ?_) rfl (by kernel_rfl) (by kernel_rfl) (by kernel_rfl) (fun _ _ _ h => h) (Or.inl ⟨by rfl, ?_⟩) (by with_reducible assumption) ?_
    rotate_left
    · intro w hSw
      (try dsimp only at hSw)
      go_simp
      all_goals (with_reducible rfl)
    try simp only [Act.put, List.getElem_toArray, List.getElem_cons_zero, List.getElem_cons_succ, List.setIfInBounds_toArray, List.set_cons_zero, List.set_cons_succ]
    refine wpAnyH_take (i := 2) (oi := _) (v := ?_) rfl (by kernel_rfl) (by kernel_rfl) (by kernel_rfl) (fun _ _ _ h => h) (Or.inl ⟨by rfl, ?_⟩) (by with_reducible assumption) ?_
    rotate_left
    · intro w hSw
      (try dsimp only at hSw)
      go_simp
      all_goals (with_reducible rfl)
    try simp only [Act.put, List.getElem_toArray, List.getElem_cons_zero, List.getElem_cons_succ, List.setIfInBounds_toArray, List.set_cons_zero, List.set_cons_succ]
    refine wpAnyH_take (i := 4) (oi := _) (v := ?_) rfl (by kernel_rfl) (by kernel_rfl) (by kernel_rfl) (fun _ _ _ h => h) (Or.inl ⟨by rfl, ?_⟩) (by with_reducible assumption) ?_
    rotate_left
    · intro w hSw
      (try dsimp only at hSw)
      go_simp
      all_goals (with_reducible rfl)
    try simp only [Act.put, List.getElem_toArray, List.getElem_cons_zero, List.getElem_cons_succ, List.setIfInBounds_toArray, List.set_cons_zero, List.set_cons_succ]
    refine wpAnyH_ready (rs := [3]) (by kernel_rfl) (by simp) ?_
    refine AllReadyH.cons (o := _) rfl (fun K hK => ?_) AllReadyH.nil
    go_simp
    refine (KP.out _ _ (prat_of (And.right (by with_reducible assumption)))).mono ?_
    rintro e wb ⟨rfl, hbr⟩
    go_wp2_with fail
    refine hK.out _ _ ?_ (fun hHeld => ?_)
    · exact held7h hbr (by with_reducible assumption)
    clear hK K
    try simp only [Act.put, List.getElem_toArray, List.getElem_cons_zero, List.getElem_cons_succ, List.setIfInBounds_toArray, List.set_cons_zero, List.set_cons_succ]
    refine wpAnyH_ready (rs := [5]) (by kernel_rfl) (by simp) ?_
    refine AllReadyH.cons (o := _) rfl (fun K hK => ?_) AllReadyH.nil
    go_simp
    refine (KSB.out _).mono ?_
    rintro e wc ⟨rfl, hbr⟩
    go_wp2_with fail
    refine hK.out _ _ ?_ (fun hHeld => ?_)
    · exact held7h hbr (by with_reducible assumption)
    clear hK K
    try simp only [Act.put, List.getElem_toArray, List.getElem_cons_zero, List.getElem_cons_succ, List.setIfInBounds_toArray, List.set_cons_zero, List.set_cons_succ]
    refine wpAnyH_take (i := 6) (oi := _) (v := ?_) rfl (by kernel_rfl) (by kernel_rfl) (by kernel_rfl) (fun _ _ _ h => h) (Or.inl ⟨by rfl, ?_⟩) (by with_reducible assumption) ?_
    rotate_left
    · intro w hSw
      (try dsimp only at hSw)
      go_simp
      all_goals (with_reducible rfl)
    try simp only [Act.put, List.getElem_toArray, List.getElem_cons_zero, List.getElem_cons_succ, List.setIfInBounds_toArray, List.set_cons_zero, List.set_cons_succ]
    refine wpAnyH_take (i := 7) (oi := _) (v := ?_) rfl (by kernel_rfl) (by kernel_rfl) (by kernel_rfl) (fun _ _ _ h => h) (Or.inl ⟨by rfl, ?_⟩) (by with_reducible assumption) ?_
    rotate_left
    · intro w hSw
      (try dsimp only at hSw)
      go_simp
      all_goals (with_reducible rfl)
    try simp only [Act.put, List.getElem_toArray, List.getElem_cons_zero, List.getElem_cons_succ, List.setIfInBounds_toArray, List.set_cons_zero, List.set_cons_succ]
    refine wpAnyH_take (i := 8) (oi := _) (v := ?_) rfl (by kernel_rfl) (by kernel_rfl) (by kernel_rfl) (fun _ _ _ h => h) (Or.inl ⟨by rfl, ?_⟩) (by with_reducible assumption) ?_
    rotate_left
    · intro w hSw
      (try dsimp only at hSw)
      go_simp
      all_goals (with_reducible rfl)
    try simp only [Act.put, List.getElem_toArray, List.getElem_cons_zero, List.getElem_cons_succ, List.setIfInBounds_toArray, List.set_cons_zero, List.set_cons_succ]
    refine wpAnyH_take (i := 10) (oi := _) (v := ?_) rfl (by kernel_rfl) (by kernel_rfl) (by kernel_rfl) (fun _ _ _ h => h) (Or.inl ⟨by rfl, ?_⟩) (by with_reducible assumption) ?_
    rotate_left
    · intro w hSw
      (try dsimp only at hSw)
      go_simp
      all_goals (with_reducible rfl)
    try simp only [Act.put, List.getElem_toArray, List.getElem_cons_zero, List.getElem_cons_succ, List.setIfInBounds_toArray, List.set_cons_zero, List.set_cons_succ]
    refine wpAnyH_ready (rs := [9]) (by kernel_rfl) (by simp) ?_
    refine AllReadyH.cons (o := _) rfl (fun K hK => ?_) AllReadyH.nil
    go_simp
    refine (KR.out _ _ (prat_of (And.right (by with_reducible assumption)))).mono ?_
    rintro e wd ⟨ta, tn, tc, tA, tN, tC, rfl, hgt, hbr⟩
    go_wp2_with fail
    refine hK.out _ _ ?_ (fun hHeld => ?_)
    · exact held7h hbr (by with_reducible assumption)
    clear hK K
    try simp only [Act.put, List.getElem_toArray, List.getElem_cons_zero, List.getElem_cons_succ, List.setIfInBounds_toArray, List.set_cons_zero, List.set_cons_succ]
    refine wpAnyH_ready (rs := [11]) (by kernel_rfl) (by simp) ?_
    refine AllReadyH.cons (o := _) rfl (fun K hK => ?_) AllReadyH.nil
    go_simp
    refine (KSU.out _ ta tn tc (HRD.out h0 h1 _ _ _ _ _ _ _ _ hgt) (HITS.out _ (below_then HW3.out (And.left (by with_reducible assumption))))).mono ?_
    rintro e we ⟨rfl, nd, rfl⟩
    have hbr := below_drewN (Below.refl wd.heap.size wd) nd
    go_wp2_with fail
    refine hK.out _ _ ?_ (fun hHeld => ?_)
    · exact held7h hbr (by with_reducible assumption)
    clear hK K
    try simp only [Act.put, List.getElem_toArray, List.getElem_cons_zero, List.getElem_cons_succ, List.setIfInBounds_toArray, List.set_cons_zero, List.set_cons_succ]
    refine wpAnyH_take (i := 12) (oi := _) (v := ?_) rfl (by kernel_rfl) (by kernel_rfl) (by kernel_rfl) (fun _ _ _ h => h) (Or.inl ⟨by rfl, ?_⟩) (by with_reducible assumption) ?_
    rotate_left
    · intro w hSw
      (try dsimp only at hSw)
      go_simp
      all_goals (with_reducible rfl)
    try simp only [Act.put, List.getElem_toArray, List.getElem_cons_zero, List.getElem_cons_succ, List.setIfInBounds_toArray, List.set_cons_zero, List.set_cons_succ]
    refine wpAnyH_take (i := 13) (oi := _) (v := ?_) rfl (by kernel_rfl) (by kernel_rfl) (by kernel_rfl) (fun _ _ _ h => h) (Or.inl ⟨by rfl, ?_⟩) (by with_reducible assumption) ?_
    rotate_left
    · intro w hSw
      (try dsimp only at hSw)
      go_simp
      all_goals (with_reducible rfl)
    try simp only [Act.put, List.getElem_toArray, List.getElem_cons_zero, List.getElem_cons_succ, List.setIfInBounds_toArray, List.set_cons_zero, List.set_cons_succ]
    refine wpAnyH_done (by kernel_rfl) ?_ _
    refine NoPanic.normal ?_
    have hB9 : Below w3.heap.size w3 (wd.drewN nd) := And.left (by assumption)
    have hb9 := HA3.out.trans (hB9.mono HA3.out.size)
    obtain ⟨hc1, hf1⟩ := bcell hb9
    have HB9 := Lib.hid (below_then (HB0.out _) hb9)
    clear hb9 hB9 hS0
    go_wp2
    exact bodyPost_ret (v := .agg #[.int .i64 1, .int .i64 0, .string ⟨#[]⟩, .string ⟨#[]⟩, .int .i64 0, .string ⟨#[]⟩, .int .i64 0, .slice none 0 0]) (by simp [results, Tryz.results38, go_sem, hc1]) rfl (prr_code _ _ _ (below8 HB9.out (Nat.le_refl _) _ _ _ _ _ _ _ _))
  obtain ⟨rfl, rfl⟩ := HYES.out ⟨h0, h1, h2⟩
  have KSU := Lib.hid (fun W a1 n1 c1 k1 k2 => KST.out W a1 n1 c1 true ⟨fun _ => h2, fun _ => rfl⟩ k1 k2)
  -- by hand
  refine wp_region_noPanic ?_
  refine wp_region_held_drew (S := (fun W => Below w3.heap.size w3 W ∧ W.cell? ⟨w2.heap.size, 0, none⟩ = some (.int .i64 gk) ∧ W.cell? ⟨w2.heap.size, 1, none⟩ = some (.string gf) ∧ W.cell? ⟨w2.heap.size, 2, none⟩ = some (.string gt) ∧ W.cell? ⟨w2.heap.size, 3, none⟩ = some (.int .i64 gs) ∧ W.cell? ⟨w2.heap.size, 4, none⟩ = some (.string gu) ∧ W.cell? ⟨w2.heap.size, 5, none⟩ = some (.int .i64 gp) ∧ W.cell? ⟨w2.heap.size, 6, none⟩ = some (.slice none 0 0))) (by kernel_rfl) ?_ (fun hHeld => ?_)
  · exact hS0
  refine wpAnyH_ready (rs := [0]) (by kernel_rfl) (by simp) ?_
  refine AllReadyH.cons (o := _) rfl (fun K hK => ?_) AllReadyH.nil
  go_simp
  refine (KA.out _ _ (prat_of (And.right (by with_reducible assumption)))).mono ?_
  rintro e wa ⟨rfl, hbr⟩
  go_wp2_with fail
  refine hK.out _ _ ?_ (fun hHeld => ?_)
  · exact held7h hbr (by with_reducible assumption)
  clear hK K
  try simp only [Act.put, List.getElem_toArray, List.getElem_cons_zero, List.getElem_cons_succ, List.setIfInBounds_toArray, List.set_cons_zero, List.set_cons_succ]
  refine wpAnyH_take (i := 1) (oi := _) (v := ?_) rfl (by kernel_rfl) (by kernel_rfl) (by kernel_rfl) (fun _ _ _ h => h) (Or.inl ⟨by rfl, ?_⟩) (by with_reducible assumption) ?_
  rotate_left
  · intro w hSw
    (try dsimp only at hSw)
    go_simp
    all_goals (with_reducible rfl)
  try simp only [Act.put, List.getElem_toArray, List.getElem_cons_zero, List.getElem_cons_succ, List.setIfInBounds_toArray, List.set_cons_zero, List.set_cons_succ]
  refine wpAnyH_take (i := 2) (oi := _) (v := ?_) rfl (by kernel_rfl) (by kernel_rfl) (by kernel_rfl) (fun _ _ _ h => h) (Or.inl ⟨by rfl, ?_⟩) (by with_reducible assumption) ?_
  rotate_left
  · intro w hSw
    (try dsimp only at hSw)
    go_simp
    all_goals (with_reducible rfl)
  try simp only [Act.put, List.getElem_toArray, List.getElem_cons_zero, List.getElem_cons_succ, List.setIfInBounds_toArray, List.set_cons_zero, List.set_cons_succ]
  refine wpAnyH_take (i := 4) (oi := _) (v := ?_) rfl (by kernel_rfl) (by kernel_rfl) (by kernel_rfl) (fun _ _ _ h => h) (Or.inl ⟨by rfl, ?_⟩) (by with_reducible assumption) ?_
  rotate_left
  · intro w hSw
    (try dsimp only at hSw)
    go_simp
    all_goals (with_reducible rfl)
  try simp only [Act.put, List.getElem_toArray, List.getElem_cons_zero, List.getElem_cons_succ, List.setIfInBounds_toArray, List.set_cons_zero, List.set_cons_succ]
  refine wpAnyH_ready (rs := [3]) (by kernel_rfl) (by simp) ?_
  refine AllReadyH.cons (o := _) rfl (fun K hK => ?_) AllReadyH.nil
  go_simp
  refine (KP.out _ _ (prat_of (And.right (by with_reducible assumption)))).mono ?_
  rintro e wb ⟨rfl, hbr⟩
  go_wp2_with fail
  refine hK.out _ _ ?_ (fun hHeld => ?_)
  · exact held7h hbr (by with_reducible assumption)
  clear hK K
  try simp only [Act.put, List.getElem_toArray, List.getElem_cons_zero, List.getElem_cons_succ, List.setIfInBounds_toArray, List.set_cons_zero, List.set_cons_succ]
  refine wpAnyH_ready (rs := [5]) (by kernel_rfl) (by simp) ?_
  refine AllReadyH.cons (o := _) rfl (fun K hK => ?_) AllReadyH.nil
  go_simp
  refine (KSB.out _).mono ?_
  rintro e wc ⟨rfl, hbr⟩
  go_wp2_with fail
  refine hK.out _ _ ?_ (fun hHeld => ?_)
  · exact held7h hbr (by with_reducible assumption)
  clear hK K
  try simp only [Act.put, List.getElem_toArray, List.getElem_cons_zero, List.getElem_cons_succ, List.setIfInBounds_toArray, List.set_cons_zero, List.set_cons_succ]
  refine wpAnyH_take (i := 6) (oi := _) (v := ?_) rfl (by kernel_rfl) (by kernel_rfl) (by kernel_rfl) (fun _ _ _ h => h) (Or.inl ⟨by rfl, ?_⟩) (by with_reducible assumption) ?_
  rotate_left
  · intro w hSw
    (try dsimp only at hSw)
    go_simp
    all_goals (with_reducible rfl)
  try simp only [Act.put, List.getElem_toArray, List.getElem_cons_zero, List.getElem_cons_succ, List.setIfInBounds_toArray, List.set_cons_zero, List.set_cons_succ]
  refine wpAnyH_take (i := 7) (oi := _) (v := ?_) rfl (by kernel_rfl) (by kernel_rfl) (by kernel_rfl) (fun _ _ _ h => h) (Or.inl ⟨by rfl, ?_⟩) (by with_reducible assumption) ?_
  rotate_left
  · intro w hSw
    (try dsimp only at hSw)
    go_simp
    all_goals (with_reducible rfl)
  try simp only [Act.put, List.getElem_toArray, List.getElem_cons_zero, List.getElem_cons_succ, List.setIfInBounds_toArray, List.set_cons_zero, List.set_cons_succ]
  refine wpAnyH_take (i := 8) (oi := _) (v := ?_) rfl (by kernel_rfl) (by kernel_rfl) (by kernel_rfl) (fun _ _ _ h => h) (Or.inl ⟨by rfl, ?_⟩) (by with_reducible assumption) ?_
  rotate_left
  · intro w hSw
    (try dsimp only at hSw)
    go_simp
    all_goals (with_reducible rfl)
  try simp only [Act.put, List.getElem_toArray, List.getElem_cons_zero, List.getElem_cons_succ, List.setIfInBounds_toArray, List.set_cons_zero, List.set_cons_succ]
  refine wpAnyH_take (i := 10) (oi := _) (v := ?_) rfl (by kernel_rfl) (by kernel_rfl) (by kernel_rfl) (fun _ _ _ h => h) (Or.inl ⟨by rfl, ?_⟩) (by with_reducible assumption) ?_
  rotate_left
  · intro w hSw
    (try dsimp only at hSw)
    go_simp
    all_goals (with_reducible rfl)
  try simp only [Act.put, List.getElem_toArray, List.getElem_cons_zero, List.getElem_cons_succ, List.setIfInBounds_toArray, List.set_cons_zero, List.set_cons_succ]
  refine wpAnyH_ready (rs := [9]) (by kernel_rfl) (by simp) ?_
  refine AllReadyH.cons (o := _) rfl (fun K hK => ?_) AllReadyH.nil
  go_simp
  refine (KR.out _ _ (prat_of (And.right (by with_reducible assumption)))).mono ?_
  rintro e wd ⟨ta, tn, tc, tA, tN, tC, rfl, hgt, hbr⟩
  go_wp2_with fail
  refine hK.out _ _ ?_ (fun hHeld => ?_)
  · exact held7h hbr (by with_reducible assumption)
  clear hK K
  try simp only [Act.put, List.getElem_toArray, List.getElem_cons_zero, List.getElem_cons_succ, List.setIfInBounds_toArray, List.set_cons_zero, List.set_cons_succ]
  refine wpAnyH_ready (rs := [11]) (by kernel_rfl) (by simp) ?_
  refine AllReadyH.cons (o := _) rfl (fun K hK => ?_) AllReadyH.nil
  go_simp
  refine (KSU.out _ ta tn tc (HRD.out h0 h1 _ _ _ _ _ _ _ _ hgt) (HITS.out _ (below_then HW3.out (And.left (by with_reducible assumption))))).mono ?_
  rintro e we ⟨rfl, nd, rfl⟩
  have hbr := below_drewN (Below.refl wd.heap.size wd) nd
  go_wp2_with fail
  refine hK.out _ _ ?_ (fun hHeld => ?_)
  · exact held7h hbr (by with_reducible assumption)
  clear hK K
  try simp only [Act.put, List.getElem_toArray, List.getElem_cons_zero, List.getElem_cons_succ, List.setIfInBounds_toArray, List.set_cons_zero, List.set_cons_succ]
  refine wpAnyH_take (i := 12) (oi := _) (v := ?_) rfl (by kernel_rfl) (by kernel_rfl) (by kernel_rfl) (fun _ _ _ h => h) (Or.inl ⟨by rfl, ?_⟩) (by with_reducible assumption) ?_
  rotate_left
  · intro w hSw
    (try dsimp only at hSw)
    go_simp
    all_goals (with_reducible rfl)
  try simp only [Act.put, List.getElem_toArray, List.getElem_cons_zero, List.getElem_cons_succ, List.setIfInBounds_toArray, List.set_cons_zero, List.set_cons_succ]
  refine wpAnyH_take (i := 13) (oi := _) (v := ?_) rfl (by kernel_rfl) (by kernel_rfl) (by kernel_rfl) (fun _ _ _ h => h) (Or.inl ⟨by rfl, ?_⟩) (by with_reducible assumption) ?_
  rotate_left
  · intro w hSw
    (try dsimp only at hSw)
    go_simp
    all_goals (with_reducible rfl)
  try simp only [Act.put, List.getElem_toArray, List.getElem_cons_zero, List.getElem_cons_succ, List.setIfInBounds_toArray, List.set_cons_zero, List.set_cons_succ]
  refine wpAnyH_done (by kernel_rfl) ?_ _
  refine NoPanic.normal ?_
  have hS9 : Below w3.heap.size w3 (wd.drewN nd) ∧ (wd.drewN nd).cell? ⟨w2.heap.size, 0, none⟩ = some (.int .i64 gk) ∧ (wd.drewN nd).cell? ⟨w2.heap.size, 1, none⟩ = some (.string gf) ∧ (wd.drewN nd).cell? ⟨w2.heap.size, 2, none⟩ = some (.string gt) ∧ (wd.drewN nd).cell? ⟨w2.heap.size, 3, none⟩ = some (.int .i64 gs) ∧ (wd.drewN nd).cell? ⟨w2.heap.size, 4, none⟩ = some (.string gu) ∧ (wd.drewN nd).cell? ⟨w2.heap.size, 5, none⟩ = some (.int .i64 gp) ∧ (wd.drewN nd).cell? ⟨w2.heap.size, 6, none⟩ = some (.slice none 0 0) := by with_reducible assumption
  have hB9 := hS9.1
  obtain ⟨_, z0, z1, z2, z3, z4, z5, z6⟩ := hS9
  have hb9 := HA3.out.trans (hB9.mono HA3.out.size)
  obtain ⟨hc1, hf1⟩ := bcell hb9
  have HB9 := Lib.hid (below_then (HB0.out _) hb9)
  clear hb9 hB9 hS0
  go_wp2
  exact bodyPost_ret (v := .agg #[.int .i64 0, .int .i64 gk, .string gf, .string gt, .int .i64 gs, .string gu, .int .i64 gp, .slice none 0 0]) (by simp [results, Tryz.results38, go_sem, hc1]) rfl ⟨none, 0, 0, rfl, by rw [HGM.out]; exact OwnIts.nil _ _ _, below8 HB9.out (Nat.le_refl _) _ _ _ _ _ _ _ _⟩
end Go.Proofs.YtcaknhoaoodbfaaGreatDoor
