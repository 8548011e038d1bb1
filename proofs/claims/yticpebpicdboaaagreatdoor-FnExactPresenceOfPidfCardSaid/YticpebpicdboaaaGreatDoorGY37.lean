/- spec.TreeFault. -/
import Derived.Test.YticpebpicdboaaaGreatDoorGY6
import Derived.Test.YticpebpicdboaaaGreatDoorGY36
import Derived.Test.YticpebpicdboaaaGreatDoorGY34
import Derived.Test.YticpebpicdboaaaGreatDoorGY35
import Derived.Test.YticpebpicdboaaaGreatDoorGY28
import Derived.Test.YticpebpicdboaaaGreatDoorGY29
import Derived.Test.YticpebpicdboaaaGreatDoorGY19
import Derived.Test.YticpebpicdboaaaGreatDoorGY33
import Derived.Test.YticpebpicdboaaaGreatDoorGY12
namespace Go.Proofs.YticpebpicdboaaaGreatDoor
open Go.ChangeShapes Go.WideShapes Go.ChangeAt Go.RowKit
set_option linter.unusedVariables false

set_option maxRecDepth 100000 in
set_option maxHeartbeats 3200000 in
theorem specTreeFault_any (a : Option Addr) (n c : Nat) (l : List It) (w : World) (hs : SmallIts l) (h : ItsAt w a n c l) :
    Calls Tryz.prog 81 #[.slice a n c] w fun e w' => e = .returned (.int .i64 (treeCode l)) ∧ Below w.heap.size w w' := by
  have hm := h.max
  have HL := Lib.hid h.len
  have H := Lib.hid h
  have HS := Lib.hid hs.2
  clear hs
  by_cases hn : n < 1 ∨ 40 < n
  · have HC := Lib.hid (treeCode_many (l := l) (by have := h.len; omega))
    clear h
    generalize treeCode l = cd at HC
    rcases hn with hn | hn
    · obtain rfl : n = 0 := by omega
      go_enter Tryz.func81, Tryz.ntmps81
      go_wp2
      go_ret
      exact ⟨ret_i HC.out.symm, Below.refl _ _⟩
    · go_enter Tryz.func81, Tryz.ntmps81
      go_wp2
      go_ret
      exact ⟨ret_i HC.out.symm, Below.refl _ _⟩
  · have h1 : 1 ≤ n := by omega
    have h40 : n ≤ 40 := by omega
    have HC1 : Hid (∀ k, k < n → (∀ j, j < k → itemCode (l.getD j dIt) = 0) → itemCode (l.getD k dIt) ≠ 0 → treeCode l = itemCode (l.getD k dIt)) := Lib.hid fun k hk h0 h1 => treeCode_at (by have := h.len; omega) (by have := h.len; omega) h0 h1
    have HC2 : Hid ((∀ j, j < n → itemCode (l.getD j dIt) = 0) → treeCode l = if stands l = true then 0 else 1) := Lib.hid fun h0 => treeCode_end (by have := h.len; omega) (fun j hj => h0 j (by have := h.len; omega))
    obtain ⟨b, o, rfl, h4⟩ : ∃ b o, a = some ⟨b, o, none⟩ ∧ ∀ i, i < n → ItAt w b (o + i * 5) (l.getD i dIt) := by
      rcases h.row with e | h
      · omega
      · exact h
    have H4 := Lib.hid h4
    clear h hn h4
    generalize treeCode l = cd at HC1 HC2
    go_enter Tryz.func81, Tryz.ntmps81
    go_wp2
    go_loopw [15] (fun i wr => ∃ k : Nat, k ≤ n ∧ i = .int .i64 k ∧ (∀ j, j < k → itemCode (l.getD j dIt) = 0) ∧ Below w.heap.size w wr) (fun i _ => n - (intOf i).toNat)
    case atStart => exact ⟨0, Nat.zero_le _, rfl, fun j hj => by omega, Below.refl _ _⟩
    case round =>
      obtain ⟨k, hk, rfl, hz, hb⟩ := hrel
      have HK := Lib.hid hz
      clear hz
      by_cases hlt : k < n
      · have hi := (H4.out k hlt).below hb
        have d0 := hi.c0
        have d1 := hi.c1
        have d2 := hi.c2
        have d3 := hi.c3
        obtain ⟨a4, n4, c4, d4, hat⟩ := hi.c4
        have k1 : (k : Int) < (n : Int) := by omega
        have K := Lib.hid (fun W (hb' : Below wr.heap.size wr W) => specItemFault_any (l.getD k dIt) a4 n4 c4 W (HS.out k (by have := HL.out; omega)) (hat.below hb'))
        have HY : Hid (itemCode (l.getD k dIt) ≠ 0 → cd = itemCode (l.getD k dIt)) := Lib.hid (HC1.out k hlt HK.out)
        have HK2 : Hid (itemCode (l.getD k dIt) = 0 → ∀ j, j < k + 1 → itemCode (l.getD j dIt) = 0) := Lib.hid fun hx j hj => by
          rcases Nat.lt_or_ge j k with h | h
          · exact HK.out j h
          · obtain rfl : j = k := by omega
            exact hx
        have HB := Lib.hid hb
        clear hi hat hb
        generalize itemCode (l.getD k dIt) = ic at K HY HK2
        generalize l.getD k dIt = x at d0 d1 d2 d3 K
        obtain ⟨xd, xt, xs, xn, xa⟩ := x
        dsimp only at d0 d1 d2 d3 K
        by_cases h0 : ic = 0
        · subst h0
          have HK3 := Lib.hid (HK2.out rfl)
          clear HK2 HY
          go_wp2_with fail
          refine (K.out _ (Below.refl _ _)).mono ?_
          rintro e w2 ⟨rfl, hb2⟩
          go_wp2
          go_roundw
          case rel => exact ⟨k + 1, by omega, by go_num, HK3.out, below_then HB.out hb2⟩
          case measure => simp [intOf]; omega
        · have HY2 := Lib.hid (HY.out h0)
          have q1 : (ic != 0) = true := by simpa using h0
          have q2 : (ic == 0) = false := by simpa using h0
          clear HK2 HY h0
          go_wp2_with fail
          refine (K.out _ (Below.refl _ _)).mono ?_
          rintro e w2 ⟨rfl, hb2⟩
          go_wp2
          go_ret
          exact ⟨ret_i HY2.out.symm, below_then HB.out hb2⟩
      · obtain rfl : k = n := by omega
        have K := Lib.hid (specShape_any (some ⟨b, o, none⟩) k c l wr h1 h40 (fun i hi => item_depth (HK.out i hi)) (H.out.below hb))
        have HC3 := Lib.hid (HC2.out HK.out)
        generalize stands l = st at K HC3
        clear HC1 HC2
        cases st
        all_goals
          go_wp2_with fail
          refine K.out.mono ?_
          rintro e w2 ⟨rfl, nd, rfl⟩
          go_wp2
          go_ret
          exact ⟨ret_i HC3.out.symm, below_drewN hb nd⟩
end Go.Proofs.YticpebpicdboaaaGreatDoor

/- spec.PresenceOf. -/
namespace Go.Proofs.YticpebpicdboaaaGreatDoor
open Go.ChangeShapes Go.WideShapes Go.ChangeAt Go.RowKit
set_option linter.unusedVariables false

theorem below8 {B b : Nat} {w W : World} (h : Below B w W) (hb : B ≤ b) (x0 x1 x2 x3 x4 x5 x6 x7 : Value) :
    Below B w ((((((((W.setCell ⟨b, 0, none⟩ x0).setCell ⟨b, 1, none⟩ x1).setCell ⟨b, 2, none⟩ x2).setCell ⟨b, 3, none⟩ x3).setCell ⟨b, 4, none⟩ x4).setCell ⟨b, 5, none⟩ x5).setCell ⟨b, 6, none⟩ x6).setCell ⟨b, 7, none⟩ x7) :=
  (((((((h.setCell (by exact hb) _).setCell (by exact hb) _).setCell (by exact hb) _).setCell (by exact hb) _).setCell (by exact hb) _).setCell (by exact hb) _).setCell (by exact hb) _).setCell (by exact hb) _
theorem own8 {W : World} {b lo hi : Nat} {a : Option Addr} {n c : Nat} {l : List It} (h : OwnIts W lo hi a n c l) (hb : b < lo) (x0 x1 x2 x3 x4 x5 x6 x7 : Value) :
    OwnIts ((((((((W.setCell ⟨b, 0, none⟩ x0).setCell ⟨b, 1, none⟩ x1).setCell ⟨b, 2, none⟩ x2).setCell ⟨b, 3, none⟩ x3).setCell ⟨b, 4, none⟩ x4).setCell ⟨b, 5, none⟩ x5).setCell ⟨b, 6, none⟩ x6).setCell ⟨b, 7, none⟩ x7) lo hi a n c l := by
  have st : ∀ (W : World) (i : Nat) (v : Value), OwnIts W lo hi a n c l → OwnIts (W.setCell ⟨b, i, none⟩ v) lo hi a n c l := fun W i v h =>
    h.only (Only.set (P := fun i => i = b) W ⟨b, i, none⟩ v rfl) fun i hlo hhi he => by omega
  exact st _ _ _ (st _ _ _ (st _ _ _ (st _ _ _ (st _ _ _ (st _ _ _ (st _ _ _ (st _ _ _ h)))))))
/-- a code alone is handed back -/
theorem prr_code (w w' : World) (cd : Int) (hb : Below w.heap.size w w') : PrrOwn w cd dPr (.returned (.agg #[.int .i64 cd, .int .i64 0, .string ⟨#[]⟩, .string ⟨#[]⟩, .int .i64 0, .string ⟨#[]⟩, .int .i64 0, .slice none 0 0])) w' :=
  ⟨none, 0, 0, rfl, OwnIts.nil _ _ _, hb⟩
set_option maxRecDepth 100000 in
set_option maxHeartbeats 3200000 in
theorem specPresenceOf_any (lo hi : Nat) (a : Option Addr) (n c : Nat) (l : List It) (w : World) (hs : SmallIts l) (h : OwnIts w lo hi a n c l) :
    Calls Tryz.prog 21 #[.slice a n c] w (PrrOwn w (readCode l) (readVal l)) := by
  have KT := Lib.hid (fun W (hb : Below w.heap.size w W) => specTreeFault_any a n c l W hs (h.below hb).its)
  have KP := Lib.hid (fun W (hb : Below w.heap.size w W) (hc : treeCode l = 0) => l7Presence_any lo hi a n c l W hc (h.below hb))
  have KF := Lib.hid (fun p a n c W hs h => specPresenceFault_any p a n c W hs h)
  have HB0 := Lib.hid (fun o => below1 w o)
  unfold PresRes at KP
  by_cases hc : treeCode l = 0
  · have HC := Lib.hid hc
    cases hr : readP l with
    | none =>
      obtain ⟨e1, e2⟩ := read_none hc hr
      rw [e1, e2]
      rw [hc] at KT
      rw [hr] at KP
      clear e1 e2 hr h hs
      go_enter Tryz.func21, Tryz.ntmps21
      go_wp2_with fail
      refine (KT.out _ (HB0.out _)).mono ?_
      rintro e w1 ⟨rfl, hb1⟩
      have B1 := Lib.hid hb1
      clear hb1
      go_wp2_with fail
      refine (KP.out _ (below_then (HB0.out _) B1.out) HC.out).mono ?_
      rintro e w2 ⟨bb, q, a2, n2, c2, rfl, hg, hb2, ht, hf⟩
      have hbb : bb = false := by
        cases bb
        · rfl
        · cases ht rfl
      subst hbb
      obtain ⟨qk, qf, qt, qs, qu, qp, qm⟩ := q
      have hb3 := below_then (below_then B1.out hb2) (below1 w2 (.cells #[.int .i64 qk, .string qf, .string qt, .int .i64 qs, .string qu, .int .i64 qp, .slice a2 n2 c2] 26))
      obtain ⟨hc1, hf1⟩ := bcell hb3
      have HB3 := Lib.hid hb3
      clear ht hf hg hb2 hb3
      go_wp2
      exact bodyPost_ret (v := .agg #[.int .i64 1, .int .i64 0, .string ⟨#[]⟩, .string ⟨#[]⟩, .int .i64 0, .string ⟨#[]⟩, .int .i64 0, .slice none 0 0]) (by simp [results, Tryz.results21, go_sem, hc1]) rfl (prr_code _ _ _ (below8 (below_then (HB0.out _) HB3.out) (Nat.le_refl _) _ _ _ _ _ _ _ _))
    | some p =>
      obtain ⟨e1, e2⟩ := read_some hc hr
      obtain ⟨hsp, hfew, hbit⟩ := read_small hc hs hr
      rw [e1, e2]
      rw [hc] at KT
      rw [hr] at KP
      have HSP := Lib.hid hsp
      have HBI := Lib.hid hbit
      clear e1 e2 hr h hs hsp hbit
      obtain ⟨pk, pf, pt, ps, pu, pp, pm⟩ := p
      have KF := Lib.hid (fun a n c W h => KF.out ⟨pk, pf, pt, ps, pu, pp, pm⟩ a n c W HSP.out h)
      generalize presCode ⟨pk, pf, pt, ps, pu, pp, pm⟩ = cd at KF ⊢
      dsimp only at KF hfew HBI
      obtain ⟨rv, hrv⟩ : ∃ rv, (if cd ≠ 0 then dPr else (⟨pk, pf, pt, ps, pu, pp, pm⟩ : Pr)) = rv := ⟨_, rfl⟩
      rw [hrv]
      have HRV := Lib.hid hrv
      clear hrv
      go_enter Tryz.func21, Tryz.ntmps21
      go_wp2_with fail
      refine (KT.out _ (HB0.out _)).mono ?_
      rintro e w1 ⟨rfl, hb1⟩
      have B1 := Lib.hid hb1
      have hz1 := hb1.size
      simp at hz1
      clear hb1
      go_wp2_with fail
      refine (KP.out _ (below_then (HB0.out _) B1.out) HC.out).mono ?_
      rintro e w2 ⟨bb, q, a2, n2, c2, rfl, ⟨A2, N2, C2, hg, _, _⟩, hb2, ht, hf⟩
      have hbb : bb = true := by
        cases bb
        · cases hf rfl
        · rfl
      subst hbb
      have hq := ht rfl
      simp only [Option.some.injEq] at hq
      subst hq
      have hlen := hg.len
      dsimp only at hlen hg
      have own2 := hg.own (by omega) (fun i hi => by
        have h1 := HBI.out i (by omega)
        have h2 := h1.2.1
        exact ⟨⟨by omega, by omega⟩, by omega, by omega, by omega⟩)
      have hz2 := hb2.size
      have hb3 := below_then (below_then B1.out hb2) (below1 w2 (.cells #[.int .i64 pk, .string pf, .string pt, .int .i64 ps, .string pu, .int .i64 pp, .slice a2 n2 c2] 26))
      have OW := Lib.hid (own2.below (below1 w2 (.cells #[.int .i64 pk, .string pf, .string pt, .int .i64 ps, .string pu, .int .i64 pp, .slice a2 n2 c2] 26)))
      have HB3 := Lib.hid hb3
      clear ht hf hg hb2 hb3 own2
      go_wp2_with fail
      refine (KF.out _ _ _ _ OW.out.its).mono ?_
      rintro e w3 ⟨rfl, hb4⟩
      have hb5 := below_then HB3.out hb4
      obtain ⟨hc1, hf1⟩ := bcell hb5
      have hp0 : ∀ o, w3.cell? ⟨w2.heap.size, o, none⟩ = (w2.alloc (.cells #[.int .i64 pk, .string pf, .string pt, .int .i64 ps, .string pu, .int .i64 pp, .slice a2 n2 c2] 26)).cell? ⟨w2.heap.size, o, none⟩ := fun o => (bcell hb4).1 _ _ (by simp)
      have hz4 := hb4.size
      simp at hz4
      have HB5 := Lib.hid hb5
      have OW3 := Lib.hid (OW.out.below hb4)
      clear hb4 hb5
      by_cases h0 : cd = 0
      · subst h0
        go_wp2
        refine bodyPost_ret (v := .agg #[.int .i64 0, .int .i64 pk, .string pf, .string pt, .int .i64 ps, .string pu, .int .i64 pp, .slice a2 n2 c2]) (by simp [results, Tryz.results21, go_sem, hc1]) rfl ?_
        have hrv := HRV.out
        rw [if_neg (by simp)] at hrv
        subst hrv
        exact ⟨_, _, _, rfl, (own8 OW3.out (by omega) _ _ _ _ _ _ _ _).mono (by omega) (by simp; omega), below8 (below_then (HB0.out _) HB5.out) (Nat.le_refl _) _ _ _ _ _ _ _ _⟩
      · have h0b : (cd != 0) = true := by rw [bne_iff_ne]; exact h0
        go_wp2
        refine bodyPost_ret (v := .agg #[.int .i64 cd, .int .i64 0, .string ⟨#[]⟩, .string ⟨#[]⟩, .int .i64 0, .string ⟨#[]⟩, .int .i64 0, .slice none 0 0]) (by simp [results, Tryz.results21, go_sem, hc1]) rfl ?_
        have hrv := HRV.out
        rw [if_pos h0] at hrv
        subst hrv
        exact prr_code _ _ _ (below8 (below_then (HB0.out _) HB5.out) (Nat.le_refl _) _ _ _ _ _ _ _ _)
  · obtain ⟨e1, e2⟩ := read_bad hc
    rw [e1, e2]
    generalize treeCode l = cd at hc KT ⊢
    have h0b : (cd != 0) = true := by rw [bne_iff_ne]; exact hc
    clear e1 e2 h hs KP
    go_enter Tryz.func21, Tryz.ntmps21
    go_wp2_with fail
    refine (KT.out _ (HB0.out _)).mono ?_
    rintro e w1 ⟨rfl, hb1⟩
    obtain ⟨hc1, hf1⟩ := bcell hb1
    have HB1 := Lib.hid hb1
    clear hb1
    go_wp2
    exact bodyPost_ret (v := .agg #[.int .i64 cd, .int .i64 0, .string ⟨#[]⟩, .string ⟨#[]⟩, .int .i64 0, .string ⟨#[]⟩, .int .i64 0, .slice none 0 0]) (by simp [results, Tryz.results21, go_sem, hc1]) rfl (prr_code _ _ _ (below8 (below_then (HB0.out _) HB1.out) (Nat.le_refl _) _ _ _ _ _ _ _ _))
end Go.Proofs.YticpebpicdboaaaGreatDoor

/- spec.PresenceOfPidf. -/
namespace Go.Proofs.YticpebpicdboaaaGreatDoor
open Go.ChangeShapes Go.WideShapes Go.ChangeAt Go.RowKit
set_option linter.unusedVariables false
set_option linter.unusedSimpArgs false

theorem pof_bad {l : List It} (h : treeCode l ≠ 0) : pofCode l = treeCode l ∧ pofVal l = dPr := by
  unfold pofCode pofVal
  rw [if_pos h, if_pos h]
  exact ⟨rfl, rfl⟩
theorem pof_no {l : List It} (h : treeCode l = 0) (h2 : ¬ Tells l (guessM l)) : pofCode l = 1 ∧ pofVal l = dPr := by
  unfold pofCode pofVal
  have hn : ¬ (treeCode l ≠ 0) := by simp [h]
  rw [if_neg hn, if_neg h2, if_neg hn, if_neg h2]
  exact ⟨rfl, rfl⟩
theorem pof_yes {l : List It} (h : treeCode l = 0) (h2 : Tells l (guessM l)) : pofCode l = 0 ∧ pofVal l = guessM l := by
  unfold pofCode pofVal
  have hn : ¬ (treeCode l ≠ 0) := by simp [h]
  rw [if_neg hn, if_pos h2, if_neg hn, if_pos h2]
  exact ⟨rfl, rfl⟩
/-- the tree that was made reads as what a pidf is -/
theorem pidf_reads {g : Pr} (hs : SmallPr g) (h0 : projCode g = 0) (h1 : proj g = g) {w : World} {B : Nat} {a : Option Addr} {n c : Nat} {A : Nat → Option Addr} {N C : Nat → Nat} (h : GrowIts w B (.slice a n c) n (pidfL g) A N C) : ItsAt w a n c (pidfL g) := by
  have e : pidfT g = pidfL g := by unfold pidfT; rw [if_pos h0, h1]
  have hl := h.len
  have h11 := pidf_len g
  rw [e] at h11
  refine (h.own (by omega) (fun i hi => ?_)).its
  have := pidf_wide g hs h0 i (by rw [e]; omega)
  rw [e] at this
  exact this
/-- seven cells that are kept -/
def Cells7 (W : World) (b : Nat) (x0 x1 x2 x3 x4 x5 x6 : Value) : Prop := W.cell? ⟨b, 0, none⟩ = some x0 ∧ W.cell? ⟨b, 1, none⟩ = some x1 ∧ W.cell? ⟨b, 2, none⟩ = some x2 ∧ W.cell? ⟨b, 3, none⟩ = some x3 ∧ W.cell? ⟨b, 4, none⟩ = some x4 ∧ W.cell? ⟨b, 5, none⟩ = some x5 ∧ W.cell? ⟨b, 6, none⟩ = some x6
theorem held7h {w0 W W' : World} {b : Nat} {x0 x1 x2 x3 x4 x5 x6 : Value} (hb : Below W.heap.size W W')
    (h : Below w0.heap.size w0 W ∧ W.cell? ⟨b, 0, none⟩ = some x0 ∧ W.cell? ⟨b, 1, none⟩ = some x1 ∧ W.cell? ⟨b, 2, none⟩ = some x2 ∧ W.cell? ⟨b, 3, none⟩ = some x3 ∧ W.cell? ⟨b, 4, none⟩ = some x4 ∧ W.cell? ⟨b, 5, none⟩ = some x5 ∧ W.cell? ⟨b, 6, none⟩ = some x6) :
    Below w0.heap.size w0 W' ∧ W'.cell? ⟨b, 0, none⟩ = some x0 ∧ W'.cell? ⟨b, 1, none⟩ = some x1 ∧ W'.cell? ⟨b, 2, none⟩ = some x2 ∧ W'.cell? ⟨b, 3, none⟩ = some x3 ∧ W'.cell? ⟨b, 4, none⟩ = some x4 ∧ W'.cell? ⟨b, 5, none⟩ = some x5 ∧ W'.cell? ⟨b, 6, none⟩ = some x6 := by
  obtain ⟨h0, h1, h2, h3, h4, h5, h6, h7⟩ := h
  have k : ∀ o v, W.cell? ⟨b, o, none⟩ = some v → W'.cell? ⟨b, o, none⟩ = some v := fun o v h => (hb.cell (World.block_lt_of_cell? W _ h)).trans h
  exact ⟨below_then h0 hb, k _ _ h1, k _ _ h2, k _ _ h3, k _ _ h4, k _ _ h5, k _ _ h6, k _ _ h7⟩

theorem prat_of {W : World} {b : Nat} {gk gs gp : Int} {gf gt gu : ByteArray} {gm : List It}
    (h : W.cell? ⟨b, 0, none⟩ = some (.int .i64 gk) ∧ W.cell? ⟨b, 1, none⟩ = some (.string gf) ∧ W.cell? ⟨b, 2, none⟩ = some (.string gt) ∧ W.cell? ⟨b, 3, none⟩ = some (.int .i64 gs) ∧ W.cell? ⟨b, 4, none⟩ = some (.string gu) ∧ W.cell? ⟨b, 5, none⟩ = some (.int .i64 gp) ∧ W.cell? ⟨b, 6, none⟩ = some (.slice none 0 0)) : PrAt W b ⟨gk, gf, gt, gs, gu, gp, gm⟩ none 0 0 :=
  ⟨World.block_lt_of_cell? W _ h.1, h.1, h.2.1, h.2.2.1, h.2.2.2.1, h.2.2.2.2.1, h.2.2.2.2.2.1, h.2.2.2.2.2.2⟩

set_option maxRecDepth 100000 in
set_option maxHeartbeats 6400000 in
theorem specPresenceOfPidf_any (lo hi : Nat) (a : Option Addr) (n c : Nat) (l : List It) (w : World) (hs : SmallIts l) (h : OwnIts w lo hi a n c l) :
    Calls Tryz.prog 41 #[.slice a n c] w (PrrOwn w (pofCode l) (pofVal l)) := by
  have hits := h.its
  have KT := Lib.hid (fun W (hb : Below w.heap.size w W) => specTreeFault_any a n c l W hs (hits.below hb))
  have HB0 := Lib.hid (fun o => below1 w o)
  by_cases hc : treeCode l = 0
  case neg =>
    obtain ⟨e1, e2⟩ := pof_bad hc
    rw [e1, e2]
    generalize treeCode l = cd at hc KT ⊢
    have h0b : (cd != 0) = true := by rw [bne_iff_ne]; exact hc
    clear e1 e2 h hs hits
    go_enter Tryz.func41, Tryz.ntmps41
    go_wp2_with fail
    refine (KT.out _ (HB0.out _)).mono ?_
    rintro e w1 ⟨rfl, hb1⟩
    obtain ⟨hc1, hf1⟩ := bcell hb1
    have HB1 := Lib.hid hb1
    clear hb1
    go_wp2
    exact bodyPost_ret (v := .agg #[.int .i64 cd, .int .i64 0, .string ⟨#[]⟩, .string ⟨#[]⟩, .int .i64 0, .string ⟨#[]⟩, .int .i64 0, .slice none 0 0]) (by simp [results, Tryz.results41, go_sem, hc1]) rfl (prr_code _ _ _ (below8 (below_then (HB0.out _) HB1.out) (Nat.le_refl _) _ _ _ _ _ _ _ _))
  have KG := Lib.hid (fun W (hb : Below w.heap.size w W) => l8Guess_any a n c l W hc (hits.below hb))
  have HITS := Lib.hid (fun W (hb : Below w.heap.size w W) => hits.below hb)
  have hok := guessM_ok hc
  have hsm := hok.small
  have hgm := hok.2.2
  unfold GuessRes at KG
  rw [hc] at KT
  have hno := pof_no hc
  have hyes := pof_yes hc
  generalize guessM l = g at KG hsm hgm hno hyes hok
  generalize pofCode l = pc at hno hyes ⊢
  generalize pofVal l = pv at hno hyes ⊢
  obtain ⟨gk, gf, gt, gs, gu, gp, gm⟩ := g
  have HNO : Hid (¬ Tells l ⟨gk, gf, gt, gs, gu, gp, gm⟩ → pc = 1 ∧ pv = dPr) := Lib.hid hno
  have HYES : Hid (Tells l ⟨gk, gf, gt, gs, gu, gp, gm⟩ → pc = 0 ∧ pv = ⟨gk, gf, gt, gs, gu, gp, gm⟩) := Lib.hid hyes
  have hnil : ∀ W : World, ItsAt W none 0 0 gm := fun W => by rw [show gm = [] from hgm]; exact (OwnIts.nil W 0 0).its
  have KA := Lib.hid (fun b W (hP : PrAt W b ⟨gk, gf, gt, gs, gu, gp, gm⟩ none 0 0) => l8Asked_any b ⟨gk, gf, gt, gs, gu, gp, gm⟩ none 0 0 W hsm hP (hnil W))
  have KP := Lib.hid (fun b W (hP : PrAt W b ⟨gk, gf, gt, gs, gu, gp, gm⟩ none 0 0) => l8Project_any b ⟨gk, gf, gt, gs, gu, gp, gm⟩ none 0 0 W hP)
  have KR := Lib.hid (fun b W (hP : PrAt W b ⟨gk, gf, gt, gs, gu, gp, gm⟩ none 0 0) => l8Tree_any b 0 ⟨gk, gf, gt, gs, gu, gp, gm⟩ W (by have := hok.1.s1; dsimp only at this ⊢; omega) (by decide) ⟨hP.lt, hP.c0, by simpa using hP.c1, by simpa using hP.c3, by simpa using hP.c4, by simpa using hP.c5⟩)
  have KSP := Lib.hid (fun W (bb : Bool) (hbb : bb = true ↔ (⟨gk, gf, ByteArray.empty, sharedS gs, gu, prioS gp, []⟩ : Pr) = ⟨gk, gf, gt, gs, gu, gp, gm⟩) => specSamePresences_any ⟨gk, gf, ByteArray.empty, sharedS gs, gu, prioS gp, []⟩ ⟨gk, gf, gt, gs, gu, gp, gm⟩ none none 0 0 0 0 W bb hbb (OwnIts.nil W 0 0).its (hnil W))
  have HRD := Lib.hid (fun h0 h1 W B a n c A N C hg => pidf_reads hsm h0 h1 (w := W) (B := B) (a := a) (n := n) (c := c) (A := A) (N := N) (C := C) hg)
  have KST := Lib.hid (fun W a' n' c' (bb : Bool) (hbb : bb = true ↔ pidfL ⟨gk, gf, gt, gs, gu, gp, gm⟩ = l) (h1 : ItsAt W a' n' c' (pidfL ⟨gk, gf, gt, gs, gu, gp, gm⟩)) (h2 : ItsAt W a n c l) => specSameTrees_any a' a n' n c' c (pidfL ⟨gk, gf, gt, gs, gu, gp, gm⟩) l W bb hbb h1 h2)
  have HPE : Hid (proj ⟨gk, gf, gt, gs, gu, gp, gm⟩ = ⟨gk, gf, ByteArray.empty, sharedS gs, gu, prioS gp, []⟩) := Lib.hid rfl
  unfold GrewRes at KR
  have HGM : Hid (gm = []) := Lib.hid hgm
  (try dsimp only at KG)
  (try dsimp only at KA)
  (try dsimp only at KP)
  (try dsimp only at KSP)
  clear h hs hits hok hsm hgm hno hyes hc hnil
  go_enter Tryz.func41, Tryz.ntmps41
  go_wp2_with fail
  refine (KT.out _ (HB0.out _)).mono ?_
  rintro e w1 ⟨rfl, hb1⟩
  have HB1 := Lib.hid hb1
  clear hb1
  go_wp2_with fail
  refine (KG.out _ (below_then (HB0.out _) HB1.out)).mono ?_
  rintro e w2 ⟨rfl, hb2⟩
  have HA3 := Lib.hid (below_then (below_then HB1.out hb2) (below1 w2 (.cells #[.int .i64 gk, .string gf, .string gt, .int .i64 gs, .string gu, .int .i64 gp, .slice none 0 0] 26)))
  have HW3 := Lib.hid (below_then (HB0.out _) HA3.out)
  have hP := PrAt.new w2 26 ⟨gk, gf, gt, gs, gu, gp, gm⟩ none 0 0
  clear hb2 HB1 KT KG
  go_wp2_with fail
  generalize w2.alloc (.cells #[.int .i64 gk, .string gf, .string gt, .int .i64 gs, .string gu, .int .i64 gp, .slice none 0 0] 26) = w3 at hP HA3 HW3 ⊢
  have hS0 : Below w3.heap.size w3 w3.drew ∧ w3.drew.cell? ⟨w2.heap.size, 0, none⟩ = some (.int .i64 gk) ∧ w3.drew.cell? ⟨w2.heap.size, 1, none⟩ = some (.string gf) ∧ w3.drew.cell? ⟨w2.heap.size, 2, none⟩ = some (.string gt) ∧ w3.drew.cell? ⟨w2.heap.size, 3, none⟩ = some (.int .i64 gs) ∧ w3.drew.cell? ⟨w2.heap.size, 4, none⟩ = some (.string gu) ∧ w3.drew.cell? ⟨w2.heap.size, 5, none⟩ = some (.int .i64 gp) ∧ w3.drew.cell? ⟨w2.heap.size, 6, none⟩ = some (.slice none 0 0) := ⟨(Below.refl _ _).drew, hP.c0, hP.c1, hP.c2, hP.c3, hP.c4, hP.c5, hP.c6⟩
  clear hP
  by_cases h0 : projCode ⟨gk, gf, gt, gs, gu, gp, gm⟩ = 0
  case neg =>
    obtain ⟨rfl, rfl⟩ := HNO.out fun h => h0 h.1
    generalize projCode ⟨gk, gf, gt, gs, gu, gp, gm⟩ = cd at KA h0
    have q0 : (cd != 0) = true := by rw [bne_iff_ne]; exact h0
    -- by hand
    refine wp_region_noPanic ?_
    refine wp_region_held_drew (S := (fun W => Below w3.heap.size w3 W ∧ W.cell? ⟨w2.heap.size, 0, none⟩ = some (.int .i64 gk) ∧ W.cell? ⟨w2.heap.size, 1, none⟩ = some (.string gf) ∧ W.cell? ⟨w2.heap.size, 2, none⟩ = some (.string gt) ∧ W.cell? ⟨w2.heap.size, 3, none⟩ = some (.int .i64 gs) ∧ W.cell? ⟨w2.heap.size, 4, none⟩ = some (.string gu) ∧ W.cell? ⟨w2.heap.size, 5, none⟩ = some (.int .i64 gp) ∧ W.cell? ⟨w2.heap.size, 6, none⟩ = some (.slice none 0 0))) (by kernel_rfl) ?_ (fun hHeld => ?_)
    · exact hS0
    refine wpAnyH_ready (rs := [0]) (by kernel_rfl) (by simp) ?_
    refine AllReadyH.cons (o := _) rfl (fun K hK => ?_) AllReadyH.nil
    go_simp
    refine (KA.out _ _ (prat_of (And.right (by with_reducible assumption)))).mono ?_
    rintro e wa ⟨rfl, hbr⟩
    go_wp2_with fail
    refine hK.out _ _ ?_ (fun hHeld => ?_)
    · exact held7h hbr (by with_reducible assumption)
    clear hK K
    try simp only [Act.put, List.getElem_toArray, List.getElem_cons_zero, List.getElem_cons_succ, List.setIfInBounds_toArray, List.set_cons_zero, List.set_cons_succ]
    refine wpAnyH_take (i := 1) (oi := _) (v := ?_) rfl (by kernel_rfl) (by kernel_rfl) (by kernel_rfl) (fun _ _ _ h => h) (Or.inl ⟨by rfl, ?_⟩) (by with_reducible assumption) ?_
    rotate_left
    · intro w hSw
      (try dsimp only at hSw)
      go_simp
      all_goals (with_reducible rfl)
    try simp only [Act.put, List.getElem_toArray, List.getElem_cons_zero, List.getElem_cons_succ, List.setIfInBounds_toArray, List.set_cons_zero, List.set_cons_succ]
    refine wpAnyH_take (i := 2) (oi := _) (v := ?_) rfl (by kernel_rfl) (by kernel_rfl) (by kernel_rfl) (fun _ _ _ h => h) (Or.inl ⟨by rfl, ?_⟩) (by with_reducible assumption) ?_
    rotate_left
    · intro w hSw
      (try dsimp only at hSw)
      go_simp
      all_goals (with_reducible rfl)
    try simp only [Act.put, List.getElem_toArray, List.getElem_cons_zero, List.getElem_cons_succ, List.setIfInBounds_toArray, List.set_cons_zero, List.set_cons_succ]
    refine wpAnyH_take (i := 4) (oi := _) (v := undef) rfl (by kernel_rfl) (by kernel_rfl) (by kernel_rfl) (fun _ _ _ h => h) (Or.inr ⟨by rfl, rfl⟩) (by with_reducible assumption) ?_
    try simp only [Act.put, List.getElem_toArray, List.getElem_cons_zero, List.getElem_cons_succ, List.setIfInBounds_toArray, List.set_cons_zero, List.set_cons_succ]
    refine wpAnyH_ready (rs := [3]) (by kernel_rfl) (by simp) ?_
    refine AllReadyH.cons (o := _) rfl (fun K hK => ?_) AllReadyH.nil
    go_simp
    refine hK.out _ _ ?_ (fun hHeld => ?_)
    · with_reducible assumption
    clear hK K
    try simp only [Act.put, List.getElem_toArray, List.getElem_cons_zero, List.getElem_cons_succ, List.setIfInBounds_toArray, List.set_cons_zero, List.set_cons_succ]
    refine wpAnyH_ready (rs := [5]) (by kernel_rfl) (by simp) ?_
    refine AllReadyH.cons (o := _) rfl (fun K hK => ?_) AllReadyH.nil
    go_simp
    refine hK.out _ _ ?_ (fun hHeld => ?_)
    · with_reducible assumption
    clear hK K
    try simp only [Act.put, List.getElem_toArray, List.getElem_cons_zero, List.getElem_cons_succ, List.setIfInBounds_toArray, List.set_cons_zero, List.set_cons_succ]
    refine wpAnyH_take (i := 6) (oi := _) (v := undef) rfl (by kernel_rfl) (by kernel_rfl) (by kernel_rfl) (fun _ _ _ h => h) (Or.inr ⟨by rfl, rfl⟩) (by with_reducible assumption) ?_
    try simp only [Act.put, List.getElem_toArray, List.getElem_cons_zero, List.getElem_cons_succ, List.setIfInBounds_toArray, List.set_cons_zero, List.set_cons_succ]
    refine wpAnyH_take (i := 7) (oi := _) (v := ?_) rfl (by kernel_rfl) (by kernel_rfl) (by kernel_rfl) (fun _ _ _ h => h) (Or.inl ⟨by rfl, ?_⟩) (by with_reducible assumption) ?_
    rotate_left
    · intro w hSw
      (try dsimp only at hSw)
      go_simp
      all_goals (with_reducible rfl)
    try simp only [Act.put, List.getElem_toArray, List.getElem_cons_zero, List.getElem_cons_succ, List.setIfInBounds_toArray, List.set_cons_zero, List.set_cons_succ]
    refine wpAnyH_take (i := 8) (oi := _) (v := ?_) rfl (by kernel_rfl) (by kernel_rfl) (by kernel_rfl) (fun _ _ _ h => h) (Or.inl ⟨by rfl, ?_⟩) (by with_reducible assumption) ?_
    rotate_left
    · intro w hSw
      (try dsimp only at hSw)
      go_simp
      all_goals (with_reducible rfl)
    try simp only [Act.put, List.getElem_toArray, List.getElem_cons_zero, List.getElem_cons_succ, List.setIfInBounds_toArray, List.set_cons_zero, List.set_cons_succ]
    refine wpAnyH_take (i := 10) (oi := _) (v := undef) rfl (by kernel_rfl) (by kernel_rfl) (by kernel_rfl) (fun _ _ _ h => h) (Or.inr ⟨by rfl, rfl⟩) (by with_reducible assumption) ?_
    try simp only [Act.put, List.getElem_toArray, List.getElem_cons_zero, List.getElem_cons_succ, List.setIfInBounds_toArray, List.set_cons_zero, List.set_cons_succ]
    refine wpAnyH_ready (rs := [9]) (by kernel_rfl) (by simp) ?_
    refine AllReadyH.cons (o := _) rfl (fun K hK => ?_) AllReadyH.nil
    go_simp
    refine hK.out _ _ ?_ (fun hHeld => ?_)
    · with_reducible assumption
    clear hK K
    try simp only [Act.put, List.getElem_toArray, List.getElem_cons_zero, List.getElem_cons_succ, List.setIfInBounds_toArray, List.set_cons_zero, List.set_cons_succ]
    refine wpAnyH_ready (rs := [11]) (by kernel_rfl) (by simp) ?_
    refine AllReadyH.cons (o := _) rfl (fun K hK => ?_) AllReadyH.nil
    go_simp
    refine hK.out _ _ ?_ (fun hHeld => ?_)
    · with_reducible assumption
    clear hK K
    try simp only [Act.put, List.getElem_toArray, List.getElem_cons_zero, List.getElem_cons_succ, List.setIfInBounds_toArray, List.set_cons_zero, List.set_cons_succ]
    refine wpAnyH_take (i := 12) (oi := _) (v := undef) rfl (by kernel_rfl) (by kernel_rfl) (by kernel_rfl) (fun _ _ _ h => h) (Or.inr ⟨by rfl, rfl⟩) (by with_reducible assumption) ?_
    try simp only [Act.put, List.getElem_toArray, List.getElem_cons_zero, List.getElem_cons_succ, List.setIfInBounds_toArray, List.set_cons_zero, List.set_cons_succ]
    refine wpAnyH_take (i := 13) (oi := _) (v := ?_) rfl (by kernel_rfl) (by kernel_rfl) (by kernel_rfl) (fun _ _ _ h => h) (Or.inl ⟨by rfl, ?_⟩) (by with_reducible assumption) ?_
    rotate_left
    · intro w hSw
      (try dsimp only at hSw)
      go_simp
      all_goals (with_reducible rfl)
    try simp only [Act.put, List.getElem_toArray, List.getElem_cons_zero, List.getElem_cons_succ, List.setIfInBounds_toArray, List.set_cons_zero, List.set_cons_succ]
    refine wpAnyH_done (by kernel_rfl) ?_ _
    refine NoPanic.normal ?_
    have hB9 : Below w3.heap.size w3 (wa) := And.left (by assumption)
    have hb9 := HA3.out.trans (hB9.mono HA3.out.size)
    obtain ⟨hc1, hf1⟩ := bcell hb9
    have HB9 := Lib.hid (below_then (HB0.out _) hb9)
    clear hb9 hB9 hS0
    go_wp2
    exact bodyPost_ret (v := .agg #[.int .i64 1, .int .i64 0, .string ⟨#[]⟩, .string ⟨#[]⟩, .int .i64 0, .string ⟨#[]⟩, .int .i64 0, .slice none 0 0]) (by simp [results, Tryz.results41, go_sem, hc1]) rfl (prr_code _ _ _ (below8 HB9.out (Nat.le_refl _) _ _ _ _ _ _ _ _))
  by_cases h1 : proj ⟨gk, gf, gt, gs, gu, gp, gm⟩ = ⟨gk, gf, gt, gs, gu, gp, gm⟩
  case neg =>
    obtain ⟨rfl, rfl⟩ := HNO.out fun h => h1 h.2.1
    have KSB := Lib.hid (fun W => KSP.out W false (by rw [← HPE.out]; exact ⟨fun h => (by cases h), fun h => absurd h h1⟩))
    rw [h0] at KA
    -- by hand
    refine wp_region_noPanic ?_
    refine wp_region_held_drew (S := (fun W => Below w3.heap.size w3 W ∧ W.cell? ⟨w2.heap.size, 0, none⟩ = some (.int .i64 gk) ∧ W.cell? ⟨w2.heap.size, 1, none⟩ = some (.string gf) ∧ W.cell? ⟨w2.heap.size, 2, none⟩ = some (.string gt) ∧ W.cell? ⟨w2.heap.size, 3, none⟩ = some (.int .i64 gs) ∧ W.cell? ⟨w2.heap.size, 4, none⟩ = some (.string gu) ∧ W.cell? ⟨w2.heap.size, 5, none⟩ = some (.int .i64 gp) ∧ W.cell? ⟨w2.heap.size, 6, none⟩ = some (.slice none 0 0))) (by kernel_rfl) ?_ (fun hHeld => ?_)
    · exact hS0
    refine wpAnyH_ready (rs := [0]) (by kernel_rfl) (by simp) ?_
    refine AllReadyH.cons (o := _) rfl (fun K hK => ?_) AllReadyH.nil
    go_simp
    refine (KA.out _ _ (prat_of (And.right (by with_reducible assumption)))).mono ?_
    rintro e wa ⟨rfl, hbr⟩
    go_wp2_with fail
    refine hK.out _ _ ?_ (fun hHeld => ?_)
    · exact held7h hbr (by with_reducible assumption)
    clear hK K
    try simp only [Act.put, List.getElem_toArray, List.getElem_cons_zero, List.getElem_cons_succ, List.setIfInBounds_toArray, List.set_cons_zero, List.set_cons_succ]
    refine wpAnyH_take (i := 1) (oi := _) (v := ?_) rfl (by kernel_rfl) (by kernel_rfl) (by kernel_rfl) (fun _ _ _ h => h) (Or.inl ⟨by rfl, ?_⟩) (by with_reducible assumption) ?_
    rotate_left
    · intro w hSw
      (try dsimp only at hSw)
      go_simp
      all_goals (with_reducible rfl)
    try simp only [Act.put, List.getElem_toArray, List.getElem_cons_zero, List.getElem_cons_succ, List.setIfInBounds_toArray, List.set_cons_zero, List.set_cons_succ]
    refine wpAnyH_take (i := 2) (oi := _) (v := ?_) rfl (by kernel_rfl) (by kernel_rfl) (by kernel_rfl) (fun _ _ _ h => h) (Or.inl ⟨by rfl, ?_⟩) (by with_reducible assumption) ?_
    rotate_left
    · intro w hSw
      (try dsimp only at hSw)
      go_simp
      all_goals (with_reducible rfl)
    try simp only [Act.put, List.getElem_toArray, List.getElem_cons_zero, List.getElem_cons_succ, List.setIfInBounds_toArray, List.set_cons_zero, List.set_cons_succ]
    refine wpAnyH_take (i := 4) (oi := _) (v := ?_) rfl (by kernel_rfl) (by kernel_rfl) (by kernel_rfl) (fun _ _ _ h => h) (Or.inl ⟨by rfl, ?_⟩) (by with_reducible assumption) ?_
    rotate_left
    · intro w hSw
      (try dsimp only at hSw)
      go_simp
      all_goals (with_reducible rfl)
    try simp only [Act.put, List.getElem_toArray, List.getElem_cons_zero, List.getElem_cons_succ, List.setIfInBounds_toArray, List.set_cons_zero, List.set_cons_succ]
    refine wpAnyH_ready (rs := [3]) (by kernel_rfl) (by simp) ?_
    refine AllReadyH.cons (o := _) rfl (fun K hK => ?_) AllReadyH.nil
    go_simp
    refine (KP.out _ _ (prat_of (And.right (by with_reducible assumption)))).mono ?_
    rintro e wb ⟨rfl, hbr⟩
    go_wp2_with fail
    refine hK.out _ _ ?_ (fun hHeld => ?_)
    · exact held7h hbr (by with_reducible assumption)
    clear hK K
    try simp only [Act.put, List.getElem_toArray, List.getElem_cons_zero, List.getElem_cons_succ, List.setIfInBounds_toArray, List.set_cons_zero, List.set_cons_succ]
    refine wpAnyH_ready (rs := [5]) (by kernel_rfl) (by simp) ?_
    refine AllReadyH.cons (o := _) rfl (fun K hK => ?_) AllReadyH.nil
    go_simp
    refine (KSB.out _).mono ?_
    rintro e wc ⟨rfl, hbr⟩
    go_wp2_with fail
    refine hK.out _ _ ?_ (fun hHeld => ?_)
    · exact held7h hbr (by with_reducible assumption)
    clear hK K
    try simp only [Act.put, List.getElem_toArray, List.getElem_cons_zero, List.getElem_cons_succ, List.setIfInBounds_toArray, List.set_cons_zero, List.set_cons_succ]
    refine wpAnyH_take (i := 6) (oi := _) (v := ?_) rfl (by kernel_rfl) (by kernel_rfl) (by kernel_rfl) (fun _ _ _ h => h) (Or.inl ⟨by rfl, ?_⟩) (by with_reducible assumption) ?_
    rotate_left
    · intro w hSw
      (try dsimp only at hSw)
      go_simp
      all_goals (with_reducible rfl)
    try simp only [Act.put, List.getElem_toArray, List.getElem_cons_zero, List.getElem_cons_succ, List.setIfInBounds_toArray, List.set_cons_zero, List.set_cons_succ]
    refine wpAnyH_take (i := 7) (oi := _) (v := ?_) rfl (by kernel_rfl) (by kernel_rfl) (by kernel_rfl) (fun _ _ _ h => h) (Or.inl ⟨by rfl, ?_⟩) (by with_reducible assumption) ?_
    rotate_left
    · intro w hSw
      (try dsimp only at hSw)
      go_simp
      all_goals (with_reducible rfl)
    try simp only [Act.put, List.getElem_toArray, List.getElem_cons_zero, List.getElem_cons_succ, List.setIfInBounds_toArray, List.set_cons_zero, List.set_cons_succ]
    refine wpAnyH_take (i := 8) (oi := _) (v := ?_) rfl (by kernel_rfl) (by kernel_rfl) (by kernel_rfl) (fun _ _ _ h => h) (Or.inl ⟨by rfl, ?_⟩) (by with_reducible assumption) ?_
    rotate_left
    · intro w hSw
      (try dsimp only at hSw)
      go_simp
      all_goals (with_reducible rfl)
    try simp only [Act.put, List.getElem_toArray, List.getElem_cons_zero, List.getElem_cons_succ, List.setIfInBounds_toArray, List.set_cons_zero, List.set_cons_succ]
    refine wpAnyH_take (i := 10) (oi := _) (v := undef) rfl (by kernel_rfl) (by kernel_rfl) (by kernel_rfl) (fun _ _ _ h => h) (Or.inr ⟨by rfl, rfl⟩) (by with_reducible assumption) ?_
    try simp only [Act.put, List.getElem_toArray, List.getElem_cons_zero, List.getElem_cons_succ, List.setIfInBounds_toArray, List.set_cons_zero, List.set_cons_succ]
    refine wpAnyH_ready (rs := [9]) (by kernel_rfl) (by simp) ?_
    refine AllReadyH.cons (o := _) rfl (fun K hK => ?_) AllReadyH.nil
    go_simp
    refine hK.out _ _ ?_ (fun hHeld => ?_)
    · with_reducible assumption
    clear hK K
    try simp only [Act.put, List.getElem_toArray, List.getElem_cons_zero, List.getElem_cons_succ, List.setIfInBounds_toArray, List.set_cons_zero, List.set_cons_succ]
    refine wpAnyH_ready (rs := [11]) (by kernel_rfl) (by simp) ?_
    refine AllReadyH.cons (o := _) rfl (fun K hK => ?_) AllReadyH.nil
    go_simp
    refine hK.out _ _ ?_ (fun hHeld => ?_)
    · with_reducible assumption
    clear hK K
    try simp only [Act.put, List.getElem_toArray, List.getElem_cons_zero, List.getElem_cons_succ, List.setIfInBounds_toArray, List.set_cons_zero, List.set_cons_succ]
    refine wpAnyH_take (i := 12) (oi := _) (v := undef) rfl (by kernel_rfl) (by kernel_rfl) (by kernel_rfl) (fun _ _ _ h => h) (Or.inr ⟨by rfl, rfl⟩) (by with_reducible assumption) ?_
    try simp only [Act.put, List.getElem_toArray, List.getElem_cons_zero, List.getElem_cons_succ, List.setIfInBounds_toArray, List.set_cons_zero, List.set_cons_succ]
    refine wpAnyH_take (i := 13) (oi := _) (v := ?_) rfl (by kernel_rfl) (by kernel_rfl) (by kernel_rfl) (fun _ _ _ h => h) (Or.inl ⟨by rfl, ?_⟩) (by with_reducible assumption) ?_
    rotate_left
    · intro w hSw
      (try dsimp only at hSw)
      go_simp
      all_goals (with_reducible rfl)
    try simp only [Act.put, List.getElem_toArray, List.getElem_cons_zero, List.getElem_cons_succ, List.setIfInBounds_toArray, List.set_cons_zero, List.set_cons_succ]
    refine wpAnyH_done (by kernel_rfl) ?_ _
    refine NoPanic.normal ?_
    have hB9 : Below w3.heap.size w3 (wc) := And.left (by assumption)
    have hb9 := HA3.out.trans (hB9.mono HA3.out.size)
    obtain ⟨hc1, hf1⟩ := bcell hb9
    have HB9 := Lib.hid (below_then (HB0.out _) hb9)
    clear hb9 hB9 hS0
    go_wp2
    exact bodyPost_ret (v := .agg #[.int .i64 1, .int .i64 0, .string ⟨#[]⟩, .string ⟨#[]⟩, .int .i64 0, .string ⟨#[]⟩, .int .i64 0, .slice none 0 0]) (by simp [results, Tryz.results41, go_sem, hc1]) rfl (prr_code _ _ _ (below8 HB9.out (Nat.le_refl _) _ _ _ _ _ _ _ _))
  have KSB := Lib.hid (fun W => KSP.out W true (by rw [← HPE.out]; exact ⟨fun _ => h1, fun _ => rfl⟩))
  rw [h0] at KA
  by_cases h2 : pidfL ⟨gk, gf, gt, gs, gu, gp, gm⟩ = l
  case neg =>
    obtain ⟨rfl, rfl⟩ := HNO.out fun h => h2 h.2.2
    have KSU := Lib.hid (fun W a1 n1 c1 k1 k2 => KST.out W a1 n1 c1 false ⟨fun h => (by cases h), fun h => absurd h h2⟩ k1 k2)
    -- by hand
    refine wp_region_noPanic ?_
    refine wp_region_held_drew (S := (fun W => Below w3.heap.size w3 W ∧ W.cell? ⟨w2.heap.size, 0, none⟩ = some (.int .i64 gk) ∧ W.cell? ⟨w2.heap.size, 1, none⟩ = some (.string gf) ∧ W.cell? ⟨w2.heap.size, 2, none⟩ = some (.string gt) ∧ W.cell? ⟨w2.heap.size, 3, none⟩ = some (.int .i64 gs) ∧ W.cell? ⟨w2.heap.size, 4, none⟩ = some (.string gu) ∧ W.cell? ⟨w2.heap.size, 5, none⟩ = some (.int .i64 gp) ∧ W.cell? ⟨w2.heap.size, 6, none⟩ = some (.slice none 0 0))) (by kernel_rfl) ?_ (fun hHeld => ?_)
    · exact hS0
    refine wpAnyH_ready (rs := [0]) (by kernel_rfl) (by simp) ?_
    refine AllReadyH.cons (o := _) rfl (fun K hK => ?_) AllReadyH.nil
    go_simp
    refine (KA.out _ _ (prat_of (And.right (by with_reducible assumption)))).mono ?_
    rintro e wa ⟨rfl, hbr⟩
    go_wp2_with fail
    refine hK.out _ _ ?_ (fun hHeld => ?_)
    · exact held7h hbr (by with_reducible assumption)
    clear hK K
    try simp only [Act.put, List.getElem_toArray, List.getElem_cons_zero, List.getElem_cons_succ, List.setIfInBounds_toArray, List.set_cons_zero, List.set_cons_succ]
    refine wpAnyH_take (i := 1) (oi := _) (v := ?_) rfl (by kernel_rfl) (by kernel_rfl) (by kernel_rfl) (fun _ _ _ h => h) (Or.inl ⟨by rfl, ?_⟩) (by with_reducible assumption) ?_
    rotate_left
    · intro w hSw
      (try dsimp only at hSw)
      go_simp
      all_goals (with_reducible rfl)
    try simp only [Act.put, List.getElem_toArray, List.getElem_cons_zero, List.getElem_cons_succ, List.setIfInBounds_toArray, List.set_cons_zero, List.set_cons_succ]
    refine wpAnyH_take (i := 2) (oi := _) (v := ?_) rfl (by kernel_rfl) (by kernel_rfl) (by kernel_rfl) (fun _ _ _ h => h) (Or.inl ⟨by rfl, ?_⟩) (by with_reducible assumption) ?_
    rotate_left
    · intro w hSw
      (try dsimp only at hSw)
      go_simp
      all_goals (with_reducible rfl)
    try simp only [Act.put, List.getElem_toArray, List.getElem_cons_zero, List.getElem_cons_succ, List.setIfInBounds_toArray, List.set_cons_zero, List.set_cons_succ]
    refine wpAnyH_take (i := 4) (oi := _) (v := ?_) rfl (by kernel_rfl) (by kernel_rfl) (by kernel_rfl) (fun _ _ _ h => h) (Or.inl ⟨by rfl, ?_⟩) (by with_reducible assumption) ?_
    rotate_left
    · intro w hSw
      (try dsimp only at hSw)
      go_simp
      all_goals (with_reducible rfl)
    try simp only [Act.put, List.getElem_toArray, List.getElem_cons_zero, List.getElem_cons_succ, List.setIfInBounds_toArray, List.set_cons_zero, List.set_cons_succ]
    refine wpAnyH_ready (rs := [3]) (by kernel_rfl) (by simp) ?_
    refine AllReadyH.cons (o := _) rfl (fun K hK => ?_) AllReadyH.nil
    go_simp
    refine (KP.out _ _ (prat_of (And.right (by with_reducible assumption)))).mono ?_
    rintro e wb ⟨rfl, hbr⟩
    go_wp2_with fail
    refine hK.out _ _ ?_ (fun hHeld => ?_)
    · exact held7h hbr (by with_reducible assumption)
    clear hK K
    try simp only [Act.put, List.getElem_toArray, List.getElem_cons_zero, List.getElem_cons_succ, List.setIfInBounds_toArray, List.set_cons_zero, List.set_cons_succ]
    refine wpAnyH_ready (rs := [5]) (by kernel_rfl) (by simp) ?_
    refine AllReadyH.cons (o := _) rfl (fun K hK => ?_) AllReadyH.nil
    go_simp
    refine (KSB.out _).mono ?_
    rintro e wc ⟨rfl, hbr⟩
    go_wp2_with fail
    refine hK.out _ _ ?_ (fun hHeld => ?_)
    · exact held7h hbr (by with_reducible assumption)
    clear hK K
    try simp only [Act.put, List.getElem_toArray, List.getElem_cons_zero, List.getElem_cons_succ, List.setIfInBounds_toArray, List.set_cons_zero, List.set_cons_succ]
    refine wpAnyH_take (i := 6) (oi := _) (v := ?_) rfl (by kernel_rfl) (by kernel_rfl) (by kernel_rfl) (fun _ _ _ h => h) (Or.inl ⟨by rfl, ?_⟩) (by with_reducible assumption) ?_
    rotate_left
    · intro w hSw
      (try dsimp only at hSw)
      go_simp
      all_goals (with_reducible rfl)
    try simp only [Act.put, List.getElem_toArray, List.getElem_cons_zero, List.getElem_cons_succ, List.setIfInBounds_toArray, List.set_cons_zero, List.set_cons_succ]
    refine wpAnyH_take (i := 7) (oi := _) (v := ?_) rfl (by kernel_rfl) (by kernel_rfl) (by kernel_rfl) (fun _ _ _ h => h) (Or.inl ⟨by rfl, ?_⟩) (by with_reducible assumption) ?_
    rotate_left
    · intro w hSw
      (try dsimp only at hSw)
      go_simp
      all_goals (with_reducible rfl)
    try simp only [Act.put, List.getElem_toArray, List.getElem_cons_zero, List.getElem_cons_succ, List.setIfInBounds_toArray, List.set_cons_zero, List.set_cons_succ]
    refine wpAnyH_take (i := 8) (oi := _) (v := ?_) rfl (by kernel_rfl) (by kernel_rfl) (by kernel_rfl) (fun _ _ _ h => h) (Or.inl ⟨by rfl, ?_⟩) (by with_reducible assumption) ?_
    rotate_left
    · intro w hSw
      (try dsimp only at hSw)
      go_simp
      all_goals (with_reducible rfl)
    try simp only [Act.put, List.getElem_toArray, List.getElem_cons_zero, List.getElem_cons_succ, List.setIfInBounds_toArray, List.set_cons_zero, List.set_cons_succ]
    refine wpAnyH_take (i := 10) (oi := _) (v := ?_) rfl (by kernel_rfl) (by kernel_rfl) (by kernel_rfl) (fun _ _ _ h => h) (Or.inl ⟨by rfl, ?_⟩) (by with_reducible assumption) ?_
    rotate_left
    · intro w hSw
      (try dsimp only at hSw)
      go_simp
      all_goals (with_reducible rfl)
    try simp only [Act.put, List.getElem_toArray, List.getElem_cons_zero, List.getElem_cons_succ, List.setIfInBounds_toArray, List.set_cons_zero, List.set_cons_succ]
    refine wpAnyH_ready (rs := [9]) (by kernel_rfl) (by simp) ?_
    refine AllReadyH.cons (o := _) rfl (fun K hK => ?_) AllReadyH.nil
    go_simp
    refine (KR.out _ _ (prat_of (And.right (by with_reducible assumption)))).mono ?_
    rintro e wd ⟨ta, tn, tc, tA, tN, tC, rfl, hgt, hbr⟩
    go_wp2_with fail
    refine hK.out _ _ ?_ (fun hHeld => ?_)
    · exact held7h hbr (by with_reducible assumption)
    clear hK K
    try simp only [Act.put, List.getElem_toArray, List.getElem_cons_zero, List.getElem_cons_succ, List.setIfInBounds_toArray, List.set_cons_zero, List.set_cons_succ]
    refine wpAnyH_ready (rs := [11]) (by kernel_rfl) (by simp) ?_
    refine AllReadyH.cons (o := _) rfl (fun K hK => ?_) AllReadyH.nil
    go_simp
    refine (KSU.out _ ta tn tc (HRD.out h0 h1 _ _ _ _ _ _ _ _ hgt) (HITS.out _ (below_then HW3.out (And.left (by with_reducible assumption))))).mono ?_
    rintro e we ⟨rfl, nd, rfl⟩
    have hbr := below_drewN (Below.refl wd.heap.size wd) nd
    go_wp2_with fail
    refine hK.out _ _ ?_ (fun hHeld => ?_)
    · exact held7h hbr (by with_reducible assumption)
    clear hK K
    try simp only [Act.put, List.getElem_toArray, List.getElem_cons_zero, List.getElem_cons_succ, List.setIfInBounds_toArray, List.set_cons_zero, List.set_cons_succ]
    refine wpAnyH_take (i := 12) (oi := _) (v := ?_) rfl (by kernel_rfl) (by kernel_rfl) (by kernel_rfl) (fun _ _ _ h => h) (Or.inl ⟨by rfl, ?_⟩) (by with_reducible assumption) ?_
    rotate_left
    · intro w hSw
      (try dsimp only at hSw)
      go_simp
      all_goals (with_reducible rfl)
    try simp only [Act.put, List.getElem_toArray, List.getElem_cons_zero, List.getElem_cons_succ, List.setIfInBounds_toArray, List.set_cons_zero, List.set_cons_succ]
    refine wpAnyH_take (i := 13) (oi := _) (v := ?_) rfl (by kernel_rfl) (by kernel_rfl) (by kernel_rfl) (fun _ _ _ h => h) (Or.inl ⟨by rfl, ?_⟩) (by with_reducible assumption) ?_
    rotate_left
    · intro w hSw
      (try dsimp only at hSw)
      go_simp
      all_goals (with_reducible rfl)
    try simp only [Act.put, List.getElem_toArray, List.getElem_cons_zero, List.getElem_cons_succ, List.setIfInBounds_toArray, List.set_cons_zero, List.set_cons_succ]
    refine wpAnyH_done (by kernel_rfl) ?_ _
    refine NoPanic.normal ?_
    have hB9 : Below w3.heap.size w3 (wd.drewN nd) := And.left (by assumption)
    have hb9 := HA3.out.trans (hB9.mono HA3.out.size)
    obtain ⟨hc1, hf1⟩ := bcell hb9
    have HB9 := Lib.hid (below_then (HB0.out _) hb9)
    clear hb9 hB9 hS0
    go_wp2
    exact bodyPost_ret (v := .agg #[.int .i64 1, .int .i64 0, .string ⟨#[]⟩, .string ⟨#[]⟩, .int .i64 0, .string ⟨#[]⟩, .int .i64 0, .slice none 0 0]) (by simp [results, Tryz.results41, go_sem, hc1]) rfl (prr_code _ _ _ (below8 HB9.out (Nat.le_refl _) _ _ _ _ _ _ _ _))
  obtain ⟨rfl, rfl⟩ := HYES.out ⟨h0, h1, h2⟩
  have KSU := Lib.hid (fun W a1 n1 c1 k1 k2 => KST.out W a1 n1 c1 true ⟨fun _ => h2, fun _ => rfl⟩ k1 k2)
  -- by hand
  refine wp_region_noPanic ?_
  refine wp_region_held_drew (S := (fun W => Below w3.heap.size w3 W ∧ W.cell? ⟨w2.heap.size, 0, none⟩ = some (.int .i64 gk) ∧ W.cell? ⟨w2.heap.size, 1, none⟩ = some (.string gf) ∧ W.cell? ⟨w2.heap.size, 2, none⟩ = some (.string gt) ∧ W.cell? ⟨w2.heap.size, 3, none⟩ = some (.int .i64 gs) ∧ W.cell? ⟨w2.heap.size, 4, none⟩ = some (.string gu) ∧ W.cell? ⟨w2.heap.size, 5, none⟩ = some (.int .i64 gp) ∧ W.cell? ⟨w2.heap.size, 6, none⟩ = some (.slice none 0 0))) (by kernel_rfl) ?_ (fun hHeld => ?_)
  · exact hS0
  refine wpAnyH_ready (rs := [0]) (by kernel_rfl) (by simp) ?_
  refine AllReadyH.cons (o := _) rfl (fun K hK => ?_) AllReadyH.nil
  go_simp
  refine (KA.out _ _ (prat_of (And.right (by with_reducible assumption)))).mono ?_
  rintro e wa ⟨rfl, hbr⟩
  go_wp2_with fail
  refine hK.out _ _ ?_ (fun hHeld => ?_)
  · exact held7h hbr (by with_reducible assumption)
  clear hK K
  try simp only [Act.put, List.getElem_toArray, List.getElem_cons_zero, List.getElem_cons_succ, List.setIfInBounds_toArray, List.set_cons_zero, List.set_cons_succ]
  refine wpAnyH_take (i := 1) (oi := _) (v := ?_) rfl (by kernel_rfl) (by kernel_rfl) (by kernel_rfl) (fun _ _ _ h => h) (Or.inl ⟨by rfl, ?_⟩) (by with_reducible assumption) ?_
  rotate_left
  · intro w hSw
    (try dsimp only at hSw)
    go_simp
    all_goals (with_reducible rfl)
  try simp only [Act.put, List.getElem_toArray, List.getElem_cons_zero, List.getElem_cons_succ, List.setIfInBounds_toArray, List.set_cons_zero, List.set_cons_succ]
  refine wpAnyH_take (i := 2) (oi := _) (v := ?_) rfl (by kernel_rfl) (by kernel_rfl) (by kernel_rfl) (fun _ _ _ h => h) (Or.inl ⟨by rfl, ?_⟩) (by with_reducible assumption) ?_
  rotate_left
  · intro w hSw
    (try dsimp only at hSw)
    go_simp
    all_goals (with_reducible rfl)
  try simp only [Act.put, List.getElem_toArray, List.getElem_cons_zero, List.getElem_cons_succ, List.setIfInBounds_toArray, List.set_cons_zero, List.set_cons_succ]
  refine wpAnyH_take (i := 4) (oi := _) (v := ?_) rfl (by kernel_rfl) (by kernel_rfl) (by kernel_rfl) (fun _ _ _ h => h) (Or.inl ⟨by rfl, ?_⟩) (by with_reducible assumption) ?_
  rotate_left
  · intro w hSw
    (try dsimp only at hSw)
    go_simp
    all_goals (with_reducible rfl)
  try simp only [Act.put, List.getElem_toArray, List.getElem_cons_zero, List.getElem_cons_succ, List.setIfInBounds_toArray, List.set_cons_zero, List.set_cons_succ]
  refine wpAnyH_ready (rs := [3]) (by kernel_rfl) (by simp) ?_
  refine AllReadyH.cons (o := _) rfl (fun K hK => ?_) AllReadyH.nil
  go_simp
  refine (KP.out _ _ (prat_of (And.right (by with_reducible assumption)))).mono ?_
  rintro e wb ⟨rfl, hbr⟩
  go_wp2_with fail
  refine hK.out _ _ ?_ (fun hHeld => ?_)
  · exact held7h hbr (by with_reducible assumption)
  clear hK K
  try simp only [Act.put, List.getElem_toArray, List.getElem_cons_zero, List.getElem_cons_succ, List.setIfInBounds_toArray, List.set_cons_zero, List.set_cons_succ]
  refine wpAnyH_ready (rs := [5]) (by kernel_rfl) (by simp) ?_
  refine AllReadyH.cons (o := _) rfl (fun K hK => ?_) AllReadyH.nil
  go_simp
  refine (KSB.out _).mono ?_
  rintro e wc ⟨rfl, hbr⟩
  go_wp2_with fail
  refine hK.out _ _ ?_ (fun hHeld => ?_)
  · exact held7h hbr (by with_reducible assumption)
  clear hK K
  try simp only [Act.put, List.getElem_toArray, List.getElem_cons_zero, List.getElem_cons_succ, List.setIfInBounds_toArray, List.set_cons_zero, List.set_cons_succ]
  refine wpAnyH_take (i := 6) (oi := _) (v := ?_) rfl (by kernel_rfl) (by kernel_rfl) (by kernel_rfl) (fun _ _ _ h => h) (Or.inl ⟨by rfl, ?_⟩) (by with_reducible assumption) ?_
  rotate_left
  · intro w hSw
    (try dsimp only at hSw)
    go_simp
    all_goals (with_reducible rfl)
  try simp only [Act.put, List.getElem_toArray, List.getElem_cons_zero, List.getElem_cons_succ, List.setIfInBounds_toArray, List.set_cons_zero, List.set_cons_succ]
  refine wpAnyH_take (i := 7) (oi := _) (v := ?_) rfl (by kernel_rfl) (by kernel_rfl) (by kernel_rfl) (fun _ _ _ h => h) (Or.inl ⟨by rfl, ?_⟩) (by with_reducible assumption) ?_
  rotate_left
  · intro w hSw
    (try dsimp only at hSw)
    go_simp
    all_goals (with_reducible rfl)
  try simp only [Act.put, List.getElem_toArray, List.getElem_cons_zero, List.getElem_cons_succ, List.setIfInBounds_toArray, List.set_cons_zero, List.set_cons_succ]
  refine wpAnyH_take (i := 8) (oi := _) (v := ?_) rfl (by kernel_rfl) (by kernel_rfl) (by kernel_rfl) (fun _ _ _ h => h) (Or.inl ⟨by rfl, ?_⟩) (by with_reducible assumption) ?_
  rotate_left
  · intro w hSw
    (try dsimp only at hSw)
    go_simp
    all_goals (with_reducible rfl)
  try simp only [Act.put, List.getElem_toArray, List.getElem_cons_zero, List.getElem_cons_succ, List.setIfInBounds_toArray, List.set_cons_zero, List.set_cons_succ]
  refine wpAnyH_take (i := 10) (oi := _) (v := ?_) rfl (by kernel_rfl) (by kernel_rfl) (by kernel_rfl) (fun _ _ _ h => h) (Or.inl ⟨by rfl, ?_⟩) (by with_reducible assumption) ?_
  rotate_left
  · intro w hSw
    (try dsimp only at hSw)
    go_simp
    all_goals (with_reducible rfl)
  try simp only [Act.put, List.getElem_toArray, List.getElem_cons_zero, List.getElem_cons_succ, List.setIfInBounds_toArray, List.set_cons_zero, List.set_cons_succ]
  refine wpAnyH_ready (rs := [9]) (by kernel_rfl) (by simp) ?_
  refine AllReadyH.cons (o := _) rfl (fun K hK => ?_) AllReadyH.nil
  go_simp
  refine (KR.out _ _ (prat_of (And.right (by with_reducible assumption)))).mono ?_
  rintro e wd ⟨ta, tn, tc, tA, tN, tC, rfl, hgt, hbr⟩
  go_wp2_with fail
  refine hK.out _ _ ?_ (fun hHeld => ?_)
  · exact held7h hbr (by with_reducible assumption)
  clear hK K
  try simp only [Act.put, List.getElem_toArray, List.getElem_cons_zero, List.getElem_cons_succ, List.setIfInBounds_toArray, List.set_cons_zero, List.set_cons_succ]
  refine wpAnyH_ready (rs := [11]) (by kernel_rfl) (by simp) ?_
  refine AllReadyH.cons (o := _) rfl (fun K hK => ?_) AllReadyH.nil
  go_simp
  refine (KSU.out _ ta tn tc (HRD.out h0 h1 _ _ _ _ _ _ _ _ hgt) (HITS.out _ (below_then HW3.out (And.left (by with_reducible assumption))))).mono ?_
  rintro e we ⟨rfl, nd, rfl⟩
  have hbr := below_drewN (Below.refl wd.heap.size wd) nd
  go_wp2_with fail
  refine hK.out _ _ ?_ (fun hHeld => ?_)
  · exact held7h hbr (by with_reducible assumption)
  clear hK K
  try simp only [Act.put, List.getElem_toArray, List.getElem_cons_zero, List.getElem_cons_succ, List.setIfInBounds_toArray, List.set_cons_zero, List.set_cons_succ]
  refine wpAnyH_take (i := 12) (oi := _) (v := ?_) rfl (by kernel_rfl) (by kernel_rfl) (by kernel_rfl) (fun _ _ _ h => h) (Or.inl ⟨by rfl, ?_⟩) (by with_reducible assumption) ?_
  rotate_left
  · intro w hSw
    (try dsimp only at hSw)
    go_simp
    all_goals (with_reducible rfl)
  try simp only [Act.put, List.getElem_toArray, List.getElem_cons_zero, List.getElem_cons_succ, List.setIfInBounds_toArray, List.set_cons_zero, List.set_cons_succ]
  refine wpAnyH_take (i := 13) (oi := _) (v := ?_) rfl (by kernel_rfl) (by kernel_rfl) (by kernel_rfl) (fun _ _ _ h => h) (Or.inl ⟨by rfl, ?_⟩) (by with_reducible assumption) ?_
  rotate_left
  · intro w hSw
    (try dsimp only at hSw)
    go_simp
    all_goals (with_reducible rfl)
  try simp only [Act.put, List.getElem_toArray, List.getElem_cons_zero, List.getElem_cons_succ, List.setIfInBounds_toArray, List.set_cons_zero, List.set_cons_succ]
  refine wpAnyH_done (by kernel_rfl) ?_ _
  refine NoPanic.normal ?_
  have hS9 : Below w3.heap.size w3 (wd.drewN nd) ∧ (wd.drewN nd).cell? ⟨w2.heap.size, 0, none⟩ = some (.int .i64 gk) ∧ (wd.drewN nd).cell? ⟨w2.heap.size, 1, none⟩ = some (.string gf) ∧ (wd.drewN nd).cell? ⟨w2.heap.size, 2, none⟩ = some (.string gt) ∧ (wd.drewN nd).cell? ⟨w2.heap.size, 3, none⟩ = some (.int .i64 gs) ∧ (wd.drewN nd).cell? ⟨w2.heap.size, 4, none⟩ = some (.string gu) ∧ (wd.drewN nd).cell? ⟨w2.heap.size, 5, none⟩ = some (.int .i64 gp) ∧ (wd.drewN nd).cell? ⟨w2.heap.size, 6, none⟩ = some (.slice none 0 0) := by with_reducible assumption
  have hB9 := hS9.1
  obtain ⟨_, z0, z1, z2, z3, z4, z5, z6⟩ := hS9
  have hb9 := HA3.out.trans (hB9.mono HA3.out.size)
  obtain ⟨hc1, hf1⟩ := bcell hb9
  have HB9 := Lib.hid (below_then (HB0.out _) hb9)
  clear hb9 hB9 hS0
  go_wp2
  exact bodyPost_ret (v := .agg #[.int .i64 0, .int .i64 gk, .string gf, .string gt, .int .i64 gs, .string gu, .int .i64 gp, .slice none 0 0]) (by simp [results, Tryz.results41, go_sem, hc1]) rfl ⟨none, 0, 0, rfl, by rw [HGM.out]; exact OwnIts.nil _ _ _, below8 HB9.out (Nat.le_refl _) _ _ _ _ _ _ _ _⟩
end Go.Proofs.YticpebpicdboaaaGreatDoor

/- The program's words of kinds and of shows, in rows. -/
namespace Go.Proofs.YticpebpicdboaaaGreatDoor
open Go.ChangeShapes Go.WideShapes Go.ChangeAt Go.RowKit
set_option linter.unusedVariables false

theorem pKinds_any (w : World) : Calls Tryz.prog 84 #[] w fun e w' =>
    e = .returned (.slice (some ⟨w.heap.size, 0, none⟩) 7 7) ∧ w.heap.size < w'.heap.size ∧ Below w.heap.size w w' ∧ w'.cell? ⟨w.heap.size, 0, none⟩ = some (.string ⟨#[]⟩) ∧ w'.cell? ⟨w.heap.size, 1, none⟩ = some (.string ⟨#[117, 110, 97, 118, 97, 105, 108, 97, 98, 108, 101]⟩) ∧ w'.cell? ⟨w.heap.size, 2, none⟩ = some (.string ⟨#[115, 117, 98, 115, 99, 114, 105, 98, 101]⟩) ∧ w'.cell? ⟨w.heap.size, 3, none⟩ = some (.string ⟨#[115, 117, 98, 115, 99, 114, 105, 98, 101, 100]⟩) ∧ w'.cell? ⟨w.heap.size, 4, none⟩ = some (.string ⟨#[117, 110, 115, 117, 98, 115, 99, 114, 105, 98, 101]⟩) ∧ w'.cell? ⟨w.heap.size, 5, none⟩ = some (.string ⟨#[117, 110, 115, 117, 98, 115, 99, 114, 105, 98, 101, 100]⟩) ∧ w'.cell? ⟨w.heap.size, 6, none⟩ = some (.string ⟨#[112, 114, 111, 98, 101]⟩) := by
  go_enter Tryz.func84, Tryz.ntmps84
  go_wp2
  go_ret
  refine ⟨rfl, by simp, below1 _ _, ?_, ?_, ?_, ?_, ?_, ?_, ?_⟩ <;> simp
theorem pShows_any (w : World) : Calls Tryz.prog 87 #[] w fun e w' =>
    e = .returned (.slice (some ⟨w.heap.size, 0, none⟩) 5 5) ∧ w.heap.size < w'.heap.size ∧ Below w.heap.size w w' ∧ w'.cell? ⟨w.heap.size, 0, none⟩ = some (.string ⟨#[]⟩) ∧ w'.cell? ⟨w.heap.size, 1, none⟩ = some (.string ⟨#[97, 119, 97, 121]⟩) ∧ w'.cell? ⟨w.heap.size, 2, none⟩ = some (.string ⟨#[99, 104, 97, 116]⟩) ∧ w'.cell? ⟨w.heap.size, 3, none⟩ = some (.string ⟨#[100, 110, 100]⟩) ∧ w'.cell? ⟨w.heap.size, 4, none⟩ = some (.string ⟨#[120, 97]⟩) := by
  go_enter Tryz.func87, Tryz.ntmps87
  go_wp2
  go_ret
  refine ⟨rfl, by simp, below1 _ _, ?_, ?_, ?_, ?_, ?_⟩ <;> simp
theorem pKinds_row (w : World) : Calls Tryz.prog 84 #[] w fun e w' => e = .returned (.slice (some ⟨w.heap.size, 0, none⟩) 7 7) ∧ RowS w' (.slice (some ⟨w.heap.size, 0, none⟩) 7 7) kindWs ∧ Below w.heap.size w w' :=
  (pKinds_any w).mono fun e w' ⟨he, hz, hb, c0, c1, c2, c3, c4, c5, c6⟩ => ⟨he, kinds_row hz c0 c1 c2 c3 c4 c5 c6, hb⟩
theorem pShows_row (w : World) : Calls Tryz.prog 87 #[] w fun e w' => e = .returned (.slice (some ⟨w.heap.size, 0, none⟩) 5 5) ∧ RowS w' (.slice (some ⟨w.heap.size, 0, none⟩) 5 5) showWs ∧ Below w.heap.size w w' :=
  (pShows_any w).mono fun e w' ⟨he, hz, hb, c0, c1, c2, c3, c4⟩ => ⟨he, shows_row hz c0 c1 c2 c3 c4, hb⟩
end Go.Proofs.YticpebpicdboaaaGreatDoor
