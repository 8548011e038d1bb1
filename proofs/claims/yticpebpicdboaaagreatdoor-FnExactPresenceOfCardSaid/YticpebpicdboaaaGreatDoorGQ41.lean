/- impl.PresenceOf. -/
import Derived.Test.YticpebpicdboaaaGreatDoorGQ37
import Derived.Test.YticpebpicdboaaaGreatDoorGQ27
import Derived.Test.YticpebpicdboaaaGreatDoorGQ40
import Derived.Test.YticpebpicdboaaaGreatDoorGQ29
import Derived.Test.YticpebpicdboaaaGreatDoorGQ31
import Derived.Test.YticpebpicdboaaaGreatDoorGQ1
import Derived.Deep.RegionHeld3
import Derived.Test.YticpebpicdboaaaGreatDoorGQ17
namespace Go.Proofs.YticpebpicdboaaaGreatDoor
open Go.ChangeShapes Go.WideShapes Go.ChangeAt Go.RowKit
set_option linter.unusedVariables false

theorem readP_cases {l : List It} {p : Pr} (h : rootP (l.getD 0 dIt) dPr = some p) : readP l = kidsF l (kidsL l 0) (kidsL l 0).length 0 ([], p) := by
  unfold readP
  rw [h]
theorem readP_noroot {l : List It} (h : rootP (l.getD 0 dIt) dPr = none) : readP l = none := by
  unfold readP
  rw [h]
theorem small_prsize {q : Pr} (h : SmallPr q) : PrSize q := ⟨by have := h.texts.1; omega, by have := h.texts.2.1; omega, by have := h.texts.2.2; omega⟩

set_option maxRecDepth 100000 in
set_option maxHeartbeats 6400000 in
theorem implPresenceOf_any (lo hi : Nat) (a : Option Addr) (n c : Nat) (l : List It) (w : World) (hs : SmallIts l) (h : OwnIts w lo hi a n c l) (hT : Tabs w) (hPw : Pows w) (ea eb : Addr) (hE : NumErrs w ea eb) :
    Calls Tryz.prog 13 #[.slice a n c] w (PrrOwn w (readCode l) (readVal l)) := by
  have hits := h.its
  obtain rfl : l.length = n := h.len
  have KT := Lib.hid (fun W (hb : Below w.heap.size w W) => implTreeFault_any a l.length c l W (tabs_kept hT hb) (hits.below hb))
  have HB0 := Lib.hid (fun o => below1 w o)
  by_cases hc : treeCode l = 0
  case neg =>
    obtain ⟨e1, e2⟩ := read_bad hc
    rw [e1, e2]
    generalize treeCode l = cd at hc KT ⊢
    have h0b : (cd != 0) = true := by rw [bne_iff_ne]; exact hc
    clear e1 e2 h hs hits hT hPw hE
    go_enter Tryz.func13, Tryz.ntmps13
    go_wp2_with fail
    refine (KT.out _ (HB0.out _)).mono ?_
    rintro e w1 ⟨rfl, hb1⟩
    obtain ⟨hc1, hf1⟩ := bcell hb1
    have HB1 := Lib.hid hb1
    clear hb1
    go_wp2
    exact bodyPost_ret (v := .agg #[.int .i64 cd, .int .i64 0, .string ⟨#[]⟩, .string ⟨#[]⟩, .int .i64 0, .string ⟨#[]⟩, .int .i64 0, .slice none 0 0]) (by simp [results, Tryz.results13, go_sem, hc1]) rfl (prr_code _ _ _ (below8 (below_then (HB0.out _) HB1.out) (Nat.le_refl _) _ _ _ _ _ _ _ _))
  have hR := rises_of hc
  have hn1 := hR.some
  have hn40 := hR.few
  obtain ⟨b, o, rfl, hat⟩ := hits.row.resolve_left (by omega)
  have hok := h.ok
  rw [hc] at KT
  have KF := Lib.hid (fun pb x xa xn xc p w0 W hg hA hm => readFirst_any pb x xa xn xc p none 0 0 w0 W hg hA hm)
  have KI := Lib.hid (fun pb p w0 W (hb : Below w.heap.size w w0) hm hp => readInside_any pb b o c l p w0 W hc (tabs_kept hT hb) (hPw.below hb) ea eb (hE.below hb) (hits.below hb) (fun i hi => (hok i hi).below hb) hm hp)
  have KP := Lib.hid (fun p a n c W (hb : Below w.heap.size w W) hsz h => implPresenceFault_any p a n c W (tabs_kept hT hb) hsz h)
  unfold RootRes at KF
  unfold InsideRes at KI
  have HG := Lib.hid (hR.good 0 (by omega))
  have HC := Lib.hid hc
  have HX := Lib.hid (hok 0 (by omega))
  have HS := Lib.hid hs
  obtain ⟨x, hx⟩ : ∃ x, l.getD 0 dIt = x := ⟨_, rfl⟩
  rw [hx] at HG HX
  have HRN : Hid (rootP x dPr = none → readP l = none) := Lib.hid fun h => readP_noroot (by rw [hx]; exact h)
  have HRS : Hid (∀ p, rootP x dPr = some p → readP l = kidsF l (kidsL l 0) (kidsL l 0).length 0 ([], p)) := Lib.hid fun p h => readP_cases (by rw [hx]; exact h)
  have HRM : Hid (∀ p, rootP x dPr = some p → p.more = []) := Lib.hid fun p h => rootP_rest h
  have KF := Lib.hid (fun pb xa xn xc w0 W hg hA hm => KF.out pb x xa xn xc dPr w0 W hg hA hm)
  generalize kidsL l 0 = ks at KI HRS
  generalize rootP x dPr = rx at KF HRN HRS HRM
  have hx0 : o + 0 * 5 = o := by omega
  rw [hx0] at HX
  obtain ⟨xd, xt, xs, xm, xl⟩ := x
  dsimp only at HX HG KF
  cases hr : readP l with
  | none =>
    obtain ⟨e1, e2⟩ := read_none hc hr
    rw [e1, e2]
    have HR := Lib.hid hr
    clear e1 e2 hr h hs hits hT hPw hE hat hok hR hc hx hx0 KP HS
    go_enter Tryz.func13, Tryz.ntmps13
    go_wp2_with fail
    refine (KT.out _ (HB0.out _)).mono ?_
    rintro e w1 ⟨rfl, hb1⟩
    have HB1 := Lib.hid hb1
    have hbw1 := below_then (HB0.out _) hb1
    have HW1 := Lib.hid hbw1
    have HP0 := Lib.hid (PrMut.new w1 w1 (Below.refl _ _) 91 dPr none 0 0)
    have hx1 := HX.out.below hbw1
    have hx2 := hx1.below (below1 w1 (.cells #[.int .i64 0, .string ⟨#[]⟩, .string ⟨#[]⟩, .int .i64 0, .string ⟨#[]⟩, .int .i64 0, .slice none 0 0] 91))
    obtain ⟨a4, n4, c4, z4, _, hat4⟩ := hx1.cap
    have z4 := ((below1 w1 (.cells #[.int .i64 0, .string ⟨#[]⟩, .string ⟨#[]⟩, .int .i64 0, .string ⟨#[]⟩, .int .i64 0, .slice none 0 0] 91)).cell (World.block_lt_of_cell? _ _ z4)).trans z4
    have HAT := Lib.hid hat4
    have z0 := hx2.is.c0
    have z1 := hx2.is.c1
    have z2 := hx2.is.c2
    have z3 := hx2.is.c3
    have hfirst : (0 : Int) < (l.length : Int) := by omega
    clear hb1 hbw1 hx1 hx2 hat4
    go_wp2_with fail
    refine (KF.out _ a4 n4 c4 w1 _ HG.out HAT.out HP0.out).mono ?_
    rintro e w2 ⟨bb, q, rfl, hq, hy, hno⟩
    have HQ := Lib.hid hq
    have HY := Lib.hid hy
    have HNO := Lib.hid hno
    clear hq hy hno z0 z1 z2 z3 z4
    cases bb
    · have hb9 := below_then HB1.out (HQ.out).below
      obtain ⟨hc1, hf1⟩ := bcell hb9
      have HB9 := Lib.hid (below_then (HB0.out _) hb9)
      clear hb9
      go_wp2
      exact bodyPost_ret (v := .agg #[.int .i64 1, .int .i64 0, .string ⟨#[]⟩, .string ⟨#[]⟩, .int .i64 0, .string ⟨#[]⟩, .int .i64 0, .slice none 0 0]) (by simp [results, Tryz.results13, go_sem, hc1]) rfl (prr_code _ _ _ (below8 HB9.out (Nat.le_refl _) _ _ _ _ _ _ _ _))
    · go_wp2_with fail
      refine (KI.out _ q w1 w2 HW1.out (HRM.out q (HY.out (by first | rfl | trivial))) HQ.out).mono ?_
      rintro e w3 ⟨bb2, q2, a2, n2, c2, rfl, hq2, hy2, hno2⟩
      have HQ2 := Lib.hid hq2
      have HY2 := Lib.hid hy2
      have HNO2 := Lib.hid hno2
      clear hq2 hy2 hno2
      cases bb2
      · have hb9 := below_then HB1.out (HQ2.out).below
        obtain ⟨hc1, hf1⟩ := bcell hb9
        have HB9 := Lib.hid (below_then (HB0.out _) hb9)
        clear hb9
        go_wp2
        exact bodyPost_ret (v := .agg #[.int .i64 1, .int .i64 0, .string ⟨#[]⟩, .string ⟨#[]⟩, .int .i64 0, .string ⟨#[]⟩, .int .i64 0, .slice none 0 0]) (by simp [results, Tryz.results13, go_sem, hc1]) rfl (prr_code _ _ _ (below8 HB9.out (Nat.le_refl _) _ _ _ _ _ _ _ _))
      · exact absurd (HR.out.symm.trans ((HRS.out q (HY.out (by first | rfl | trivial))).trans (HY2.out (by first | rfl | trivial)).1)) (by simp)
  | some pr =>
    obtain ⟨e1, e2⟩ := read_some hc hr
    obtain ⟨hsp, hfew, hbit⟩ := read_small hc hs hr
    rw [e1, e2]
    have HR := Lib.hid hr
    have HBI := Lib.hid hbit
    obtain ⟨pk, pf, pt, ps, pu, pp, pm⟩ := pr
    have KF2 := Lib.hid (fun a n c W hb h => KP.out ⟨pk, pf, pt, ps, pu, pp, pm⟩ a n c W hb (small_prsize hsp) h)
    clear e1 e2 hr h hs hits hT hPw hE hat hok hR hc hx hx0 hsp hbit KP HS
    generalize presCode ⟨pk, pf, pt, ps, pu, pp, pm⟩ = cd at KF2 ⊢
    dsimp only at KF2 hfew HBI
    obtain ⟨rv, hrv⟩ : ∃ rv, (if cd ≠ 0 then dPr else (⟨pk, pf, pt, ps, pu, pp, pm⟩ : Pr)) = rv := ⟨_, rfl⟩
    rw [hrv]
    have HRV := Lib.hid hrv
    clear hrv
    go_enter Tryz.func13, Tryz.ntmps13
    go_wp2_with fail
    refine (KT.out _ (HB0.out _)).mono ?_
    rintro e w1 ⟨rfl, hb1⟩
    have HB1 := Lib.hid hb1
    have hbw1 := below_then (HB0.out _) hb1
    have HW1 := Lib.hid hbw1
    have HP0 := Lib.hid (PrMut.new w1 w1 (Below.refl _ _) 91 dPr none 0 0)
    have hx1 := HX.out.below hbw1
    have hx2 := hx1.below (below1 w1 (.cells #[.int .i64 0, .string ⟨#[]⟩, .string ⟨#[]⟩, .int .i64 0, .string ⟨#[]⟩, .int .i64 0, .slice none 0 0] 91))
    obtain ⟨a4, n4, c4, z4, _, hat4⟩ := hx1.cap
    have z4 := ((below1 w1 (.cells #[.int .i64 0, .string ⟨#[]⟩, .string ⟨#[]⟩, .int .i64 0, .string ⟨#[]⟩, .int .i64 0, .slice none 0 0] 91)).cell (World.block_lt_of_cell? _ _ z4)).trans z4
    have HAT := Lib.hid hat4
    have z0 := hx2.is.c0
    have z1 := hx2.is.c1
    have z2 := hx2.is.c2
    have z3 := hx2.is.c3
    have hfirst : (0 : Int) < (l.length : Int) := by omega
    clear hb1 hbw1 hx1 hx2 hat4
    go_wp2_with fail
    refine (KF.out _ a4 n4 c4 w1 _ HG.out HAT.out HP0.out).mono ?_
    rintro e w2 ⟨bb, q, rfl, hq, hy, hno⟩
    have HQ := Lib.hid hq
    have HY := Lib.hid hy
    have HNO := Lib.hid hno
    clear hq hy hno z0 z1 z2 z3 z4
    cases bb
    · exact absurd (HR.out.symm.trans (HRN.out (HNO.out (by first | rfl | trivial)))) (by simp)
    · go_wp2_with fail
      refine (KI.out _ q w1 w2 HW1.out (HRM.out q (HY.out (by first | rfl | trivial))) HQ.out).mono ?_
      rintro e w3 ⟨bb2, q2, a2, n2, c2, rfl, hq2, hy2, hno2⟩
      have HQ2 := Lib.hid hq2
      have HY2 := Lib.hid hy2
      have HNO2 := Lib.hid hno2
      clear hq2 hy2 hno2
      cases bb2
      · exact absurd (HR.out.symm.trans ((HRS.out q (HY.out (by first | rfl | trivial))).trans (HNO2.out (by first | rfl | trivial)))) (by simp)
      · obtain ⟨hr2, A2, N2, C2, hg⟩ := HY2.out (by first | rfl | trivial)
        have hrp := (HRS.out q (HY.out (by first | rfl | trivial))).trans hr2
        have hpe : q2 = ⟨pk, pf, pt, ps, pu, pp, pm⟩ := by have := HR.out.symm.trans hrp; simpa using this.symm
        subst hpe
        have hlen2 := hg.len
        dsimp only at hlen2 hg
        have own2 := hg.own (by omega) (fun i hi => by
          have h1 := HBI.out i (by omega)
          have h2 := h1.2.1
          exact ⟨⟨by omega, by omega⟩, by omega, by omega, by omega⟩)
        have hw2 : w.heap.size + 1 ≤ w1.heap.size := by have := HB1.out.size; simpa using this
        have hw3 : w1.heap.size ≤ w2.heap.size := HQ.out.below.size
        have OW := Lib.hid own2
        have y0 := HQ2.out.is.c0
        have y1 := HQ2.out.is.c1
        have y2 := HQ2.out.is.c2
        have y3 := HQ2.out.is.c3
        have y4 := HQ2.out.is.c4
        have y5 := HQ2.out.is.c5
        have y6 := HQ2.out.is.c6
        have hlt9 := HQ2.out.is.lt
        dsimp only at y0 y1 y2 y3 y4 y5 y6
        have HB9 := Lib.hid (below_then HB1.out HQ2.out.below)
        clear hg hr2 hrp own2
        go_wp2_with fail
        refine (KF2.out a2 n2 c2 w3 (below_then HW1.out HQ2.out.below) OW.out.its).mono ?_
        rintro e w4 ⟨rfl, hb4⟩
        have hb5 := below_then HB9.out hb4
        obtain ⟨hc1, hf1⟩ := bcell hb5
        have hz4 := hb4.size
        have HB5 := Lib.hid hb5
        have OW3 := Lib.hid (OW.out.below hb4)
        have k : ∀ o v, w3.cell? ⟨w1.heap.size, o, none⟩ = some v → w4.cell? ⟨w1.heap.size, o, none⟩ = some v := fun o v h => (hb4.cell (p := ⟨w1.heap.size, o, none⟩) hlt9).trans h
        have y0 := k _ _ y0
        have y1 := k _ _ y1
        have y2 := k _ _ y2
        have y3 := k _ _ y3
        have y4 := k _ _ y4
        have y5 := k _ _ y5
        have y6 := k _ _ y6
        clear hb4 hb5 k
        by_cases h0 : cd = 0
        · subst h0
          go_wp2
          refine bodyPost_ret (v := .agg #[.int .i64 0, .int .i64 pk, .string pf, .string pt, .int .i64 ps, .string pu, .int .i64 pp, .slice a2 n2 c2]) (by simp [results, Tryz.results13, go_sem, hc1]) rfl ?_
          have hrv := HRV.out
          rw [if_neg (by simp)] at hrv
          subst hrv
          exact ⟨_, _, _, rfl, (own8 OW3.out (by omega) _ _ _ _ _ _ _ _).mono (by omega) (by simp; omega), below8 (below_then (HB0.out _) HB5.out) (Nat.le_refl _) _ _ _ _ _ _ _ _⟩
        · have h0b : (cd != 0) = true := by rw [bne_iff_ne]; exact h0
          go_wp2
          refine bodyPost_ret (v := .agg #[.int .i64 cd, .int .i64 0, .string ⟨#[]⟩, .string ⟨#[]⟩, .int .i64 0, .string ⟨#[]⟩, .int .i64 0, .slice none 0 0]) (by simp [results, Tryz.results13, go_sem, hc1]) rfl ?_
          have hrv := HRV.out
          rw [if_pos h0] at hrv
          subst hrv
          exact prr_code _ _ _ (below8 (below_then (HB0.out _) HB5.out) (Nat.le_refl _) _ _ _ _ _ _ _ _)
end Go.Proofs.YticpebpicdboaaaGreatDoor

/- eqAttr, eqAttrS, eqItem, eqItemS at two readings of one list. -/
namespace Go.Proofs.YticpebpicdboaaaGreatDoor
open Go.ChangeShapes Go.WideShapes Go.ChangeAt Go.RowKit
set_option linter.unusedVariables false

set_option maxHeartbeats 400000 in
theorem eqAttr_true (s t : ByteArray) (w : World) :
    Calls Tryz.prog 279 #[.agg #[.string s, .string t], .agg #[.string s, .string t]] w fun e w' => e = .returned (.bool true) ∧ Below w.heap.size w w' := by
  go_enter Tryz.func279, Tryz.ntmps279
  go_wp2
  go_ret
  exact ⟨rfl, below2 _ _ _⟩

theorem held4 {w0 W W' : World} {p1 p2 p3 p4 : Addr} {v1 v2 v3 v4 : Value} (hb : Below W.heap.size W W')
    (h : Below w0.heap.size w0 W ∧ W.cell? p1 = some v1 ∧ W.cell? p2 = some v2 ∧ W.cell? p3 = some v3 ∧ W.cell? p4 = some v4) :
    Below w0.heap.size w0 W' ∧ W'.cell? p1 = some v1 ∧ W'.cell? p2 = some v2 ∧ W'.cell? p3 = some v3 ∧ W'.cell? p4 = some v4 :=
  ⟨below_then h.1 hb, (hb.cell (World.block_lt_of_cell? W _ h.2.1)).trans h.2.1, (hb.cell (World.block_lt_of_cell? W _ h.2.2.1)).trans h.2.2.1, (hb.cell (World.block_lt_of_cell? W _ h.2.2.2.1)).trans h.2.2.2.1, (hb.cell (World.block_lt_of_cell? W _ h.2.2.2.2)).trans h.2.2.2.2⟩

set_option maxHeartbeats 1600000 in
theorem eqAttrS_true (a a' : Option Addr) (n n' c c' : Nat) (l : List At) (w : World) (h : AtsAt w a n c l) (h' : AtsAt w a' n' c' l) :
    Calls Tryz.prog 221 #[.slice a n c, .slice a' n' c'] w fun e w' => e = .returned (.bool true) ∧ Below w.heap.size w w' := by
  obtain rfl : n = n' := h.len.symm.trans h'.len
  have hm := h.max
  have HR := Lib.hid h.row
  have HR' := Lib.hid h'.row
  clear h h'
  go_enter Tryz.func221, Tryz.ntmps221
  go_wp2
  go_loopw [5] (fun i wr => ∃ k : Nat, k ≤ n ∧ i = .int .i64 k ∧ Below w.heap.size w wr) (fun i _ => n - (intOf i).toNat)
  case atStart => exact ⟨0, Nat.zero_le _, rfl, Below.refl _ _⟩
  case round =>
    obtain ⟨k, hk, rfl, hb⟩ := hrel
    by_cases hlt : k < n
    · rcases HR.out with e0 | ⟨b, o, rfl, h3, h4⟩
      · omega
      rcases HR'.out with e0 | ⟨b', o', rfl, h3', h4'⟩
      · omega
      have d0 := (hb.cell (p := ⟨b, o + k * 2, none⟩) h3).trans (h4 k hlt).1
      have d1 := (hb.cell (p := ⟨b, o + k * 2 + 1, none⟩) h3).trans (h4 k hlt).2
      have e0 := (hb.cell (p := ⟨b', o' + k * 2, none⟩) h3').trans (h4' k hlt).1
      have e1 := (hb.cell (p := ⟨b', o' + k * 2 + 1, none⟩) h3').trans (h4' k hlt).2
      have k1 : (k : Int) < (n : Int) := by omega
      generalize l.getD k dAt = x at d0 d1 e0 e1
      obtain ⟨s, t⟩ := x
      dsimp only at d0 d1 e0 e1
      have HB := Lib.hid hb
      clear h4 h4' hb
      go_wp2_with fail
      have hS0 : Below wr.heap.size wr wr.drew ∧ wr.drew.cell? ⟨b, o + k * 2, none⟩ = some (.string s) ∧ wr.drew.cell? ⟨b, o + k * 2 + 1, none⟩ = some (.string t) ∧ wr.drew.cell? ⟨b', o' + k * 2, none⟩ = some (.string s) ∧ wr.drew.cell? ⟨b', o' + k * 2 + 1, none⟩ = some (.string t) := ⟨(Below.refl _ _).drew, d0, d1, e0, e1⟩
      go_region_held3 (fun W => Below wr.heap.size wr W ∧ W.cell? ⟨b, o + k * 2, none⟩ = some (.string s) ∧ W.cell? ⟨b, o + k * 2 + 1, none⟩ = some (.string t) ∧ W.cell? ⟨b', o' + k * 2, none⟩ = some (.string s) ∧ W.cell? ⟨b', o' + k * 2 + 1, none⟩ = some (.string t)) (first | assumption | exact held4 hbr (by assumption))
        (first | (go_at_call 279; refine (eqAttr_true s t _).mono ?_; rintro e w' ⟨rfl, hbr⟩))
      go_wp2
      go_roundw
      case rel => exact ⟨k + 1, by omega, by go_num, below_then HB.out (below_of_drew hbr)⟩
      case measure => simp [intOf]; omega
    · go_wp2
      go_ret
      exact ⟨rfl, hb⟩

set_option maxHeartbeats 800000 in
theorem eqItem_true (x : It) (a a' : Option Addr) (n n' c c' : Nat) (w : World) (h : AtsAt w a n c x.attrs) (h' : AtsAt w a' n' c' x.attrs) :
    Calls Tryz.prog 131 #[.agg #[.int .i64 x.depth, .string x.text, .string x.space, .string x.name, .slice a n c], .agg #[.int .i64 x.depth, .string x.text, .string x.space, .string x.name, .slice a' n' c']] w fun e w' => e = .returned (.bool true) ∧ Below w.heap.size w w' := by
  obtain ⟨d, s, t, u, l⟩ := x
  dsimp only at h h' ⊢
  have K := Lib.hid (fun W (hb : Below w.heap.size w W) => eqAttrS_true a a' n n' c c' l W (h.below hb) (h'.below hb))
  clear h h'
  go_enter Tryz.func131, Tryz.ntmps131
  go_wp2_with fail
  refine (K.out _ (below2 _ _ _)).mono ?_
  rintro e w1 ⟨rfl, hb⟩
  go_wp2
  go_ret
  exact ⟨rfl, below_then (below2 _ _ _) hb⟩

theorem held10 {w0 W W' : World} {p0 p1 p2 p3 p4 p5 p6 p7 p8 p9 : Addr} {v0 v1 v2 v3 v4 v5 v6 v7 v8 v9 : Value} (hb : Below W.heap.size W W')
    (h : Below w0.heap.size w0 W ∧ W.cell? p0 = some v0 ∧ W.cell? p1 = some v1 ∧ W.cell? p2 = some v2 ∧ W.cell? p3 = some v3 ∧ W.cell? p4 = some v4 ∧ W.cell? p5 = some v5 ∧ W.cell? p6 = some v6 ∧ W.cell? p7 = some v7 ∧ W.cell? p8 = some v8 ∧ W.cell? p9 = some v9) :
    Below w0.heap.size w0 W' ∧ W'.cell? p0 = some v0 ∧ W'.cell? p1 = some v1 ∧ W'.cell? p2 = some v2 ∧ W'.cell? p3 = some v3 ∧ W'.cell? p4 = some v4 ∧ W'.cell? p5 = some v5 ∧ W'.cell? p6 = some v6 ∧ W'.cell? p7 = some v7 ∧ W'.cell? p8 = some v8 ∧ W'.cell? p9 = some v9 :=
  ⟨below_then h.1 hb, (hb.cell (World.block_lt_of_cell? W _ h.2.1)).trans h.2.1, (hb.cell (World.block_lt_of_cell? W _ h.2.2.1)).trans h.2.2.1, (hb.cell (World.block_lt_of_cell? W _ h.2.2.2.1)).trans h.2.2.2.1, (hb.cell (World.block_lt_of_cell? W _ h.2.2.2.2.1)).trans h.2.2.2.2.1, (hb.cell (World.block_lt_of_cell? W _ h.2.2.2.2.2.1)).trans h.2.2.2.2.2.1, (hb.cell (World.block_lt_of_cell? W _ h.2.2.2.2.2.2.1)).trans h.2.2.2.2.2.2.1, (hb.cell (World.block_lt_of_cell? W _ h.2.2.2.2.2.2.2.1)).trans h.2.2.2.2.2.2.2.1, (hb.cell (World.block_lt_of_cell? W _ h.2.2.2.2.2.2.2.2.1)).trans h.2.2.2.2.2.2.2.2.1, (hb.cell (World.block_lt_of_cell? W _ h.2.2.2.2.2.2.2.2.2.1)).trans h.2.2.2.2.2.2.2.2.2.1, (hb.cell (World.block_lt_of_cell? W _ h.2.2.2.2.2.2.2.2.2.2)).trans h.2.2.2.2.2.2.2.2.2.2⟩

set_option maxRecDepth 100000 in
set_option maxHeartbeats 3200000 in
theorem eqItemS_true (a a' : Option Addr) (n n' c c' : Nat) (l : List It) (w : World) (h : ItsAt w a n c l) (h' : ItsAt w a' n' c' l) :
    Calls Tryz.prog 61 #[.slice a n c, .slice a' n' c'] w fun e w' => e = .returned (.bool true) ∧ Below w.heap.size w w' := by
  obtain rfl : n = n' := h.len.symm.trans h'.len
  have hm := h.max
  have HR := Lib.hid h.row
  have HR' := Lib.hid h'.row
  clear h h'
  go_enter Tryz.func61, Tryz.ntmps61
  go_wp2
  go_loopw [5] (fun i wr => ∃ k : Nat, k ≤ n ∧ i = .int .i64 k ∧ Below w.heap.size w wr) (fun i _ => n - (intOf i).toNat)
  case atStart => exact ⟨0, Nat.zero_le _, rfl, Below.refl _ _⟩
  case round =>
    obtain ⟨k, hk, rfl, hb⟩ := hrel
    by_cases hlt : k < n
    · rcases HR.out with e0 | ⟨b, o, rfl, h4⟩
      · omega
      rcases HR'.out with e0 | ⟨b', o', rfl, h4'⟩
      · omega
      have hi := (h4 k hlt).below hb
      have hi' := (h4' k hlt).below hb
      have d0 := hi.c0
      have d1 := hi.c1
      have d2 := hi.c2
      have d3 := hi.c3
      obtain ⟨a4, n4, c4, d4, hat⟩ := hi.c4
      have e0 := hi'.c0
      have e1 := hi'.c1
      have e2 := hi'.c2
      have e3 := hi'.c3
      obtain ⟨a5, n5, c5, e4, hat'⟩ := hi'.c4
      have K := Lib.hid (fun W (hb' : Below wr.heap.size wr W) => eqItem_true (l.getD k dIt) a4 a5 n4 n5 c4 c5 W (hat.below hb') (hat'.below hb'))
      have k1 : (k : Int) < (n : Int) := by omega
      clear hi hi' hat hat' h4 h4'
      generalize l.getD k dIt = x at d0 d1 d2 d3 e0 e1 e2 e3 K
      obtain ⟨xd, xt, xs, xn, xa⟩ := x
      dsimp only at d0 d1 d2 d3 e0 e1 e2 e3 K
      have HB := Lib.hid hb
      clear hb
      go_wp2_with fail
      have hS0 : Below wr.heap.size wr wr.drew ∧ wr.drew.cell? ⟨b, o + k * 5, none⟩ = some (.int .i64 xd) ∧ wr.drew.cell? ⟨b, o + k * 5 + 1, none⟩ = some (.string xt) ∧ wr.drew.cell? ⟨b, o + k * 5 + 2, none⟩ = some (.string xs) ∧ wr.drew.cell? ⟨b, o + k * 5 + 3, none⟩ = some (.string xn) ∧ wr.drew.cell? ⟨b, o + k * 5 + 4, none⟩ = some (.slice a4 n4 c4) ∧ wr.drew.cell? ⟨b', o' + k * 5, none⟩ = some (.int .i64 xd) ∧ wr.drew.cell? ⟨b', o' + k * 5 + 1, none⟩ = some (.string xt) ∧ wr.drew.cell? ⟨b', o' + k * 5 + 2, none⟩ = some (.string xs) ∧ wr.drew.cell? ⟨b', o' + k * 5 + 3, none⟩ = some (.string xn) ∧ wr.drew.cell? ⟨b', o' + k * 5 + 4, none⟩ = some (.slice a5 n5 c5) := ⟨(Below.refl _ _).drew, d0, d1, d2, d3, d4, e0, e1, e2, e3, e4⟩
      go_region_held3 (fun W => Below wr.heap.size wr W ∧ W.cell? ⟨b, o + k * 5, none⟩ = some (.int .i64 xd) ∧ W.cell? ⟨b, o + k * 5 + 1, none⟩ = some (.string xt) ∧ W.cell? ⟨b, o + k * 5 + 2, none⟩ = some (.string xs) ∧ W.cell? ⟨b, o + k * 5 + 3, none⟩ = some (.string xn) ∧ W.cell? ⟨b, o + k * 5 + 4, none⟩ = some (.slice a4 n4 c4) ∧ W.cell? ⟨b', o' + k * 5, none⟩ = some (.int .i64 xd) ∧ W.cell? ⟨b', o' + k * 5 + 1, none⟩ = some (.string xt) ∧ W.cell? ⟨b', o' + k * 5 + 2, none⟩ = some (.string xs) ∧ W.cell? ⟨b', o' + k * 5 + 3, none⟩ = some (.string xn) ∧ W.cell? ⟨b', o' + k * 5 + 4, none⟩ = some (.slice a5 n5 c5)) (first | assumption | exact held10 hbr (by assumption))
        (first | (go_at_call 131; refine (K.out _ ?_).mono ?_; exact (And.left (by assumption)); rintro e w' ⟨rfl, hbr⟩))
      go_wp2
      go_roundw
      case rel => exact ⟨k + 1, by omega, by go_num, below_then HB.out (below_of_drew hbr)⟩
      case measure => simp [intOf]; omega
    · go_wp2
      go_ret
      exact ⟨rfl, hb⟩
end Go.Proofs.YticpebpicdboaaaGreatDoor

/- eqPresence at two readings of one presence. -/
namespace Go.Proofs.YticpebpicdboaaaGreatDoor
open Go.ChangeShapes Go.WideShapes Go.ChangeAt Go.RowKit
set_option linter.unusedVariables false

set_option maxRecDepth 100000 in
set_option maxHeartbeats 1600000 in
theorem eqPresence_true (p : Pr) (a a' : Option Addr) (n n' c c' : Nat) (w : World) (h : ItsAt w a n c p.more) (h' : ItsAt w a' n' c' p.more) :
    Calls Tryz.prog 130 #[.agg #[.int .i64 p.kind, .string p.sender, .string p.goal, .int .i64 p.shown, .string p.status, .int .i64 p.prio, .slice a n c], .agg #[.int .i64 p.kind, .string p.sender, .string p.goal, .int .i64 p.shown, .string p.status, .int .i64 p.prio, .slice a' n' c']] w fun e w' => e = .returned (.bool true) ∧ Below w.heap.size w w' := by
  obtain ⟨pk, pf, pt, ps, pu, pp, pm⟩ := p
  dsimp only at h h' ⊢
  have K := Lib.hid (fun W (hb : Below w.heap.size w W) => eqItemS_true a a' n n' c c' pm W (h.below hb) (h'.below hb))
  clear h h'
  go_enter Tryz.func130, Tryz.ntmps130
  go_wp2_with fail
  refine (K.out _ (below2 _ _ _)).mono ?_
  rintro e w1 ⟨rfl, hb⟩
  go_wp2
  go_ret
  exact ⟨rfl, below_then (below2 _ _ _) hb⟩
end Go.Proofs.YticpebpicdboaaaGreatDoor
