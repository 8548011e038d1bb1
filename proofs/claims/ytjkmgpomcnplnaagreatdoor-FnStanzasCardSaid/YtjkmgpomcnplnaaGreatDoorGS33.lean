/- spec.l7Part. -/
import Derived.Test.YtjkmgpomcnplnaaGreatDoorGS32
import Derived.Test.YtjkmgpomcnplnaaGreatDoorGS0
namespace Go.Proofs.YtjkmgpomcnplnaaGreatDoor
open Go.ChangeShapes Go.WideShapes Go.ChangeAt Go.RowKit
set_option linter.unusedSimpArgs false
set_option linter.unusedVariables false
def PartRes (w0 w : World) (pb : Nat) (a : Option Addr) (n c : Nat) (r : Option Pr) (e : Ending) (w' : World) : Prop :=
  ∃ (bb : Bool) (q : Pr), e = .returned (.bool bb) ∧ PrMut w0 w' pb q a n c ∧ Only (fun i => i = pb) w w' ∧ (bb = true → r = some q) ∧ (bb = false → r = none)
theorem showPlace (w0 w : World) (pb : Nat) (p : Pr) (a : Option Addr) (n c : Nat) (h : PrMut w0 w pb p a n c) (t : ByteArray) :
    Calls Tryz.prog 51 #[] w fun e w' => ∃ v, e = .returned v ∧ PrMut w0 w' pb p a n c ∧ Below w.heap.size w w' ∧ ∀ W, Below w'.heap.size w' W → Calls Tryz.prog 86 #[v, .string t] W fun e W' => e = .returned (.int .i64 (hasIx showWs t)) ∧ ∃ n, W' = W.drewN n :=
  (l7Shows_row w).mono fun e w' ⟨he, hr, hb⟩ => ⟨_, he, h.keep hb, hb, fun W hW => l6Has_any _ showWs t W (hr.below hW)⟩
theorem showNm_list : showNm.toList = [115, 104, 111, 119] := by rw [ByteArray.toList_eq]; rfl
theorem statusNm_list : statusNm.toList = [115, 116, 97, 116, 117, 115] := by rw [ByteArray.toList_eq]; rfl
theorem prioNm_list : prioNm.toList = [112, 114, 105, 111, 114, 105, 116, 121] := by rw [ByteArray.toList_eq]; rfl
set_option maxRecDepth 100000 in
set_option maxHeartbeats 3200000 in
theorem l7Part_any (a : Option Addr) (n c k pb : Nat) (l : List It) (p : Pr) (a' : Option Addr) (n' c' : Nat) (w0 w : World) (hn : n ≤ 1048576) (hk : k < n) (hsz : ∀ i, i < n → (l.getD i dIt).text.size ≤ 1048576) (hts : (txtT (textL l k)).size ≤ maxLen) (hI : ItsAt w0 a n c l) (h : PrMut w0 w pb p a' n' c') :
    Calls Tryz.prog 87 #[.slice a n c, .int .i64 (k : Int), .pointer (some ⟨pb, 0, none⟩)] w (PartRes w0 w pb a' n' c' (partP l k p)) := by
  have KT := Lib.hid (specText_any a n c k l w hn hsz hk (hI.below h.below))
  obtain ⟨b, o, rfl, hat⟩ := hI.row.resolve_left (by omega)
  have hx := hat k hk
  obtain ⟨a4, n4, c4, d4, hat4⟩ := hx.c4
  have hlen := hat4.len
  have hlt : b < w0.heap.size := hx.lt
  have hge : w0.heap.size ≤ pb := h.ge
  have D : Hid (∀ W, Below w0.heap.size w0 W → W.cell? ⟨b, o + k * 5 + 3, none⟩ = some (.string (l.getD k dIt).name) ∧ W.cell? ⟨b, o + k * 5 + 4, none⟩ = some (.slice a4 n4 c4)) := Lib.hid fun W hW => ⟨(hW.cell (p := ⟨b, o + k * 5 + 3, none⟩) hlt).trans hx.c3, (hW.cell (p := ⟨b, o + k * 5 + 4, none⟩) hlt).trans d4⟩
  have H := Lib.hid h
  have hm4 : n4 ≤ 9223372036854775807 := hat4.max
  obtain ⟨r, hr⟩ : ∃ r, partP l k p = r := ⟨_, rfl⟩
  rw [hr]
  unfold partP at hr
  rw [showNm_list, statusNm_list, prioNm_list, hlen] at hr
  clear h hI hat hx d4 hat4 hlen hsz
  generalize l.getD k dIt = x at D hr
  generalize textL l k = tl at KT hr hts
  have q0 : (k : Int) < (n : Int) := by omega
  obtain ⟨xd, xt, xs, xn, xa⟩ := x
  dsimp only at D hr
  go_enter Tryz.func87, Tryz.ntmps87
  go_wp2_with fail
  refine KT.out.mono ?_
  rintro e w1 ⟨rfl, nd, rfl⟩
  have hbn : Below w.heap.size w (w.drewN nd) := below_drewN (Below.refl _ _) nd
  have hh := H.out.keep hbn
  clear KT H
  generalize w.drewN nd = w1 at hbn hh ⊢
  have HB := Lib.hid hbn
  have HQ := Lib.hid hh
  have dd := D.out w1 hh.below
  obtain ⟨d3, d4⟩ := dd
  clear hbn hh
  cases tl with
  | none =>
    have HR : Hid (r = none) := Lib.hid hr.symm
    clear hr
    unfold txtT at hts ⊢
    dsimp only [Option.isSome]
    go_wp2
    go_ret
    exact ⟨false, p, rfl, HQ.out, Only.below HB.out, by simp, fun _ => HR.out⟩
  | some t =>
    dsimp only [txtT, Option.isSome] at hts ⊢
    dsimp only at hr
    by_cases h4 : n4 = 0
    case neg =>
      rw [if_pos h4] at hr
      have HR : Hid (r = none) := Lib.hid hr.symm
      have q4 : ((n4 : Int) != 0) = true := by rw [bne_iff_ne]; omega
      have q5 : ((n4 : Int) == 0) = false := by rw [beq_eq_false_iff_ne]; omega
      clear hr
      go_wp2
      go_ret
      exact ⟨false, p, rfl, HQ.out, Only.below HB.out, by simp, fun _ => HR.out⟩
    subst h4
    rw [if_neg (by simp)] at hr
    have HR := Lib.hid hr
    clear hr
    by_cases g1 : xn.toList = [115, 104, 111, 119]
    · have hr2 := HR.out
      rw [if_pos g1] at hr2
      have HR2 := Lib.hid hr2
      have g1b : (xn.toList == [115, 104, 111, 119]) = true := by simpa using g1
      clear hr2 HR g1
      have KK := Lib.hid (showPlace w0 w1 pb p a' n' c' HQ.out t)
      generalize hasIx showWs t = ix at HR2 KK
      go_wp2_with fail
      refine KK.out.mono ?_
      rintro e w2 ⟨v, rfl, hq1, hb1, kh⟩
      have hK1 := Lib.hid kh
      have hQ1 := Lib.hid hq1
      have hB1 := Lib.hid hb1
      clear kh hq1 hb1 d3 d4
      go_wp2_with fail
      refine (hK1.out _ (Below.refl _ _)).mono ?_
      rintro e w3 ⟨rfl, nd, rfl⟩
      have hq2 := hQ1.out.keep (below_drewN (Below.refl _ _) nd)
      have z0 := hq2.is.c3
      have y0 := hq2.fz 3
      have hb2 := hB1.out.trans (below_drewN (Below.refl w2.heap.size w2) nd |>.mono hB1.out.size)
      have HQ2 := Lib.hid hq2
      have HB2 := Lib.hid hb2
      clear hq2 hb2
      go_upto_region 7 with fail
      have hq3 := HQ2.out.setShown ix
      have HO3 := Lib.hid ((Only.below (P := fun i => i = pb) HB.out).trans ((Only.below HB2.out).trans (Only.set (P := fun i => i = pb) (w2.drewN nd) ⟨pb, 3, none⟩ (.int .i64 ix) rfl)))
      clear z0 y0 hQ1 hK1 HQ2 hB1 HB2
      generalize (w2.drewN nd).setCell ⟨pb, 3, none⟩ (.int .i64 ix) = w4 at hq3 HO3 ⊢
      have z0 := hq3.is.c3
      have HQ3 := Lib.hid hq3
      clear hq3
      go_wp2
      go_ret
      refine ⟨decide (1 ≤ ix), _, rfl, HQ3.out, HO3.out, fun e => ?_, fun e => ?_⟩
      · have h1 : 1 ≤ ix := of_decide_eq_true e
        have h2 := HR2.out
        rw [if_neg (by omega)] at h2
        exact h2.symm
      · have h1 : ¬ 1 ≤ ix := of_decide_eq_false e
        have h2 := HR2.out
        rw [if_pos (by omega)] at h2
        exact h2.symm
    have g1b : (xn.toList == [115, 104, 111, 119]) = false := by simpa using g1
    by_cases g2 : xn.toList = [115, 116, 97, 116, 117, 115]
    · have hr2 := HR.out
      rw [if_neg g1, if_pos g2] at hr2
      have HR2 := Lib.hid hr2
      have g2b : (xn.toList == [115, 116, 97, 116, 117, 115]) = true := by simpa using g2
      have z4 := HQ.out.is.c4
      have y4 := HQ.out.fz 4
      clear hr2 HR g1 g2
      go_wp2
      go_ret
      exact ⟨true, _, rfl, HQ.out.setStatus t, (Only.below HB.out).trans (Only.set (P := fun i => i = pb) _ ⟨pb, 4, none⟩ _ rfl), fun _ => HR2.out.symm, by simp⟩
    have g2b : (xn.toList == [115, 116, 97, 116, 117, 115]) = false := by simpa using g2
    by_cases g3 : xn.toList = [112, 114, 105, 111, 114, 105, 116, 121]
    · have hr2 := HR.out
      rw [if_neg g1, if_neg g2, if_pos g3] at hr2
      have HR2 := Lib.hid hr2
      have g3b : (xn.toList == [112, 114, 105, 111, 114, 105, 116, 121]) = true := by simpa using g3
      clear hr2 HR g1 g2 g3
      go_wp2_with fail
      refine (l7Read_any t hts _).mono ?_
      rintro e w2 ⟨m, bb, rfl, hnum, hb2⟩
      have hq2 := HQ.out.keep hb2
      have z5 := hq2.is.c5
      have y5 := hq2.fz 5
      have HQ2 := Lib.hid hq2
      have hrs := HR2.out
      rw [ByteArray.toList_eq, hnum] at hrs
      have HRS := Lib.hid hrs
      have HB2 := Lib.hid (HB.out.trans (hb2.mono HB.out.size))
      clear hq2 hrs HR2 hnum hb2 d3 d4
      go_wp2
      go_ret
      exact ⟨bb, _, rfl, HQ2.out.setPrio m, (Only.below HB2.out).trans (Only.set (P := fun i => i = pb) _ ⟨pb, 5, none⟩ _ rfl), fun e => by rw [← HRS.out, e]; rfl, fun e => by rw [← HRS.out, e]; rfl⟩
    have g3b : (xn.toList == [112, 114, 105, 111, 114, 105, 116, 121]) = false := by simpa using g3
    have hr2 := HR.out
    rw [if_neg g1, if_neg g2, if_neg g3] at hr2
    have HR2 := Lib.hid hr2
    clear hr2 HR g1 g2 g3
    go_wp2
    go_ret
    exact ⟨false, p, rfl, HQ.out, Only.below HB.out, by simp, fun _ => HR2.out.symm⟩
end Go.Proofs.YtjkmgpomcnplnaaGreatDoor
