/- spec.l7Part. -/
import Derived.Test.YticpebpicdboaaaGreatDoorGQ23
import Derived.Test.YticpebpicdboaaaGreatDoorGQ5
import Derived.Test.YticpebpicdboaaaGreatDoorGQ6
import Derived.Test.YticpebpicdboaaaGreatDoorGQ9
import Derived.Maps.AppendAt
import Derived.Test.YticpebpicdboaaaGreatDoorGQ15
namespace Go.Proofs.YticpebpicdboaaaGreatDoor
open Go.ChangeShapes Go.WideShapes Go.ChangeAt Go.RowKit
set_option linter.unusedVariables false

/-- what a part says is in the presence, or it is told that it can't be -/
def PartRes (w0 w : World) (pb : Nat) (a : Option Addr) (n c : Nat) (r : Option Pr) (e : Ending) (w' : World) : Prop :=
  ∃ (bb : Bool) (q : Pr), e = .returned (.bool bb) ∧ PrMut w0 w' pb q a n c ∧ Only (fun i => i = pb) w w' ∧ (bb = true → r = some q) ∧ (bb = false → r = none)
/-- the place of a show's word, and what is kept -/
theorem showPlace (w0 w : World) (pb : Nat) (p : Pr) (a : Option Addr) (n c : Nat) (h : PrMut w0 w pb p a n c) (t : ByteArray) :
    Calls Tryz.prog 88 #[] w fun e w' => ∃ v, e = .returned v ∧ PrMut w0 w' pb p a n c ∧ Below w.heap.size w w' ∧ ∀ W, Below w'.heap.size w' W → Calls Tryz.prog 161 #[v, .string t] W fun e W' => e = .returned (.int .i64 (hasIx showWs t)) ∧ ∃ n, W' = W.drewN n :=
  (l7Shows_row w).mono fun e w' ⟨he, hr, hb⟩ => ⟨_, he, h.keep hb, hb, fun W hW => l6Has_any _ showWs t W (hr.below hW)⟩
theorem showNm_list : showNm.toList = [115, 104, 111, 119] := by rw [ByteArray.toList_eq]; rfl
theorem statusNm_list : statusNm.toList = [115, 116, 97, 116, 117, 115] := by rw [ByteArray.toList_eq]; rfl
theorem prioNm_list : prioNm.toList = [112, 114, 105, 111, 114, 105, 116, 121] := by rw [ByteArray.toList_eq]; rfl

set_option maxRecDepth 100000 in
set_option maxHeartbeats 3200000 in
theorem l7Part_any (a : Option Addr) (n c k pb : Nat) (l : List It) (p : Pr) (a' : Option Addr) (n' c' : Nat) (w0 w : World) (hn : n ≤ 1048576) (hk : k < n) (hsz : ∀ i, i < n → (l.getD i dIt).text.size ≤ 1048576) (hts : (txtT (textL l k)).size ≤ maxLen) (hI : ItsAt w0 a n c l) (h : PrMut w0 w pb p a' n' c') :
    Calls Tryz.prog 162 #[.slice a n c, .int .i64 (k : Int), .pointer (some ⟨pb, 0, none⟩)] w (PartRes w0 w pb a' n' c' (partP l k p)) := by
  have KT := Lib.hid (specText_any a n c k l w hn hsz hk (hI.below h.below))
  obtain ⟨b, o, rfl, hat⟩ := hI.row.resolve_left (by omega)
  have hx := hat k hk
  obtain ⟨a4, n4, c4, d4, hat4⟩ := hx.c4
  have hlen := hat4.len
  have hlt : b < w0.heap.size := hx.lt
  have hge : w0.heap.size ≤ pb := h.ge
  have D : Hid (∀ W, Below w0.heap.size w0 W → W.cell? ⟨b, o + k * 5 + 3, none⟩ = some (.string (l.getD k dIt).name) ∧ W.cell? ⟨b, o + k * 5 + 4, none⟩ = some (.slice a4 n4 c4)) := Lib.hid fun W hW => ⟨(hW.cell (p := ⟨b, o + k * 5 + 3, none⟩) hlt).trans hx.c3, (hW.cell (p := ⟨b, o + k * 5 + 4, none⟩) hlt).trans d4⟩
  have H := Lib.hid h
  have hm4 : n4 ≤ 9223372036854775807 := hat4.max
  obtain ⟨r, hr⟩ : ∃ r, partP l k p = r := ⟨_, rfl⟩
  rw [hr]
  unfold partP at hr
  rw [showNm_list, statusNm_list, prioNm_list, hlen] at hr
  clear h hI hat hx d4 hat4 hlen hsz
  generalize l.getD k dIt = x at D hr
  generalize textL l k = tl at KT hr hts
  have q0 : (k : Int) < (n : Int) := by omega
  obtain ⟨xd, xt, xs, xn, xa⟩ := x
  dsimp only at D hr
  go_enter Tryz.func162, Tryz.ntmps162
  go_wp2_with fail
  refine KT.out.mono ?_
  rintro e w1 ⟨rfl, nd, rfl⟩
  have hbn : Below w.heap.size w (w.drewN nd) := below_drewN (Below.refl _ _) nd
  have hh := H.out.keep hbn
  clear KT H
  generalize w.drewN nd = w1 at hbn hh ⊢
  have HB := Lib.hid hbn
  have HQ := Lib.hid hh
  have dd := D.out w1 hh.below
  obtain ⟨d3, d4⟩ := dd
  clear hbn hh
  cases tl with
  | none =>
    have HR : Hid (r = none) := Lib.hid hr.symm
    clear hr
    unfold txtT at hts ⊢
    dsimp only [Option.isSome]
    go_wp2
    go_ret
    exact ⟨false, p, rfl, HQ.out, Only.below HB.out, by simp, fun _ => HR.out⟩
  | some t =>
    dsimp only [txtT, Option.isSome] at hts ⊢
    dsimp only at hr
    by_cases h4 : n4 = 0
    case neg =>
      rw [if_pos h4] at hr
      have HR : Hid (r = none) := Lib.hid hr.symm
      have q4 : ((n4 : Int) != 0) = true := by rw [bne_iff_ne]; omega
      have q5 : ((n4 : Int) == 0) = false := by rw [beq_eq_false_iff_ne]; omega
      clear hr
      go_wp2
      go_ret
      exact ⟨false, p, rfl, HQ.out, Only.below HB.out, by simp, fun _ => HR.out⟩
    subst h4
    rw [if_neg (by simp)] at hr
    have HR := Lib.hid hr
    clear hr
    by_cases g1 : xn.toList = [115, 104, 111, 119]
    · have hr2 := HR.out
      rw [if_pos g1] at hr2
      have HR2 := Lib.hid hr2
      have g1b : (xn.toList == [115, 104, 111, 119]) = true := by simpa using g1
      clear hr2 HR g1
      have KK := Lib.hid (showPlace w0 w1 pb p a' n' c' HQ.out t)
      generalize hasIx showWs t = ix at HR2 KK
      go_wp2_with fail
      refine KK.out.mono ?_
      rintro e w2 ⟨v, rfl, hq1, hb1, kh⟩
      have hK1 := Lib.hid kh
      have hQ1 := Lib.hid hq1
      have hB1 := Lib.hid hb1
      clear kh hq1 hb1 d3 d4
      go_wp2_with fail
      refine (hK1.out _ (Below.refl _ _)).mono ?_
      rintro e w3 ⟨rfl, nd, rfl⟩
      have hq2 := hQ1.out.keep (below_drewN (Below.refl _ _) nd)
      have z0 := hq2.is.c3
      have y0 := hq2.fz 3
      have hb2 := hB1.out.trans (below_drewN (Below.refl w2.heap.size w2) nd |>.mono hB1.out.size)
      have HQ2 := Lib.hid hq2
      have HB2 := Lib.hid hb2
      clear hq2 hb2
      go_upto_region 7 with fail
      have hq3 := HQ2.out.setShown ix
      have HO3 := Lib.hid ((Only.below (P := fun i => i = pb) HB.out).trans ((Only.below HB2.out).trans (Only.set (P := fun i => i = pb) (w2.drewN nd) ⟨pb, 3, none⟩ (.int .i64 ix) rfl)))
      clear z0 y0 hQ1 hK1 HQ2 hB1 HB2
      generalize (w2.drewN nd).setCell ⟨pb, 3, none⟩ (.int .i64 ix) = w4 at hq3 HO3 ⊢
      have z0 := hq3.is.c3
      have HQ3 := Lib.hid hq3
      clear hq3
      go_wp2
      go_ret
      refine ⟨decide (1 ≤ ix), _, rfl, HQ3.out, HO3.out, fun e => ?_, fun e => ?_⟩
      · have h1 : 1 ≤ ix := of_decide_eq_true e
        have h2 := HR2.out
        rw [if_neg (by omega)] at h2
        exact h2.symm
      · have h1 : ¬ 1 ≤ ix := of_decide_eq_false e
        have h2 := HR2.out
        rw [if_pos (by omega)] at h2
        exact h2.symm
    have g1b : (xn.toList == [115, 104, 111, 119]) = false := by simpa using g1
    by_cases g2 : xn.toList = [115, 116, 97, 116, 117, 115]
    · have hr2 := HR.out
      rw [if_neg g1, if_pos g2] at hr2
      have HR2 := Lib.hid hr2
      have g2b : (xn.toList == [115, 116, 97, 116, 117, 115]) = true := by simpa using g2
      have z4 := HQ.out.is.c4
      have y4 := HQ.out.fz 4
      clear hr2 HR g1 g2
      go_wp2
      go_ret
      exact ⟨true, _, rfl, HQ.out.setStatus t, (Only.below HB.out).trans (Only.set (P := fun i => i = pb) _ ⟨pb, 4, none⟩ _ rfl), fun _ => HR2.out.symm, by simp⟩
    have g2b : (xn.toList == [115, 116, 97, 116, 117, 115]) = false := by simpa using g2
    by_cases g3 : xn.toList = [112, 114, 105, 111, 114, 105, 116, 121]
    · have hr2 := HR.out
      rw [if_neg g1, if_neg g2, if_pos g3] at hr2
      have HR2 := Lib.hid hr2
      have g3b : (xn.toList == [112, 114, 105, 111, 114, 105, 116, 121]) = true := by simpa using g3
      clear hr2 HR g1 g2 g3
      go_wp2_with fail
      refine (l7Read_any t hts _).mono ?_
      rintro e w2 ⟨m, bb, rfl, hnum, hb2⟩
      have hq2 := HQ.out.keep hb2
      have z5 := hq2.is.c5
      have y5 := hq2.fz 5
      have HQ2 := Lib.hid hq2
      have hrs := HR2.out
      rw [ByteArray.toList_eq, hnum] at hrs
      have HRS := Lib.hid hrs
      have HB2 := Lib.hid (HB.out.trans (hb2.mono HB.out.size))
      clear hq2 hrs HR2 hnum hb2 d3 d4
      go_wp2
      go_ret
      exact ⟨bb, _, rfl, HQ2.out.setPrio m, (Only.below HB2.out).trans (Only.set (P := fun i => i = pb) _ ⟨pb, 5, none⟩ _ rfl), fun e => by rw [← HRS.out, e]; rfl, fun e => by rw [← HRS.out, e]; rfl⟩
    have g3b : (xn.toList == [112, 114, 105, 111, 114, 105, 116, 121]) = false := by simpa using g3
    have hr2 := HR.out
    rw [if_neg g1, if_neg g2, if_neg g3] at hr2
    have HR2 := Lib.hid hr2
    clear hr2 HR g1 g2 g3
    go_wp2
    go_ret
    exact ⟨false, p, rfl, HQ.out, Only.below HB.out, by simp, fun _ => HR2.out.symm⟩
end Go.Proofs.YticpebpicdboaaaGreatDoor

/- toAttrS, toItem, toItemS: the copy is of one's own, row by row. -/
namespace Go.Proofs.YticpebpicdboaaaGreatDoor
open Go.ChangeShapes Go.WideShapes Go.ChangeAt Go.RowKit
set_option linter.unusedVariables false

/-- a new slice of attributes of its own is handed back -/
def AtsOwn (w : World) (l : List At) (e : Ending) (w' : World) : Prop := ∃ a n c, e = .returned (.slice a n c) ∧ OwnAts w' w.heap.size w'.heap.size a n c l ∧ (a = none → c = 0) ∧ Below w.heap.size w w'
def ItOwn (w : World) (x : It) (e : Ending) (w' : World) : Prop := ∃ a n c, e = .returned (.agg #[.int .i64 x.depth, .string x.text, .string x.space, .string x.name, .slice a n c]) ∧ OwnAts w' w.heap.size w'.heap.size a n c x.attrs ∧ (a = none → c = 0) ∧ Below w.heap.size w w'
def ItsOwn (w : World) (l : List It) (e : Ending) (w' : World) : Prop := ∃ a n c, e = .returned (.slice a n c) ∧ OwnIts w' w.heap.size w'.heap.size a n c l ∧ Below w.heap.size w w'

set_option maxRecDepth 100000 in
set_option maxHeartbeats 1600000 in
theorem toAttrS_own (a : Option Addr) (n c : Nat) (l : List At) (w : World) (hn : l.length ≤ 1048576) (h : AtsAt w a n c l) :
    Calls Tryz.prog 220 #[.slice a n c] w (AtsOwn w l) := by
  obtain ⟨i0, hi, hz0, hz1, hz2⟩ := info_parts attrInfo
  have HR := Lib.hid h.row
  have HS := Lib.hid h.size
  have HL := Lib.hid h.len
  have hn' : n ≤ 1048576 := by have := h.len; omega
  clear h hn
  go_enter Tryz.func220, Tryz.ntmps220
  go_wp2_with (at_make; refine wpList_make_full _ rfl _ _ 72 rfl w.heap.size 75 i0 _ 2 Tryz.underlying72 hi hz0 hz1 .i64 .i64 (n : Int) (n : Int) n rfl rfl rfl rfl ?c1 ?c2 ?c3 ?_)
  case c1 => rw [hz2]; omega
  case c2 => unfold maxLen; omega
  case c3 => exact Nat.le_refl _
  intro w1 ho1 hg1
  have HRoom := Lib.hid (room_made ho1)
  have HB1 := Lib.hid (below_made hg1)
  clear ho1 hg1
  go_wp2
  go_loopw [4] (fun i wr => ∃ j : Nat, j ≤ n ∧ i = .int .i64 j ∧ Room wr w.heap.size (n * 2) ∧ (∀ i, i < j → wr.cell? ⟨w.heap.size, i * 2, none⟩ = some (.string (l.getD i dAt).name) ∧ wr.cell? ⟨w.heap.size, i * 2 + 1, none⟩ = some (.string (l.getD i dAt).value)) ∧ Below w.heap.size w wr) (fun i _ => n - (intOf i).toNat)
  case atStart => exact ⟨0, Nat.zero_le _, rfl, HRoom.out, fun i hi => by omega, HB1.out⟩
  case round =>
    obtain ⟨j, hj, rfl, hroom, hdone, hb⟩ := hrel
    by_cases hlt : j < n
    · rcases HR.out with h0 | ⟨b, o, rfl, h3, h4⟩
      · omega
      · have d0 : wr.cell? ⟨b, o + j * 2, none⟩ = some (.string (l.getD j dAt).name) := (hb.cell (by exact h3)).trans (h4 j hlt).1
        have d1 : wr.cell? ⟨b, o + j * 2 + 1, none⟩ = some (.string (l.getD j dAt).value) := (hb.cell (by exact h3)).trans (h4 j hlt).2
        have HX := Lib.hid (show ∃ x, x = l.getD j dAt from ⟨_, rfl⟩)
        obtain ⟨s, hs⟩ : ∃ s, (l.getD j dAt).name = s := ⟨_, rfl⟩
        obtain ⟨t, ht⟩ : ∃ t, (l.getD j dAt).value = t := ⟨_, rfl⟩
        rw [hs] at d0
        rw [ht] at d1
        have HS1 := Lib.hid hs
        have HT1 := Lib.hid ht
        have HROOM := Lib.hid hroom
        have HDONE := Lib.hid hdone
        have HB := Lib.hid hb
        clear hs ht h4 hroom hdone hb
        go_wp2_with fail
        refine (toAttr_any s t _).mono ?_
        rintro e w2 ⟨rfl, hb2⟩
        have hr2 := HROOM.out.below hb2
        obtain ⟨⟨v0, q0⟩, f0⟩ := hr2.2 (j * 2) (by omega)
        obtain ⟨⟨v1, q1⟩, f1⟩ := hr2.2 (j * 2 + 1) (by omega)
        have HR2 := Lib.hid hr2
        have HB2 := Lib.hid hb2
        clear hr2 hb2 d0 d1
        go_wp2
        go_roundw
        case rel =>
          exact ⟨j + 1, by omega, by go_num, (HR2.out.set _ _).set _ _, ats_step HR2.out hlt HS1.out HT1.out (fun i hi => ⟨(HB2.out.cell (p := ⟨w.heap.size, i * 2, none⟩) HROOM.out.1).trans (HDONE.out i hi).1, (HB2.out.cell (p := ⟨w.heap.size, i * 2 + 1, none⟩) HROOM.out.1).trans (HDONE.out i hi).2⟩),
            ((HB.out.trans (HB2.out.mono HB.out.size)).setCell (p := ⟨w.heap.size, j * 2, none⟩) (Nat.le_refl _) _).setCell (p := ⟨w.heap.size, j * 2 + 1, none⟩) (Nat.le_refl _) _⟩
        case measure => simp [intOf]; omega
    · obtain rfl : j = n := by omega
      have HROOM := Lib.hid hroom
      have HDONE := Lib.hid hdone
      have HB := Lib.hid hb
      clear hroom hdone hb
      go_wp2
      go_ret
      exact ⟨_, _, _, rfl, ⟨⟨HL.out, by omega, HS.out, .inr ⟨w.heap.size, 0, rfl, HROOM.out.1, fun i hi => by rw [Nat.zero_add]; exact HDONE.out i hi⟩⟩, .inr ⟨w.heap.size, rfl, Nat.le_refl _, HROOM.out.1, HROOM.out⟩⟩, (fun e => by cases e), HB.out⟩

set_option maxHeartbeats 800000 in
theorem toItem_own (x : It) (a : Option Addr) (n c : Nat) (w : World) (hn : x.attrs.length ≤ 1048576) (h : AtsAt w a n c x.attrs) :
    Calls Tryz.prog 129 #[.agg #[.int .i64 x.depth, .string x.text, .string x.space, .string x.name, .slice a n c]] w (ItOwn w x) := by
  obtain ⟨d, s, t, u, l⟩ := x
  dsimp only at hn h ⊢
  have K := Lib.hid (fun W (hb : Below w.heap.size w W) => toAttrS_own a n c l W hn (h.below hb))
  clear h
  go_enter Tryz.func129, Tryz.ntmps129
  go_wp2_with fail
  refine (K.out _ (below3 _ _ _ _)).mono ?_
  rintro e w1 ⟨a1, n1, c1, rfl, hat, hnil, hb⟩
  have HNIL := Lib.hid hnil
  clear hnil
  obtain ⟨hc, hf⟩ := bcell hb
  have hz : w.heap.size + 2 < w1.heap.size := by have := hb.size; simp at this; omega
  have HAT := Lib.hid hat
  have HB := Lib.hid hb
  clear hat hb
  go_wp2
  refine bodyPost_ret (v := .agg #[.int .i64 d, .string s, .string t, .string u, .slice a1 n1 c1]) (by simp [results, Tryz.results129, go_sem, hc]) rfl ⟨_, _, _, rfl, ?_, HNIL.out, ?_⟩
  · have hs : ∀ y, a1 = some y → n1 ≠ 0 → w.heap.size + 2 < y.block := fun y hy hne => by
      obtain ⟨b, hb, h1, _, _⟩ := HAT.out.own.resolve_left hne
      rw [hy] at hb
      cases hb
      simp at h1
      show w.heap.size + 2 < b
      omega
    have st : ∀ (W : World) (p : Addr) (v : Value), p.block ≤ w.heap.size + 2 → OwnAts W w.heap.size w1.heap.size a1 n1 c1 l → OwnAts (W.setCell p v) w.heap.size w1.heap.size a1 n1 c1 l := fun W p v hp h =>
      h.only (Only.set (P := fun i => i ≤ w.heap.size + 2) W p v hp) fun y hy hne hle => by have := hs y hy hne; omega
    have h0 : OwnAts w1 w.heap.size w1.heap.size a1 n1 c1 l := ⟨HAT.out.ats, HAT.out.own.imp id fun ⟨b, h1, h2, h3, h4⟩ => ⟨b, h1, by simp at h2; omega, h3, h4⟩⟩
    have := st _ ⟨w.heap.size + 1, 4, none⟩ (.slice a1 n1 c1) (by show w.heap.size + 1 ≤ _; omega) (st _ ⟨w.heap.size + 1, 3, none⟩ (.string u) (by show w.heap.size + 1 ≤ _; omega) (st _ ⟨w.heap.size + 1, 2, none⟩ (.string t) (by show w.heap.size + 1 ≤ _; omega) (st _ ⟨w.heap.size + 1, 1, none⟩ (.string s) (by show w.heap.size + 1 ≤ _; omega) (st _ ⟨w.heap.size + 1, 0, none⟩ (.int .i64 d) (by show w.heap.size + 1 ≤ _; omega) (st _ ⟨w.heap.size + 1 + 1, 4, none⟩ (.slice a1 n1 c1) (by show w.heap.size + 1 + 1 ≤ _; omega) h0)))))
    simpa using this
  · have hb := below_then (below3 _ _ _ _) HB.out
    exact (((((hb.setCell (by simp; omega) _).setCell (by simp) _).setCell (by simp) _).setCell (by simp) _).setCell (by simp) _).setCell (by simp) _

set_option maxRecDepth 100000 in
set_option maxHeartbeats 1600000 in
theorem toItemS_own (a : Option Addr) (n c : Nat) (l : List It) (w : World) (hn : SmallIts l) (h : ItsAt w a n c l) :
    Calls Tryz.prog 59 #[.slice a n c] w (ItsOwn w l) := by
  obtain ⟨i0, hi, hz0, hz1, hz2⟩ := info_parts itemInfo
  have HR := Lib.hid h.row
  have HL := Lib.hid h.len
  have hn' : n ≤ 1048576 := by have := h.len; have := hn.1; omega
  have HN := Lib.hid (fun i hi => (hn.2 i hi).2.1)
  have HIT : Hid (∀ i, i < n → (-9223372036854775808 ≤ (l.getD i dIt).depth ∧ (l.getD i dIt).depth ≤ 9223372036854775807) ∧ ((l.getD i dIt).text.size ≤ 9223372036854775807 ∧ (l.getD i dIt).space.size ≤ 9223372036854775807 ∧ (l.getD i dIt).name.size ≤ 9223372036854775807)) := Lib.hid fun i hi => by
    obtain ⟨b, o, _, h4⟩ := h.row.resolve_left (by omega)
    exact ⟨(h4 i hi).wf, (h4 i hi).size⟩
  clear h hn
  go_enter Tryz.func59, Tryz.ntmps59
  go_wp2_with (at_make; refine wpList_make_full _ rfl _ _ 24 rfl w.heap.size 77 i0 _ 5 Tryz.underlying24 hi hz0 hz1 .i64 .i64 (n : Int) (n : Int) n rfl rfl rfl rfl ?c1 ?c2 ?c3 ?_)
  case c1 => rw [hz2]; omega
  case c2 => unfold maxLen; omega
  case c3 => exact Nat.le_refl _
  intro w1 ho1 hg1
  have HRoom := Lib.hid (room_made ho1)
  have HB1 := Lib.hid (below_made hg1)
  clear ho1 hg1
  go_wp2
  go_loopw [4] (fun i wr => ∃ j : Nat, j ≤ n ∧ i = .int .i64 j ∧ Room wr w.heap.size (n * 5) ∧ (∃ (A : Nat → Option Addr) (N C : Nat → Nat), (∀ i, i < j → OwnAt wr w.heap.size wr.heap.size w.heap.size i (l.getD i dIt) (A i) (N i) (C i)) ∧ (∀ i, i < j → ∀ x, A i = some x → N i ≠ 0 → w.heap.size < x.block) ∧ (∀ i i2, i < j → i2 < j → i ≠ i2 → ∀ x y, A i = some x → A i2 = some y → N i ≠ 0 → N i2 ≠ 0 → x.block ≠ y.block)) ∧ Below w.heap.size w wr) (fun i _ => n - (intOf i).toNat)
  case atStart => exact ⟨0, Nat.zero_le _, rfl, HRoom.out, ⟨fun _ => none, fun _ => 0, fun _ => 0, fun i hi => by omega, fun i hi => by omega, fun i i2 hi => by omega⟩, HB1.out⟩
  case round =>
    obtain ⟨j, hj, rfl, hroom, hdone, hb⟩ := hrel
    by_cases hlt : j < n
    · rcases HR.out with h0 | ⟨b, o, rfl, h4⟩
      · omega
      · have hi4 := (h4 j hlt).below hb
        have d0 := hi4.c0
        have d1 := hi4.c1
        have d2 := hi4.c2
        have d3 := hi4.c3
        obtain ⟨a4, n4, c4, d4, hat4⟩ := hi4.c4
        have K := Lib.hid (fun W => toItem_own (l.getD j dIt) a4 n4 c4 W (HN.out j (by have := HL.out; omega)))
        have HWF := Lib.hid hi4.wf
        have HSZ := Lib.hid hi4.size
        have HAT4 := Lib.hid hat4
        obtain ⟨x, hx⟩ : ∃ x, l.getD j dIt = x := ⟨_, rfl⟩
        rw [hx] at d0 d1 d2 d3 K HWF HSZ HAT4
        have HX := Lib.hid hx
        have HROOM := Lib.hid hroom
        have HDONE := Lib.hid hdone
        have HB := Lib.hid hb
        obtain ⟨xd, xt, xs, xn, xa⟩ := x
        dsimp only at d0 d1 d2 d3 K HWF HSZ HAT4
        clear hx hi4 hat4 h4 hroom hdone hb
        go_wp2_with fail
        refine (K.out _ HAT4.out).mono ?_
        rintro e w2 ⟨a5, n5, c5, rfl, hat5, hnil5, hb2⟩
        have HNIL := Lib.hid hnil5
        clear hnil5
        have hr2 := HROOM.out.below hb2
        obtain ⟨⟨v0, q0⟩, f0⟩ := hr2.2 (j * 5) (by omega)
        obtain ⟨⟨v1, q1⟩, f1⟩ := hr2.2 (j * 5 + 1) (by omega)
        obtain ⟨⟨v2, q2⟩, f2⟩ := hr2.2 (j * 5 + 2) (by omega)
        obtain ⟨⟨v3, q3⟩, f3⟩ := hr2.2 (j * 5 + 3) (by omega)
        obtain ⟨⟨v4, q4⟩, f4⟩ := hr2.2 (j * 5 + 4) (by omega)
        have HR2 := Lib.hid hr2
        have HB2 := Lib.hid hb2
        have HAT5 := Lib.hid hat5
        clear hr2 hb2 hat5 d0 d1 d2 d3 d4
        go_wp2
        go_roundw
        case rel =>
          have hb3 := HB.out.trans (HB2.out.mono HB.out.size)
          obtain ⟨A, N, C, hown, hlow, hap⟩ := HDONE.out
          have hwr := HROOM.out.1
          have hsz2 : wr.heap.size ≤ w2.heap.size := HB2.out.size
          have hnew : ∀ y, a5 = some y → n5 ≠ 0 → wr.heap.size ≤ y.block ∧ y.block < w2.heap.size := fun y hy hne => by
            obtain ⟨b5, e5, g1, g2, _⟩ := HAT5.out.own.resolve_left hne
            rw [hy] at e5
            cases e5
            exact ⟨g1, g2⟩
          have hold : ∀ i, i < j → ∀ y, A i = some y → N i ≠ 0 → w.heap.size < y.block ∧ y.block < wr.heap.size := fun i hi y hy hne => by
            obtain ⟨b5, e5, g1, g2, _⟩ := (hown i hi).2.own.resolve_left hne
            have g3 := hlow i hi y hy hne
            rw [hy] at e5
            cases e5
            exact ⟨g3, g2⟩
          have sets : ∀ (W : World) (m : Nat) (v : Value), Only (fun i => i = w.heap.size) W (W.setCell ⟨w.heap.size, m, none⟩ v) := fun W m v => Only.set W _ v rfl
          have ho : ∀ (v0 v1 v2 v3 v4 : Value), Only (fun i => i = w.heap.size) w2 (((((w2.setCell ⟨w.heap.size, j * 5, none⟩ v0).setCell ⟨w.heap.size, j * 5 + 1, none⟩ v1).setCell ⟨w.heap.size, j * 5 + 2, none⟩ v2).setCell ⟨w.heap.size, j * 5 + 3, none⟩ v3).setCell ⟨w.heap.size, j * 5 + 4, none⟩ v4) := fun v0 v1 v2 v3 v4 =>
            ((((sets _ _ _).trans (sets _ _ _)).trans (sets _ _ _)).trans (sets _ _ _)).trans (sets _ _ _)
          have r0 := HR2.out
          have r1 := r0.set ⟨w.heap.size, j * 5, none⟩ (.int .i64 xd)
          have r2 := r1.set ⟨w.heap.size, j * 5 + 1, none⟩ (.string xt)
          have r3 := r2.set ⟨w.heap.size, j * 5 + 2, none⟩ (.string xs)
          have r4 := r3.set ⟨w.heap.size, j * 5 + 3, none⟩ (.string xn)
          refine ⟨j + 1, by omega, by go_num, r4.set _ _, ⟨fun i => if i = j then a5 else A i, fun i => if i = j then n5 else N i, fun i => if i = j then c5 else C i, fun i hi => ?_, fun i hi x hx hne => ?_, fun i i2 hi hi2 hne x y hx hy hnx hny => ?_⟩, ?_⟩
          · by_cases e : i = j
            · subst e
              simp only [if_true]
              rw [HX.out]
              refine ⟨⟨?_, ?_, ?_, ?_, ?_, HNIL.out⟩, ?_⟩
              · rw [set_off (by omega), set_off (by omega), set_off (by omega), set_off (by omega)]; exact r0.put (by omega) _
              · rw [set_off (by omega), set_off (by omega), set_off (by omega)]; exact r1.put (by omega) _
              · rw [set_off (by omega), set_off (by omega)]; exact r2.put (by omega) _
              · rw [set_off (by omega)]; exact r3.put (by omega) _
              · exact r4.put (by omega) _
              · have h5 : OwnAts w2 w.heap.size w2.heap.size a5 n5 c5 xa := ⟨HAT5.out.ats, HAT5.out.own.imp id fun ⟨b5, h1, h2, h3, h4⟩ => ⟨b5, h1, by omega, h3, h4⟩⟩
                have := h5.only (ho (.int .i64 xd) (.string xt) (.string xs) (.string xn) (.slice a5 n5 c5)) fun y hy hne hq => by have := hnew y hy hne; omega
                simpa using this
            · simp only [if_neg e]
              have hij : i < j := by omega
              have h6 := hown i hij
              refine ⟨((((((h6.1.below hwr HB2.out).set (by omega)).set (by omega)).set (by omega)).set (by omega)).set (by omega)), ?_⟩
              have h7 : OwnAts w2 w.heap.size w2.heap.size (A i) (N i) (C i) (l.getD i dIt).attrs := by
                have h8 := h6.2.only (Only.below (P := fun _ => False) HB2.out) fun _ _ _ h => h
                exact ⟨h8.ats, h8.own.imp id fun ⟨b5, h1, h2, h3, h4⟩ => ⟨b5, h1, h2, by omega, h4⟩⟩
              have := h7.only (ho (.int .i64 xd) (.string xt) (.string xs) (.string xn) (.slice a5 n5 c5)) fun y hy hne hq => by have := hold i hij y hy hne; omega
              simpa using this
          · by_cases e : i = j
            · simp only [if_pos e] at hx hne
              have := hnew x hx hne
              omega
            · simp only [if_neg e] at hx hne
              exact hlow i (by omega) x hx hne
          · by_cases e : i = j
            · have e2 : i2 ≠ j := fun e2 => hne (e.trans e2.symm)
              simp only [if_pos e] at hx hnx
              simp only [if_neg e2] at hy hny
              have g1 := hnew x hx hnx
              have g2 := hold i2 (by omega) y hy hny
              omega
            · simp only [if_neg e] at hx hnx
              by_cases e2 : i2 = j
              · simp only [if_pos e2] at hy hny
                have g1 := hnew y hy hny
                have g2 := hold i (by omega) x hx hnx
                omega
              · simp only [if_neg e2] at hy hny
                exact hap i i2 (by omega) (by omega) hne x y hx hy hnx hny
          · exact ((((hb3.setCell (Nat.le_refl _) _).setCell (Nat.le_refl _) _).setCell (Nat.le_refl _) _).setCell (Nat.le_refl _) _).setCell (Nat.le_refl _) _
        case measure => simp [intOf]; omega
    · obtain rfl : j = n := by omega
      have HROOM := Lib.hid hroom
      have HDONE := Lib.hid hdone
      have HB := Lib.hid hb
      clear hroom hdone hb
      go_wp2
      go_ret
      obtain ⟨A, N, C, hown, hlow, hap⟩ := HDONE.out
      exact ⟨_, _, _, rfl, ⟨HL.out, hn', HIT.out, .inr ⟨w.heap.size, A, N, C, rfl, Nat.le_refl _, HROOM.out.1, HROOM.out, hown, fun i hi x hx hne => by have := hlow i hi x hx hne; omega, hap⟩⟩, HB.out⟩
end Go.Proofs.YticpebpicdboaaaGreatDoor

/- spec.l4Item, spec.l4Moved, spec.l4All. -/
namespace Go.Proofs.YticpebpicdboaaaGreatDoor
open Go.ChangeShapes Go.WideShapes Go.ChangeAt Go.RowKit
set_option linter.unusedVariables false

set_option maxRecDepth 100000 in
set_option maxHeartbeats 1600000 in
theorem specItem_any (b o : Nat) (x : It) (by_ : Int) (w : World) (hd : -1000 ≤ x.depth ∧ x.depth ≤ 1000) (hby : -1000 ≤ by_ ∧ by_ ≤ 1000) (hn : x.attrs.length ≤ 1048576) (a4 : Option Addr) (n c4 : Nat) (hc4 : w.cell? ⟨b, o + 4, none⟩ = some (.slice a4 n c4)) (hnil : a4 = none → c4 = 0) (hat : AtsAt w a4 n c4 x.attrs) (h : ItAt w b o x) :
    Calls Tryz.prog 232 #[.pointer (some ⟨b, o, none⟩), .int .i64 by_] w (ItOwn w ⟨x.depth + by_, x.text, x.space, x.name, x.attrs⟩) := by
  obtain ⟨i0, hi, hz0, hz1, hz2⟩ := info_parts attrInfo
  have d0 := h.c0
  have d1 := h.c1
  have d2 := h.c2
  have d3 := h.c3
  have d4 := hc4
  have hlt := h.lt
  obtain ⟨d, s, t, u, l⟩ := x
  dsimp only at hd hn d0 d1 d2 d3 hat ⊢
  have HAT := Lib.hid hat
  have hn' : n ≤ 1048576 := by have := hat.len; omega
  have HL := Lib.hid hat.len
  clear h hat hc4
  have hb1 : b < w.heap.size + 1 := by omega
  have hb2 : b < w.heap.size + 1 + 1 := by omega
  cases a4 with
  | none =>
    obtain rfl : n = 0 := by
      rcases HAT.out.row with e | ⟨b5, o5, e5, _⟩
      · exact e
      · cases e5
    obtain rfl : c4 = 0 := hnil rfl
    obtain rfl : l = [] := List.length_eq_zero_iff.1 HL.out
    clear hnil
    go_enter Tryz.func232, Tryz.ntmps232
    go_wp2
    exact bodyPost_ret (v := .agg #[.int .i64 (d + by_), .string s, .string t, .string u, .slice (some ⟨w.heap.size + 1 + 1, 0, none⟩) 0 0]) (by simp [results, Tryz.results232, go_sem]) rfl
      ⟨_, _, _, rfl, ⟨⟨rfl, by omega, (fun i => by simp [dAt]), .inl rfl⟩, .inl rfl⟩, (fun e => by cases e), below3 _ _ _ _⟩
  | some ad =>
    go_enter Tryz.func232, Tryz.ntmps232
    go_wp2_with (at_builtin; refine wpList_append_own_at _ rfl _ _ 72 rfl w.heap.size 75 i0 _ 2 32 Tryz.underlying72 hi hz0 hz1 hz2 rfl (by decide) _ 0 [] rfl ?c0 ad n c4 (flatA l) rfl ?c6 ?c1 ?c2 ?c3 ?c4 ?c5 ?_)
    case c0 => exact lit_behind2 w _ _
    case c6 => rw [flatA_length, HL.out]
    case c1 => exact (HAT.out.below (below3 _ _ _ _)).flat
    case c2 => exact flatA_one l
    case c3 => unfold maxLen; omega
    case c4 => omega
    case c5 => simp; omega
    intro v' w1 hown hgrow hnn hblk
    obtain ⟨a', c', rfl⟩ := owns_slice hown
    have HBLK := Lib.hid hblk
    have HNN := Lib.hid hnn
    clear hblk hnn
    have HOWN := Lib.hid hown
    have hon := Only.grown hgrow
    have HON := Lib.hid hon
    have p00 : w1.cell? ⟨w.heap.size, 0, none⟩ = some (.int .i64 0) := (hon.cell (p := ⟨w.heap.size, 0, none⟩) (by simp; omega) (by simp [Value.ownBlock]; omega)).trans (by go_simp)
    have p10 : w1.cell? ⟨w.heap.size + 1, 0, none⟩ = some (.int .i64 (d + by_)) := (hon.cell (p := ⟨w.heap.size + 1, 0, none⟩) (by simp) (by simp [Value.ownBlock])).trans (by go_simp)
    have f00 : w1.frozen? ⟨w.heap.size, 0, none⟩ = false := (hon.frozen (p := ⟨w.heap.size, 0, none⟩) (by simp; omega) (by simp [Value.ownBlock]; omega)).trans (by go_simp)
    have p01 : w1.cell? ⟨w.heap.size, 1, none⟩ = some (.string { data := #[] }) := (hon.cell (p := ⟨w.heap.size, 1, none⟩) (by simp; omega) (by simp [Value.ownBlock]; omega)).trans (by go_simp)
    have p11 : w1.cell? ⟨w.heap.size + 1, 1, none⟩ = some (.string s) := (hon.cell (p := ⟨w.heap.size + 1, 1, none⟩) (by simp) (by simp [Value.ownBlock])).trans (by go_simp)
    have f01 : w1.frozen? ⟨w.heap.size, 1, none⟩ = false := (hon.frozen (p := ⟨w.heap.size, 1, none⟩) (by simp; omega) (by simp [Value.ownBlock]; omega)).trans (by go_simp)
    have p02 : w1.cell? ⟨w.heap.size, 2, none⟩ = some (.string { data := #[] }) := (hon.cell (p := ⟨w.heap.size, 2, none⟩) (by simp; omega) (by simp [Value.ownBlock]; omega)).trans (by go_simp)
    have p12 : w1.cell? ⟨w.heap.size + 1, 2, none⟩ = some (.string t) := (hon.cell (p := ⟨w.heap.size + 1, 2, none⟩) (by simp) (by simp [Value.ownBlock])).trans (by go_simp)
    have f02 : w1.frozen? ⟨w.heap.size, 2, none⟩ = false := (hon.frozen (p := ⟨w.heap.size, 2, none⟩) (by simp; omega) (by simp [Value.ownBlock]; omega)).trans (by go_simp)
    have p03 : w1.cell? ⟨w.heap.size, 3, none⟩ = some (.string { data := #[] }) := (hon.cell (p := ⟨w.heap.size, 3, none⟩) (by simp; omega) (by simp [Value.ownBlock]; omega)).trans (by go_simp)
    have p13 : w1.cell? ⟨w.heap.size + 1, 3, none⟩ = some (.string u) := (hon.cell (p := ⟨w.heap.size + 1, 3, none⟩) (by simp) (by simp [Value.ownBlock])).trans (by go_simp)
    have f03 : w1.frozen? ⟨w.heap.size, 3, none⟩ = false := (hon.frozen (p := ⟨w.heap.size, 3, none⟩) (by simp; omega) (by simp [Value.ownBlock]; omega)).trans (by go_simp)
    have p04 : w1.cell? ⟨w.heap.size, 4, none⟩ = some (.slice none 0 0) := (hon.cell (p := ⟨w.heap.size, 4, none⟩) (by simp; omega) (by simp [Value.ownBlock]; omega)).trans (by go_simp)
    have p14 : w1.cell? ⟨w.heap.size + 1, 4, none⟩ = some (.slice (some ad) n c4) := (hon.cell (p := ⟨w.heap.size + 1, 4, none⟩) (by simp) (by simp [Value.ownBlock])).trans (by go_simp)
    have f04 : w1.frozen? ⟨w.heap.size, 4, none⟩ = false := (hon.frozen (p := ⟨w.heap.size, 4, none⟩) (by simp; omega) (by simp [Value.ownBlock]; omega)).trans (by go_simp)
    have f14 : w1.frozen? ⟨w.heap.size + 1, 4, none⟩ = false := (hon.frozen (p := ⟨w.heap.size + 1, 4, none⟩) (by simp) (by simp [Value.ownBlock])).trans (by go_simp)
    clear hown hgrow hon
    go_wp2
    refine bodyPost_ret (v := .agg #[.int .i64 (d + by_), .string s, .string t, .string u, .slice a' n c']) (by simp [results, Tryz.results232, go_sem, p00, p01, p02, p03, p04]) rfl ⟨_, _, _, rfl, ?_, ?_, ?_⟩
    · have hz : w.heap.size + 2 < w1.heap.size := by have := HON.out.size; simp at this; omega
      have h0 : OwnAts w1 w.heap.size w1.heap.size a' n c' l := ownAts_of HOWN.out (by omega) HAT.out.size
      have hap : ∀ y, a' = some y → n ≠ 0 → ¬ (y.block = w.heap.size ∨ y.block = w.heap.size + 1) := fun y hy hne hq => by
        subst hy
        have := HBLK.out
        simp [Value.ownBlock] at this
        omega
      have st : ∀ (W : World) (p : Addr) (v : Value), (p.block = w.heap.size ∨ p.block = w.heap.size + 1) → OwnAts W w.heap.size w1.heap.size a' n c' l → OwnAts (W.setCell p v) w.heap.size w1.heap.size a' n c' l := fun W p v hp h =>
        h.only (Only.set (P := fun i => i = w.heap.size ∨ i = w.heap.size + 1) W p v hp) hap
      have := st _ ⟨w.heap.size, 4, none⟩ (.slice a' n c') (.inl rfl) (st _ ⟨w.heap.size, 3, none⟩ (.string u) (.inl rfl) (st _ ⟨w.heap.size, 2, none⟩ (.string t) (.inl rfl) (st _ ⟨w.heap.size, 1, none⟩ (.string s) (.inl rfl) (st _ ⟨w.heap.size, 0, none⟩ (.int .i64 (d + by_)) (.inl rfl) (st _ ⟨w.heap.size + 1, 4, none⟩ (.slice a' n c') (.inr rfl) h0)))))
      simpa using this
    · intro e
      subst e
      have := HBLK.out
      simp [Value.ownBlock] at this
    · have hb : Below w.heap.size w w1 := (below3 _ _ _ _).trans ⟨HON.out.os, HON.out.tape, HON.out.output, HON.out.size, fun i hi => HON.out.block i (by simp; omega) (by simp [Value.ownBlock]; omega)⟩
      exact (((((hb.setCell (by simp) _).setCell (by simp) _).setCell (by simp) _).setCell (by simp) _).setCell (by simp) _).setCell (by simp) _

/-- a new slice of items of its own, at some address -/
def ItsOwnS (w : World) (l : List It) (e : Ending) (w' : World) : Prop := ∃ x n c, e = .returned (.slice (some x) n c) ∧ OwnIts w' w.heap.size w'.heap.size (some x) n c l ∧ Below w.heap.size w w'
theorem owns_some {w : World} {base : Nat} {e : TypeId} {size n c : Nat} {a : Option Addr} {xs : List Value} (h : w.ownsRow base e size (.slice a n c) n xs) (hn : n ≠ 0) : ∃ x, a = some x := by
  rcases h.2 with ⟨_, h0⟩ | ⟨g, cap, cur, hv, _⟩
  · exact absurd h0 hn
  · simp only [Value.slice.injEq] at hv
    exact ⟨_, hv.1⟩
set_option maxRecDepth 100000 in
set_option maxHeartbeats 3200000 in
theorem specMoved_any (lo hi : Nat) (a : Option Addr) (n c f e : Nat) (by_ : Int) (l : List It) (w : World) (hd : ∀ i, i < n → -1000 ≤ (l.getD i dIt).depth ∧ (l.getD i dIt).depth ≤ 1000) (hby : -1000 ≤ by_ ∧ by_ ≤ 1000) (hA : ∀ i, i < n → (l.getD i dIt).attrs.length ≤ 1048576)
    (hf : f ≤ e) (he : e ≤ n) (h : OwnIts w lo hi a n c l) :
    Calls Tryz.prog 153 #[.slice a n c, .int .i64 f, .int .i64 e, .int .i64 by_] w (ItsOwnS w (movedTo l f e by_)) := by
  obtain ⟨i0, hi0, hz0, hz1, hz2⟩ := info_parts itemInfo
  have hm := h.max
  have HD := Lib.hid hd
  have HA := Lib.hid hA
  have HR := Lib.hid h.row
  have HIT := Lib.hid h.it
  clear h hd hA
  go_enter Tryz.func153, Tryz.ntmps153
  go_wp2
  go_loopw [9, 10] (fun v i wr => ∃ (k : Nat) (av : Option Addr) (nv cv : Nat) (A : Nat → Option Addr) (N C : Nat → Nat), f ≤ k ∧ k ≤ e ∧ i = .int .i64 k ∧ v = .slice av nv cv ∧ (∃ x, av = some x) ∧ GrowIts wr w.heap.size (.slice av nv cv) nv (movedTo l f k by_) A N C ∧ Below w.heap.size w wr) (fun _ i _ => e - (intOf i).toNat)
  case atStart =>
    refine ⟨f, some ⟨w.heap.size, 0, none⟩, 0, 0, fun _ => none, fun _ => 0, fun _ => 0, Nat.le_refl _, hf, rfl, rfl, ⟨_, rfl⟩, ?_, below1 _ _⟩
    have h0 : movedTo l f f by_ = [] := by simp [movedTo]
    rw [h0]
    exact ⟨lit_item w, fun i hi => by simp at hi, fun i hi => by simp at hi, fun i j hi => by simp at hi⟩
  case round =>
    obtain ⟨k, av, nv, cv, A, N, C, hk1, hk2, rfl, rfl, hsome, hg, hb⟩ := hrel
    have HG := Lib.hid hg
    have HB := Lib.hid hb
    have hnv : nv ≤ 1048576 := by have := hg.len; rw [movedTo_length] at this; omega
    clear hg hb
    by_cases hlt : k < e
    · obtain ⟨b, A2, N2, C2, rfl, hlo, hhi, hroom, hcs, _, _⟩ := HR.out.resolve_left (by omega)
      have hown := hcs k (by omega)
      have hbb := hroom.1
      have hit := HIT.out k (by omega)
      have hcell := hown.1.below hbb HB.out
      have hats := hown.2.ats.below HB.out
      have hI : ItAt wr b (k * 5) (l.getD k dIt) := ⟨Nat.lt_of_lt_of_le hbb HB.out.size, hit.1, hit.2, hcell.c0, hcell.c1, hcell.c2, hcell.c3, _, _, _, hcell.c4, hats⟩
      have K := Lib.hid (specItem_any b (k * 5) (l.getD k dIt) by_ wr (HD.out k (by omega)) hby (HA.out k (by omega)) _ _ _ hcell.c4 hcell.nil hats hI)
      have HST := Lib.hid (movedTo_step l hk1 by_)
      have q0 : (k : Int) < (n : Int) := by omega
      clear hroom hcs hown hit hcell hats hI
      generalize l.getD k dIt = x at K HST
      obtain ⟨xd, xt, xs, xn, xa⟩ := x
      dsimp only at K HST
      go_wp2_with fail
      refine K.out.mono ?_
      rintro en w1 ⟨a5, n5, c5, rfl, hat5, hnil5, hb1⟩
      dsimp only at hat5
      have HG1 := Lib.hid (HG.out.below hb1)
      have HAT5 := Lib.hid hat5
      have HNIL5 := Lib.hid hnil5
      have HB1 := Lib.hid hb1
      have HBW1 := Lib.hid (HB.out.trans (hb1.mono HB.out.size))
      clear hat5 hnil5 hb1
      go_wp2_with (at_builtin; refine wpList_append_own_at _ rfl _ _ 24 rfl w.heap.size 77 i0 _ 5 80 Tryz.underlying24 hi0 hz0 hz1 hz2 rfl (by decide) _ nv _ rfl (HG1.out.row.alloc _) ⟨w1.heap.size, 0, none⟩ 1 1 [.int .i64 (xd + by_), .string xt, .string xs, .string xn, .slice a5 n5 c5] rfl rfl ?c1 ?c2 ?c3 ?c4 ?c5 ?_)
      case c1 =>
        intro j v hj
        match j, hj with
        | 0, hj => simp at hj; subst hj; rw [Addr.add_lit]; go_simp
        | 1, hj => simp at hj; subst hj; rw [Addr.add_lit]; go_simp
        | 2, hj => simp at hj; subst hj; rw [Addr.add_lit]; go_simp
        | 3, hj => simp at hj; subst hj; rw [Addr.add_lit]; go_simp
        | 4, hj => simp at hj; subst hj; rw [Addr.add_lit]; go_simp
        | j + 5, hj => simp at hj
      case c2 => intro v hv; simp at hv; rcases hv with rfl | rfl | rfl | rfl | rfl <;> rfl
      case c3 => unfold maxLen; omega
      case c4 => omega
      case c5 => have := HBW1.out.size; simp; omega
      intro v' w2 hown' hgrow _ hblk
      obtain ⟨a', c', rfl⟩ := owns_slice hown'
      have HSM := Lib.hid (owns_some hown' (by omega))
      have HG2 : Hid (GrowIts w2 w.heap.size (.slice a' (nv + 1) c') (nv + 1) (movedTo l f (k + 1) by_) (putA (movedTo l f k by_).length a5 A) (putA (movedTo l f k by_).length n5 N) (putA (movedTo l f k by_).length c5 C)) := Lib.hid (by
        rw [HST.out]
        have h5 := HAT5.out.only (Only.below (P := fun _ => False) (below1 w1 (.cells #[.int .i64 (xd + by_), .string xt, .string xs, .string xn, .slice a5 n5 c5] 77))) fun _ _ _ h => h
        refine HG.out.snoc (x := ⟨xd + by_, xt, xs, xn, xa⟩) (w0 := w1.alloc (.cells #[.int .i64 (xd + by_), .string xt, .string xs, .string xn, .slice a5 n5 c5] 77)) (below_then HB1.out (below1 _ _)) ⟨h5.ats, h5.own.imp id fun ⟨b5, g1, g2, g3, g4⟩ => ⟨b5, g1, g2, by simp; omega, g4⟩⟩ HNIL5.out HB.out.size hown' hgrow ?_
        rcases hblk with e | e
        · exact .inl e
        · exact .inr ⟨_, e, by simp⟩)
      have HB2 := Lib.hid (below_appended HBW1.out HG1.out.row hgrow)
      clear hown' hgrow hblk
      go_wp2
      go_roundw
      case rel => exact ⟨k + 1, a', _, c', _, _, _, by omega, by omega, by go_num, rfl, HSM.out, HG2.out, HB2.out⟩
      case measure => simp [intOf]; omega
    · obtain rfl : k = e := by omega
      go_wp2
      go_ret
      obtain ⟨x, rfl⟩ := hsome
      refine ⟨x, nv, cv, rfl, HG.out.own hnv fun i hi => ?_, HB.out⟩
      have hlen := HG.out.len
      rw [movedTo_length] at hlen
      rw [movedTo_get l f k by_ i (by omega)]
      have h1 := HIT.out (f + i) (by omega)
      have h2 := HD.out (f + i) (by omega)
      exact ⟨⟨by show _ ≤ (l.getD (f + i) dIt).depth + by_; omega, by show (l.getD (f + i) dIt).depth + by_ ≤ _; omega⟩, h1.2⟩

theorem specAll_any (lo hi : Nat) (a : Option Addr) (n c : Nat) (by_ : Int) (l : List It) (w : World) (hd : ∀ i, i < n → -1000 ≤ (l.getD i dIt).depth ∧ (l.getD i dIt).depth ≤ 1000) (hby : -1000 ≤ by_ ∧ by_ ≤ 1000) (hA : ∀ i, i < n → (l.getD i dIt).attrs.length ≤ 1048576)
    (h : OwnIts w lo hi a n c l) :
    Calls Tryz.prog 78 #[.slice a n c, .int .i64 by_] w (ItsOwnS w (movedTo l 0 n by_)) := by
  have hm := h.max
  have K := Lib.hid (specMoved_any lo hi a n c 0 n by_ l w hd hby hA (Nat.zero_le _) (Nat.le_refl _) h)
  clear h hd hA
  go_enter Tryz.func78, Tryz.ntmps78
  go_wp2_with fail
  refine K.out.mono ?_
  rintro e w1 ⟨a1, n1, c1, rfl, hown, hb⟩
  have HO := Lib.hid hown
  have HB := Lib.hid hb
  clear hown hb
  go_wp2
  go_ret
  exact ⟨_, _, _, rfl, HO.out, HB.out⟩
end Go.Proofs.YticpebpicdboaaaGreatDoor

/- Two rows of items, one appended to the other. -/
namespace Go.Proofs.YticpebpicdboaaaGreatDoor
open Go.ChangeShapes Go.WideShapes Go.ChangeAt Go.RowKit
set_option linter.unusedVariables false

theorem cellI_five {l : List It} {A : Nat → Option Addr} {N C : Nat → Nat} (i q : Nat) (hq : q < 5) :
    cellI l A N C (i * 5 + q) = if q = 0 then .int .i64 (l.getD i dIt).depth else if q = 1 then .string (l.getD i dIt).text else if q = 2 then .string (l.getD i dIt).space else if q = 3 then .string (l.getD i dIt).name else .slice (A i) (N i) (C i) := by
  unfold cellI
  rw [show (i * 5 + q) % 5 = q by omega, show (i * 5 + q) / 5 = i by omega]
/-- the cells of a row of items of one's own, in their order -/
theorem OwnIts.flat {w : World} {lo hi b n c : Nat} {l : List It} (h : OwnIts w lo hi (some ⟨b, 0, none⟩) n c l) (hn : n ≠ 0) :
    ∃ (A : Nat → Option Addr) (N C : Nat → Nat), (∀ j u, (flatI l A N C)[j]? = some u → w.cell? ((⟨b, 0, none⟩ : Addr).add j) = some u) ∧ (∀ i, i < n → OwnAts w lo hi (A i) (N i) (C i) (l.getD i dIt).attrs) := by
  obtain ⟨b', A, N, C, hb, _, _, _, hc, _, _⟩ := h.row.resolve_left hn
  simp only [Option.some.injEq, Addr.mk.injEq, and_true] at hb
  subst hb
  refine ⟨A, N, C, fun j u hj => ?_, fun i hi => (hc i hi).2⟩
  have hlt : j < l.length * 5 := by
    rcases Nat.lt_or_ge j (l.length * 5) with h1 | h1
    · exact h1
    · rw [List.getElem?_eq_none (by rw [flatI_length]; exact h1)] at hj; cases hj
  have hl := h.len
  rw [flatI_get _ _ _ _ _ hlt] at hj
  have hu := Option.some.inj hj
  have h5 := (hc (j / 5) (by omega)).1
  have e : j = j / 5 * 5 + j % 5 := by omega
  have hq : j % 5 < 5 := by omega
  rw [e] at hu ⊢
  rw [cellI_five _ _ hq] at hu
  rw [Addr.add_lit, Nat.zero_add]
  generalize j % 5 = q at hu hq ⊢
  generalize j / 5 = i at hu h5 ⊢
  rcases q with _ | _ | _ | _ | _ | q
  · rw [← hu]; exact h5.c0
  · rw [← hu]; exact h5.c1
  · rw [← hu]; exact h5.c2
  · rw [← hu]; exact h5.c3
  · rw [← hu]; exact h5.c4
  · omega
def WideIt (x : It) : Prop := (-9223372036854775808 ≤ x.depth ∧ x.depth ≤ 9223372036854775807) ∧ (x.text.size ≤ 9223372036854775807 ∧ x.space.size ≤ 9223372036854775807 ∧ x.name.size ≤ 9223372036854775807)
/-- behind an append of a row to a row that has grown -/
theorem its_join {w w1 : World} {B g m c k lo hi : Nat} {l l2 : List It} {A A2 : Nat → Option Addr} {N C N2 C2 : Nat → Nat} (h : GrowIts w B (.slice (some ⟨g, 0, none⟩) m c) m l A N C)
    (hl : ∀ i, i < m → WideIt (l.getD i dIt)) (hl2 : ∀ i, i < k → WideIt (l2.getD i dIt)) (hk : l2.length = k) (hmk : m + k ≤ 1048576)
    (h2 : ∀ i, i < k → OwnAts w lo hi (A2 i) (N2 i) (C2 i) (l2.getD i dIt).attrs) (hap : ∀ i, i < k → ∀ x, A2 i = some x → N2 i ≠ 0 → x.block ≠ g)
    {a : Option Addr} {q' : Nat} (hown : w1.ownsRow B 77 5 (.slice a (m + k) q') (m + k) (flatI l A N C ++ flatI l2 A2 N2 C2)) (hg : w.grownBy w1 (some g)) (hm : 0 < m) :
    ItsAt w1 a (m + k) q' (l ++ l2) := by
  have hlen := h.len
  rcases hown.2 with ⟨_, h0⟩ | ⟨g', cap, cur, hv, hb', hg', _⟩
  · omega
  · simp only [Value.slice.injEq] at hv
    obtain ⟨rfl, _, rfl⟩ := hv
    have hlt := (hown.lt g' rfl).2
    refine ⟨by rw [List.length_append]; omega, by omega, .inr ⟨g', 0, rfl, fun i hi => ?_⟩⟩
    rw [Nat.zero_add]
    by_cases hi2 : i < m
    · have e : (l ++ l2).getD i dIt = l.getD i dIt := by rw [List.getD_eq_getElem?_getD, List.getElem?_append_left (by omega), ← List.getD_eq_getElem?_getD]
      rw [e]
      have hc : ∀ q, q < 5 → w1.cell? ⟨g', i * 5 + q, none⟩ = some (cellI l A N C (i * 5 + q)) := fun q hq => by
        rw [hown.cellAt _ (by omega), List.getElem?_append_left (by rw [flatI_length]; omega), flatI_get _ _ _ _ _ (by omega)]
      have hw := hl i hi2
      refine ⟨hlt, hw.1, hw.2, (hc 0 (by omega)).trans (by rw [cellI_five i 0 (by omega)]; rfl), (hc 1 (by omega)).trans (by rw [cellI_five i 1 (by omega)]; rfl), (hc 2 (by omega)).trans (by rw [cellI_five i 2 (by omega)]; rfl), (hc 3 (by omega)).trans (by rw [cellI_five i 3 (by omega)]; rfl), A i, N i, C i, (hc 4 (by omega)).trans (by rw [cellI_five i 4 (by omega)]; rfl), ?_⟩
      exact (h.ats i (by omega)).1.ats.only (Only.grown hg) fun x hx hne hp => h.apart i (by omega) x hx hne (by simp only [Option.some.injEq] at hp; rw [hp]; rfl)
    · have e : (l ++ l2).getD i dIt = l2.getD (i - m) dIt := by rw [List.getD_eq_getElem?_getD, List.getElem?_append_right (by omega), hlen, ← List.getD_eq_getElem?_getD]
      rw [e]
      have hc : ∀ q, q < 5 → w1.cell? ⟨g', i * 5 + q, none⟩ = some (cellI l2 A2 N2 C2 ((i - m) * 5 + q)) := fun q hq => by
        rw [hown.cellAt _ (by omega), List.getElem?_append_right (by rw [flatI_length]; omega), flatI_length, show i * 5 + q - l.length * 5 = (i - m) * 5 + q by omega, flatI_get _ _ _ _ _ (by omega)]
      have hw := hl2 (i - m) (by omega)
      refine ⟨hlt, hw.1, hw.2, (hc 0 (by omega)).trans (by rw [cellI_five _ 0 (by omega)]; rfl), (hc 1 (by omega)).trans (by rw [cellI_five _ 1 (by omega)]; rfl), (hc 2 (by omega)).trans (by rw [cellI_five _ 2 (by omega)]; rfl), (hc 3 (by omega)).trans (by rw [cellI_five _ 3 (by omega)]; rfl), A2 (i - m), N2 (i - m), C2 (i - m), (hc 4 (by omega)).trans (by rw [cellI_five _ 4 (by omega)]; rfl), ?_⟩
      exact (h2 (i - m) (by omega)).ats.only (Only.grown hg) fun x hx hne hp => hap (i - m) (by omega) x hx hne (by simp only [Option.some.injEq] at hp; exact hp)
end Go.Proofs.YticpebpicdboaaaGreatDoor
