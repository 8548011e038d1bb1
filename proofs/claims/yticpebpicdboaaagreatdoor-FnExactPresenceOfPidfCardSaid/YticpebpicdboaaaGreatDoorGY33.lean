/- spec.l7Part. -/
import Derived.Test.YticpebpicdboaaaGreatDoorGY32
import Derived.Test.YticpebpicdboaaaGreatDoorGY10
import Derived.Test.YticpebpicdboaaaGreatDoorGY26
import Derived.Test.YticpebpicdboaaaGreatDoorGY14
import Derived.Test.YticpebpicdboaaaGreatDoorGY0
import Derived.Deep.RegionHeld3
namespace Go.Proofs.YticpebpicdboaaaGreatDoor
open Go.ChangeShapes Go.WideShapes Go.ChangeAt Go.RowKit
set_option linter.unusedVariables false

/-- what a part says is in the presence, or it is told that it can't be -/
def PartRes (w0 w : World) (pb : Nat) (a : Option Addr) (n c : Nat) (r : Option Pr) (e : Ending) (w' : World) : Prop :=
  ∃ (bb : Bool) (q : Pr), e = .returned (.bool bb) ∧ PrMut w0 w' pb q a n c ∧ Only (fun i => i = pb) w w' ∧ (bb = true → r = some q) ∧ (bb = false → r = none)
/-- the place of a show's word, and what is kept -/
theorem showPlace (w0 w : World) (pb : Nat) (p : Pr) (a : Option Addr) (n c : Nat) (h : PrMut w0 w pb p a n c) (t : ByteArray) :
    Calls Tryz.prog 88 #[] w fun e w' => ∃ v, e = .returned v ∧ PrMut w0 w' pb p a n c ∧ Below w.heap.size w w' ∧ ∀ W, Below w'.heap.size w' W → Calls Tryz.prog 161 #[v, .string t] W fun e W' => e = .returned (.int .i64 (hasIx showWs t)) ∧ ∃ n, W' = W.drewN n :=
  (l7Shows_row w).mono fun e w' ⟨he, hr, hb⟩ => ⟨_, he, h.keep hb, hb, fun W hW => l6Has_any _ showWs t W (hr.below hW)⟩
theorem showNm_list : showNm.toList = [115, 104, 111, 119] := by rw [ByteArray.toList_eq]; rfl
theorem statusNm_list : statusNm.toList = [115, 116, 97, 116, 117, 115] := by rw [ByteArray.toList_eq]; rfl
theorem prioNm_list : prioNm.toList = [112, 114, 105, 111, 114, 105, 116, 121] := by rw [ByteArray.toList_eq]; rfl

set_option maxRecDepth 100000 in
set_option maxHeartbeats 3200000 in
theorem l7Part_any (a : Option Addr) (n c k pb : Nat) (l : List It) (p : Pr) (a' : Option Addr) (n' c' : Nat) (w0 w : World) (hn : n ≤ 1048576) (hk : k < n) (hsz : ∀ i, i < n → (l.getD i dIt).text.size ≤ 1048576) (hts : (txtT (textL l k)).size ≤ maxLen) (hI : ItsAt w0 a n c l) (h : PrMut w0 w pb p a' n' c') :
    Calls Tryz.prog 162 #[.slice a n c, .int .i64 (k : Int), .pointer (some ⟨pb, 0, none⟩)] w (PartRes w0 w pb a' n' c' (partP l k p)) := by
  have KT := Lib.hid (specText_any a n c k l w hn hsz hk (hI.below h.below))
  obtain ⟨b, o, rfl, hat⟩ := hI.row.resolve_left (by omega)
  have hx := hat k hk
  obtain ⟨a4, n4, c4, d4, hat4⟩ := hx.c4
  have hlen := hat4.len
  have hlt : b < w0.heap.size := hx.lt
  have hge : w0.heap.size ≤ pb := h.ge
  have D : Hid (∀ W, Below w0.heap.size w0 W → W.cell? ⟨b, o + k * 5 + 3, none⟩ = some (.string (l.getD k dIt).name) ∧ W.cell? ⟨b, o + k * 5 + 4, none⟩ = some (.slice a4 n4 c4)) := Lib.hid fun W hW => ⟨(hW.cell (p := ⟨b, o + k * 5 + 3, none⟩) hlt).trans hx.c3, (hW.cell (p := ⟨b, o + k * 5 + 4, none⟩) hlt).trans d4⟩
  have H := Lib.hid h
  have hm4 : n4 ≤ 9223372036854775807 := hat4.max
  obtain ⟨r, hr⟩ : ∃ r, partP l k p = r := ⟨_, rfl⟩
  rw [hr]
  unfold partP at hr
  rw [showNm_list, statusNm_list, prioNm_list, hlen] at hr
  clear h hI hat hx d4 hat4 hlen hsz
  generalize l.getD k dIt = x at D hr
  generalize textL l k = tl at KT hr hts
  have q0 : (k : Int) < (n : Int) := by omega
  obtain ⟨xd, xt, xs, xn, xa⟩ := x
  dsimp only at D hr
  go_enter Tryz.func162, Tryz.ntmps162
  go_wp2_with fail
  refine KT.out.mono ?_
  rintro e w1 ⟨rfl, nd, rfl⟩
  have hbn : Below w.heap.size w (w.drewN nd) := below_drewN (Below.refl _ _) nd
  have hh := H.out.keep hbn
  clear KT H
  generalize w.drewN nd = w1 at hbn hh ⊢
  have HB := Lib.hid hbn
  have HQ := Lib.hid hh
  have dd := D.out w1 hh.below
  obtain ⟨d3, d4⟩ := dd
  clear hbn hh
  cases tl with
  | none =>
    have HR : Hid (r = none) := Lib.hid hr.symm
    clear hr
    unfold txtT at hts ⊢
    dsimp only [Option.isSome]
    go_wp2
    go_ret
    exact ⟨false, p, rfl, HQ.out, Only.below HB.out, by simp, fun _ => HR.out⟩
  | some t =>
    dsimp only [txtT, Option.isSome] at hts ⊢
    dsimp only at hr
    by_cases h4 : n4 = 0
    case neg =>
      rw [if_pos h4] at hr
      have HR : Hid (r = none) := Lib.hid hr.symm
      have q4 : ((n4 : Int) != 0) = true := by rw [bne_iff_ne]; omega
      have q5 : ((n4 : Int) == 0) = false := by rw [beq_eq_false_iff_ne]; omega
      clear hr
      go_wp2
      go_ret
      exact ⟨false, p, rfl, HQ.out, Only.below HB.out, by simp, fun _ => HR.out⟩
    subst h4
    rw [if_neg (by simp)] at hr
    have HR := Lib.hid hr
    clear hr
    by_cases g1 : xn.toList = [115, 104, 111, 119]
    · have hr2 := HR.out
      rw [if_pos g1] at hr2
      have HR2 := Lib.hid hr2
      have g1b : (xn.toList == [115, 104, 111, 119]) = true := by simpa using g1
      clear hr2 HR g1
      have KK := Lib.hid (showPlace w0 w1 pb p a' n' c' HQ.out t)
      generalize hasIx showWs t = ix at HR2 KK
      go_wp2_with fail
      refine KK.out.mono ?_
      rintro e w2 ⟨v, rfl, hq1, hb1, kh⟩
      have hK1 := Lib.hid kh
      have hQ1 := Lib.hid hq1
      have hB1 := Lib.hid hb1
      clear kh hq1 hb1 d3 d4
      go_wp2_with fail
      refine (hK1.out _ (Below.refl _ _)).mono ?_
      rintro e w3 ⟨rfl, nd, rfl⟩
      have hq2 := hQ1.out.keep (below_drewN (Below.refl _ _) nd)
      have z0 := hq2.is.c3
      have y0 := hq2.fz 3
      have hb2 := hB1.out.trans (below_drewN (Below.refl w2.heap.size w2) nd |>.mono hB1.out.size)
      have HQ2 := Lib.hid hq2
      have HB2 := Lib.hid hb2
      clear hq2 hb2
      go_upto_region 7 with fail
      have hq3 := HQ2.out.setShown ix
      have HO3 := Lib.hid ((Only.below (P := fun i => i = pb) HB.out).trans ((Only.below HB2.out).trans (Only.set (P := fun i => i = pb) (w2.drewN nd) ⟨pb, 3, none⟩ (.int .i64 ix) rfl)))
      clear z0 y0 hQ1 hK1 HQ2 hB1 HB2
      generalize (w2.drewN nd).setCell ⟨pb, 3, none⟩ (.int .i64 ix) = w4 at hq3 HO3 ⊢
      have z0 := hq3.is.c3
      have HQ3 := Lib.hid hq3
      clear hq3
      go_wp2
      go_ret
      refine ⟨decide (1 ≤ ix), _, rfl, HQ3.out, HO3.out, fun e => ?_, fun e => ?_⟩
      · have h1 : 1 ≤ ix := of_decide_eq_true e
        have h2 := HR2.out
        rw [if_neg (by omega)] at h2
        exact h2.symm
      · have h1 : ¬ 1 ≤ ix := of_decide_eq_false e
        have h2 := HR2.out
        rw [if_pos (by omega)] at h2
        exact h2.symm
    have g1b : (xn.toList == [115, 104, 111, 119]) = false := by simpa using g1
    by_cases g2 : xn.toList = [115, 116, 97, 116, 117, 115]
    · have hr2 := HR.out
      rw [if_neg g1, if_pos g2] at hr2
      have HR2 := Lib.hid hr2
      have g2b : (xn.toList == [115, 116, 97, 116, 117, 115]) = true := by simpa using g2
      have z4 := HQ.out.is.c4
      have y4 := HQ.out.fz 4
      clear hr2 HR g1 g2
      go_wp2
      go_ret
      exact ⟨true, _, rfl, HQ.out.setStatus t, (Only.below HB.out).trans (Only.set (P := fun i => i = pb) _ ⟨pb, 4, none⟩ _ rfl), fun _ => HR2.out.symm, by simp⟩
    have g2b : (xn.toList == [115, 116, 97, 116, 117, 115]) = false := by simpa using g2
    by_cases g3 : xn.toList = [112, 114, 105, 111, 114, 105, 116, 121]
    · have hr2 := HR.out
      rw [if_neg g1, if_neg g2, if_pos g3] at hr2
      have HR2 := Lib.hid hr2
      have g3b : (xn.toList == [112, 114, 105, 111, 114, 105, 116, 121]) = true := by simpa using g3
      clear hr2 HR g1 g2 g3
      go_wp2_with fail
      refine (l7Read_any t hts _).mono ?_
      rintro e w2 ⟨m, bb, rfl, hnum, hb2⟩
      have hq2 := HQ.out.keep hb2
      have z5 := hq2.is.c5
      have y5 := hq2.fz 5
      have HQ2 := Lib.hid hq2
      have hrs := HR2.out
      rw [ByteArray.toList_eq, hnum] at hrs
      have HRS := Lib.hid hrs
      have HB2 := Lib.hid (HB.out.trans (hb2.mono HB.out.size))
      clear hq2 hrs HR2 hnum hb2 d3 d4
      go_wp2
      go_ret
      exact ⟨bb, _, rfl, HQ2.out.setPrio m, (Only.below HB2.out).trans (Only.set (P := fun i => i = pb) _ ⟨pb, 5, none⟩ _ rfl), fun e => by rw [← HRS.out, e]; rfl, fun e => by rw [← HRS.out, e]; rfl⟩
    have g3b : (xn.toList == [112, 114, 105, 111, 114, 105, 116, 121]) = false := by simpa using g3
    have hr2 := HR.out
    rw [if_neg g1, if_neg g2, if_neg g3] at hr2
    have HR2 := Lib.hid hr2
    clear hr2 HR g1 g2 g3
    go_wp2
    go_ret
    exact ⟨false, p, rfl, HQ.out, Only.below HB.out, by simp, fun _ => HR2.out.symm⟩
end Go.Proofs.YticpebpicdboaaaGreatDoor

/- A row of items of one's own, of which some blocks are known to be no part. -/
namespace Go.Proofs.YticpebpicdboaaaGreatDoor
open Go.ChangeShapes Go.WideShapes Go.ChangeAt Go.RowKit
set_option linter.unusedVariables false

/-- a row of items behind B that has nothing in the blocks of E -/
def GrowOff (w : World) (B : Nat) (v : Value) (n : Nat) (l : List It) (E : Nat → Prop) : Prop :=
  ∃ (A : Nat → Option Addr) (N C : Nat → Nat), GrowIts w B v n l A N C ∧ (∀ g, v.ownBlock = some g → ¬ E g) ∧ ∀ i, i < l.length → ∀ x, A i = some x → N i ≠ 0 → ¬ E x.block
theorem GrowIts.only2 {P : Nat → Prop} {w w' : World} {B : Nat} {v : Value} {n : Nat} {l : List It} {A : Nat → Option Addr} {N C : Nat → Nat} (h : GrowIts w B v n l A N C) (ho : Only P w w')
    (h1 : ∀ g, v.ownBlock = some g → ¬ P g) (h2 : ∀ i, i < l.length → ∀ x, A i = some x → N i ≠ 0 → ¬ P x.block) : GrowIts w' B v n l A N C := by
  have hsz := ho.size
  refine ⟨?_, fun i hi => ⟨?_, (h.ats i hi).2⟩, h.apart, h.each⟩
  · refine ⟨h.row.1, ?_⟩
    rcases h.row.2 with e | ⟨g, cap, cur, hv, hg, hh, r⟩
    · exact .inl e
    · have hlt := (h.row.lt g (by rw [hv]; rfl)).2
      exact .inr ⟨g, cap, cur, hv, hg, by rw [ho.block g hlt (h1 g (by rw [hv]; rfl))]; exact hh, r⟩
  · have h3 := (h.ats i hi).1.only ho fun x hx hn => h2 i hi x hx hn
    exact ⟨h3.ats, h3.own.imp id fun ⟨b, g1, g2, g3, g4⟩ => ⟨b, g1, g2, by omega, g4⟩⟩
theorem GrowOff.only {P E : Nat → Prop} {w w' : World} {B : Nat} {v : Value} {n : Nat} {l : List It} (h : GrowOff w B v n l E) (ho : Only P w w') (hP : ∀ i, P i → E i) : GrowOff w' B v n l E := by
  obtain ⟨A, N, C, hg, h1, h2⟩ := h
  exact ⟨A, N, C, hg.only2 ho (fun g hg hp => h1 g hg (hP g hp)) (fun i hi x hx hn hp => h2 i hi x hx hn (hP _ hp)), h1, h2⟩
theorem GrowOff.below {E : Nat → Prop} {w w' : World} {B : Nat} {v : Value} {n : Nat} {l : List It} (h : GrowOff w B v n l E) (hb : Below w.heap.size w w') : GrowOff w' B v n l E :=
  h.only (P := fun _ => False) (Only.below hb) (fun i h => h.elim)
theorem GrowIts.lts {w : World} {B : Nat} {v : Value} {n : Nat} {l : List It} {A : Nat → Option Addr} {N C : Nat → Nat} (h : GrowIts w B v n l A N C) :
    (∀ g, v.ownBlock = some g → B ≤ g ∧ g < w.heap.size) ∧ ∀ i, i < l.length → ∀ x, A i = some x → N i ≠ 0 → B ≤ x.block ∧ x.block < w.heap.size :=
  ⟨fun g hg => h.row.lt g hg, fun i hi x hx hn => (h.ats i hi).1.in hx hn⟩
theorem GrowOff.ext {E E' : Nat → Prop} {w : World} {B : Nat} {v : Value} {n : Nat} {l : List It} (h : GrowOff w B v n l E) (hE : ∀ i, E' i → E i ∨ w.heap.size ≤ i ∨ i < B) : GrowOff w B v n l E' := by
  obtain ⟨A, N, C, hg, h1, h2⟩ := h
  obtain ⟨k1, k2⟩ := hg.lts
  refine ⟨A, N, C, hg, fun g hgb he => ?_, fun i hi x hx hn he => ?_⟩
  · have := k1 g hgb
    rcases hE g he with h | h | h
    · exact h1 g hgb h
    · omega
    · omega
  · have := k2 i hi x hx hn
    rcases hE _ he with h | h | h
    · exact h2 i hi x hx hn h
    · omega
    · omega
theorem GrowOff.of {E : Nat → Prop} {w : World} {B : Nat} {v : Value} {n : Nat} {l : List It} {A : Nat → Option Addr} {N C : Nat → Nat} (h : GrowIts w B v n l A N C) (hE : ∀ i, E i → w.heap.size ≤ i ∨ i < B) : GrowOff w B v n l E := by
  obtain ⟨k1, k2⟩ := h.lts
  exact ⟨A, N, C, h, fun g hg he => by have := k1 g hg; have := hE g he; omega, fun i hi x hx hn he => by have := k2 i hi x hx hn; have := hE _ he; omega⟩
theorem GrowOff.nil (w : World) (B : Nat) (E : Nat → Prop) : GrowOff w B (.slice none 0 0) 0 [] E :=
  ⟨fun _ => none, fun _ => 0, fun _ => 0, ⟨by have := World.ownsRow_nil w B 77 5; exact this, fun i hi => by simp at hi, fun i hi => by simp at hi, fun i j hi => by simp at hi⟩, fun g hg => by simp [Value.ownBlock] at hg, fun i hi => by simp at hi⟩
theorem GrowOff.len {E : Nat → Prop} {w : World} {B : Nat} {v : Value} {n : Nat} {l : List It} (h : GrowOff w B v n l E) : l.length = n := by
  obtain ⟨A, N, C, hg, _⟩ := h
  exact hg.len
theorem GrowOff.row {E : Nat → Prop} {w : World} {B : Nat} {v : Value} {n : Nat} {l : List It} (h : GrowOff w B v n l E) : ∃ xs, w.ownsRow B 77 5 v n xs ∧ ∀ g, v.ownBlock = some g → B ≤ g ∧ g < w.heap.size ∧ ¬ E g := by
  obtain ⟨A, N, C, hg, h1, _⟩ := h
  exact ⟨_, hg.row, fun g hgb => ⟨(hg.row.lt g hgb).1, (hg.row.lt g hgb).2, h1 g hgb⟩⟩
/-- what grew out of it has nothing there either -/
theorem GrowOff.grew {E : Nat → Prop} {w w' : World} {B : Nat} {v v' : Value} {n n' : Nat} {l l' : List It} (h : GrowOff w B v n l E) (hE : ∀ i, E i → i < w.heap.size)
    (hk : ∀ A N C, GrowIts w B v n l A N C → ∃ A' N' C', GrowIts w' B v' n' l' A' N' C' ∧ (v'.ownBlock = v.ownBlock ∨ ∃ g, v'.ownBlock = some g ∧ w.heap.size ≤ g) ∧ ∀ i, i < l'.length → ∀ x, A' i = some x → N' i ≠ 0 → w.heap.size ≤ x.block ∨ ∃ j, j < l.length ∧ A j = some x ∧ N j ≠ 0) : GrowOff w' B v' n' l' E := by
  obtain ⟨A, N, C, hg, h1, h2⟩ := h
  obtain ⟨A', N', C', hg', k1, k2⟩ := hk A N C hg
  refine ⟨A', N', C', hg', fun g hgb he => ?_, fun i hi x hx hn he => ?_⟩
  · have := hE g he
    rcases k1 with k1 | ⟨q, k1, hq⟩
    · exact h1 g (k1 ▸ hgb) he
    · rw [k1] at hgb
      simp only [Option.some.injEq] at hgb
      omega
  · have := hE _ he
    rcases k2 i hi x hx hn with k | ⟨j, hj, hx2, hn2⟩
    · omega
    · exact h2 j hj x hx2 hn2 he
theorem GrowOff.join {E : Nat → Prop} {w w0 w1 : World} {B : Nat} {v v' : Value} {n k : Nat} {l l2 : List It} {A A2 : Nat → Option Addr} {N C N2 C2 : Nat → Nat}
    (hg0 : GrowIts w B v n l A N C) (h1 : ∀ g, v.ownBlock = some g → ¬ E g) (h2 : ∀ i, i < l.length → ∀ x, A i = some x → N i ≠ 0 → ¬ E x.block) (hEl : ∀ i, E i → i < w.heap.size)
    (hw : Below w.heap.size w w0) (hk : l2.length = k) (hA : ∀ i, i < k → OwnAts w0 w.heap.size w0.heap.size (A2 i) (N2 i) (C2 i) (l2.getD i dIt).attrs ∧ (A2 i = none → C2 i = 0))
    (hE : ∀ i j, i < k → j < k → i ≠ j → ∀ x y, A2 i = some x → A2 j = some y → N2 i ≠ 0 → N2 j ≠ 0 → x.block ≠ y.block) (hB : B ≤ w.heap.size)
    (hr : w1.ownsRow B 77 5 v' (n + k) (flatI l A N C ++ flatI l2 A2 N2 C2)) (hg : w0.grownBy w1 v.ownBlock) (hv : v'.ownBlock = v.ownBlock ∨ ∃ g, v'.ownBlock = some g ∧ w0.heap.size ≤ g) :
    GrowOff w1 B v' (n + k) (l ++ l2) E := by
  have hs0 := hw.size
  refine ⟨_, _, _, hg0.join hw hk hA hE hB hr hg hv, fun g hgb he => ?_, fun i hi x hx hn he => ?_⟩
  · have := hEl g he
    rcases hv with k1 | ⟨q, k1, hq⟩
    · exact h1 g (k1 ▸ hgb) he
    · rw [k1] at hgb
      simp only [Option.some.injEq] at hgb
      omega
  · have he2 := hEl _ he
    rw [List.length_append] at hi
    by_cases hil : i < l.length
    · unfold joinA at hx hn
      rw [if_pos hil] at hx hn
      exact h2 i hil x hx hn he
    · unfold joinA at hx hn
      rw [if_neg hil] at hx hn
      have := (hA (i - l.length) (by omega)).1.in hx hn
      omega
theorem GrowOff.base {E : Nat → Prop} {w : World} {B B' : Nat} {v : Value} {n : Nat} {l : List It} (h : GrowOff w B v n l E) (hle : B' ≤ B) : GrowOff w B' v n l E := by
  obtain ⟨A, N, C, hg, h1, h2⟩ := h
  exact ⟨A, N, C, ⟨owns_mono hg.row hle, fun i hi => ⟨⟨(hg.ats i hi).1.ats, (hg.ats i hi).1.own.imp id fun ⟨b, g1, g2, g3, g4⟩ => ⟨b, g1, by omega, g3, g4⟩⟩, (hg.ats i hi).2⟩, hg.apart, hg.each⟩, h1, h2⟩
/-- seven stores into a block that is no part of it -/
theorem only7 (W : World) (b : Nat) (x0 x1 x2 x3 x4 x5 x6 : Value) : Only (fun i => i = b) W (((((((W.setCell ⟨b, 0, none⟩ x0).setCell ⟨b, 1, none⟩ x1).setCell ⟨b, 2, none⟩ x2).setCell ⟨b, 3, none⟩ x3).setCell ⟨b, 4, none⟩ x4).setCell ⟨b, 5, none⟩ x5).setCell ⟨b, 6, none⟩ x6) :=
  ((((((Only.set (P := fun i => i = b) W ⟨b, 0, none⟩ x0 rfl).trans (Only.set (P := fun i => i = b) _ ⟨b, 1, none⟩ x1 rfl)).trans (Only.set (P := fun i => i = b) _ ⟨b, 2, none⟩ x2 rfl)).trans (Only.set (P := fun i => i = b) _ ⟨b, 3, none⟩ x3 rfl)).trans (Only.set (P := fun i => i = b) _ ⟨b, 4, none⟩ x4 rfl)).trans (Only.set (P := fun i => i = b) _ ⟨b, 5, none⟩ x5 rfl)).trans (Only.set (P := fun i => i = b) _ ⟨b, 6, none⟩ x6 rfl)
theorem GrowOff.seven {E : Nat → Prop} {W : World} {B B' : Nat} {v : Value} {n : Nat} {l : List It} (h : GrowOff W B v n l E) (b : Nat) (hb : b < B) (hle : B' ≤ B) (x0 x1 x2 x3 x4 x5 x6 : Value) :
    GrowOff (((((((W.setCell ⟨b, 0, none⟩ x0).setCell ⟨b, 1, none⟩ x1).setCell ⟨b, 2, none⟩ x2).setCell ⟨b, 3, none⟩ x3).setCell ⟨b, 4, none⟩ x4).setCell ⟨b, 5, none⟩ x5).setCell ⟨b, 6, none⟩ x6) B' v n l (fun _ => False) :=
  (((h.ext (E' := fun i => i = b) (fun i hi => .inr (.inr (by omega)))).only (only7 W b x0 x1 x2 x3 x4 x5 x6) (fun i hi => hi)).ext (fun i hi => hi.elim)).base hle
end Go.Proofs.YticpebpicdboaaaGreatDoor

/- The cells of a row of items of one's own. -/
namespace Go.Proofs.YticpebpicdboaaaGreatDoor
open Go.ChangeShapes Go.WideShapes Go.ChangeAt Go.RowKit
set_option linter.unusedVariables false

theorem own_cells {w : World} {lo hi k c : Nat} {y : Addr} {l : List It} (h : OwnIts w lo hi (some y) k c l) :
    ∃ (A : Nat → Option Addr) (N C : Nat → Nat), (∀ j u, (flatI l A N C)[j]? = some u → w.cell? (y.add j) = some u) ∧ (∀ i, i < k → OwnAts w lo hi (A i) (N i) (C i) (l.getD i dIt).attrs ∧ (A i = none → C i = 0)) ∧
      (∀ i j, i < k → j < k → i ≠ j → ∀ x y, A i = some x → A j = some y → N i ≠ 0 → N j ≠ 0 → x.block ≠ y.block) := by
  by_cases h0 : k = 0
  · have hl : l = [] := List.length_eq_zero_iff.1 (by rw [h.len]; exact h0)
    subst hl
    refine ⟨fun _ => none, fun _ => 0, fun _ => 0, fun j u hj => ?_, fun i hi => by omega, fun i j hi => by omega⟩
    rw [List.getElem?_eq_none (by rw [flatI_length]; simp)] at hj
    cases hj
  · obtain ⟨b, A, N, C, hb, _, _, _, hc, _, he⟩ := h.row.resolve_left h0
    simp only [Option.some.injEq] at hb
    subst hb
    refine ⟨A, N, C, fun j u hj => ?_, fun i hi => ⟨(hc i hi).2, (hc i hi).1.nil⟩, he⟩
    have hlt : j < l.length * 5 := by
      rcases Nat.lt_or_ge j (l.length * 5) with h1 | h1
      · exact h1
      · rw [List.getElem?_eq_none (by rw [flatI_length]; exact h1)] at hj; cases hj
    have hl := h.len
    rw [flatI_get _ _ _ _ _ hlt] at hj
    have hu := Option.some.inj hj
    have h5 := (hc (j / 5) (by omega)).1
    have e : j = j / 5 * 5 + j % 5 := by omega
    have hq : j % 5 < 5 := by omega
    rw [e] at hu ⊢
    rw [cellI_five _ _ hq] at hu
    rw [Addr.add_lit, Nat.zero_add]
    generalize j % 5 = q at hu hq ⊢
    generalize j / 5 = i at hu h5 ⊢
    rcases q with _ | _ | _ | _ | _ | q
    · rw [← hu]; exact h5.c0
    · rw [← hu]; exact h5.c1
    · rw [← hu]; exact h5.c2
    · rw [← hu]; exact h5.c3
    · rw [← hu]; exact h5.c4
    · omega
theorem flatI_one (l : List It) (A : Nat → Option Addr) (N C : Nat → Nat) : ∀ u ∈ flatI l A N C, u.oneCell' = true := by
  intro u hu
  unfold flatI at hu
  rw [List.mem_map] at hu
  obtain ⟨j, _, rfl⟩ := hu
  unfold cellI
  split
  · rfl
  · split
    · rfl
    · split
      · rfl
      · split <;> rfl
end Go.Proofs.YticpebpicdboaaaGreatDoor

/- A region walked by hand: the condition may be made stronger on the way. -/
namespace Go.Proofs.YticpebpicdboaaaGreatDoor
open Go.ChangeShapes Go.WideShapes Go.ChangeAt Go.RowKit
set_option linter.unusedVariables false
theorem wpAnyH_mono {P : Program} {md : Region.Mode} {ops : Array Oper} {Q : Exit → Act → World → Prop} {S S' : World → Prop} (hS : ∀ w, S' w → S w) : ∀ (fuel : Nat) (listed : Array Bool) (a : Act) (w : World), wpAnyH P md ops Q S' fuel listed a w → wpAnyH P md ops Q S fuel listed a w
  | 0, _, _, _, h => h
  | fuel + 1, _, _, _, h => ⟨h.1, fun i hi => wpOp_mono (fun a' w' h' => ⟨hS _ h'.1, wpAnyH_mono hS fuel _ a' w' h'.2⟩) (h.2 i hi)⟩
end Go.Proofs.YticpebpicdboaaaGreatDoor
