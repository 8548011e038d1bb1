/- impl.DiscoFault. -/
import Derived.Test.YtcaknhoaoodbfaaGreatDoorGC24
import Derived.Test.YtcaknhoaoodbfaaGreatDoorGC26
import Derived.Test.YtcaknhoaoodbfaaGreatDoorGC28
namespace Go.Proofs.YtcaknhoaoodbfaaGreatDoor
open Go.ChangeShapes Go.WideShapes Go.ChangeAt Go.RowKit
set_option linter.unusedVariables false

theorem eqId_bare (x y : Ident) : eqId (bare x) (bare y) = sameId x y := by
  unfold eqId sameId bare
  simp [Bool.and_assoc]
theorem bare_getD (l : List Ident) (i : Nat) (h : i < l.length) : (l.map bare).getD i dId = bare (l.getD i dId) := by
  rw [List.getD_eq_getElem?_getD, List.getD_eq_getElem?_getD, List.getElem?_map, List.getElem?_eq_getElem h]
  rfl

set_option maxRecDepth 100000 in
set_option maxHeartbeats 6400000 in
theorem implDiscoFault_any (a1 a2 : Option Addr) (n1 c1 n2 c2 : Nat) (d : Dis) (w : World) (hs : SmallDis d) (hcap : CapOk a1 n1 c1 ∧ CapOk a2 n2 c2) (hT : Tabs w) (h : DisAt w a1 n1 c1 a2 n2 c2 d) :
    Calls Tryz.prog 47 #[.agg #[.slice a1 n1 c1, .slice a2 n2 c2]] w fun en w' => en = .returned (.int .i64 (disCode d)) ∧ Below w.heap.size w w' := by
  have hl1 := h.ids.len
  have hl2 := h.feats.len
  have hm1 := h.ids.max
  have hm2 := h.feats.max
  obtain ⟨cd, hcd⟩ : ∃ cd, disCode d = cd := ⟨_, rfl⟩
  have H2 : Hid (6 < n1 ∨ 10 < n2 → cd = 2) := Lib.hid (fun hh => by
    rw [← hcd, disCode, if_pos]
    unfold manyD
    rw [hl1, hl2]
    rcases hh with h1 | h1 <;> simp [h1])
  have H5 : Hid (¬ 6 < n1 → ¬ 10 < n2 → wrongD d = true → cd = 5) := Lib.hid (fun h1 h2 h3 => by
    rw [← hcd, disCode, if_neg (by unfold manyD; rw [hl1, hl2]; simp [h1, h2]), if_pos h3])
  have H6 : Hid (¬ 6 < n1 → ¬ 10 < n2 → wrongD d = false → cd = if (twiceI d.ids || twiceS d.feats) = true then 6 else 0) := Lib.hid (fun h1 h2 h3 => by
    rw [← hcd, disCode, if_neg (by unfold manyD; rw [hl1, hl2]; simp [h1, h2]), if_neg (by rw [h3]; decide)])
  have HW1 : Hid (∀ i, i < n1 → identB (d.ids.getD i dId) = false → wrongD d = true) := Lib.hid (fun i hi hf => wrong_id (by omega) hf)
  have HW2 : Hid (∀ i, i < n2 → fieldB (d.feats.getD i ByteArray.empty) false true = false → wrongD d = true) := Lib.hid (fun i hi hf => wrong_ft (by omega) hf)
  have HW0 : Hid ((∀ i, i < n1 → identB (d.ids.getD i dId) = true) → (∀ i, i < n2 → fieldB (d.feats.getD i ByteArray.empty) false true = true) → wrongD d = false) := Lib.hid (fun h1 h2 => right_d (by rw [hl1]; exact h1) (by rw [hl2]; exact h2))
  rw [hcd]
  have hv : DisVar (w.alloc (.cells #[.slice a1 n1 c1, .slice a2 n2 c2] 50)) w.heap.size a1 n1 c1 a2 n2 c2 d := ⟨by simp, by simp, by simp, h.below (below1 _ _)⟩
  have HV := Lib.hid hv
  have HR1 := Lib.hid h.ids.row
  have HR2 := Lib.hid h.feats.row
  have HS1 := Lib.hid (fun i hi => hs.1.2 i (by rw [hl1]; exact hi) : ∀ i, i < n1 → SmallId (d.ids.getD i dId))
  have HS2 := Lib.hid (fun i hi => hs.2.2 i (by rw [hl2]; exact hi) : ∀ i, i < n2 → (d.feats.getD i ByteArray.empty).size ≤ 1048576)
  have HT := Lib.hid (fun W (hb : Below w.heap.size w W) => tabs_kept hT hb)
  have HCAP := Lib.hid hcap
  have HLN := Lib.hid (And.intro hl1 hl2)
  have HSL := Lib.hid (And.intro hs.1.1 hs.2.1)
  clear hcd hl1 hl2 hv h hs hT hcap
  by_cases hb1 : 6 < n1
  · have e := H2.out (.inl hb1)
    subst e
    go_enter Tryz.func47, Tryz.ntmps47
    go_wp2
    go_ret
    exact ⟨rfl, below1 _ _⟩
  by_cases hb2 : 10 < n2
  · have e := H2.out (.inr hb2)
    subst e
    go_enter Tryz.func47, Tryz.ntmps47
    go_wp2
    go_ret
    exact ⟨rfl, below1 _ _⟩
  have G5 := Lib.hid (H5.out hb1 hb2)
  have G6 := Lib.hid (H6.out hb1 hb2)
  clear H2 H5 H6
  go_enter Tryz.func47, Tryz.ntmps47
  go_wp2
  go_loopw [20] (fun i wr => ∃ k : Nat, k ≤ n1 ∧ i = .int .i64 k ∧ (∀ i, i < k → identB (d.ids.getD i dId) = true) ∧ DisVar wr w.heap.size a1 n1 c1 a2 n2 c2 d ∧ Below w.heap.size w wr) (fun i _ => n1 - (intOf i).toNat)
  case atStart => exact ⟨0, Nat.zero_le _, rfl, fun i hi => by omega, HV.out, below1 _ _⟩
  case round =>
    obtain ⟨k, hk, rfl, hdone, hvr, hbr⟩ := hrel
    have v0 := hvr.v0
    have v1 := hvr.v1
    have HVR := Lib.hid hvr
    have HB := Lib.hid hbr
    have HD := Lib.hid hdone
    clear hvr hbr hdone
    by_cases hlt : k < n1
    · rcases HR1.out with e0 | ⟨b, o, rfl, hrow⟩
      · omega
      have hat : IdAt wr b (o + k * 4) (d.ids.getD k dId) := by
        rcases HVR.out.at_.ids.row with e | ⟨b', o', e, hr⟩
        · omega
        · simp only [Option.some.injEq, Addr.mk.injEq] at e
          obtain ⟨rfl, rfl, _⟩ := e
          exact hr k hlt
      have d0 := hat.c0
      have d1 := hat.c1
      have d2 := hat.c2
      have d3 := hat.c3
      have K := Lib.hid (fun W (hb : Below w.heap.size w W) => hasFields_any (d.ids.getD k dId) W (HS1.out k hlt) (HT.out W hb))
      clear hat
      have HN : Hid (identB (d.ids.getD k dId) = true → ∀ i, i < k + 1 → identB (d.ids.getD i dId) = true) := Lib.hid (fun hf j hj => by
        rcases Nat.lt_or_ge j k with h1 | h1
        · exact HD.out j h1
        · obtain rfl : j = k := by omega
          exact hf)
      have HF := Lib.hid (HW1.out k hlt)
      generalize identB (d.ids.getD k dId) = q at K HN HF
      clear hrow
      generalize d.ids.getD k dId = x at d0 d1 d2 d3 K
      obtain ⟨xs, xt, xu, xv⟩ := x
      dsimp only at d0 d1 d2 d3 K
      go_wp2_with fail
      refine (K.out _ (HB.out.alloc HB.out.size _)).mono ?_
      rintro e w2 ⟨rfl, hb2'⟩
      have HV2 := Lib.hid (HVR.out.below (below_then (below1 _ _) hb2'))
      have HB2 := Lib.hid (below_then (HB.out.alloc HB.out.size _) hb2')
      clear hb2' d0 d1 d2 d3
      cases q
      · have e := G5.out (HF.out rfl)
        subst e
        go_wp2
        go_ret
        exact ⟨rfl, HB2.out⟩
      · go_wp2
        go_roundw
        case rel => exact ⟨k + 1, by omega, by go_num, HN.out (by simp), HV2.out, HB2.out⟩
        case measure => simp [intOf]; omega
    · obtain rfl : k = n1 := by omega
      have HD1 := HD
      clear HS1 HW1 HR1
      go_wp2
      go_loopw [31] (fun i wr => ∃ m : Nat, m ≤ n2 ∧ i = .int .i64 m ∧ (∀ i, i < m → fieldB (d.feats.getD i ByteArray.empty) false true = true) ∧ DisVar wr w.heap.size a1 k c1 a2 n2 c2 d ∧ Below w.heap.size w wr) (fun i _ => n2 - (intOf i).toNat)
      case atStart => exact ⟨0, Nat.zero_le _, rfl, fun i hi => by omega, HVR.out, HB.out⟩
      case round =>
        clear HVR HB HD
        obtain ⟨m, hm, rfl, hdone, hvr, hbr⟩ := hrel
        have v0 := hvr.v0
        have v1 := hvr.v1
        have HVR := Lib.hid hvr
        have HB := Lib.hid hbr
        have HD := Lib.hid hdone
        clear hvr hbr hdone
        by_cases hlt2 : m < n2
        · rcases HR2.out with e0 | ⟨b, o, rfl, _, _⟩
          · omega
          have hft : wr.cell? ⟨b, o + m, none⟩ = some (.string (d.feats.getD m ByteArray.empty)) := by
            rcases HVR.out.at_.feats.row with e | ⟨b', o', e, _, hr⟩
            · omega
            · simp only [Option.some.injEq, Addr.mk.injEq] at e
              obtain ⟨rfl, rfl, _⟩ := e
              exact hr m hlt2
          have K := Lib.hid (fun W (hb : Below w.heap.size w W) => isFilledField_any (d.feats.getD m ByteArray.empty) W (Nat.le_trans (HS2.out m hlt2) (by decide)) (HT.out W hb))
          rw [fill_field] at K
          have HN : Hid (fieldB (d.feats.getD m ByteArray.empty) false true = true → ∀ i, i < m + 1 → fieldB (d.feats.getD i ByteArray.empty) false true = true) := Lib.hid (fun hf j hj => by
            rcases Nat.lt_or_ge j m with h1 | h1
            · exact HD.out j h1
            · obtain rfl : j = m := by omega
              exact hf)
          have HF := Lib.hid (HW2.out m hlt2)
          generalize d.feats.getD m ByteArray.empty = s at hft K HN HF
          generalize fieldB s false true = q at K HN HF
          go_wp2_with fail
          refine (K.out _ HB.out).mono ?_
          rintro e w2 ⟨rfl, hb2'⟩
          have HV2 := Lib.hid (HVR.out.below hb2')
          have HB2 := Lib.hid (HB.out.trans (hb2'.mono HB.out.size))
          clear hb2'
          cases q
          · have e := G5.out (HF.out rfl)
            subst e
            go_wp2
            go_ret
            exact ⟨rfl, HB2.out⟩
          · go_wp2
            go_roundw
            case rel => exact ⟨m + 1, by omega, by go_num, HN.out (by simp), HV2.out, HB2.out⟩
            case measure => simp [intOf]; omega
        · obtain rfl : m = n2 := by omega
          have e := G6.out (HW0.out HD1.out HD.out)
          have KW := Lib.hid (withoutNames_any a1 k c1 d.ids wr (by have := HLN.out.1; have := HSL.out.1; omega) HCAP.out.1.2.2 HVR.out.at_.ids)
          have KS := Lib.hid (fun W (hb : Below wr.heap.size wr W) => hasTwiceS_any a2 m c2 d.feats W (twiceS d.feats) HCAP.out.2.1 HCAP.out.2.2.1 (fun i j hi hj he => twice_at (by rw [HLN.out.2]; exact hi) hj he) (fun hh => twice_not (fun i hi j hj => hh i (by rwa [HLN.out.2] at hi) j hj)) (HVR.out.at_.feats.below hb))
          unfold OwnsIds at KW
          go_wp2_with fail
          refine KW.out.mono ?_
          rintro e2 w2 ⟨b1, r1, p1, rfl, ho2, hb2'⟩
          have hr1 : r1 = k := by
            have h1 : (idFlat (d.ids.map bare)).length = r1 * 4 := ho2.1
            rw [idFlat_length, List.length_map, HLN.out.1] at h1
            omega
          subst hr1
          have hcp : r1 ≤ p1 ∧ p1 ≤ maxLen := by
            rcases ho2.2 with ⟨hv, h0⟩ | ⟨g, cap, cur, hv, _, _, h1, h2, _⟩
            · simp only [Value.slice.injEq] at hv
              obtain ⟨_, rfl, rfl⟩ := hv
              exact ⟨Nat.le_refl _, by decide⟩
            · simp only [Value.slice.injEq] at hv
              obtain ⟨_, _, rfl⟩ := hv
              exact ⟨h1, h2⟩
          have KI := Lib.hid (hasTwiceI_any b1 r1 p1 (d.ids.map bare) w2 (twiceI d.ids) hcp.1 hcp.2 (fun i j hi hj he => by
              rw [bare_getD _ _ (by rw [HLN.out.1]; exact hi), bare_getD _ _ (by rw [HLN.out.1]; omega), eqId_bare] at he
              exact twice_at (by rw [HLN.out.1]; exact hi) hj he) (fun hh => twice_not (fun i hi j hj => by
              have := hh i (by rwa [HLN.out.1] at hi) j hj
              rwa [bare_getD _ _ hi, bare_getD _ _ (by omega), eqId_bare] at this)) (ids_owned (by rw [List.length_map]; exact HLN.out.1) (by have := HLN.out.1; have := HSL.out.1; omega) ho2))
          have HV2 := Lib.hid (HVR.out.below hb2')
          have HB2 := Lib.hid (HB.out.trans (hb2'.mono HB.out.size))
          have D2 := Lib.hid hb2'
          clear ho2 hb2' hcp KW
          generalize twiceI d.ids = qi at e KI
          go_wp2_with fail
          refine KI.out.mono ?_
          rintro e3 w3 ⟨rfl, hb3⟩
          have B3 := Lib.hid (below_then HB2.out hb3)
          have D3 := Lib.hid (below_then D2.out hb3)
          have V3 := HV2.out.below hb3
          have v0 := V3.v0
          have v1 := V3.v1
          clear hb3 V3 KI
          cases qi
          · generalize twiceS d.feats = qs at e KS
            go_wp2_with fail
            refine (KS.out _ D3.out).mono ?_
            rintro e4 w4 ⟨rfl, hb4⟩
            have B4 := Lib.hid (below_then B3.out hb4)
            clear hb4
            cases qs
            · simp at e
              subst e
              go_wp2
              go_ret
              exact ⟨rfl, B4.out⟩
            · simp at e
              subst e
              go_wp2
              go_ret
              exact ⟨rfl, B4.out⟩
          · simp at e
            subst e
            go_wp2
            go_ret
            exact ⟨rfl, B3.out⟩
end Go.Proofs.YtcaknhoaoodbfaaGreatDoor
