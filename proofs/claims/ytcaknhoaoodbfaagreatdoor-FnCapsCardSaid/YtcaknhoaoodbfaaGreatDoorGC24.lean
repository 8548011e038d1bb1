/- spec.DiscoFault. -/
import Derived.Test.YtcaknhoaoodbfaaGreatDoorGC19
import Derived.Test.YtcaknhoaoodbfaaGreatDoorGC23
namespace Go.Proofs.YtcaknhoaoodbfaaGreatDoor
open Go.ChangeShapes Go.WideShapes Go.ChangeAt Go.RowKit
set_option linter.unusedVariables false

set_option maxRecDepth 100000 in
set_option maxHeartbeats 6400000 in
theorem specDiscoFault_any (a1 a2 : Option Addr) (n1 c1 n2 c2 : Nat) (d : Dis) (w : World) (hs : SmallDis d) (h : DisAt w a1 n1 c1 a2 n2 c2 d) :
    Calls Tryz.prog 48 #[.agg #[.slice a1 n1 c1, .slice a2 n2 c2]] w fun en w' => en = .returned (.int .i64 (disCode d)) ∧ Below w.heap.size w w' := by
  have hl1 := h.ids.len
  have hl2 := h.feats.len
  have hm1 := h.ids.max
  have hm2 := h.feats.max
  obtain ⟨cd, hcd⟩ : ∃ cd, disCode d = cd := ⟨_, rfl⟩
  have H2 : Hid (6 < n1 ∨ 10 < n2 → cd = 2) := Lib.hid (fun hh => by
    rw [← hcd, disCode, if_pos]
    unfold manyD
    rw [hl1, hl2]
    rcases hh with h1 | h1 <;> simp [h1])
  have H5 : Hid (¬ 6 < n1 → ¬ 10 < n2 → wrongD d = true → cd = 5) := Lib.hid (fun h1 h2 h3 => by
    rw [← hcd, disCode, if_neg (by unfold manyD; rw [hl1, hl2]; simp [h1, h2]), if_pos h3])
  have H6 : Hid (¬ 6 < n1 → ¬ 10 < n2 → wrongD d = false → cd = if (twiceI d.ids || twiceS d.feats) = true then 6 else 0) := Lib.hid (fun h1 h2 h3 => by
    rw [← hcd, disCode, if_neg (by unfold manyD; rw [hl1, hl2]; simp [h1, h2]), if_neg (by rw [h3]; decide)])
  have HW1 : Hid (∀ i, i < n1 → identB (d.ids.getD i dId) = false → wrongD d = true) := Lib.hid (fun i hi hf => wrong_id (by omega) hf)
  have HW2 : Hid (∀ i, i < n2 → fieldB (d.feats.getD i ByteArray.empty) false true = false → wrongD d = true) := Lib.hid (fun i hi hf => wrong_ft (by omega) hf)
  have HW0 : Hid ((∀ i, i < n1 → identB (d.ids.getD i dId) = true) → (∀ i, i < n2 → fieldB (d.feats.getD i ByteArray.empty) false true = true) → wrongD d = false) := Lib.hid (fun h1 h2 => right_d (by rw [hl1]; exact h1) (by rw [hl2]; exact h2))
  rw [hcd]
  have hv : DisVar (w.alloc (.cells #[.slice a1 n1 c1, .slice a2 n2 c2] 50)) w.heap.size a1 n1 c1 a2 n2 c2 d := ⟨by simp, by simp, by simp, h.below (below1 _ _)⟩
  have HV := Lib.hid hv
  have HR1 := Lib.hid h.ids.row
  have HR2 := Lib.hid h.feats.row
  have HS1 := Lib.hid (fun i hi => hs.1.2 i (by rw [hl1]; exact hi) : ∀ i, i < n1 → SmallId (d.ids.getD i dId))
  have HS2 := Lib.hid (fun i hi => hs.2.2 i (by rw [hl2]; exact hi) : ∀ i, i < n2 → (d.feats.getD i ByteArray.empty).size ≤ 1048576)
  clear hcd hl1 hl2 hv h hs
  by_cases hb1 : 6 < n1
  · have e := H2.out (.inl hb1)
    subst e
    go_enter Tryz.func48, Tryz.ntmps48
    go_wp2
    go_ret
    exact ⟨rfl, below1 _ _⟩
  by_cases hb2 : 10 < n2
  · have e := H2.out (.inr hb2)
    subst e
    go_enter Tryz.func48, Tryz.ntmps48
    go_wp2
    go_ret
    exact ⟨rfl, below1 _ _⟩
  have G5 := Lib.hid (H5.out hb1 hb2)
  have G6 := Lib.hid (H6.out hb1 hb2)
  clear H2 H5 H6
  go_enter Tryz.func48, Tryz.ntmps48
  go_wp2
  go_loopw [18] (fun i wr => ∃ k : Nat, k ≤ n1 ∧ i = .int .i64 k ∧ (∀ i, i < k → identB (d.ids.getD i dId) = true) ∧ DisVar wr w.heap.size a1 n1 c1 a2 n2 c2 d ∧ Below w.heap.size w wr) (fun i _ => n1 - (intOf i).toNat)
  case atStart => exact ⟨0, Nat.zero_le _, rfl, fun i hi => by omega, HV.out, below1 _ _⟩
  case round =>
    obtain ⟨k, hk, rfl, hdone, hvr, hbr⟩ := hrel
    have v0 := hvr.v0
    have v1 := hvr.v1
    have HVR := Lib.hid hvr
    have HB := Lib.hid hbr
    have HD := Lib.hid hdone
    clear hvr hbr hdone
    by_cases hlt : k < n1
    · rcases HR1.out with e0 | ⟨b, o, rfl, hrow⟩
      · omega
      have K := Lib.hid (fun W (hb : Below wr.heap.size wr W) => l9Identity_any b (o + k * 4) (d.ids.getD k dId) W (HS1.out k hlt) (by
        rcases HVR.out.at_.ids.row with e | ⟨b', o', e, hr⟩
        · omega
        · simp only [Option.some.injEq, Addr.mk.injEq] at e
          obtain ⟨rfl, rfl, _⟩ := e
          exact (hr k hlt).below hb))
      have HN : Hid (identB (d.ids.getD k dId) = true → ∀ i, i < k + 1 → identB (d.ids.getD i dId) = true) := Lib.hid (fun hf j hj => by
        rcases Nat.lt_or_ge j k with h1 | h1
        · exact HD.out j h1
        · obtain rfl : j = k := by omega
          exact hf)
      have HF := Lib.hid (HW1.out k hlt)
      generalize identB (d.ids.getD k dId) = q at K HN HF
      clear hrow
      go_wp2_with fail
      refine (K.out _ (Below.refl _ _)).mono ?_
      rintro e w2 ⟨rfl, hb2'⟩
      have HV2 := Lib.hid (HVR.out.below hb2')
      have HB2 := Lib.hid (HB.out.trans (hb2'.mono HB.out.size))
      clear hb2'
      cases q
      · have e := G5.out (HF.out rfl)
        subst e
        go_wp2
        go_ret
        exact ⟨rfl, HB2.out⟩
      · go_wp2
        go_roundw
        case rel => exact ⟨k + 1, by omega, by go_num, HN.out (by simp), HV2.out, HB2.out⟩
        case measure => simp [intOf]; omega
    · obtain rfl : k = n1 := by omega
      have HD1 := HD
      clear HS1 HW1 HR1
      go_wp2
      go_loopw [31] (fun i wr => ∃ m : Nat, m ≤ n2 ∧ i = .int .i64 m ∧ (∀ i, i < m → fieldB (d.feats.getD i ByteArray.empty) false true = true) ∧ DisVar wr w.heap.size a1 k c1 a2 n2 c2 d ∧ Below w.heap.size w wr) (fun i _ => n2 - (intOf i).toNat)
      case atStart => exact ⟨0, Nat.zero_le _, rfl, fun i hi => by omega, HVR.out, HB.out⟩
      case round =>
        clear HVR HB HD
        obtain ⟨m, hm, rfl, hdone, hvr, hbr⟩ := hrel
        have v0 := hvr.v0
        have v1 := hvr.v1
        have HVR := Lib.hid hvr
        have HB := Lib.hid hbr
        have HD := Lib.hid hdone
        clear hvr hbr hdone
        by_cases hlt2 : m < n2
        · rcases HR2.out with e0 | ⟨b, o, rfl, _, _⟩
          · omega
          have hft : wr.cell? ⟨b, o + m, none⟩ = some (.string (d.feats.getD m ByteArray.empty)) := by
            rcases HVR.out.at_.feats.row with e | ⟨b', o', e, _, hr⟩
            · omega
            · simp only [Option.some.injEq, Addr.mk.injEq] at e
              obtain ⟨rfl, rfl, _⟩ := e
              exact hr m hlt2
          have K := Lib.hid (fun W => l9Field_any (d.feats.getD m ByteArray.empty) false true W (HS2.out m hlt2))
          have HN : Hid (fieldB (d.feats.getD m ByteArray.empty) false true = true → ∀ i, i < m + 1 → fieldB (d.feats.getD i ByteArray.empty) false true = true) := Lib.hid (fun hf j hj => by
            rcases Nat.lt_or_ge j m with h1 | h1
            · exact HD.out j h1
            · obtain rfl : j = m := by omega
              exact hf)
          have HF := Lib.hid (HW2.out m hlt2)
          generalize d.feats.getD m ByteArray.empty = s at hft K HN HF
          generalize fieldB s false true = q at K HN HF
          go_wp2_with fail
          refine (K.out _).mono ?_
          rintro e w2 ⟨rfl, hb2'⟩
          have HV2 := Lib.hid (HVR.out.below hb2')
          have HB2 := Lib.hid (HB.out.trans (hb2'.mono HB.out.size))
          clear hb2'
          cases q
          · have e := G5.out (HF.out rfl)
            subst e
            go_wp2
            go_ret
            exact ⟨rfl, HB2.out⟩
          · go_wp2
            go_roundw
            case rel => exact ⟨m + 1, by omega, by go_num, HN.out (by simp), HV2.out, HB2.out⟩
            case measure => simp [intOf]; omega
        · obtain rfl : m = n2 := by omega
          have e := G6.out (HW0.out HD1.out HD.out)
          have K := Lib.hid (l9Twice_any w.heap.size a1 a2 k c1 m c2 d wr HVR.out)
          generalize (twiceI d.ids || twiceS d.feats) = q at e K
          cases q
          · simp only [Bool.false_eq_true, if_false] at e
            subst e
            go_wp2_with fail
            refine K.out.mono ?_
            rintro e w2 ⟨rfl, nd, rfl⟩
            go_wp2
            go_ret
            exact ⟨rfl, below_drewN HB.out _⟩
          · simp only [if_true] at e
            subst e
            go_wp2_with fail
            refine K.out.mono ?_
            rintro e w2 ⟨rfl, nd, rfl⟩
            go_wp2
            go_ret
            exact ⟨rfl, below_drewN HB.out _⟩
end Go.Proofs.YtcaknhoaoodbfaaGreatDoor
